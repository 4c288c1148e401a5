/- What begin of the program makes, and how its end is the work on an empty table. -/
import Derived.Test.YtfjejnkjlnkkhaaGreatDoorMeaLa
namespace Go.Proofs.YtfjejnkjlnkkhaaGreatDoor
set_option linter.unusedVariables false
set_option linter.unusedSimpArgs false
open Go.ChangeShapes Go.WideShapes Go.ChangeAt Go.RowKit Go.Maps

theorem Tryz.infoRowI : (Tryz.prog.info? 62).map (fun i => (i.zero, i.size, i.bytes)) = some (some (.slice none 0 0), 1, 24) := by kernel_rfl
theorem Tryz.infoNs : (Tryz.prog.info? 129).map (fun i => (i.zero, i.size, i.bytes)) = some (some (.int .u64 0), 1, 8) := by kernel_rfl
def rowsZ (n : Nat) : Obj := .cells (madeCells #[.slice none 0 0] n) 62
def ndsZ (n : Nat) : Obj := .cells (madeCells #[.int .u64 0] n) 129
theorem make_rows (n : Nat) (hn : n ≤ 200000) (w : World) : (Instr.makeSlice 69 (.int .i64 (n : Int)) (.int .i64 (n : Int))).run Tryz.prog w = .ok (.slice (some ⟨w.heap.size, 0, none⟩) n n) (w.alloc (rowsZ n)) := by
  obtain ⟨i, hi, hz, hs, hb⟩ := info_partsP Tryz.infoRowI
  have h := run_make (P := Tryz.prog) w 69 62 i _ Tryz.underlying69 hi hz .i64 .i64 (n : Int) (n : Int) (by omega) (Int.le_refl _) (by rw [hb]; omega) (by omega)
  simp only [Int.toNat_natCast, hs, Nat.mul_one] at h
  exact h
theorem make_nds (n : Nat) (hn : n ≤ 200000) (w : World) : (Instr.makeSlice 70 (.int .i64 (n : Int)) (.int .i64 (n : Int))).run Tryz.prog w = .ok (.slice (some ⟨w.heap.size, 0, none⟩) n n) (w.alloc (ndsZ n)) := by
  obtain ⟨i, hi, hz, hs, hb⟩ := info_partsP Tryz.infoNs
  have h := run_make (P := Tryz.prog) w 70 129 i _ Tryz.underlying70 hi hz .i64 .i64 (n : Int) (n : Int) (by omega) (Int.le_refl _) (by rw [hb]; omega) (by omega)
  simp only [Int.toNat_natCast, hs, Nat.mul_one] at h
  exact h
theorem made_at (z : Value) (n k : Nat) (hk : k < n) : (madeCells #[z] n)[k]? = some z := by
  unfold madeCells
  rw [Array.getElem?_map, Array.getElem?_range, if_pos hk]
  simp [Nat.mod_one]
theorem hk {X X' : World} {k : Nat} {o : Obj} (hb : Below X.heap.size X X') (h : X.heap[k]? = some o) : X'.heap[k]? = some o := (hb.block k (Array.getElem?_eq_some_iff.1 h).1).trans h
theorem Em.from {N A n : Nat} {w X : World} {tb hb rb mb : Nat} {w' : World} (h : Em N A n X tb hb rb mb w') (hb' : Below w.heap.size w X) : Em N A n w tb hb rb mb w' :=
  ⟨h.tc, h.hc, h.rc, h.mc, by have := hb'.size; have := h.lo; omega, hb'.trans (h.be.mono hb'.size)⟩
theorem PlMap.none {w : World} {M N : Nat} (h : w.heap[M]? = some (.map #[] 0)) : PlMap w M N [] := by
  obtain ⟨D, ⟨es, clock, h1, h2⟩, h3⟩ := PlMap.new w N
  rw [heap_alloc_new] at h1
  injection h1 with h1
  injection h1 with e1 e2
  subst e1 e2
  exact ⟨D, ⟨#[], 0, h, h2⟩, h3⟩
/-- All that is made ahead of the places. -/
structure Bg (N nr P n : Nat) (W : ByteArray) (st : Int) (v1 v2 v5 : Value) (w : World) (tb hb rb mb wb nb ab kb : Nat) (w' : World) : Prop where
  em : Em N (N + P) n w tb hb rb mb w'
  wc : w'.heap[wb]? = some (rowsZ nr)
  nc : w'.heap[nb]? = some (ndsZ nr)
  ac : w'.heap[ab]? = some (rowsZ N)
  kc : w'.heap[kb]? = some (.cells #[.pointer (some ⟨tb, 0, none⟩), .int .i64 st, v1, v2, .string W, v5, .slice (some ⟨wb, 0, none⟩) nr nr, .slice (some ⟨nb, 0, none⟩) nr nr, .slice (some ⟨ab, 0, none⟩) N N] 72)
  lo : w.heap.size ≤ wb ∧ w.heap.size ≤ nb ∧ w.heap.size ≤ ab ∧ w.heap.size ≤ kb
  wa : wb ≠ ab
theorem Bg.of {N nr P n : Nat} {W : ByteArray} {st : Int} {v1 v2 v5 : Value} {w : World} {tb hb rb mb wb nb ab : Nat} {V : World} (em : Em N (N + P) n w tb hb rb mb V) (wc : V.heap[wb]? = some (rowsZ nr)) (nc : V.heap[nb]? = some (ndsZ nr)) (ac : V.heap[ab]? = some (rowsZ N)) (lo : w.heap.size ≤ wb ∧ w.heap.size ≤ nb ∧ w.heap.size ≤ ab) (wa : wb ≠ ab) :
    Bg N nr P n W st v1 v2 v5 w tb hb rb mb wb nb ab V.heap.size (V.alloc (.cells #[.pointer (some ⟨tb, 0, none⟩), .int .i64 st, v1, v2, .string W, v5, .slice (some ⟨wb, 0, none⟩) nr nr, .slice (some ⟨nb, 0, none⟩) nr nr, .slice (some ⟨ab, 0, none⟩) N N] 72)) := by
  have hb' := bel1 V (.cells #[.pointer (some ⟨tb, 0, none⟩), .int .i64 st, v1, v2, .string W, v5, .slice (some ⟨wb, 0, none⟩) nr nr, .slice (some ⟨nb, 0, none⟩) nr nr, .slice (some ⟨ab, 0, none⟩) N N] 72)
  exact ⟨em.any hb', hk hb' wc, hk hb' nc, hk hb' ac, heap_alloc_new V _, ⟨lo.1, lo.2.1, lo.2.2, em.be.size⟩, wa⟩
theorem ty_ne {w : World} {b c : Nat} {x y : Array Value} {s t : TypeId} {f g : Nat × Nat} (h1 : w.heap[b]? = some (.cells x s f)) (h2 : w.heap[c]? = some (.cells y t g)) (h : s ≠ t) : b ≠ c := by
  rintro rfl
  rw [h1] at h2
  injection h2 with h2
  injection h2 with _ h2
  exact h h2
theorem ty_nm {w : World} {b c : Nat} {x : Array Value} {s : TypeId} {f : Nat × Nat} {es : Array MapEntry} {k : Nat} (h1 : w.heap[b]? = some (.cells x s f)) (h2 : w.heap[c]? = some (.map es k)) : b ≠ c := by
  rintro rfl
  rw [h1] at h2
  cases h2
/-- The ends of begin: the work, nothing in its table. -/
structure Be (F : Nat → Prop) (g : Gr) (W : ByteArray) (D : Md) (mb : Nat) (w w' : World) : Prop where
  wm : Wm F g W D w'
  fm : Fm F D
  ha : HasAt w' D.hb (allN g) (fun _ _ _ => false)
  rk : RkAt w' D.rb (rkZ g W) (fun _ => 0)
  mp : PlMap w' mb g.names.length (ruP 0 g.rules)
  t2 : w'.cell? ⟨D.tb, 2, none⟩ = some (.map (some mb))
  mh : mb ≠ D.hb
  mr : mb ≠ D.rb
  be : Below w.heap.size w w'
  lh : w.heap.size ≤ D.hb
  lr : w.heap.size ≤ D.rb
  lm : w.heap.size ≤ mb
def mkS (mb wb nb ab lo nr N : Nat) : Ls := ⟨mb, wb, nb, ab, lo, nr, N⟩
def mkF (lo hb rb mb wb nb ab : Nat) (i : Nat) : Prop := i < lo ∧ i ≠ hb ∧ i ≠ rb ∧ i ≠ mb ∧ i ≠ wb ∧ i ≠ nb ∧ i ≠ ab
section
variable {N nr P n : Nat} {W : ByteArray} {st : Int} {v1 v2 v5 : Value} {w : World} {tb hb rb mb wb nb ab kb : Nat} {w0 : World}
theorem Bg.ok (h : Bg N nr P n W st v1 v2 v5 w tb hb rb mb wb nb ab kb w0) : LsOk (mkS mb wb nb ab w0.heap.size nr N) := by
  have hm := h.em.mc
  have e1 := h.wc
  have e2 := h.nc
  have e3 := h.ac
  unfold rowsZ at e1 e3
  unfold ndsZ at e2
  have l : ∀ {k : Nat} {o : Obj}, w0.heap[k]? = some o → k < w0.heap.size := fun hx => (Array.getElem?_eq_some_iff.1 hx).1
  exact ⟨l hm, l e1, l e2, l e3, Ne.symm (ty_nm e1 hm), Ne.symm (ty_nm e2 hm), Ne.symm (ty_nm e3 hm), ty_ne e1 e2 (by decide), h.wa, ty_ne e2 e3 (by decide)⟩
theorem Bg.fk (h : Bg N nr P n W st v1 v2 v5 w tb hb rb mb wb nb ab kb w0) : mkF w0.heap.size hb rb mb wb nb ab kb := by
  have e1 := h.wc
  have e2 := h.nc
  have e3 := h.ac
  have e4 := h.em.hc
  have e5 := h.em.rc
  unfold rowsZ at e1 e3
  unfold ndsZ at e2
  unfold hasZ at e4
  unfold rnkZ at e5
  exact ⟨(Array.getElem?_eq_some_iff.1 h.kc).1, ty_ne h.kc e4 (by decide), ty_ne h.kc e5 (by decide), ty_nm h.kc h.em.mc, ty_ne h.kc e1 (by decide), ty_ne h.kc e2 (by decide), ty_ne h.kc e3 (by decide)⟩
theorem Bg.ft (h : Bg N nr P n W st v1 v2 v5 w tb hb rb mb wb nb ab kb w0) : mkF w0.heap.size hb rb mb wb nb ab tb := by
  have e1 := h.wc
  have e2 := h.nc
  have e3 := h.ac
  have e4 := h.em.hc
  have e5 := h.em.rc
  unfold rowsZ at e1 e3
  unfold ndsZ at e2
  unfold hasZ at e4
  unfold rnkZ at e5
  exact ⟨(Array.getElem?_eq_some_iff.1 h.em.tc).1, ty_ne h.em.tc e4 (by decide), ty_ne h.em.tc e5 (by decide), ty_nm h.em.tc h.em.mc, ty_ne h.em.tc e1 (by decide), ty_ne h.em.tc e2 (by decide), ty_ne h.em.tc e3 (by decide)⟩
theorem Bg.low (h : Bg N nr P n W st v1 v2 v5 w tb hb rb mb wb nb ab kb w0) {i : Nat} (hi : i < w.heap.size) : mkF w0.heap.size hb rb mb wb nb ab i := by
  have a1 := h.lo
  have a2 := h.em.lo
  have a3 := h.em.be.size
  exact ⟨by omega, by omega, by omega, by omega, by omega, by omega, by omega⟩
theorem Bg.l0 {pr : Option Addr} {cr : Nat} {g : Gr} (h : Bg g.names.length g.rules.length P n W g.start v1 (.slice pr g.rules.length cr) v5 w tb hb rb mb wb nb ab kb w0) (hru : IsRus w (fun i => i < w.heap.size) (.slice pr g.rules.length cr) g.rules) : L0 (mkS mb wb nb ab w0.heap.size g.rules.length g.names.length) (mkF w0.heap.size hb rb mb wb nb ab) g kb tb v1 pr cr w0 := by
  have hst : Stay (fun i => i < w.heap.size) w w0 := ⟨h.em.be.size, fun i hi => h.em.be.block i hi⟩
  exact ⟨by rw [Lib.cell_of_heap h.kc]; rfl, by rw [Lib.cell_of_heap h.kc]; rfl, by rw [Lib.cell_of_heap h.kc]; rfl, by rw [Lib.cell_of_heap h.kc]; rfl, by rw [Lib.cell_of_heap h.kc]; rfl, by rw [Lib.cell_of_heap h.kc]; rfl, by rw [Lib.cell_of_heap h.kc]; rfl, by rw [Lib.cell_of_heap h.em.tc]; rfl, by rw [Lib.cell_of_heap h.em.tc]; rfl, hru.keep hst (fun i hi => h.low hi), fun i hi => ⟨hi.1, hi.2.2.2.1, hi.2.2.2.2.1, hi.2.2.2.2.2.1, hi.2.2.2.2.2.2⟩, h.fk, h.ft⟩
theorem fM_none (S : Ls) (g : Gr) (k : Nat) : fM S g 0 0 k = [] := by
  unfold fM
  split <;> simp [flt]
theorem Bg.lx {g : Gr} (h : Bg g.names.length g.rules.length P n W st v1 v2 v5 w tb hb rb mb wb nb ab kb w0) : Lx (mkS mb wb nb ab w0.heap.size g.rules.length g.names.length) g.names.length g.rules w0 ((ruP 0 g.rules).take 0) ((ruP 0 g.rules).take 0) (fM (mkS mb wb nb ab w0.heap.size g.rules.length g.names.length) g 0 0) (fun _ => False) w0 := by
  have e1 := h.wc
  have e2 := h.nc
  have e3 := h.ac
  unfold rowsZ at e1 e3
  unfold ndsZ at e2
  have fz : ∀ {b : Nat} {x : Array Value} {t : TypeId} (k : Nat), w0.heap[b]? = some (.cells x t) → w0.frozen? ⟨b, k, none⟩ = false := fun k hx => by unfold World.frozen?; rw [hx]; simp
  rw [List.take_zero]
  refine ⟨⟨rfl, rfl, rfl, Nat.le_refl _, fun k _ _ _ _ _ => rfl⟩, PlMap.none h.em.mc, ⟨fun _ => .slice none 0 0, fun k hk => ⟨?_, ?_, fun i hi => by cases hi⟩⟩, fun q hq => ⟨0, ?_, Nat.two_pow_pos 64, fun e s hx => by cases hx⟩, fun k => fz k e1, fun k => fz k e2, fun k => fz k e3⟩
  · show w0.cell? ⟨if k < g.rules.length then wb else ab, if k < g.rules.length then k else k - g.rules.length, none⟩ = _
    by_cases hk2 : k < g.rules.length
    · rw [if_pos hk2, if_pos hk2]
      show w0.cell? ⟨wb, k, none⟩ = _
      rw [Lib.cell_of_heap e1]; exact made_at _ _ _ hk2
    · rw [if_neg hk2, if_neg hk2]
      show w0.cell? ⟨ab, k - g.rules.length, none⟩ = _
      rw [Lib.cell_of_heap e3]
      have hk3 : k < g.rules.length + g.names.length := hk
      exact made_at _ _ _ (by omega)
  · rw [fM_none]
    exact World.ownsRow_nil _ _ _ _
  · show w0.cell? ⟨nb, q, none⟩ = _
    rw [Lib.cell_of_heap e2]; exact made_at _ _ _ hq
end
/-- All places are taken up. -/
theorem Lx.end {g : Gr} {W : ByteArray} {v1 : Value} {pr pp : Option Addr} {cr cp : Nat} {w2 w w0 w' : World} {tb hb rb mb wb nb ab kb : Nat} (h : Bg g.names.length g.rules.length (ruP 0 g.rules).length W.size W g.start v1 (.slice pr g.rules.length cr) (.slice pp (ruP 0 g.rules).length cp) w2 tb hb rb mb wb nb ab kb w0) (hw : Below w.heap.size w w2)
    (hru : IsRus w2 (fun i => i < w2.heap.size) (.slice pr g.rules.length cr) g.rules) (hpl : IsPls w2 (fun i => i < w2.heap.size) (.slice pp (ruP 0 g.rules).length cp) (ruP 0 g.rules))
    (hx : Lx (mkS mb wb nb ab w0.heap.size g.rules.length g.names.length) g.names.length g.rules w0 (ruP 0 g.rules) (ruP 0 g.rules) (fM (mkS mb wb nb ab w0.heap.size g.rules.length g.names.length) g (ruP 0 g.rules).length (ruP 0 g.rules).length) (fun _ => False) w') (hin : PlIn g.rules) (hN : g.names.length ≤ 64) :
    Be (fun i => i < w'.heap.size ∧ i ≠ hb ∧ i ≠ rb) g W ⟨tb, kb, hb, rb, w'.heap.size, v1, pr, cr, pp, cp, some ⟨wb, 0, none⟩, g.rules.length, some ⟨nb, 0, none⟩, g.rules.length, some ⟨ab, 0, none⟩, g.names.length⟩ mb w w' := by
  obtain ⟨S, hSS⟩ : ∃ S, S = mkS mb wb nb ab w0.heap.size g.rules.length g.names.length := ⟨_, rfl⟩
  have hS := h.ok
  rw [← hSS] at hx hS
  have sm : S.mb = mb := by rw [hSS]; rfl
  have sw : S.wb = wb := by rw [hSS]; rfl
  have sn : S.nb = nb := by rw [hSS]; rfl
  have sa : S.ab = ab := by rw [hSS]; rfl
  have sl : S.lo = w0.heap.size := by rw [hSS]; rfl
  have sr : S.nr = g.rules.length := by rw [hSS]; rfl
  have se : S.nn = g.names.length := by rw [hSS]; rfl
  have hsz : w0.heap.size ≤ w'.heap.size := by rw [← sl]; exact hx.lk.size
  have blk : ∀ k, k < w0.heap.size → k ≠ mb → k ≠ wb → k ≠ nb → k ≠ ab → w'.heap[k]? = w0.heap[k]? := fun k h1 h2 h3 h4 h5 => hx.lk.block k (by rw [sl]; exact h1) (by rw [sm]; exact h2) (by rw [sw]; exact h3) (by rw [sn]; exact h4) (by rw [sa]; exact h5)
  have e1 := h.wc
  have e2 := h.nc
  have e3 := h.ac
  have e4 := h.em.hc
  have e5 := h.em.rc
  have hne := h.em.ne
  have l : ∀ {k : Nat} {o : Obj}, w0.heap[k]? = some o → k < w0.heap.size := fun hx => (Array.getElem?_eq_some_iff.1 hx).1
  have bw : w'.heap[kb]? = _ := (blk kb h.fk.1 h.fk.2.2.2.1 h.fk.2.2.2.2.1 h.fk.2.2.2.2.2.1 h.fk.2.2.2.2.2.2).trans h.kc
  have bt : w'.heap[tb]? = _ := (blk tb h.ft.1 h.ft.2.2.2.1 h.ft.2.2.2.2.1 h.ft.2.2.2.2.2.1 h.ft.2.2.2.2.2.2).trans h.em.tc
  have nh : hb ≠ mb ∧ hb ≠ wb ∧ hb ≠ nb ∧ hb ≠ ab := by
    unfold hasZ at e4; unfold rowsZ at e1 e3; unfold ndsZ at e2
    exact ⟨ty_nm e4 h.em.mc, ty_ne e4 e1 (by decide), ty_ne e4 e2 (by decide), ty_ne e4 e3 (by decide)⟩
  have nr9 : rb ≠ mb ∧ rb ≠ wb ∧ rb ≠ nb ∧ rb ≠ ab := by
    unfold rnkZ at e5; unfold rowsZ at e1 e3; unfold ndsZ at e2
    exact ⟨ty_nm e5 h.em.mc, ty_ne e5 e1 (by decide), ty_ne e5 e2 (by decide), ty_ne e5 e3 (by decide)⟩
  have bh : w'.heap[hb]? = _ := (blk hb (l e4) nh.1 nh.2.1 nh.2.2.1 nh.2.2.2).trans e4
  have br : w'.heap[rb]? = _ := (blk rb (l e5) nr9.1 nr9.2.1 nr9.2.2.1 nr9.2.2.2).trans e5
  have ck : ∀ o, w'.cell? ⟨kb, o, none⟩ = (#[.pointer (some ⟨tb, 0, none⟩), .int .i64 g.start, v1, .slice pr g.rules.length cr, .string W, .slice pp (ruP 0 g.rules).length cp, .slice (some ⟨wb, 0, none⟩) g.rules.length g.rules.length, .slice (some ⟨nb, 0, none⟩) g.rules.length g.rules.length, .slice (some ⟨ab, 0, none⟩) g.names.length g.names.length] : Array Value)[o]? := fun o => Lib.cell_of_heap bw o
  have ct : ∀ o, w'.cell? ⟨tb, o, none⟩ = (#[.int .i64 (W.size : Int), .int .i64 (g.names.length : Int), .map (some mb), .slice (some ⟨hb, 0, none⟩) (g.names.length + (ruP 0 g.rules).length) (g.names.length + (ruP 0 g.rules).length), .slice (some ⟨rb, 0, none⟩) ((g.names.length + (ruP 0 g.rules).length) * (W.size + 1) * (W.size + 1)) ((g.names.length + (ruP 0 g.rules).length) * (W.size + 1) * (W.size + 1))] : Array Value)[o]? := fun o => Lib.cell_of_heap bt o
  have hst : Stay (fun i => i < w2.heap.size) w2 w' := ⟨Nat.le_trans h.em.be.size hsz, fun i hi => by
    have hF := h.low hi
    exact (blk i hF.1 hF.2.2.2.1 hF.2.2.2.2.1 hF.2.2.2.2.2.1 hF.2.2.2.2.2.2).trans (h.em.be.block i hi)⟩
  have hFl : ∀ i, i < w2.heap.size → i < w'.heap.size ∧ i ≠ hb ∧ i ≠ rb := fun i hi => by
    have hF := h.low hi
    exact ⟨by have := hF.1; omega, hF.2.1, hF.2.2.1⟩
  obtain ⟨vs, hv⟩ := hx.rw
  have hnrl : g.rules.length ≤ 256 := hin.1
  have rowsIs : ∀ (b : Nat) (base : Nat) (m : Nat) (fn : Nat → List Int), m ≤ 256 → b < w'.heap.size → b ≠ hb → b ≠ rb → (∀ k, w'.frozen? ⟨b, k, none⟩ = false) → (∀ k, k < m → base + k < S.nr + S.nn ∧ adB S (base + k) = b ∧ adO S (base + k) = k ∧ fM S g (ruP 0 g.rules).length (ruP 0 g.rules).length (base + k) = fn k) → IsIss w' (fun i => i < w'.heap.size ∧ i ≠ hb ∧ i ≠ rb) (.slice (some ⟨b, 0, none⟩) m m) m fn := fun b base m fn hm hb1 hb2 hb3 hfz hall => by
    refine ⟨(List.range m).map (fun k => vs (base + k)), ⟨some ⟨b, 0, none⟩, m, rfl, ⟨by unfold maxLen; omega, Nat.le_refl _⟩, fun _ => ⟨b, 0, rfl, ⟨hb1, hb2, hb3⟩, hb1, fun j c hj => ?_, fun j _ => by rw [Nat.zero_add]; exact hfz j⟩⟩, by simp, fun k u hk hu => ?_⟩
    · have hjm : j < m := by have := (List.getElem?_eq_some_iff.1 hj).1; simpa using this
      have hc : c = vs (base + j) := by rw [List.getElem?_map, List.getElem?_range hjm] at hj; injection hj with hj; exact hj.symm
      obtain ⟨a1, a2, a3, a4⟩ := hall j hjm
      have := (hv (base + j) a1).1
      rw [a2, a3] at this
      rw [Nat.zero_add, hc]; exact this
    · have hc : u = vs (base + k) := by rw [List.getElem?_map, List.getElem?_range hk] at hu; injection hu with hu; exact hu.symm
      obtain ⟨a1, a2, a3, a4⟩ := hall k hk
      have h2 := (hv (base + k) a1).2.1
      rw [a4] at h2
      rw [hc]
      refine Reads.of h2 fun i hi => ⟨(h2.lt i hi).2, ?_, ?_⟩
      · have := (h2.lt i hi).1; have := l e4; omega
      · have := (h2.lt i hi).1; have := l e5; omega
  have wl : w'.heap.size > wb ∧ w'.heap.size > nb ∧ w'.heap.size > ab := ⟨by have := l e1; omega, by have := l e2; omega, by have := l e3; omega⟩
  have tk : (ruP 0 g.rules).take (ruP 0 g.rules).length = ruP 0 g.rules := List.take_length
  have hwh : IsIss w' (fun i => i < w'.heap.size ∧ i ≠ hb ∧ i ≠ rb) (.slice (some ⟨wb, 0, none⟩) g.rules.length g.rules.length) g.rules.length (whL g.names.length g.rules) := rowsIs wb 0 g.rules.length _ hnrl wl.1 (Ne.symm nh.2.1) (Ne.symm nr9.2.1) (fun k => by have := hx.fw k; rw [sw] at this; exact this) (fun k hk => by
    have hk2 : 0 + k < S.nr := by rw [sr]; omega
    refine ⟨by omega, by unfold adB; rw [if_pos hk2]; exact sw, by unfold adO; rw [if_pos hk2]; omega, ?_⟩
    unfold fM
    rw [if_pos hk2, tk, Nat.zero_add]; rfl)
  have hah : IsIss w' (fun i => i < w'.heap.size ∧ i ≠ hb ∧ i ≠ rb) (.slice (some ⟨ab, 0, none⟩) g.names.length g.names.length) g.names.length (ahL g.names.length g.rules) := rowsIs ab S.nr g.names.length _ (by omega) wl.2.2 (Ne.symm nh.2.2.2) (Ne.symm nr9.2.2.2) (fun k => by have := hx.fa k; rw [sa] at this; exact this) (fun k hk => by
    have hk2 : ¬ S.nr + k < S.nr := by omega
    refine ⟨by rw [se]; omega, by unfold adB; rw [if_neg hk2]; exact sa, by unfold adO; rw [if_neg hk2]; omega, ?_⟩
    unfold fM
    rw [if_neg hk2, tk, Nat.add_sub_cancel_left]; rfl)
  have hnd : IsNds w' (fun i => i < w'.heap.size ∧ i ≠ hb ∧ i ≠ rb) (.slice (some ⟨nb, 0, none⟩) g.rules.length g.rules.length) g.rules := by
    have hz : ∀ q, ∃ z : Nat, q < S.nr → w'.cell? ⟨nb, q, none⟩ = some (.int .u64 (z : Int)) ∧ NdP g.rules q (ruP 0 g.rules) z := fun q => by
      by_cases hq : q < S.nr
      · obtain ⟨z, a⟩ := hx.nd q hq; rw [sn] at a; exact ⟨z, fun _ => a⟩
      · exact ⟨0, fun h => absurd h hq⟩
    obtain ⟨zf, hzf⟩ := Classical.axiomOfChoice hz
    refine ⟨(List.range g.rules.length).map zf, by simp, ⟨some ⟨nb, 0, none⟩, g.rules.length, rfl, ⟨by unfold maxLen; omega, Nat.le_refl _⟩, fun _ => ⟨nb, 0, rfl, ⟨wl.2.1, Ne.symm nh.2.2.1, Ne.symm nr9.2.2.1⟩, wl.2.1, fun j c hj => ?_, fun j _ => by rw [Nat.zero_add]; have := hx.fn j; rw [sn] at this; exact this⟩⟩, fun q r z hr hzz => ?_⟩
    · have hjm : j < g.rules.length := by have := (List.getElem?_eq_some_iff.1 hj).1; simpa using this
      rw [List.getElem?_map, List.getElem?_map, List.getElem?_range hjm] at hj
      have hc : .int .u64 ((zf j : Nat) : Int) = c := by injection hj
      have := (hzf j (by rw [sr]; exact hjm)).1
      rw [Nat.zero_add, ← hc]; exact this
    · have hq := (List.getElem?_eq_some_iff.1 hr).1
      rw [List.getElem?_map, List.getElem?_range hq] at hzz
      have hc : zf q = z := by injection hzz
      rw [← hc]
      exact (hzf q (by rw [sr]; exact hq)).2.fin hr
  have lo := h.em.lo
  have hws := hw.size
  refine ⟨⟨ct 0, ct 1, ct 3, ct 4, ck 0, ck 1, ck 2, ck 3, ck 4, ck 5, ck 6, ck 7, ck 8, hru.keep hst hFl, Reads.keep hpl hst hFl, hwh, hnd, hah, ⟨Nat.lt_of_lt_of_le h.ft.1 hsz, h.ft.2.1, h.ft.2.2.1⟩, ⟨Nat.lt_of_lt_of_le h.fk.1 hsz, h.fk.2.1, h.fk.2.2.1⟩, Nat.le_refl _⟩, ⟨fun i hi => hi.1, fun hi => hi.2.1 rfl, fun hi => hi.2.2 rfl, hne.2.2.2.1, Nat.lt_of_lt_of_le (l e4) hsz, Nat.lt_of_lt_of_le (l e5) hsz⟩, HasAt.zero bh, RkAt.zero br, by have := hx.mp; rw [sm] at this; exact this, ct 2, Ne.symm nh.1, Ne.symm nr9.1, ⟨hx.lk.os.trans (h.em.be.os.trans hw.os), hx.lk.tape.trans (h.em.be.tape.trans hw.tape), hx.lk.output.trans (h.em.be.output.trans hw.output), Nat.le_trans hws (Nat.le_trans h.em.be.size hsz), fun i hi => ?_⟩, Nat.le_trans hws lo.2.1, Nat.le_trans hws lo.2.2.1, Nat.le_trans hws lo.2.2.2⟩
  exact (hst.blk i (Nat.lt_of_lt_of_le hi hws)).trans (hw.block i hi)
end Go.Proofs.YtfjejnkjlnkkhaaGreatDoor
