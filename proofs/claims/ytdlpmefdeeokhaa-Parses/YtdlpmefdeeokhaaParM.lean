/- The document's parser in memory: where it stands; its small methods. -/
import Derived.Test.YtdlpmefdeeokhaaNoteParse
import Derived.Test.YtdlpmefdeeokhaaNoteSame
import Derived.Test.YtdlpmefdeeokhaaLexSame
import Derived.BigQuiet
import Derived.BigRegion
import Derived.Deep.CutRange
namespace Go.Proofs.Ytdlpmefdeeokhaa
set_option linter.unusedVariables false
set_option linter.unusedSimpArgs false
open Go.ChangeShapes Go.WideShapes Go.ChangeAt Go.RowKit

/-- Where token k stands; the text's end behind the last one. -/
def plc (n : Nat) (ts : List Tok) (k : Nat) : Nat := match ts[k]? with
  | some t => t.pl
  | none => n
/-- What the parse comes to, from token k on. -/
def rs (n : Nat) (ts : List Tok) (p : Pm) (k : Nat) : Pres := shutP n (feed p (ts.drop k))
theorem rs_step {n : Nat} {ts : List Tok} {p q : Pm} {k : Nat} {t : Tok} (hk : ts[k]? = some t) (h : take p t = some q) : rs n ts p k = rs n ts q (k + 1) := by unfold rs; rw [feed_step hk h]
theorem rs_stop {n : Nat} {ts : List Tok} {p : Pm} {k : Nat} (hs : p.st ≠ 0) (h : ∀ t, ts[k]? = some t → take p t = none) : rs n ts p k = .error (plc n ts k, 300) := by
  unfold rs plc
  cases hk : ts[k]? with
  | some t => rw [feed_stop hk (h t hk)]; rfl
  | none =>
    rw [List.drop_eq_nil_of_le (List.getElem?_eq_none_iff.1 hk)]
    show (if p.st = 0 then _ else _) = _
    rw [if_neg hs]
/-- All stays but block pb. -/
structure Bx (pb : Nat) (w w' : World) : Prop where
  os : w'.os = w.os
  tape : w'.tape = w.tape
  output : w'.output = w.output
  size : w.heap.size ≤ w'.heap.size
  block : ∀ i, i < w.heap.size → i ≠ pb → w'.heap[i]? = w.heap[i]?
section
variable {pb : Nat} {w w' w'' W : World}
theorem Bx.of (h : Below w.heap.size w w') : Bx pb w w' := ⟨h.os, h.tape, h.output, h.size, fun i hi _ => h.block i hi⟩
theorem Bx.refl (pb : Nat) (w : World) : Bx pb w w := Bx.of (Below.refl _ _)
theorem Bx.trans (h : Bx pb w w') (k : Bx pb w' w'') : Bx pb w w'' := ⟨k.os.trans h.os, k.tape.trans h.tape, k.output.trans h.output, Nat.le_trans h.size k.size, fun i hi hn => (k.block i (Nat.lt_of_lt_of_le hi h.size) hn).trans (h.block i hi hn)⟩
theorem Bx.set (pb j : Nat) (w : World) (u : Value) : Bx pb w (w.setCell ⟨pb, j, none⟩ u) := ⟨rfl, rfl, rfl, by simp [World.setCell], fun i _ hn => Go.Deep.blk_setCell_other w ⟨pb, j, none⟩ u i hn⟩
theorem Bx.below {B : Nat} (h : Bx pb w w') (hW : Below B W w) (hB : B ≤ pb) (hs : B ≤ w.heap.size) : Below B W w' := ⟨h.os.trans hW.os, h.tape.trans hW.tape, h.output.trans hW.output, Nat.le_trans hW.size h.size, fun i hi => (h.block i (Nat.lt_of_lt_of_le hi hs) (by omega)).trans (hW.block i hi)⟩
theorem Bx.row {B e size n : Nat} {v : Value} {xs : List Value} (h : Bx pb w w') (r : w.ownsRow B e size v n xs) (hn : v.ownBlock ≠ some pb) : w'.ownsRow B e size v n xs := by
  obtain ⟨h0, h1 | ⟨g, cap, cur, h1, h2, h3, h4⟩⟩ := r
  · exact ⟨h0, .inl h1⟩
  · refine ⟨h0, .inr ⟨g, cap, cur, h1, h2, ?_, h4⟩⟩
    rw [h.block g (Array.getElem?_eq_some_iff.1 h3).1 (fun e => hn (by rw [h1, e]; rfl))]
    exact h3
theorem Bx.stay {F : Nat → Prop} (h : Bx pb w w') (hF : ∀ b, F b → b < w.heap.size ∧ b ≠ pb) : Stay F w w' := ⟨h.size, fun b hb => h.block b (hF b hb).1 (hF b hb).2⟩
end
theorem cellP {w : World} {b : Nat} {arr : Array Value} {t : TypeId} (h : w.heap[b]? = some (.cells arr t)) (j : Nat) : w.cell? ⟨b, j, none⟩ = arr[j]? := Lib.cell_of_heap h j
theorem frzP {w : World} {b : Nat} {arr : Array Value} {t : TypeId} (h : w.heap[b]? = some (.cells arr t)) (j : Nat) : w.frozen? ⟨b, j, none⟩ = false := by unfold World.frozen?; rw [h]; simp
theorem blkP_lt {w : World} {b : Nat} {o : Obj} (h : w.heap[b]? = some o) : b < w.heap.size := (Array.getElem?_eq_some_iff.1 h).1
/-- The parser of block pb stands at k. -/
structure Zs (pb : Nat) (tp : Option Addr) (N tc : Nat) (ts : List Tok) (k : Nat) (w : World) : Prop where
  pz : w.heap[pb]? = some (.cells #[.slice tp N tc, .int .i64 (k : Int)] 55)
  tz : ∀ (j : Nat) (t : Tok), ts[j]? = some t → ∃ g, tp = some ⟨g, 0, none⟩ ∧ g < w.heap.size ∧ g ≠ pb ∧ w.cell? ⟨g, j * 5, none⟩ = some (.int .i64 (t.kind : Int)) ∧ w.cell? ⟨g, j * 5 + 1, none⟩ = some (.int .i64 (t.pl : Int)) ∧ w.cell? ⟨g, j * 5 + 2, none⟩ = some (.string t.text) ∧ w.cell? ⟨g, j * 5 + 3, none⟩ = some (.int .i64 t.lo) ∧ w.cell? ⟨g, j * 5 + 4, none⟩ = some (.int .i64 t.hi)
  hk : k ≤ N
  hN : N = ts.length
  hM : N ≤ 65536
section
variable {pb N tc k : Nat} {tp : Option Addr} {ts : List Tok} {w w' : World}
theorem Zs.lt (z : Zs pb tp N tc ts k w) : pb < w.heap.size := blkP_lt z.pz
theorem Zs.tzx (z : Zs pb tp N tc ts k w) (h : Bx pb w w') : ∀ (j : Nat) (t : Tok), ts[j]? = some t → ∃ g, tp = some ⟨g, 0, none⟩ ∧ g < w'.heap.size ∧ g ≠ pb ∧ w'.cell? ⟨g, j * 5, none⟩ = some (.int .i64 (t.kind : Int)) ∧ w'.cell? ⟨g, j * 5 + 1, none⟩ = some (.int .i64 (t.pl : Int)) ∧ w'.cell? ⟨g, j * 5 + 2, none⟩ = some (.string t.text) ∧ w'.cell? ⟨g, j * 5 + 3, none⟩ = some (.int .i64 t.lo) ∧ w'.cell? ⟨g, j * 5 + 4, none⟩ = some (.int .i64 t.hi) := fun j t ht => by
  obtain ⟨g, h1, h2, h3, c0, c1, c2, c3, c4⟩ := z.tz j t ht
  have hb := h.block g h2 h3
  exact ⟨g, h1, Nat.lt_of_lt_of_le h2 h.size, h3, (World.cell?_of_block (a := ⟨g, _, none⟩) hb).trans c0, (World.cell?_of_block (a := ⟨g, _, none⟩) hb).trans c1, (World.cell?_of_block (a := ⟨g, _, none⟩) hb).trans c2, (World.cell?_of_block (a := ⟨g, _, none⟩) hb).trans c3, (World.cell?_of_block (a := ⟨g, _, none⟩) hb).trans c4⟩
theorem Zs.keep (z : Zs pb tp N tc ts k w) (h : Below w.heap.size w w') : Zs pb tp N tc ts k w' := ⟨(h.block _ z.lt).trans z.pz, z.tzx (Bx.of h), z.hk, z.hN, z.hM⟩
theorem Zs.step (z : Zs pb tp N tc ts k w) (hk : k < N) : Zs pb tp N tc ts (k + 1) (w.setCell ⟨pb, 1, none⟩ (.int .i64 ((k : Int) + 1))) := by
  refine ⟨?_, z.tzx (Bx.set pb 1 w _), hk, z.hN, z.hM⟩
  have h := z.pz
  simp [World.setCell, Array.getElem?_modify, h]
theorem Zs.noT (z : Zs pb tp N tc ts k w) (h : ts[k]? = none) : k = N := by
  have := List.getElem?_eq_none_iff.1 h
  have := z.hk; have := z.hN
  omega
theorem Zs.smT (z : Zs pb tp N tc ts k w) {t : Tok} (h : ts[k]? = some t) : k < N := by
  have := (List.getElem?_eq_some_iff.1 h).1
  rw [z.hN]; exact this
end
theorem hid_ofP {p : Prop} (h : p) : Hid p := h
/-- Is token k of this kind? -/
def isB (ts : List Tok) (k kd : Nat) : Bool := match ts[k]? with
  | some t => t.kind == kd
  | none => false
theorem isB_some {ts : List Tok} {k kd : Nat} (h : isB ts k kd = true) : ∃ t, ts[k]? = some t ∧ t.kind = kd := by
  unfold isB at h
  split at h
  · rename_i t ht; exact ⟨t, ht, by simpa using h⟩
  · cases h
theorem isB_none {ts : List Tok} {k kd : Nat} (h : isB ts k kd = false) : ∀ t, ts[k]? = some t → t.kind ≠ kd := fun t ht e => by
  unfold isB at h
  rw [ht] at h
  simp [e] at h
/-- What a call of is leaves. -/
def PE (b : Bool) (pb : Nat) (tp : Option Addr) (N tc : Nat) (ts : List Tok) (k : Nat) (w : World) (e : Ending) (w' : World) : Prop := e = .returned (.bool b) ∧ Zs pb tp N tc ts (if b then k + 1 else k) w' ∧ Bx pb w w'
set_option maxHeartbeats 2000000 in
theorem pIs_any {pb N tc k kd : Nat} {tp : Option Addr} {ts : List Tok} {w : World} (z : Zs pb tp N tc ts k w) : Calls Try.prog 33 #[.pointer (some ⟨pb, 0, none⟩), .int .i64 (kd : Int)] w (PE (isB ts k kd) pb tp N tc ts k w) := by
  have HZ := hid_ofP z
  have c0 : w.cell? ⟨pb, 0, none⟩ = some (.slice tp N tc) := cellP z.pz 0
  have c1 : w.cell? ⟨pb, 1, none⟩ = some (.int .i64 (k : Int)) := cellP z.pz 1
  have f1 : w.frozen? ⟨pb, 1, none⟩ = false := frzP z.pz 1
  have hk9 := z.hk
  have hM9 := z.hM
  have hk0 : (0 : Int) ≤ (k : Int) := by omega
  cases ht : ts[k]? with
  | none =>
    obtain rfl : N = k := (z.noT ht).symm
    have hB : isB ts N kd = false := by unfold isB; rw [ht]
    have HB := hid_ofP hB
    have h1 : decide ((N : Int) < (N : Int)) = false := by simp
    clear z ht hB
    go_enter Try.func33, Try.ntmps33
    go_wp2
    go_quiet (fail)
    go_wp2
    go_ret
    refine ⟨by rw [HB.out]; rfl, ?_⟩
    rw [HB.out]
    exact ⟨HZ.out.keep (drewN_below _ _), Bx.of (drewN_below _ _)⟩
  | some t =>
    obtain ⟨g, hg, -, -, t0, -⟩ := z.tz k t ht
    subst hg
    have hlt := z.smT ht
    have h1 : decide ((k : Int) < (N : Int)) = true := by simpa using hlt
    have hltI : (k : Int) < (N : Int) := by omega
    have HLT := hid_ofP hlt
    by_cases hkd : t.kind = kd
    · have hB : isB ts k kd = true := by unfold isB; rw [ht]; simp [hkd]
      have HB := hid_ofP hB
      rw [hkd] at t0
      have h2 : ((kd : Int) == (kd : Int)) = true := by simp
      clear z ht hB hkd hlt
      go_enter Try.func33, Try.ntmps33
      go_wp2
      go_quiet (fail)
      go_wp2
      go_ret
      refine ⟨by rw [HB.out]; rfl, ?_⟩
      rw [HB.out]
      exact ⟨(HZ.out.keep (drewN_below _ _)).step HLT.out, (Bx.of (drewN_below _ _)).trans (Bx.set pb 1 _ _)⟩
    · have hB : isB ts k kd = false := by unfold isB; rw [ht]; simp [hkd]
      have HB := hid_ofP hB
      have h2 : ((t.kind : Int) == (kd : Int)) = false := by simp; omega
      obtain ⟨tk, htk⟩ : ∃ x : Int, x = (t.kind : Int) := ⟨_, rfl⟩
      rw [← htk] at t0 h2
      clear z ht hB hkd hlt htk
      go_enter Try.func33, Try.ntmps33
      go_wp2
      go_quiet (fail)
      go_wp2
      go_ret
      refine ⟨by rw [HB.out]; rfl, ?_⟩
      rw [HB.out]
      exact ⟨HZ.out.keep (drewN_below _ _), Bx.of (drewN_below _ _)⟩
set_option maxHeartbeats 2000000 in
theorem pName_yes {pb N tc k : Nat} {tp : Option Addr} {ts : List Tok} {w : World} {t : Tok} (z : Zs pb tp N tc ts k w) (ht : ts[k]? = some t) (hkd : t.kind = 0) : Calls Try.prog 34 #[.pointer (some ⟨pb, 0, none⟩)] w fun e w' => e = .returned (.tuple #[.string t.text, .bool true]) ∧ Hid (Zs pb tp N tc ts (k + 1) w') ∧ Hid (Bx pb w w') := by
  have HZ := hid_ofP z
  have c0 : w.cell? ⟨pb, 0, none⟩ = some (.slice tp N tc) := cellP z.pz 0
  have c1 : w.cell? ⟨pb, 1, none⟩ = some (.int .i64 (k : Int)) := cellP z.pz 1
  have f1 : w.frozen? ⟨pb, 1, none⟩ = false := frzP z.pz 1
  have hk9 := z.hk
  have hM9 := z.hM
  have hk0 : (0 : Int) ≤ (k : Int) := by omega
  obtain ⟨g, hg, -, hgp, t0, -, t2, -⟩ := z.tz k t ht
  subst hg
  have hlt := z.smT ht
  have h1 : decide ((k : Int) < (N : Int)) = true := by simpa using hlt
  have hltI : (k : Int) < (N : Int) := by omega
  have HLT := hid_ofP hlt
  rw [hkd] at t0
  obtain ⟨tx, htx⟩ : ∃ x, x = t.text := ⟨_, rfl⟩
  rw [← htx] at t2 ⊢
  have hww : IntKind.i64.wrap ((k : Int) + 1 - 1) = (k : Int) := by rw [IntKind.wrap_i64]; omega
  have HS : ∀ n, Zs pb (some ⟨g, 0, none⟩) N tc ts (k + 1) ((w.drewN n).setCell ⟨pb, 1, none⟩ (.int .i64 ((k : Int) + 1))) := fun n => (z.keep (drewN_below _ _)).step hlt
  have HSS := hid_ofP HS
  have a0 : ∀ n, ((w.drewN n).setCell ⟨pb, 1, none⟩ (.int .i64 ((k : Int) + 1))).cell? ⟨pb, 0, none⟩ = some (.slice (some ⟨g, 0, none⟩) N tc) := fun n => cellP (HS n).pz 0
  have a1 : ∀ n, ((w.drewN n).setCell ⟨pb, 1, none⟩ (.int .i64 ((k : Int) + 1))).cell? ⟨pb, 1, none⟩ = some (.int .i64 ((k : Int) + 1)) := fun n => by have := cellP (HS n).pz 1; simpa using this
  have a2 : ∀ n, ((w.drewN n).setCell ⟨pb, 1, none⟩ (.int .i64 ((k : Int) + 1))).cell? ⟨g, k * 5 + 2, none⟩ = some (.string tx) := fun n => by rw [World.cell?_setCell_far _ _ _ _ (by show pb ≠ g; exact Ne.symm hgp)]; exact t2
  have HA := hid_ofP a0
  have HA1 := hid_ofP a1
  have HA2 := hid_ofP a2
  clear z ht hkd hlt htx HS a0 a1 a2
  go_enter Try.func34, Try.ntmps34
  go_wp2
  go_quiet (fail)
  go_upto_region 3 with fail
  have a0 := HA.out nq
  have a1 := HA1.out nq
  have a2 := HA2.out nq
  go_quiet (fail)
  go_wp2
  refine bodyPost_ret (v := .tuple #[.string tx, .bool true]) (by simp [results, Try.results34, go_sem]) rfl ?_
  exact ⟨rfl, (HSS.out _).keep (drewN_below _ _), ((Bx.of (drewN_below _ _)).trans (Bx.set pb 1 _ _)).trans (Bx.of (drewN_below _ _))⟩
set_option maxHeartbeats 2000000 in
theorem pName_no {pb N tc k : Nat} {tp : Option Addr} {ts : List Tok} {w : World} (z : Zs pb tp N tc ts k w) (hn : isB ts k 0 = false) : Calls Try.prog 34 #[.pointer (some ⟨pb, 0, none⟩)] w fun e w' => e = .returned (.tuple #[.string ⟨#[]⟩, .bool false]) ∧ Hid (Zs pb tp N tc ts k w') ∧ Hid (Bx pb w w') := by
  have HZ := hid_ofP z
  have c0 : w.cell? ⟨pb, 0, none⟩ = some (.slice tp N tc) := cellP z.pz 0
  have c1 : w.cell? ⟨pb, 1, none⟩ = some (.int .i64 (k : Int)) := cellP z.pz 1
  have hk9 := z.hk
  have hM9 := z.hM
  have hk0 : (0 : Int) ≤ (k : Int) := by omega
  cases ht : ts[k]? with
  | none =>
    obtain rfl : N = k := (z.noT ht).symm
    have h1 : decide ((N : Int) < (N : Int)) = false := by simp
    clear z ht hn
    go_enter Try.func34, Try.ntmps34
    go_wp2
    go_quiet (fail)
    go_wp2
    refine bodyPost_ret (v := .tuple #[.string ⟨#[]⟩, .bool false]) (by simp [results, Try.results34, go_sem]) rfl ?_
    exact ⟨rfl, HZ.out.keep (drewN_below _ _), Bx.of (drewN_below _ _)⟩
  | some t =>
    obtain ⟨g, hg, -, -, t0, -⟩ := z.tz k t ht
    subst hg
    have hlt := z.smT ht
    have h1 : decide ((k : Int) < (N : Int)) = true := by simpa using hlt
    have hltI : (k : Int) < (N : Int) := by omega
    have hkd := isB_none hn t ht
    have h2 : ((t.kind : Int) == 0) = false := by simp; omega
    obtain ⟨tk, htk⟩ : ∃ x : Int, x = (t.kind : Int) := ⟨_, rfl⟩
    rw [← htk] at t0 h2
    clear z ht hn hkd hlt htk
    go_enter Try.func34, Try.ntmps34
    go_wp2
    go_quiet (fail)
    go_wp2
    refine bodyPost_ret (v := .tuple #[.string ⟨#[]⟩, .bool false]) (by simp [results, Try.results34, go_sem]) rfl ?_
    exact ⟨rfl, HZ.out.keep (drewN_below _ _), Bx.of (drewN_below _ _)⟩
/-- Is token k an item? -/
def itB (ts : List Tok) (k : Nat) : Bool := match ts[k]? with
  | some t => decide (t.kind ≤ 2)
  | none => false
theorem itB_some {ts : List Tok} {k : Nat} (h : itB ts k = true) : ∃ t, ts[k]? = some t ∧ t.kind ≤ 2 := by
  unfold itB at h
  split at h
  · rename_i t ht; exact ⟨t, ht, by simpa using h⟩
  · cases h
theorem itB_none {ts : List Tok} {k : Nat} (h : itB ts k = false) : ∀ t, ts[k]? = some t → 2 < t.kind := fun t ht => by
  unfold itB at h
  rw [ht] at h
  simpa using h
theorem set4 {w : World} {b : Nat} {x0 x1 x2 x3 : Value} {t : TypeId} (h : w.heap[b]? = some (.cells #[x0, x1, x2, x3] t)) (a b' c d : Value) : ((((w.setCell ⟨b, 0, none⟩ a).setCell ⟨b, 1, none⟩ b').setCell ⟨b, 2, none⟩ c).setCell ⟨b, 3, none⟩ d).heap[b]? = some (.cells #[a, b', c, d] t) := by
  simp [World.setCell, Array.getElem?_modify, h]
theorem Zs.mk2 {pb N tc k k' : Nat} {tp : Option Addr} {ts : List Tok} {w w' : World} (z : Zs pb tp N tc ts k w) (h : Bx pb w w') (hk : k' ≤ N) (hp : w'.heap[pb]? = some (.cells #[.slice tp N tc, .int .i64 (k' : Int)] 55)) : Zs pb tp N tc ts k' w' := ⟨hp, z.tzx h, hk, z.hN, z.hM⟩
/-- An item that is taken, or none: what lies in memory then. -/
theorem item_fin {pb N tc k : Nat} {tp : Option Addr} {ts : List Tok} {w X : World} {e : TypeId} {x0 x1 x2 x3 : Value} (z : Zs pb tp N tc ts k w) {k' : Nat} (hk : k' ≤ N) (hX : Bx pb w X) (hp : X.heap[pb]? = some (.cells #[.slice tp N tc, .int .i64 (k' : Int)] 55)) (hr : X.heap[w.heap.size]? = some (.cells #[x0, x1, x2, x3] e)) (a b c d : Value) (T : Obj) :
    Zs pb tp N tc ts k' (((((X.setCell ⟨w.heap.size, 0, none⟩ a).setCell ⟨w.heap.size, 1, none⟩ b).setCell ⟨w.heap.size, 2, none⟩ c).setCell ⟨w.heap.size, 3, none⟩ d).alloc T) ∧ Bx pb w (((((X.setCell ⟨w.heap.size, 0, none⟩ a).setCell ⟨w.heap.size, 1, none⟩ b).setCell ⟨w.heap.size, 2, none⟩ c).setCell ⟨w.heap.size, 3, none⟩ d).alloc T) ∧
    (((((X.setCell ⟨w.heap.size, 0, none⟩ a).setCell ⟨w.heap.size, 1, none⟩ b).setCell ⟨w.heap.size, 2, none⟩ c).setCell ⟨w.heap.size, 3, none⟩ d).alloc T).heap[w.heap.size]? = some (.cells #[a, b, c, d] e) := by
  have h4 := set4 hr a b c d
  have hs : ∀ i, i ≠ w.heap.size → ((((X.setCell ⟨w.heap.size, 0, none⟩ a).setCell ⟨w.heap.size, 1, none⟩ b).setCell ⟨w.heap.size, 2, none⟩ c).setCell ⟨w.heap.size, 3, none⟩ d).heap[i]? = X.heap[i]? := fun i hi => by
    exact (Go.Deep.blk_setCell_other _ ⟨w.heap.size, 3, none⟩ _ i hi).trans ((Go.Deep.blk_setCell_other _ ⟨w.heap.size, 2, none⟩ _ i hi).trans ((Go.Deep.blk_setCell_other _ ⟨w.heap.size, 1, none⟩ _ i hi).trans (Go.Deep.blk_setCell_other _ ⟨w.heap.size, 0, none⟩ _ i hi)))
  have hz : ((((X.setCell ⟨w.heap.size, 0, none⟩ a).setCell ⟨w.heap.size, 1, none⟩ b).setCell ⟨w.heap.size, 2, none⟩ c).setCell ⟨w.heap.size, 3, none⟩ d).heap.size = X.heap.size := by simp [World.setCell]
  generalize hV : ((((X.setCell ⟨w.heap.size, 0, none⟩ a).setCell ⟨w.heap.size, 1, none⟩ b).setCell ⟨w.heap.size, 2, none⟩ c).setCell ⟨w.heap.size, 3, none⟩ d) = V at *
  have hV2 : V.os = X.os ∧ V.tape = X.tape ∧ V.output = X.output := by rw [← hV]; exact ⟨rfl, rfl, rfl⟩
  have hpl := z.lt
  have hXs := hX.size
  have hB : Bx pb w (V.alloc T) := ⟨hV2.1.trans hX.os, hV2.2.1.trans hX.tape, hV2.2.2.trans hX.output, by simp; omega, fun i hi hn => ((bel1 V T).block i (by omega)).trans ((hs i (by omega)).trans (hX.block i hi hn))⟩
  refine ⟨z.mk2 hB hk ?_, hB, ?_⟩
  · exact ((bel1 V T).block pb (by omega)).trans ((hs pb (by omega)).trans hp)
  · exact ((bel1 V T).block _ (blkP_lt h4)).trans h4
set_option maxHeartbeats 4000000 in
theorem pItem_yes {pb N tc k : Nat} {tp : Option Addr} {ts : List Tok} {w : World} {t : Tok} (z : Zs pb tp N tc ts k w) (ht : ts[k]? = some t) (hkd : t.kind ≤ 2) : Calls Try.prog 69 #[.pointer (some ⟨pb, 0, none⟩)] w fun e w' => e = .returned (.tuple #[.agg #[.int .i64 (t.kind : Int), .string t.text, .int .i64 t.lo, .int .i64 t.hi], .bool true]) ∧ Hid (Zs pb tp N tc ts (k + 1) w') ∧ Hid (Bx pb w w') := by
  have HZ := hid_ofP z
  have hpl := z.lt
  have c0 : w.cell? ⟨pb, 0, none⟩ = some (.slice tp N tc) := cellP z.pz 0
  have c1 : w.cell? ⟨pb, 1, none⟩ = some (.int .i64 (k : Int)) := cellP z.pz 1
  have f1 : w.frozen? ⟨pb, 1, none⟩ = false := frzP z.pz 1
  have hk9 := z.hk
  have hM9 := z.hM
  have hk0 : (0 : Int) ≤ (k : Int) := by omega
  obtain ⟨g, hg, hgl, hgp, t0, t1, t2, t3, t4⟩ := z.tz k t ht
  subst hg
  have hlt := z.smT ht
  have h1 : decide ((k : Int) < (N : Int)) = true := by simpa using hlt
  have hltI : (k : Int) < (N : Int) := by omega
  have HLT := hid_ofP hlt
  obtain ⟨tk, htk⟩ : ∃ x : Nat, x = t.kind := ⟨_, rfl⟩
  rw [← htk] at t0 hkd ⊢
  obtain ⟨tx, htx⟩ : ∃ x, x = t.text := ⟨_, rfl⟩
  rw [← htx] at t2 ⊢
  obtain ⟨tl, htl⟩ : ∃ x, x = t.lo := ⟨_, rfl⟩
  rw [← htl] at t3 ⊢
  obtain ⟨th, hth⟩ : ∃ x, x = t.hi := ⟨_, rfl⟩
  rw [← hth] at t4 ⊢
  obtain ⟨tq, htq⟩ : ∃ x : Int, x = (t.pl : Int) := ⟨_, rfl⟩
  rw [← htq] at t1
  clear z ht htk htx htl hth htq hlt
  have hcs : tk = 0 ∨ tk = 1 ∨ tk = 2 := by omega
  rcases hcs with rfl | rfl | rfl
  · clear hkd
    go_enter Try.func69, Try.ntmps69
    go_wp2
    go_quiet (fail)
    go_upto_region 3 with fail
    go_region
    go_wp2
    have X0 := heap_alloc_new w (.cells #[.int .i64 0, .string ⟨#[]⟩, .int .i64 0, .int .i64 0] 63)
    have X1 := bel1 w (.cells #[.int .i64 0, .string ⟨#[]⟩, .int .i64 0, .int .i64 0] 63)
    have X2 : Bx pb w ((w.alloc (.cells #[.int .i64 0, .string ⟨#[]⟩, .int .i64 0, .int .i64 0] 63)).drewN (nq + 1)) := (Bx.of X1).trans (Bx.of (drewN_below _ _))
    have X3 := (HZ.out.mk2 X2 HZ.out.hk ((X1.block _ hpl).trans HZ.out.pz)).step HLT.out
    have X4 := Bx.set pb 1 ((w.alloc (.cells #[.int .i64 0, .string ⟨#[]⟩, .int .i64 0, .int .i64 0] 63)).drewN (nq + 1)) (.int .i64 ((k : Int) + 1))
    have F := fun a b c d T => item_fin (X := ((w.alloc (.cells #[.int .i64 0, .string ⟨#[]⟩, .int .i64 0, .int .i64 0] 63)).drewN (nq + 1)).setCell ⟨pb, 1, none⟩ (.int .i64 ((k : Int) + 1))) HZ.out HLT.out (X2.trans X4) X3.pz ((X4.block w.heap.size (by simp [World.drewN]) (by omega)).trans X0) a b c d T
    obtain ⟨F1, F2, F3⟩ := F (.int .i64 0) (.string tx) (.int .i64 tl) (.int .i64 th) (.cells #[.int .i64 0, .int .i64 tq, .string tx, .int .i64 tl, .int .i64 th] 49)
    have g0 := cellP F3 0
    have g1 := cellP F3 1
    have g2 := cellP F3 2
    have g3 := cellP F3 3
    refine bodyPost_ret (v := .tuple #[.agg #[.int .i64 0, .string tx, .int .i64 tl, .int .i64 th], .bool true]) ?_ rfl ?_
    · simp [results, Try.results69, go_sem, g0, g1, g2, g3]
    · exact ⟨rfl, F1, F2⟩
  · clear hkd
    go_enter Try.func69, Try.ntmps69
    go_wp2
    go_quiet (fail)
    go_upto_region 3 with fail
    go_region
    go_wp2
    have X0 := heap_alloc_new w (.cells #[.int .i64 0, .string ⟨#[]⟩, .int .i64 0, .int .i64 0] 63)
    have X1 := bel1 w (.cells #[.int .i64 0, .string ⟨#[]⟩, .int .i64 0, .int .i64 0] 63)
    have X2 : Bx pb w ((w.alloc (.cells #[.int .i64 0, .string ⟨#[]⟩, .int .i64 0, .int .i64 0] 63)).drewN (nq + 1)) := (Bx.of X1).trans (Bx.of (drewN_below _ _))
    have X3 := (HZ.out.mk2 X2 HZ.out.hk ((X1.block _ hpl).trans HZ.out.pz)).step HLT.out
    have X4 := Bx.set pb 1 ((w.alloc (.cells #[.int .i64 0, .string ⟨#[]⟩, .int .i64 0, .int .i64 0] 63)).drewN (nq + 1)) (.int .i64 ((k : Int) + 1))
    have F := fun a b c d T => item_fin (X := ((w.alloc (.cells #[.int .i64 0, .string ⟨#[]⟩, .int .i64 0, .int .i64 0] 63)).drewN (nq + 1)).setCell ⟨pb, 1, none⟩ (.int .i64 ((k : Int) + 1))) HZ.out HLT.out (X2.trans X4) X3.pz ((X4.block w.heap.size (by simp [World.drewN]) (by omega)).trans X0) a b c d T
    obtain ⟨F1, F2, F3⟩ := F (.int .i64 1) (.string tx) (.int .i64 tl) (.int .i64 th) (.cells #[.int .i64 1, .int .i64 tq, .string tx, .int .i64 tl, .int .i64 th] 49)
    have g0 := cellP F3 0
    have g1 := cellP F3 1
    have g2 := cellP F3 2
    have g3 := cellP F3 3
    refine bodyPost_ret (v := .tuple #[.agg #[.int .i64 1, .string tx, .int .i64 tl, .int .i64 th], .bool true]) ?_ rfl ?_
    · simp [results, Try.results69, go_sem, g0, g1, g2, g3]
    · exact ⟨rfl, F1, F2⟩
  · clear hkd
    go_enter Try.func69, Try.ntmps69
    go_wp2
    go_quiet (fail)
    go_upto_region 3 with fail
    go_region
    go_wp2
    have X0 := heap_alloc_new w (.cells #[.int .i64 0, .string ⟨#[]⟩, .int .i64 0, .int .i64 0] 63)
    have X1 := bel1 w (.cells #[.int .i64 0, .string ⟨#[]⟩, .int .i64 0, .int .i64 0] 63)
    have X2 : Bx pb w ((w.alloc (.cells #[.int .i64 0, .string ⟨#[]⟩, .int .i64 0, .int .i64 0] 63)).drewN (nq + 1)) := (Bx.of X1).trans (Bx.of (drewN_below _ _))
    have X3 := (HZ.out.mk2 X2 HZ.out.hk ((X1.block _ hpl).trans HZ.out.pz)).step HLT.out
    have X4 := Bx.set pb 1 ((w.alloc (.cells #[.int .i64 0, .string ⟨#[]⟩, .int .i64 0, .int .i64 0] 63)).drewN (nq + 1)) (.int .i64 ((k : Int) + 1))
    have F := fun a b c d T => item_fin (X := ((w.alloc (.cells #[.int .i64 0, .string ⟨#[]⟩, .int .i64 0, .int .i64 0] 63)).drewN (nq + 1)).setCell ⟨pb, 1, none⟩ (.int .i64 ((k : Int) + 1))) HZ.out HLT.out (X2.trans X4) X3.pz ((X4.block w.heap.size (by simp [World.drewN]) (by omega)).trans X0) a b c d T
    obtain ⟨F1, F2, F3⟩ := F (.int .i64 2) (.string tx) (.int .i64 tl) (.int .i64 th) (.cells #[.int .i64 2, .int .i64 tq, .string tx, .int .i64 tl, .int .i64 th] 49)
    have g0 := cellP F3 0
    have g1 := cellP F3 1
    have g2 := cellP F3 2
    have g3 := cellP F3 3
    refine bodyPost_ret (v := .tuple #[.agg #[.int .i64 2, .string tx, .int .i64 tl, .int .i64 th], .bool true]) ?_ rfl ?_
    · simp [results, Try.results69, go_sem, g0, g1, g2, g3]
    · exact ⟨rfl, F1, F2⟩
end Go.Proofs.Ytdlpmefdeeokhaa
