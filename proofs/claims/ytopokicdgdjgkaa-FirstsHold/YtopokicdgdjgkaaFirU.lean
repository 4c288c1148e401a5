/- The turn of follows (package first): from the last symbol on, each name takes what is coming. -/
import Derived.Test.YtopokicdgdjgkaaFirT
import Derived.Test.YtopokicdgdjgkaaRanB
namespace Go.Proofs.Ytopokicdgdjgkaa
set_option linter.unusedVariables false
set_option linter.unusedSimpArgs false
open Go.ChangeShapes Go.WideShapes Go.ChangeAt Go.RowKit Go.Shelf
attribute [local go_sem] Oper.semAt_some

def stepF (D : Nat → Fo) (k : Nat) (c : Fo) : Bool × (Nat → Fo) := if unlikeF (orF (D k) c) (D k) = true then (true, updF D k (orF (D k) c)) else (false, D)
abbrev Fs := Bool × ((Nat → Fo) × Fo)
/-- A symbol's turn: what has changed, what is known, what is coming. -/
def goF (E : Nat → Bool) (B : Nat → Nat → Nat) (s : Sy) (x : Fs) : Fs :=
  if s.name = -1 then (x.1, x.2.1, aheadT E B s x.2.2) else ((stepF x.2.1 s.name.toNat x.2.2).1 || x.1, (stepF x.2.1 s.name.toNat x.2.2).2, aheadT E B s x.2.2)
def folF (E : Nat → Bool) (B : Nat → Nat → Nat) (D : Nat → Fo) (c : Fo) : List Sy → Fs
  | [] => (false, D, c)
  | s :: l => goF E B s (folF E B D c l)
def trF (E : Nat → Bool) (B : Nat → Nat → Nat) (D : Nat → Fo) (h : Int) (l : List Sy) : Bool × (Nat → Fo) := ((folF E B D (D h.toNat) l).1, (folF E B D (D h.toNat) l).2.1)
theorem goF_ahead (E : Nat → Bool) (B : Nat → Nat → Nat) (s : Sy) (x : Fs) : (goF E B s x).2.2 = aheadT E B s x.2.2 := by
  unfold goF; split <;> rfl
theorem folF_drop {E : Nat → Bool} {B : Nat → Nat → Nat} {D : Nat → Fo} {c : Fo} {l : List Sy} {k : Nat} {s : Sy} (h : l[k]? = some s) : folF E B D c (l.drop k) = goF E B s (folF E B D c (l.drop (k + 1))) := by
  have hk := (List.getElem?_eq_some_iff.1 h).1
  have e : l.drop k = s :: l.drop (k + 1) := by
    rw [List.drop_eq_getElem_cons hk]
    have : l[k] = s := (List.getElem?_eq_some_iff.1 h).2
    rw [this]
  rw [e]; rfl
def okF (D : Nat → Fo) : Prop := ∀ k, okB (D k).1
theorem stepF_ok {D : Nat → Fo} {k : Nat} {c : Fo} (h : okF D) (hc : okB c.1) : okF (stepF D k c).2 := by
  unfold stepF
  split
  · intro j
    show okB (updF D k (orF (D k) c) j).1
    unfold updF
    split
    · exact okB_or (h k) hc
    · exact h j
  · exact h
theorem goF_ok {E : Nat → Bool} {B : Nat → Nat → Nat} (hB : ∀ k, okB (B k)) {s : Sy} {x : Fs} (h1 : okF x.2.1) (h2 : okB x.2.2.1) : okF (goF E B s x).2.1 ∧ okB (goF E B s x).2.2.1 := by
  unfold goF
  split
  · exact ⟨h1, ahead_ok hB h2⟩
  · exact ⟨stepF_ok h1 h2, ahead_ok hB h2⟩
theorem folF_ok {E : Nat → Bool} {B : Nat → Nat → Nat} (hB : ∀ k, okB (B k)) {D : Nat → Fo} {c : Fo} (hD : okF D) (hc : okB c.1) : ∀ l, okF (folF E B D c l).2.1 ∧ okB (folF E B D c l).2.2.1
  | [] => ⟨hD, hc⟩
  | s :: l => goF_ok hB (folF_ok hB hD hc l).1 (folF_ok hB hD hc l).2
theorem fosA_same {n : Nat} {B C : Nat → Fo} (h : ∀ i, (∀ j, j < 4 → (B i).1 j = (C i).1 j) ∧ (B i).2 = (C i).2) : fosA n B = fosA n C := by
  apply Array.ext_getElem?
  intro i
  rw [fosA_get, fosA_get]
  split
  · unfold foV
    split
    · rw [(h _).2]
    · rename_i h5
      rw [(h _).1 _ (by have := Nat.mod_lt i (show 0 < 5 by omega); omega)]
  · rfl
/-- Either way the name's part is the new one. -/
theorem stepF_at {D : Nat → Fo} {k n b : Nat} {c : Fo} {w : World} (h : FoAt w b n (updF D k (orF (D k) c))) : FoAt w b n (stepF D k c).2 := by
  unfold stepF
  split
  · exact h
  · rename_i hn
    unfold FoAt at h ⊢
    rw [h, fosA_same]
    intro i
    unfold updF
    split
    · rename_i e
      subst e
      unfold unlikeF at hn
      simp at hn
      refine ⟨fun j hj => ?_, hn.2.2.2.2⟩
      have : j = 0 ∨ j = 1 ∨ j = 2 ∨ j = 3 := by omega
      rcases this with rfl | rfl | rfl | rfl
      · exact hn.1
      · exact hn.2.1
      · exact hn.2.2.1
      · exact hn.2.2.2.1
    · exact ⟨fun _ _ => rfl, rfl⟩
theorem stepF_un (D : Nat → Fo) (k : Nat) (c : Fo) : (stepF D k c).1 = unlikeF (orF (D k) c) (D k) := by
  unfold stepF
  split
  · rename_i h; exact h.symm
  · rename_i h; exact (Bool.eq_false_iff.2 h).symm
/-- All below B stays, but for the blocks E. -/
structure BuE (E : Nat → Prop) (B : Nat) (w w' : World) : Prop where
  os : w'.os = w.os
  tape : w'.tape = w.tape
  output : w'.output = w.output
  size : w.heap.size ≤ w'.heap.size
  block : ∀ k, k < B → ¬ E k → w'.heap[k]? = w.heap[k]?
theorem BuE.refl (E : Nat → Prop) (B : Nat) (w : World) : BuE E B w w := ⟨rfl, rfl, rfl, Nat.le_refl _, fun _ _ _ => rfl⟩
theorem BuE.trans {E : Nat → Prop} {B : Nat} {a b c : World} (h : BuE E B a b) (k : BuE E B b c) : BuE E B a c := ⟨k.os.trans h.os, k.tape.trans h.tape, k.output.trans h.output, Nat.le_trans h.size k.size, fun i hi hx => (k.block i hi hx).trans (h.block i hi hx)⟩
theorem BuE.of {E : Nat → Prop} {B x : Nat} {w w' : World} (h : But B x w w') (hx : E x) : BuE E B w w' := ⟨h.os, h.tape, h.output, h.size, fun k hk he => h.block k hk (fun e => he (e ▸ hx))⟩
theorem BuE.ofB {E : Nat → Prop} {B : Nat} {w w' : World} (h : Below B w w') : BuE E B w w' := ⟨h.os, h.tape, h.output, h.size, fun k hk _ => h.block k hk⟩
theorem BuE.mono {E : Nat → Prop} {B B' : Nat} {w w' : World} (h : BuE E B w w') (hB : B' ≤ B) : BuE E B' w w' := ⟨h.os, h.tape, h.output, h.size, fun k hk hx => h.block k (by omega) hx⟩
theorem BuE.less {E E' : Nat → Prop} {B : Nat} {w w' : World} (h : BuE E B w w') (hE : ∀ k, k < B → E k → E' k) : BuE E' B w w' := ⟨h.os, h.tape, h.output, h.size, fun k hk hx => h.block k hk (fun e => hx (hE k hk e))⟩
theorem BuE.then {E : Nat → Prop} {B : Nat} {a b c : World} (h : BuE E B a b) (k : BuE E b.heap.size b c) (hB : B ≤ b.heap.size) : BuE E B a c := h.trans (k.mono hB)
theorem BuE.cell {E : Nat → Prop} {w w' : World} (h : BuE E w.heap.size w w') {b o : Nat} {v : Value} (hx : ¬ E b) (hc : w.cell? ⟨b, o, none⟩ = some v) : w'.cell? ⟨b, o, none⟩ = some v :=
  (World.cell?_of_block (a := ⟨b, o, none⟩) (h.block b (block_lt_of_cell hc) hx)).trans hc
theorem BuE.bc {E : Nat → Prop} {w w' : World} (h : BuE E w.heap.size w w') : Bc E w w' := ⟨h.size, fun k o hk ho _ => (h.block k (Array.getElem?_eq_some_iff.1 ho).1 hk).trans ho⟩
theorem keeps_bue {E : Nat → Prop} {W W' : World} (h : BuE E W.heap.size W W') (hb : ∀ k o, E k → W.heap[k]? = some o → o.isCells = true) : KeepsOthers W W' := ⟨h.size, fun k o hk ho => by
  by_cases e : E k
  · rw [hb k o e hk] at ho; cases ho
  · exact (h.block k (Array.getElem?_eq_some_iff.1 hk).1 e).trans hk⟩
theorem IsSys.celF {w : World} {F : Nat → Prop} {p : Option Addr} {n c : Nat} {l : List Sy} (h : IsSys w F (.slice p n c) l) {k : Nat} {s : Sy} (hk : l[k]? = some s) : ∃ g o, p = some ⟨g, o, none⟩ ∧ F g ∧ g < w.heap.size ∧ w.cell? ⟨g, o + k * 3, none⟩ = some (.int .i64 s.name) ∧ w.cell? ⟨g, o + k * 3 + 1, none⟩ = some (.int .i64 s.lo) ∧ w.cell? ⟨g, o + k * 3 + 2, none⟩ = some (.int .i64 s.hi) := by
  obtain ⟨p2, c2, e2, _, hc⟩ := h
  injection e2 with e3
  subst e3
  have hlt := (List.getElem?_eq_some_iff.1 hk).1
  obtain ⟨g, o, e, hf, hg, cc, _⟩ := hc (by omega)
  obtain ⟨a0, a1, a2⟩ := sysV_at l k s hk
  exact ⟨g, o, e, hf, hg, cc _ _ a0, by rw [Nat.add_assoc]; exact cc _ _ a1, by rw [Nat.add_assoc]; exact cc _ _ a2⟩
def CgAt (w : World) (b : Nat) (c : Bool) : Prop := w.heap[b]? = some (.cells #[.bool c] 4)
theorem CgAt.lt {w : World} {b : Nat} {c : Bool} (h : CgAt w b c) : b < w.heap.size := block_lt h
theorem CgAt.cell {w : World} {b : Nat} {c : Bool} (h : CgAt w b c) : w.cell? ⟨b, 0, none⟩ = some (.bool c) := Lib.cell_of_heap h 0
theorem CgAt.frz {w : World} {b : Nat} {c : Bool} (h : CgAt w b c) : w.frozen? ⟨b, 0, none⟩ = false := frzV h 0
theorem CgAt.set {w : World} {b : Nat} {c : Bool} (h : CgAt w b c) (d : Bool) : CgAt (w.setCell ⟨b, 0, none⟩ (.bool d)) b d := heap_setCell_same w b 0 _ _ (.bool d) h
/-- What the turn reads and never writes. -/
structure JG (n eb bb fb y z : Nat) (E : Nat → Bool) (B : Nat → Nat → Nat) (w : World) : Prop where
  z0 : w.cell? ⟨z, 0, none⟩ = some (.slice (some ⟨eb, 0, none⟩) n n)
  z1 : w.cell? ⟨z, 1, none⟩ = some (.slice (some ⟨bb, 0, none⟩) n n)
  y0 : w.cell? ⟨y, 0, none⟩ = some (.slice (some ⟨fb, 0, none⟩) n n)
  el : BlAt w eb n E
  bl : ByAt w bb n B
theorem JG.keep {n eb bb fb y z : Nat} {E : Nat → Bool} {B : Nat → Nat → Nat} {w w' : World} {X : Nat → Prop} (h : JG n eb bb fb y z E B w) (hb : BuE X w.heap.size w w') (hz : ¬ X z) (hy : ¬ X y) (he : ¬ X eb) (hbb : ¬ X bb) : JG n eb bb fb y z E B w' :=
  ⟨hb.cell hz h.z0, hb.cell hz h.z1, hb.cell hy h.y0, (hb.block eb (block_lt h.el) he).trans h.el, (hb.block bb (block_lt h.bl) hbb).trans h.bl⟩
theorem ne_fl {w : World} {eb fb n m : Nat} {E : Nat → Bool} {D : Nat → Fo} (h : BlAt w eb n E) (k : FoAt w fb m D) : eb ≠ fb := by
  rintro rfl
  unfold BlAt at h; unfold FoAt at k
  rw [h] at k
  injection k with k
  injection k with k1 k2
  exact absurd k2 (by decide)
theorem ne_fy {w : World} {bb fb n m : Nat} {B : Nat → Nat → Nat} {D : Nat → Fo} (h : ByAt w bb n B) (k : FoAt w fb m D) : bb ≠ fb := by
  rintro rfl
  unfold ByAt at h; unfold FoAt at k
  rw [h] at k
  injection k with k
  injection k with k1 k2
  exact absurd k2 (by decide)
set_option maxHeartbeats 8000000 in
set_option maxRecDepth 100000 in
theorem turnF_any (E : Nat → Bool) (B : Nat → Nat → Nat) (D : Nat → Fo) (n eb bb fb y z k : Nat) (u : Value) (l : List Sy) (w : World) {F : Nat → Prop} (hk : k < n) (hn : n ≤ 64) (hs : IsSys w F u l) (hF : ∀ b, F b → b ≠ fb) (hl64 : l.length ≤ 64) (hm : ∀ s, s ∈ l → maySym n s = true) (hy : y ≠ fb) (hz : z ≠ fb) (hJ : JG n eb bb fb y z E B w) (hD : FoAt w fb n D) (okB' : ∀ k, okB (B k)) (okD : okF D) :
    Calls Try.prog 38 #[.int .i64 (k : Int), u, .pointer (some ⟨y, 0, none⟩), .pointer (some ⟨z, 0, none⟩)] w fun e w' => e = .returned (.bool (trF E B D (k : Int) l).1) ∧ Hid (FoAt w' fb n (trF E B D (k : Int) l).2) ∧ Hid (But w.heap.size fb w w') := by
  obtain ⟨p2, c2, hu⟩ := IsSys.slc hs
  obtain ⟨zl, hzl⟩ : ∃ z, z = l.length := ⟨_, rfl⟩
  rw [← hzl] at hu hl64
  subst hu
  have HJJ := hid_ofF hJ
  have HDD : Hid (FoAt w fb n D) := hD
  have HSY := hid_ofF hs
  have HMS := hid_ofF hm
  have HOB := hid_ofF okB'
  have HOD : Hid (okF D) := okD
  have HNE : Hid (y ≠ fb ∧ z ≠ fb ∧ eb ≠ fb ∧ bb ≠ fb) := ⟨hy, hz, ne_fl hJ.el hD, ne_fy hJ.bl hD⟩
  have HZL : Hid (zl = l.length) := hzl
  have HFF := hid_ofF hF
  have hfb := block_lt hD
  have HFB : Hid (fb < w.heap.size) := hfb
  have y0 := hJ.y0
  have hyl := block_lt_of_cell hJ.y0
  have d0 := hD.cell hk (j := 0) (by omega)
  have d1 := hD.cell hk (j := 1) (by omega)
  have d2 := hD.cell hk (j := 2) (by omega)
  have d3 := hD.cell hk (j := 3) (by omega)
  have d4 := hD.cell hk (j := 4) (by omega)
  rw [Nat.add_zero] at d0
  obtain ⟨c0, hc0⟩ : ∃ c, c = D k := ⟨_, rfl⟩
  have HC0 : Hid (c0 = D k) := hc0
  have okc0 : okB c0.1 := by rw [hc0]; exact okD k
  have HOC0 : Hid (okB c0.1) := okc0
  rw [← hc0] at d0 d1 d2 d3 d4
  replace d0 : w.cell? ⟨fb, k * 5, none⟩ = some (.int .u64 ((c0.1 0 : Nat) : Int)) := d0
  replace d1 : w.cell? ⟨fb, k * 5 + 1, none⟩ = some (.int .u64 ((c0.1 1 : Nat) : Int)) := d1
  replace d2 : w.cell? ⟨fb, k * 5 + 2, none⟩ = some (.int .u64 ((c0.1 2 : Nat) : Int)) := d2
  replace d3 : w.cell? ⟨fb, k * 5 + 3, none⟩ = some (.int .u64 ((c0.1 3 : Nat) : Int)) := d3
  replace d4 : w.cell? ⟨fb, k * 5 + 4, none⟩ = some (.bool c0.2) := d4
  clear hJ hs hm hzl hD okB' okD hF hc0 okc0 hy hz
  have HL64 : Hid (zl ≤ 64) := hl64
  have HN : Hid (n ≤ 64) := hn
  have HKN : Hid (k < n) := hk
  have hkI : (k : Int) < (n : Int) := by omega
  obtain ⟨w5, hw5⟩ : ∃ w5, w5 = ((w.alloc (.cells #[.bool false] 4)).alloc (.cells (fc c0) 55)).alloc (.cells #[.slice p2 zl c2] 28) := ⟨_, rfl⟩
  have hb5 : Below w.heap.size w w5 := by rw [hw5]; exact ((bel1 _ _).alloc (by simp) _).alloc (by simp; omega) _
  have h5s : w5.heap.size = w.heap.size + 3 := by rw [hw5]; simp
  obtain ⟨hb, hhb⟩ : ∃ cb, cb = w.heap.size := ⟨_, rfl⟩
  have hcg : CgAt w5 hb false := by rw [hw5, hhb]; exact (heap_alloc_old _ (by simp; omega)).trans ((heap_alloc_old _ (by simp)).trans (heap_alloc_new _ _))
  have hcm : ComAt w5 (hb + 1) c0 := by rw [hw5, hhb]; exact (heap_alloc_old _ (by simp)).trans (by have := heap_alloc_new (w.alloc (.cells #[.bool false] 4)) (.cells (fc c0) 55); simpa using this)
  have x5 : w5.cell? ⟨hb + 2, 0, none⟩ = some (.slice p2 zl c2) := by rw [hw5, hhb]; exact World.cell?_alloc_at _ _ _ _ (by simp)
  have HB5 : Hid (Below hb w w5) := by rw [hhb]; exact hb5
  have H5S : Hid (w5.heap.size = hb + 3) := by rw [hhb]; exact h5s
  have HCW : Hid (hb = w.heap.size) := hhb
  obtain ⟨X, hX⟩ : ∃ X : Nat → Prop, X = fun k => k = hb ∨ k = hb + 1 ∨ k = fb := ⟨_, rfl⟩
  have HXI : Hid (X hb ∧ X (hb + 1) ∧ X fb) := by rw [hX]; exact ⟨Or.inl rfl, Or.inr (Or.inl rfl), Or.inr (Or.inr rfl)⟩
  have HXO : Hid (∀ b, b < w.heap.size → b ≠ fb → ¬ X b) := by rw [hX]; rintro b h1 h2 (h | h | h) <;> omega
  have HXN : Hid (∀ b, hb + 1 < b → ¬ X b) := by rw [hX]; rintro b h1 (h | h | h) <;> omega
  have HXL : Hid (∀ b, X b → b = hb ∨ b = hb + 1 ∨ b = fb) := by rw [hX]; exact fun b h => h
  clear hX
  have HSQ : Hid (SyCs w5 X p2 l) := fun k s hs => by
    have hS := HSY.out
    rw [HZL.out] at hS
    obtain ⟨g, o, h1, hf, h2, h3, h4, h6⟩ := IsSys.celF hS hs
    refine ⟨g, o, h1, HXO.out g h2 (HFF.out g hf), ?_, ?_, ?_⟩
    · exact (hb5.cell (p := ⟨_, _, none⟩) h2).trans h3
    · exact (hb5.cell (p := ⟨_, _, none⟩) h2).trans h4
    · exact (hb5.cell (p := ⟨_, _, none⟩) h2).trans h6
  have HJ5 : Hid (∀ W', BuE X w5.heap.size w5 W' → JG n eb bb fb y z E B W') := fun W' h => by
    have hJ := HJJ.out
    obtain ⟨n1, n2, n3, n4⟩ := HNE.out
    have h5 := HJJ.out.keep (X := fun _ => False) (BuE.ofB hb5) (fun h => h) (fun h => h) (fun h => h) (fun h => h)
    exact h5.keep h (HXO.out z (block_lt_of_cell hJ.z0) n2) (HXO.out y (block_lt_of_cell hJ.y0) n1) (HXO.out eb (block_lt hJ.el) n3) (HXO.out bb (block_lt hJ.bl) n4)
  have hD5 : FoAt w5 fb n D := (hb5.block fb hfb).trans HDD.out
  have HIO : Hid (OwnFrom w5.heap.size (fun (pre : List Nat) W' => w5.heap.size ≤ W'.heap.size ∧ pre.length ≤ zl ∧ ∃ x : Fs, CgAt W' hb x.1 ∧ FoAt W' fb n x.2.1 ∧ ComAt W' (hb + 1) x.2.2 ∧ okF x.2.1 ∧ okB x.2.2.1 ∧ BuE X w5.heap.size w5 W' ∧ (pre = dwn zl pre.length → x = folF E B D c0 (l.drop (zl - pre.length))))) := by
    rintro pre W1 W2 row ⟨h1, h2, x, h3, h3b, h3c, h4, h4b, h5, h6⟩ hg hr
    have hbl : Below w5.heap.size W1 W2 := (Below.refl _ W1).grown hg h1 (fun k e => (hr k e).1)
    have h5s := H5S.out
    have hf := HFB.out
    have hc := HCW.out
    exact ⟨Nat.le_trans h1 hbl.size, h2, x, (hbl.block hb (by omega)).trans h3, (hbl.block fb (by omega)).trans h3b, (hbl.block (hb + 1) (by omega)).trans h3c, h4, h4b, h5.trans (BuE.ofB hbl), h6⟩
  have HMD : Hid (∀ x, maySym n (symD l x) = true) := may_symD HMS.out
  refine (callsIn_wide (n := 4)).1 ?_
  refine callsIn_of_wp_marks Try.func38 rfl trivial ?_ rfl
  simp only [Try.ntmps38, List.size_toArray, List.length_cons, List.length_nil, Nat.reduceAdd, Nat.reduceSub, Array.replicate_succ, Array.replicate_zero, List.push_toArray, List.append_toArray, List.nil_append, List.cons_append]
  refine wpIn_wide.2 ?_
  go_wp2_with (go_at_call 35; refine (backward_any _ _ _ _).mono ?_; rintro e w9 ⟨rfl, rfl⟩)
  rw [← hw5, ← hhb]
  clear hw5 hhb hb5 h5s d0 d1 d2 d3 d4 y0 hkI hfb hyl
  refine range_box (encs := bkE l) (Kp := Bc X) rfl (enters_of Try.func46 (by kernel_rfl) rfl) (back_stops 3 (hb + 2) X (by omega) p2 c2 l w5 HSQ.out (HXN.out _ (by omega)) (by rw [x5, HZL.out]) (by rw [← HZL.out]; exact HL64.out)) (fun h k => h.trans k) (fun W' l o o' _ h9 h8 _ => Bc.put h9 h8) (fun W' o => Bc.ofB (bel1 _ _)) (fun _ => rfl) _ HIO.out (fun pre W' h9 => h9.1)
    ⟨Nat.le_refl _, Nat.zero_le _, (false, D, c0), hcg, hD5, hcm, HOD.out, HOC0.out, BuE.refl _ _ _, fun _ => by rw [show zl - ([] : List Nat).length = l.length by rw [HZL.out]; rfl, List.drop_length]; rfl⟩ 10 (fun k => #[.int .i64 (symD l k).name, .int .i64 (symD l k).lo, .int .i64 (symD l k).hi]) 36 ?assign ?body ?done
  case assign =>
    intro l' x W' K hK
    unfold bkE at hK ⊢
    generalize symD l x = sx at hK ⊢
    obtain ⟨nm, lo, up⟩ := sx
    simp only [List.zip_toArray, List.zip_cons_cons, List.zip_nil_right, List.foldl_toArray', List.foldl_cons, List.foldl_nil, List.size_toArray, List.length_cons, List.length_nil, List.setIfInBounds_toArray, List.set_cons_zero, List.set_cons_succ] at hK ⊢
    gi_wp2
    exact hK
  case body =>
    rintro l' pre x Bx W' ⟨hw1, hw2, q, hcq, hfq, hc, okq, okc, hbu, hzz⟩ hBx hle hlen
    unfold bkE
    obtain ⟨sx, hsx⟩ : ∃ sx, sx = symD l x := ⟨_, rfl⟩
    have hsi := HMD.out x
    rw [← hsx] at hBx hsi ⊢
    have HSX : Hid (sx = symD l x) := hsx
    obtain ⟨q2, hq2⟩ : ∃ q2, q2 = goF E B sx q := ⟨_, rfl⟩
    have okq2 : okF q2.2.1 ∧ okB q2.2.2.1 := by rw [hq2]; exact goF_ok HOB.out okq okc
    rw [← HZL.out] at hlen
    have HLED : Hid (pre ++ [x] = dwn zl (pre ++ [x]).length → q2 = folF E B D c0 (l.drop (zl - (pre ++ [x]).length))) := fun e6 => by
      have e7 : (pre ++ [x]).length = pre.length + 1 := by simp
      rw [e7] at e6 ⊢
      have e8 : pre ++ [x] = dwn zl pre.length ++ [zl - 1 - pre.length] := e6
      have e9 := List.append_inj' e8 rfl
      have ex : x = zl - 1 - pre.length := by simpa using e9.2
      have hs : l[x]? = some sx := by
        have hx : x < l.length := by rw [← HZL.out]; omega
        have h1 : l[x]? = some l[x] := List.getElem?_eq_getElem hx
        rw [h1, HSX.out, symD_at h1]
      have h2 := folF_drop (E := E) (B := B) (D := D) (c := c0) hs
      rw [show zl - (pre.length + 1) = x by omega, h2, hq2, hzz e9.1, show zl - pre.length = x + 1 by omega]
    have HBx : Hid (hb + 1 < Bx) := by have := H5S.out; show _ < _; omega
    have HCB : Hid (ComAt W' (hb + 1) q.2.2) := hc
    have hnx : ∀ b, X b → ∀ o, W'.heap[b]? = some o → o.isCells = true := fun b hb o ho => by
      rcases HXL.out b hb with e | e | e <;> subst e
      · rw [show W'.heap[_]? = _ from hcq] at ho; injection ho with ho; rw [← ho]; rfl
      · rw [show W'.heap[_]? = _ from hc] at ho; injection ho with ho; rw [← ho]; rfl
      · rw [show W'.heap[_]? = _ from hfq] at ho; injection ho with ho; rw [← ho]; rfl
    -- the round's end: what is behind the store of what is coming
    have HF6 : Hid (∀ V w6, BuE X W'.heap.size W' V → CgAt V hb q2.1 → FoAt V fb n q2.2.1 → ComAt V (hb + 1) q.2.2 → Below V.heap.size V w6 → ComAt w6 (hb + 1) q.2.2 ∧ (KeepsFrom w5.heap.size W' (setC w6 (hb + 1) q2.2.2) ∧ Bc X W' (setC w6 (hb + 1) q2.2.2) ∧ (w5.heap.size ≤ (setC w6 (hb + 1) q2.2.2).heap.size ∧ (pre ++ [x]).length ≤ zl ∧ ∃ x' : Fs, CgAt (setC w6 (hb + 1) q2.2.2) hb x'.1 ∧ FoAt (setC w6 (hb + 1) q2.2.2) fb n x'.2.1 ∧ ComAt (setC w6 (hb + 1) q2.2.2) (hb + 1) x'.2.2 ∧ okF x'.2.1 ∧ okB x'.2.2.1 ∧ BuE X w5.heap.size w5 (setC w6 (hb + 1) q2.2.2) ∧ (pre ++ [x] = dwn zl (pre ++ [x]).length → x' = folF E B D c0 (l.drop (zl - (pre ++ [x]).length)))))) := fun V w6 hV g1 g2 g3 hb6 => by
      have h6 : ComAt w6 (hb + 1) q.2.2 := (hb6.block _ g3.lt).trans g3
      have hB : But V.heap.size (hb + 1) V (setC w6 (hb + 1) q2.2.2) := but_setC (But.of hb6) q2.2.2
      have hB2 : BuE X W'.heap.size W' (setC w6 (hb + 1) q2.2.2) := hV.then (BuE.of hB HXI.out.2.1) hV.size
      have hfb := HFB.out
      have hcw := HCW.out
      refine ⟨h6, (keeps_bue hB2 (fun k o a b => hnx k a o b)).from _, hB2.bc, Nat.le_trans hw1 hB2.size, by simp; omega, q2, (hB.block hb (block_lt g1) (by omega)).trans g1, (hB.block fb (block_lt g2) (by omega)).trans g2, h6.set q2.2.2, okq2.1, okq2.2, hbu.then hB2 hw1, HLED.out⟩
    have HJW : Hid (∀ V, BuE X W'.heap.size W' V → JG n eb bb fb y z E B V ∧ V.heap[Bx]? = some (.cells #[.int .i64 sx.name, .int .i64 sx.lo, .int .i64 sx.hi] 36)) := fun V hV => ⟨HJ5.out V (hbu.then hV hw1), (hV.block Bx (block_lt hBx) (HXN.out _ HBx.out)).trans hBx⟩
    have HAH : Hid (∀ V, BuE X W'.heap.size W' V → Calls Try.prog 36 #[.agg #[.slice (some ⟨eb, 0, none⟩) n n, .slice (some ⟨bb, 0, none⟩) n n], .agg #[.int .i64 sx.name, .int .i64 sx.lo, .int .i64 sx.hi], fv q.2.2] V fun e w' => e = .returned (fv q2.2.2) ∧ Hid (Below V.heap.size V w')) := fun V hV => by
      have hJ := (HJW.out V hV).1
      have KA := ahead_any E B n eb bb sx q.2.2 V HN.out hJ.el hJ.bl hsi HOB.out okc
      rw [hq2, goF_ahead]
      exact KA
    have hcw : hb < W'.heap.size := hcq.lt
    by_cases hnm : sx.name = -1
    · --SB
      have e1 : q2.1 = q.1 ∧ q2.2.1 = q.2.1 := by rw [hq2]; unfold goF; rw [if_pos hnm]; exact ⟨rfl, rfl⟩
      have HE1 : Hid (∀ w6, Below W'.heap.size W' w6 → _) := fun w6 h => HF6.out W' w6 (BuE.refl _ _ _) (by rw [e1.1]; exact hcq) (by rw [e1.2]; exact hfq) hc h
      have hJ := (HJW.out W' (BuE.refl _ _ _)).1
      have KAH := hid_ofF (HAH.out W' (BuE.refl _ _ _))
      have z0 := hJ.z0
      have z1 := hJ.z1
      obtain ⟨nm, lo, up⟩ := sx
      dsimp only at hnm hBx KAH ⊢
      subst hnm
      have b0 : W'.cell? ⟨Bx, 0, none⟩ = some (.int .i64 (-1)) := Lib.cell_of_heap hBx 0
      have b1 : W'.cell? ⟨Bx, 1, none⟩ = some (.int .i64 lo) := Lib.cell_of_heap hBx 1
      have b2 : W'.cell? ⟨Bx, 2, none⟩ = some (.int .i64 up) := Lib.cell_of_heap hBx 2
      obtain ⟨qc, qD, cm⟩ := q
      obtain ⟨rc, rD, am⟩ := q2
      dsimp only at hc KAH HE1 ⊢
      have c0' : W'.cell? ⟨hb + 1, 0, none⟩ = some (.int .u64 ((cm.1 0 : Nat) : Int)) := hc.cell rfl
      have c1' : W'.cell? ⟨hb + 1, 1, none⟩ = some (.int .u64 ((cm.1 1 : Nat) : Int)) := hc.cell rfl
      have c2' : W'.cell? ⟨hb + 1, 2, none⟩ = some (.int .u64 ((cm.1 2 : Nat) : Int)) := hc.cell rfl
      have c3' : W'.cell? ⟨hb + 1, 3, none⟩ = some (.int .u64 ((cm.1 3 : Nat) : Int)) := hc.cell rfl
      have c4' : W'.cell? ⟨hb + 1, 4, none⟩ = some (.bool cm.2) := hc.cell rfl
      clear e1 hq2 hJ hsi hsx HSX hBx hc okc okq okq2 hbu hzz hle hlen hw1 hw2 x5 hcm hcg hD5 hcq hfq hnx HCB HLED HF6 HJW HAH hcw
      simp only [List.zip_toArray, List.zip_cons_cons, List.zip_nil_right, List.foldl_toArray', List.foldl_cons, List.foldl_nil, List.size_toArray, List.length_cons, List.length_nil, List.setIfInBounds_toArray, List.set_cons_zero, List.set_cons_succ]
      gi_wp2_with (refine ⟨trivial, ?_⟩; gi_at_call 36; refine (CallsIn.inRound l' (callsIn_wide.2 KAH.out)).mono ?_; rintro e w6 ⟨rfl, b6⟩; obtain ⟨h6, f3⟩ := HE1.out w6 b6.out; have F3 : Hid _ := f3; have r0 := h6.cell (k := 0) rfl; have r1 := h6.cell (k := 1) rfl; have r2 := h6.cell (k := 2) rfl; have r3 := h6.cell (k := 3) rfl; have r4 := h6.cell (k := 4) rfl; have f0 := h6.frz 0; have f1 := h6.frz 1; have f2 := h6.frz 2; have f33 := h6.frz 3; have f4 := h6.frz 4; have rl := h6.lt; clear f3 b6 h6)
      exact F3.out
    · --SC
      obtain ⟨i, hi⟩ : ∃ i : Nat, sx.name = (i : Int) := by
        unfold maySym at hsi
        rw [if_neg hnm] at hsi
        simp only [Bool.and_eq_true] at hsi
        have h2 := hsi.1
        unfold isNum at h2
        simp only [Bool.and_eq_true, decide_eq_true_eq] at h2
        exact ⟨sx.name.toNat, by omega⟩
      have hin : i < n := by
        unfold maySym at hsi
        rw [if_neg hnm] at hsi
        simp only [Bool.and_eq_true] at hsi
        have h2 := hsi.1
        unfold isNum at h2
        simp only [Bool.and_eq_true, decide_eq_true_eq] at h2
        omega
      have hinI : (i : Int) < (n : Int) := by omega
      have hnD : ((i : Int) == -1) = false := by rw [beq_eq_false_iff_ne]; omega
      have hnB : ((i : Int) != -1) = true := by rw [bne, hnD]; rfl
      obtain ⟨ul, hul⟩ : ∃ b, b = unlikeF (orF (q.2.1 i) q.2.2) (q.2.1 i) := ⟨_, rfl⟩
      have e1 : q2.1 = (ul || q.1) ∧ q2.2.1 = (stepF q.2.1 i q.2.2).2 := by
        rw [hq2]; unfold goF; rw [if_neg hnm, hi, Int.toNat_natCast, stepF_un, hul]; exact ⟨rfl, rfl⟩
      have HJ0 := (HJW.out W' (BuE.refl _ _ _)).1
      have y0 := HJ0.y0
      have KT : Hid (∀ V, Below W'.heap.size W' V → Calls Try.prog 39 #[.pointer (some ⟨fb, i * 5, none⟩), fv q.2.2] V fun e w' => e = .returned (.bool ul) ∧ Hid (FoAt w' fb n q2.2.1) ∧ Hid (But V.heap.size fb V w')) := fun V hV => by
        have hfV : FoAt V fb n q.2.1 := (hV.block fb (block_lt hfq)).trans hfq
        rw [hul, e1.2]
        refine (take_any q.2.1 q.2.2 fb n i V hin hfV (okq i) okc).mono ?_
        rintro e w' ⟨h1, h2, h3⟩
        exact ⟨h1, stepF_at h2.out, h3⟩
      have HCQ : Hid (CgAt W' hb q.1) := hcq
      have HFC : Hid (fb < hb) := by have := HFB.out; have := HCW.out; show _ < _; omega
      obtain ⟨nm, lo, up⟩ := sx
      dsimp only at hi
      subst hi
      dsimp only at hBx HAH HJW ⊢
      have b0 : W'.cell? ⟨Bx, 0, none⟩ = some (.int .i64 (i : Int)) := Lib.cell_of_heap hBx 0
      obtain ⟨qc, qD, cm⟩ := q
      obtain ⟨rc, rD, am⟩ := q2
      dsimp only at hc HAH HF6 KT HCQ HCB e1 ⊢
      have c0' : W'.cell? ⟨hb + 1, 0, none⟩ = some (.int .u64 ((cm.1 0 : Nat) : Int)) := hc.cell rfl
      have c1' : W'.cell? ⟨hb + 1, 1, none⟩ = some (.int .u64 ((cm.1 1 : Nat) : Int)) := hc.cell rfl
      have c2' : W'.cell? ⟨hb + 1, 2, none⟩ = some (.int .u64 ((cm.1 2 : Nat) : Int)) := hc.cell rfl
      have c3' : W'.cell? ⟨hb + 1, 3, none⟩ = some (.int .u64 ((cm.1 3 : Nat) : Int)) := hc.cell rfl
      have c4' : W'.cell? ⟨hb + 1, 4, none⟩ = some (.bool cm.2) := hc.cell rfl
      have HE1 : Hid (rc = (ul || qc)) := e1.1
      have HSS : Hid (∀ w', BuE (fun b => b = fb ∨ b = hb) W'.heap.size W' w' → BuE (fun b => b = fb ∨ b = hb) W'.heap.size W' w' ∧ w'.cell? ⟨y, 0, none⟩ = some (.slice (some ⟨fb, 0, none⟩) n n) ∧ w'.cell? ⟨Bx, 0, none⟩ = some (.int .i64 (i : Int)) ∧ w'.cell? ⟨hb + 1, 0, none⟩ = some (.int .u64 ((cm.1 0 : Nat) : Int)) ∧ w'.cell? ⟨hb + 1, 1, none⟩ = some (.int .u64 ((cm.1 1 : Nat) : Int)) ∧ w'.cell? ⟨hb + 1, 2, none⟩ = some (.int .u64 ((cm.1 2 : Nat) : Int)) ∧ w'.cell? ⟨hb + 1, 3, none⟩ = some (.int .u64 ((cm.1 3 : Nat) : Int)) ∧ w'.cell? ⟨hb + 1, 4, none⟩ = some (.bool cm.2)) := fun w' h => by
        have nx : ∀ {b o : Nat} {v : Value}, W'.cell? ⟨b, o, none⟩ = some v → b ≠ fb → b ≠ hb → w'.cell? ⟨b, o, none⟩ = some v := fun hcc h1 h2 => h.cell (by rintro (e | e) <;> contradiction) hcc
        have n1 := HNE.out.1
        have n2 : y < hb := by rw [HCW.out]; exact block_lt_of_cell HJJ.out.y0
        have n3 := HBx.out
        have n4 := HFC.out
        exact ⟨h, nx y0 n1 (by omega), nx b0 (by omega) (by omega), nx c0' (by omega) (by omega), nx c1' (by omega) (by omega), nx c2' (by omega) (by omega), nx c3' (by omega) (by omega), nx c4' (by omega) (by omega)⟩
      have HUB : Hid (∀ V, BuE (fun b => b = fb ∨ b = hb) W'.heap.size W' V → BuE X W'.heap.size W' V) := fun V h => h.less fun k _ e => by
        rcases e with e | e
        · rw [e]; exact HXI.out.2.2
        · rw [e]; exact HXI.out.1
      clear hq2 HJ0 hsi hsx HSX hBx hc okc okq okq2 hbu hzz hle hlen hw1 hw2 x5 hcm hcg hD5 hcq hfq hnx HLED hnm hul e1
      simp only [List.zip_toArray, List.zip_cons_cons, List.zip_nil_right, List.foldl_toArray', List.foldl_cons, List.foldl_nil, List.size_toArray, List.length_cons, List.length_nil, List.setIfInBounds_toArray, List.set_cons_zero, List.set_cons_succ]
      gi_wp2
      refine wpIn_region_held_round (S := fun w' => BuE (fun b => b = fb ∨ b = hb) W'.heap.size W' w' ∧ w'.cell? ⟨y, 0, none⟩ = some (.slice (some ⟨fb, 0, none⟩) n n) ∧ w'.cell? ⟨Bx, 0, none⟩ = some (.int .i64 (i : Int)) ∧ w'.cell? ⟨hb + 1, 0, none⟩ = some (.int .u64 ((cm.1 0 : Nat) : Int)) ∧ w'.cell? ⟨hb + 1, 1, none⟩ = some (.int .u64 ((cm.1 1 : Nat) : Int)) ∧ w'.cell? ⟨hb + 1, 2, none⟩ = some (.int .u64 ((cm.1 2 : Nat) : Int)) ∧ w'.cell? ⟨hb + 1, 3, none⟩ = some (.int .u64 ((cm.1 3 : Nat) : Int)) ∧ w'.cell? ⟨hb + 1, 4, none⟩ = some (.bool cm.2)) (by kernel_rfl) (by kernel_rfl) (by rintro ⟨a, w, h⟩; exact h) (HSS.out _ (BuE.ofB (Below.refl _ _).drew)) (fun hHeld => ?_)
      clear y0 b0 c0' c1' c2' c3' c4'
      refine wpAnyH_take (i := 0) (oi := _) (v := ?_) rfl (by kernel_rfl) (by kernel_rfl) (by kernel_rfl) (fun _ _ _ h => h) (Or.inl ⟨by rfl, ?_⟩) (by assumption) ?_
      rotate_left
      · intro w' hSw; (try dsimp only at hSw); go_simp; (try with_reducible rfl)
      simp only [Act.put, List.setIfInBounds_toArray, List.set_cons_zero, List.set_cons_succ]
      refine wpAnyH_take (i := 1) (oi := _) (v := ?_) rfl (by kernel_rfl) (by kernel_rfl) (by kernel_rfl) (fun _ _ _ h => h) (Or.inl ⟨by rfl, ?_⟩) (by assumption) ?_
      rotate_left
      · intro w' hSw; (try dsimp only at hSw); go_simp; (try with_reducible rfl)
      simp only [Act.put, List.setIfInBounds_toArray, List.set_cons_zero, List.set_cons_succ]
      refine wpAnyH_take (i := 2) (oi := _) (v := ?_) rfl (by kernel_rfl) (by kernel_rfl) (by kernel_rfl) (fun _ _ _ h => h) (Or.inl ⟨by rfl, ?_⟩) (by assumption) ?_
      rotate_left
      · intro w' hSw; (try dsimp only at hSw); go_simp; (try with_reducible rfl)
      simp only [Act.put, List.setIfInBounds_toArray, List.set_cons_zero, List.set_cons_succ]
      refine wpAnyH_take (i := 3) (oi := _) (v := ?_) rfl (by kernel_rfl) (by kernel_rfl) (by kernel_rfl) (fun _ _ _ h => h) (Or.inl ⟨by rfl, ?_⟩) (by assumption) ?_
      rotate_left
      · intro w' hSw; (try dsimp only at hSw); go_simp; (try with_reducible rfl)
      simp only [Act.put, List.setIfInBounds_toArray, List.set_cons_zero, List.set_cons_succ]
      refine wpAnyH_take (i := 4) (oi := _) (v := ?_) rfl (by kernel_rfl) (by kernel_rfl) (by kernel_rfl) (fun _ _ _ h => h) (Or.inl ⟨by rfl, ?_⟩) (by assumption) ?_
      rotate_left
      · intro w' hSw; (try dsimp only at hSw); go_simp; (try with_reducible rfl)
      simp only [Act.put, List.setIfInBounds_toArray, List.set_cons_zero, List.set_cons_succ]
      refine wpAnyH_ready (rs := [5]) (by kernel_rfl) (by simp) ?_
      refine AllReadyH.cons rfl (fun K hK => ?_) ?_
      · go_simp
        refine (KT.out _ (Below.refl _ _).drew).mono ?_
        rintro e w3 ⟨rfl, t3, b3⟩
        have HB3 : Hid (BuE (fun b => b = fb ∨ b = hb) W'.heap.size W' w3) := (BuE.ofB (Below.refl W'.heap.size W').drew).trans (BuE.of b3.out (Or.inl rfl))
        have HT3 : Hid (FoAt w3 fb n rD) := t3.out
        have HQ3 : Hid (CgAt w3 hb qc) := (b3.out.block hb HCQ.out.lt (by have := HFC.out; omega)).trans HCQ.out
        have HM3 : Hid (ComAt w3 (hb + 1) cm) := (b3.out.block (hb + 1) HCB.out.lt (by have := HFC.out; omega)).trans HCB.out
        refine hK.out _ _ (HSS.out _ HB3.out) (fun hHeld => ?_)
        clear hK K t3 b3
        have HV3 : Hid (∀ d, BuE (fun b => b = fb ∨ b = hb) W'.heap.size W' (w3.setCell ⟨hb, 0, none⟩ (.bool d))) := fun d => HB3.out.then (BuE.of (But.setCell (But.refl _ _ _) (p := ⟨hb, 0, none⟩) rfl _) (Or.inr rfl)) HB3.out.size
        have qz : w3.cell? ⟨hb, 0, none⟩ = some (.bool qc) := HQ3.out.cell
        have qf : w3.frozen? ⟨hb, 0, none⟩ = false := HQ3.out.frz
        have ql : hb < w3.heap.size := HQ3.out.lt
        have HFIN : Hid (∀ d, d = rc → ∀ w6, Below (w3.setCell ⟨hb, 0, none⟩ (.bool d)).heap.size (w3.setCell ⟨hb, 0, none⟩ (.bool d)) w6 → ComAt w6 (hb + 1) cm ∧ (KeepsFrom w5.heap.size W' (setC w6 (hb + 1) am) ∧ Bc X W' (setC w6 (hb + 1) am) ∧ (w5.heap.size ≤ (setC w6 (hb + 1) am).heap.size ∧ (pre ++ [x]).length ≤ zl ∧ ∃ x' : Fs, CgAt (setC w6 (hb + 1) am) hb x'.1 ∧ FoAt (setC w6 (hb + 1) am) fb n x'.2.1 ∧ ComAt (setC w6 (hb + 1) am) (hb + 1) x'.2.2 ∧ okF x'.2.1 ∧ okB x'.2.2.1 ∧ BuE X w5.heap.size w5 (setC w6 (hb + 1) am) ∧ (pre ++ [x] = dwn zl (pre ++ [x]).length → x' = folF E B D c0 (l.drop (zl - (pre ++ [x]).length)))))) := fun d hd w6 h6 => by
          have hx : But w3.heap.size hb w3 (w3.setCell ⟨hb, 0, none⟩ (.bool d)) := (But.refl _ _ _).setCell (p := ⟨hb, 0, none⟩) rfl _
          have h4 := HFC.out
          exact HF6.out _ w6 (HUB.out _ (HV3.out d)) (by rw [← hd]; exact HQ3.out.set d) ((hx.block fb (block_lt HT3.out) (by omega)).trans HT3.out) ((hx.block (hb + 1) (block_lt HM3.out) (by omega)).trans HM3.out) h6
        cases ul
        · --SE
          refine wpAnyH_take (i := 6) (oi := _) (v := ?_) rfl (by kernel_rfl) (by kernel_rfl) (by kernel_rfl) (fun _ _ _ h => h) (Or.inl ⟨by rfl, ?_⟩) (by assumption) ?_
          rotate_left
          · intro w' hSw; (try dsimp only at hSw); go_simp; (try with_reducible rfl)
          simp only [Act.put, List.setIfInBounds_toArray, List.set_cons_zero, List.set_cons_succ]
          refine wpAnyH_ready (rs := [7]) (by kernel_rfl) (by simp) ?_
          refine AllReadyH.cons rfl (fun K hK => ?_) ?_
          · go_simp
            refine hK.out _ _ (HSS.out _ HB3.out) (fun hHeld => ?_)
            clear hK K
            refine wpAnyH_take (i := 8) (oi := _) (v := ?_) rfl (by kernel_rfl) (by kernel_rfl) (by kernel_rfl) (fun _ _ _ h => h) (Or.inl ⟨by rfl, ?_⟩) (by assumption) ?_
            rotate_left
            · intro w' hSw; (try dsimp only at hSw); go_simp; (try with_reducible rfl)
            simp only [Act.put, List.setIfInBounds_toArray, List.set_cons_zero, List.set_cons_succ]
            refine wpAnyH_ready (rs := [9]) (by kernel_rfl) (by simp) ?_
            refine AllReadyH.cons rfl (fun K hK => ?_) ?_
            · go_simp
              refine hK.out _ _ (HSS.out _ (HV3.out _)) (fun hHeld => ?_)
              clear hK K
              refine wpAnyH_done (by kernel_rfl) ?_ _
              obtain ⟨V, hV⟩ : ∃ V, V = w3.setCell ⟨hb, 0, none⟩ (.bool qc) := ⟨_, rfl⟩
              have HFV : Hid (∀ w6, Below V.heap.size V w6 → _) := fun w6 h6 => HFIN.out qc (by rw [HE1.out]; rfl) w6 (by rw [← hV]; exact h6)
              have HUV : Hid (BuE X W'.heap.size W' V) := by rw [hV]; exact HUB.out _ (HV3.out qc)
              have HVM : Hid (ComAt V (hb + 1) cm) := by
                show _ = _
                rw [hV]
                exact (((But.refl w3.heap.size hb w3).setCell (p := ⟨hb, 0, none⟩) rfl _).block (hb + 1) (block_lt HM3.out) (by omega)).trans HM3.out
              obtain ⟨hJ, hBv⟩ := HJW.out V HUV.out
              have KAH := hid_ofF (HAH.out V HUV.out)
              have z0 := hJ.z0
              have z1 := hJ.z1
              have b0 : V.cell? ⟨Bx, 0, none⟩ = some (.int .i64 (i : Int)) := Lib.cell_of_heap hBv 0
              have b1 : V.cell? ⟨Bx, 1, none⟩ = some (.int .i64 lo) := Lib.cell_of_heap hBv 1
              have b2 : V.cell? ⟨Bx, 2, none⟩ = some (.int .i64 up) := Lib.cell_of_heap hBv 2
              have c0' : V.cell? ⟨hb + 1, 0, none⟩ = some (.int .u64 ((cm.1 0 : Nat) : Int)) := HVM.out.cell rfl
              have c1' : V.cell? ⟨hb + 1, 1, none⟩ = some (.int .u64 ((cm.1 1 : Nat) : Int)) := HVM.out.cell rfl
              have c2' : V.cell? ⟨hb + 1, 2, none⟩ = some (.int .u64 ((cm.1 2 : Nat) : Int)) := HVM.out.cell rfl
              have c3' : V.cell? ⟨hb + 1, 3, none⟩ = some (.int .u64 ((cm.1 3 : Nat) : Int)) := HVM.out.cell rfl
              have c4' : V.cell? ⟨hb + 1, 4, none⟩ = some (.bool cm.2) := HVM.out.cell rfl
              rw [← hV]
              clear hV hJ hBv qz qf ql hHeld
              gi_wp2_with (refine ⟨trivial, ?_⟩; gi_at_call 36; refine (CallsIn.inRound l' (callsIn_wide.2 KAH.out)).mono ?_; rintro e w6 ⟨rfl, b6⟩; obtain ⟨h6, f3⟩ := HFV.out w6 b6.out; have F3 : Hid _ := f3; have r0 := h6.cell (k := 0) rfl; have r1 := h6.cell (k := 1) rfl; have r2 := h6.cell (k := 2) rfl; have r3 := h6.cell (k := 3) rfl; have r4 := h6.cell (k := 4) rfl; have f0 := h6.frz 0; have f1 := h6.frz 1; have f2 := h6.frz 2; have f33 := h6.frz 3; have f4 := h6.frz 4; have rl := h6.lt; clear f3 b6 h6)
              exact F3.out
            exact AllReadyH.nil
          exact AllReadyH.nil
        · --SF
          refine wpAnyH_take (i := 6) (oi := _) (v := ?_) rfl (by kernel_rfl) (by kernel_rfl) (by kernel_rfl) (fun _ _ _ h => h) (Or.inl ⟨by rfl, ?_⟩) (by assumption) ?_
          rotate_left
          · intro w' hSw; (try dsimp only at hSw); go_simp; (try with_reducible rfl)
          simp only [Act.put, List.setIfInBounds_toArray, List.set_cons_zero, List.set_cons_succ]
          refine wpAnyH_take (i := 7) (oi := _) (v := undef) rfl (by kernel_rfl) (by kernel_rfl) (by kernel_rfl) (fun _ _ _ h => h) (Or.inr ⟨by rfl, rfl⟩) (by assumption) ?_
          simp only [Act.put, List.setIfInBounds_toArray, List.set_cons_zero, List.set_cons_succ]
          refine wpAnyH_take (i := 8) (oi := _) (v := ?_) rfl (by kernel_rfl) (by kernel_rfl) (by kernel_rfl) (fun _ _ _ h => h) (Or.inl ⟨by rfl, ?_⟩) (by assumption) ?_
          rotate_left
          · intro w' hSw; (try dsimp only at hSw); go_simp; (try with_reducible rfl)
          simp only [Act.put, List.setIfInBounds_toArray, List.set_cons_zero, List.set_cons_succ]
          refine wpAnyH_ready (rs := [9]) (by kernel_rfl) (by simp) ?_
          refine AllReadyH.cons rfl (fun K hK => ?_) ?_
          · go_simp
            refine hK.out _ _ (HSS.out _ (HV3.out _)) (fun hHeld => ?_)
            clear hK K
            refine wpAnyH_done (by kernel_rfl) ?_ _
            obtain ⟨V, hV⟩ : ∃ V, V = w3.setCell ⟨hb, 0, none⟩ (.bool true) := ⟨_, rfl⟩
            have HFV : Hid (∀ w6, Below V.heap.size V w6 → _) := fun w6 h6 => HFIN.out true (by rw [HE1.out]; rfl) w6 (by rw [← hV]; exact h6)
            have HUV : Hid (BuE X W'.heap.size W' V) := by rw [hV]; exact HUB.out _ (HV3.out true)
            have HVM : Hid (ComAt V (hb + 1) cm) := by
              show _ = _
              rw [hV]
              exact (((But.refl w3.heap.size hb w3).setCell (p := ⟨hb, 0, none⟩) rfl _).block (hb + 1) (block_lt HM3.out) (by omega)).trans HM3.out
            obtain ⟨hJ, hBv⟩ := HJW.out V HUV.out
            have KAH := hid_ofF (HAH.out V HUV.out)
            have z0 := hJ.z0
            have z1 := hJ.z1
            have b0 : V.cell? ⟨Bx, 0, none⟩ = some (.int .i64 (i : Int)) := Lib.cell_of_heap hBv 0
            have b1 : V.cell? ⟨Bx, 1, none⟩ = some (.int .i64 lo) := Lib.cell_of_heap hBv 1
            have b2 : V.cell? ⟨Bx, 2, none⟩ = some (.int .i64 up) := Lib.cell_of_heap hBv 2
            have c0' : V.cell? ⟨hb + 1, 0, none⟩ = some (.int .u64 ((cm.1 0 : Nat) : Int)) := HVM.out.cell rfl
            have c1' : V.cell? ⟨hb + 1, 1, none⟩ = some (.int .u64 ((cm.1 1 : Nat) : Int)) := HVM.out.cell rfl
            have c2' : V.cell? ⟨hb + 1, 2, none⟩ = some (.int .u64 ((cm.1 2 : Nat) : Int)) := HVM.out.cell rfl
            have c3' : V.cell? ⟨hb + 1, 3, none⟩ = some (.int .u64 ((cm.1 3 : Nat) : Int)) := HVM.out.cell rfl
            have c4' : V.cell? ⟨hb + 1, 4, none⟩ = some (.bool cm.2) := HVM.out.cell rfl
            rw [← hV]
            clear hV hJ hBv qz qf ql hHeld
            gi_wp2_with (refine ⟨trivial, ?_⟩; gi_at_call 36; refine (CallsIn.inRound l' (callsIn_wide.2 KAH.out)).mono ?_; rintro e w6 ⟨rfl, b6⟩; obtain ⟨h6, f3⟩ := HFV.out w6 b6.out; have F3 : Hid _ := f3; have r0 := h6.cell (k := 0) rfl; have r1 := h6.cell (k := 1) rfl; have r2 := h6.cell (k := 2) rfl; have r3 := h6.cell (k := 3) rfl; have r4 := h6.cell (k := 4) rfl; have f0 := h6.frz 0; have f1 := h6.frz 1; have f2 := h6.frz 2; have f33 := h6.frz 3; have f4 := h6.frz 4; have rl := h6.lt; clear f3 b6 h6)
            exact F3.out
          exact AllReadyH.nil
      exact AllReadyH.nil
  case done =>
    rintro D2 xs W' hD2 rfl ⟨hw1, hw2, q, hcq, hfq, hc, okq, okc, hbu, hzz⟩ hK2
    have hq : q = folF E B D c0 l := by
      have h := hzz (by rw [dwn_len, HZL.out])
      rw [dwn_len, HZL.out, Nat.sub_self, List.drop_zero] at h
      exact h
    have HBU : Hid (BuE X w5.heap.size w5 W') := hbu
    have HM2 : Hid (Marks w5.heap.size [{ target := .collected D2, args := #[] }] W') := ⟨⟨D2, rfl, hD2, hK2, fun d' hd' => by cases hd'⟩, trivial⟩
    obtain ⟨qc, qD, cm⟩ := q
    have qz : W'.cell? ⟨hb, 0, none⟩ = some (.bool qc) := hcq.cell
    have HFQ : Hid (FoAt W' fb n qD) := hfq
    have HTR : Hid (trF E B D (k : Int) l = (qc, qD)) := by
      show _ = _
      unfold trF
      rw [Int.toNat_natCast, ← HC0.out, ← hq]
    clear hq hc okc okq hbu hzz hw1 hw2 hK2 hD2 x5 hcm hcg hD5 hcq hfq
    go_wp2
    refine leaves_marks (v := .bool qc) (fun w9 => results_tmp (t := 6) rfl _ _ _) _ _ HM2.out ?_
    intro w' q1 q2 q3 q4 q5
    have h3 := HFB.out
    have h4 := H5S.out
    have h5 := HCW.out
    rw [HTR.out]
    refine ⟨rfl, (q5 fb (Or.inl (by omega))).trans HFQ.out, ?_⟩
    have hA : BuE (fun b => b = fb) w.heap.size w W' := (BuE.ofB (by rw [← h5]; exact HB5.out)).trans ((HBU.out.mono (by omega)).less fun k hk e => by rcases HXL.out k e with e | e | e <;> omega)
    exact ⟨q1.trans hA.os, q2.trans hA.tape, q3.trans hA.output, by rw [q4]; exact hA.size, fun i hi hx => (q5 i (Or.inl (by omega))).trans (hA.block i hi hx)⟩
end Go.Proofs.Ytopokicdgdjgkaa
