/- take (package first): what is coming is added to what is known. -/
import Derived.Test.YtopokicdgdjgkaaFirB
import Derived.Test.YtopokicdgdjgkaaFirQ
namespace Go.Proofs.Ytopokicdgdjgkaa
set_option linter.unusedVariables false
set_option linter.unusedSimpArgs false
open Go.ChangeShapes Go.WideShapes Go.ChangeAt Go.RowKit Go.Shelf

abbrev Fo := (Nat → Nat) × Bool
def orF (a b : Fo) : Fo := (orB a.1 b.1, a.2 || b.2)
def unlikeF (a b : Fo) : Bool := !((a.1 0 == b.1 0) && ((a.1 1 == b.1 1) && ((a.1 2 == b.1 2) && ((a.1 3 == b.1 3) && (a.2 == b.2)))))
def foV (c : Fo) (j : Nat) : Value := if j = 4 then .bool c.2 else .int .u64 ((c.1 j : Nat) : Int)
/-- Rows of what may come: five cells each. -/
def fosA (n : Nat) (B : Nat → Fo) : Array Value := ((List.range (n * 5)).map fun j => foV (B (j / 5)) (j % 5)).toArray
def FoAt (w : World) (b n : Nat) (B : Nat → Fo) : Prop := w.heap[b]? = some (.cells (fosA n B) 55)
def updF (B : Nat → Fo) (h : Nat) (a : Fo) : Nat → Fo := fun k => if k = h then a else B k
theorem fosA_get (n : Nat) (B : Nat → Fo) (i : Nat) : (fosA n B)[i]? = if i < n * 5 then some (foV (B (i / 5)) (i % 5)) else none := by
  unfold fosA
  by_cases h : i < n * 5
  · rw [if_pos h]; simp only [List.getElem?_toArray, List.getElem?_map, List.getElem?_range h, Option.map_some]
  · rw [if_neg h]; simp only [List.getElem?_toArray]; rw [List.getElem?_eq_none]; simp; omega
theorem fosA_size (n : Nat) (B : Nat → Fo) : (fosA n B).size = n * 5 := by unfold fosA; simp
theorem fosA_at {n : Nat} (B : Nat → Fo) {i j : Nat} (hi : i < n) (hj : j < 5) : (fosA n B)[i * 5 + j]? = some (foV (B i) j) := by
  rw [fosA_get, if_pos (by omega), show (i * 5 + j) / 5 = i by omega, show (i * 5 + j) % 5 = j by omega]
theorem FoAt.cell {w : World} {b n : Nat} {B : Nat → Fo} (h : FoAt w b n B) {i j : Nat} (hi : i < n) (hj : j < 5) : w.cell? ⟨b, i * 5 + j, none⟩ = some (foV (B i) j) := (Lib.cell_of_heap h _).trans (fosA_at B hi hj)
theorem fosA_put {n k : Nat} (B : Nat → Fo) (a : Fo) (hk : k < n) :
    (((((fosA n B).setIfInBounds (k * 5) (foV a 0)).setIfInBounds (k * 5 + 1) (foV a 1)).setIfInBounds (k * 5 + 2) (foV a 2)).setIfInBounds (k * 5 + 3) (foV a 3)).setIfInBounds (k * 5 + 4) (foV a 4) = fosA n (updF B k a) := by
  apply Array.ext_getElem?
  intro i
  simp only [Array.getElem?_setIfInBounds, Array.size_setIfInBounds, fosA_size, fosA_get]
  unfold updF
  by_cases h4 : k * 5 + 4 = i
  · subst h4
    rw [if_pos rfl, if_pos (by omega), if_pos (by omega), show (k * 5 + 4) / 5 = k by omega, show (k * 5 + 4) % 5 = 4 by omega, if_pos rfl]
  rw [if_neg h4]
  by_cases h3 : k * 5 + 3 = i
  · subst h3
    rw [if_pos rfl, if_pos (by omega), if_pos (by omega), show (k * 5 + 3) / 5 = k by omega, show (k * 5 + 3) % 5 = 3 by omega, if_pos rfl]
  rw [if_neg h3]
  by_cases h2 : k * 5 + 2 = i
  · subst h2
    rw [if_pos rfl, if_pos (by omega), if_pos (by omega), show (k * 5 + 2) / 5 = k by omega, show (k * 5 + 2) % 5 = 2 by omega, if_pos rfl]
  rw [if_neg h2]
  by_cases h1 : k * 5 + 1 = i
  · subst h1
    rw [if_pos rfl, if_pos (by omega), if_pos (by omega), show (k * 5 + 1) / 5 = k by omega, show (k * 5 + 1) % 5 = 1 by omega, if_pos rfl]
  rw [if_neg h1]
  by_cases h0 : k * 5 = i
  · subst h0
    rw [if_pos rfl, if_pos (by omega), if_pos (by omega), show (k * 5) / 5 = k by omega, show (k * 5) % 5 = 0 by omega, if_pos rfl]
  rw [if_neg h0]
  by_cases hi : i < n * 5
  · rw [if_pos hi, if_pos hi, if_neg (by omega)]
  · rw [if_neg hi, if_neg hi]
abbrev setO (w : World) (b k : Nat) (a : Fo) : World := ((((w.setCell ⟨b, k * 5, none⟩ (.int .u64 ((a.1 0 : Nat) : Int))).setCell ⟨b, k * 5 + 1, none⟩ (.int .u64 ((a.1 1 : Nat) : Int))).setCell ⟨b, k * 5 + 2, none⟩ (.int .u64 ((a.1 2 : Nat) : Int))).setCell ⟨b, k * 5 + 3, none⟩ (.int .u64 ((a.1 3 : Nat) : Int))).setCell ⟨b, k * 5 + 4, none⟩ (.bool a.2)
theorem FoAt.put5 {w : World} {b n k : Nat} {B : Nat → Fo} (h : FoAt w b n B) (hk : k < n) (a : Fo) : FoAt (setO w b k a) b n (updF B k a) := by
  have h0 := heap_setCell_same w b (k * 5) _ _ (foV a 0) h
  have h1 := heap_setCell_same _ b (k * 5 + 1) _ _ (foV a 1) h0
  have h2 := heap_setCell_same _ b (k * 5 + 2) _ _ (foV a 2) h1
  have h3 := heap_setCell_same _ b (k * 5 + 3) _ _ (foV a 3) h2
  have h4 := heap_setCell_same _ b (k * 5 + 4) _ _ (foV a 4) h3
  rw [fosA_put B a hk] at h4
  exact h4
theorem but_setO {B b : Nat} {a w : World} (h : But B b a w) (k : Nat) (c : Fo) : But B b a (setO w b k c) := but_setF (but_setF (but_setF (but_setF (but_setF h _) _) _) _) _
set_option maxHeartbeats 8000000 in
set_option maxRecDepth 100000 in
theorem take_any (B : Nat → Fo) (c : Fo) (fb n i : Nat) (w : World) (hi : i < n) (hB : FoAt w fb n B) (okB' : okB (B i).1) (okc : okB c.1) :
    Calls Try.prog 39 #[.pointer (some ⟨fb, i * 5, none⟩), fv c] w fun e w' => e = .returned (.bool (unlikeF (orF (B i) c) (B i))) ∧ Hid (FoAt w' fb n (updF B i (orF (B i) c))) ∧ Hid (But w.heap.size fb w w') := by
  obtain ⟨W2, hW2⟩ : ∃ x, x = w.alloc (.cells (fc c) 55) := ⟨_, rfl⟩
  obtain ⟨cb, hcb⟩ : ∃ b, b = w.heap.size := ⟨_, rfl⟩
  have hb2 : Below w.heap.size w W2 := by rw [hW2]; exact bel1 w _
  have HBW : Hid (Below w.heap.size w W2) := hb2
  have hcm : ComAt W2 cb c := by rw [hW2, hcb]; exact heap_alloc_new _ _
  have hB2 : FoAt W2 fb n B := (hb2.block fb (block_lt hB)).trans hB
  have HBY : Hid (FoAt W2 fb n B) := hB2
  have HLB : Hid (fb < w.heap.size ∧ w.heap.size ≤ W2.heap.size) := ⟨block_lt hB, hb2.size⟩
  have HI : Hid (i < n) := hi
  obtain ⟨k, hk⟩ : ∃ k, k = B i := ⟨_, rfl⟩
  have b0 : W2.cell? ⟨fb, i * 5, none⟩ = some (.int .u64 ((k.1 0 : Nat) : Int)) := by rw [hk]; exact hB2.cell (j := 0) hi (by omega)
  have b1 : W2.cell? ⟨fb, i * 5 + 1, none⟩ = some (.int .u64 ((k.1 1 : Nat) : Int)) := by rw [hk]; exact hB2.cell (j := 1) hi (by omega)
  have b2 : W2.cell? ⟨fb, i * 5 + 2, none⟩ = some (.int .u64 ((k.1 2 : Nat) : Int)) := by rw [hk]; exact hB2.cell (j := 2) hi (by omega)
  have b3 : W2.cell? ⟨fb, i * 5 + 3, none⟩ = some (.int .u64 ((k.1 3 : Nat) : Int)) := by rw [hk]; exact hB2.cell (j := 3) hi (by omega)
  have b4 : W2.cell? ⟨fb, i * 5 + 4, none⟩ = some (.bool k.2) := by rw [hk]; exact hB2.cell (j := 4) hi (by omega)
  have c0 : W2.cell? ⟨cb, 0, none⟩ = some (.int .u64 ((c.1 0 : Nat) : Int)) := hcm.cell rfl
  have c1 : W2.cell? ⟨cb, 1, none⟩ = some (.int .u64 ((c.1 1 : Nat) : Int)) := hcm.cell rfl
  have c2 : W2.cell? ⟨cb, 2, none⟩ = some (.int .u64 ((c.1 2 : Nat) : Int)) := hcm.cell rfl
  have c3 : W2.cell? ⟨cb, 3, none⟩ = some (.int .u64 ((c.1 3 : Nat) : Int)) := hcm.cell rfl
  have c4 : W2.cell? ⟨cb, 4, none⟩ = some (.bool c.2) := hcm.cell rfl
  rw [← hk] at okB' ⊢
  obtain ⟨r, hr⟩ : ∃ r, r = orB k.1 c.1 := ⟨_, rfl⟩
  have KO : Hid (∀ W, Calls Try.prog 37 #[bv k.1, bv c.1] W fun e w' => e = .returned (bv r) ∧ Below W.heap.size W w') := fun W => by rw [hr]; exact or_any k.1 c.1 W okB' okc
  obtain ⟨f, hf⟩ : ∃ f, f = orF k c := ⟨_, rfl⟩
  rw [← hf]
  have hf1 : f = (r, k.2 || c.2) := by rw [hf, hr]; rfl
  clear hf hr okB' okc hk hB hB2 hcm hb2
  go_enter Try.func39, Try.ntmps39
  go_upto_region 1 with fail
  rw [show w.alloc (.cells #[.int .u64 ((c.1 0 : Nat) : Int), .int .u64 ((c.1 1 : Nat) : Int), .int .u64 ((c.1 2 : Nat) : Int), .int .u64 ((c.1 3 : Nat) : Int), .bool c.2] 55) = W2 from hW2.symm, ← hcb]
  clear hW2 hcb
  go_cut [5] from 6 to 31 (fun t wc => ∃ gx, t = .pointer (some ⟨gx, 0, none⟩) ∧ Hid (W2.heap.size ≤ gx ∧ Below W2.heap.size W2 wc ∧ wc.heap[gx]? = some (.cells (fc f) 55)))
  case first =>
    obtain ⟨ka, kb⟩ := k
    cases kb
    · have hf2 : f = (r, c.2) := hf1
      obtain ⟨fbt, hft⟩ : ∃ x, x = c.2 := ⟨_, rfl⟩
      dsimp only at b0 b1 b2 b3 b4 KO
      have HSS : Hid (∀ w', Below W2.heap.size W2 w' → Below W2.heap.size W2 w' ∧ w'.cell? ⟨fb, i * 5, none⟩ = some (.int .u64 ((ka 0 : Nat) : Int)) ∧ w'.cell? ⟨fb, i * 5 + 1, none⟩ = some (.int .u64 ((ka 1 : Nat) : Int)) ∧ w'.cell? ⟨fb, i * 5 + 2, none⟩ = some (.int .u64 ((ka 2 : Nat) : Int)) ∧ w'.cell? ⟨fb, i * 5 + 3, none⟩ = some (.int .u64 ((ka 3 : Nat) : Int)) ∧ w'.cell? ⟨fb, i * 5 + 4, none⟩ = some (.bool false) ∧ w'.cell? ⟨cb, 0, none⟩ = some (.int .u64 ((c.1 0 : Nat) : Int)) ∧ w'.cell? ⟨cb, 1, none⟩ = some (.int .u64 ((c.1 1 : Nat) : Int)) ∧ w'.cell? ⟨cb, 2, none⟩ = some (.int .u64 ((c.1 2 : Nat) : Int)) ∧ w'.cell? ⟨cb, 3, none⟩ = some (.int .u64 ((c.1 3 : Nat) : Int)) ∧ w'.cell? ⟨cb, 4, none⟩ = some (.bool c.2)) := fun w' h => by
        have T : ∀ {b o : Nat} {v : Value}, W2.cell? ⟨b, o, none⟩ = some v → w'.cell? ⟨b, o, none⟩ = some v := fun hc => (h.cell (p := ⟨_, _, none⟩) (block_lt_of_cell hc)).trans hc
        exact ⟨h, T b0, T b1, T b2, T b3, T b4, T c0, T c1, T c2, T c3, T c4⟩
      refine wp_region_noPanic ?_
      obtain ⟨V0, hV0⟩ : ∃ V, V = W2.drew := ⟨_, rfl⟩
      have HB0 : Hid (Below W2.heap.size W2 V0) := by show Below _ _ _; rw [hV0]; exact (Below.refl _ _).drew
      refine wp_region_held_drew (S := fun w' => Below W2.heap.size W2 w' ∧ w'.cell? ⟨fb, i * 5, none⟩ = some (.int .u64 ((ka 0 : Nat) : Int)) ∧ w'.cell? ⟨fb, i * 5 + 1, none⟩ = some (.int .u64 ((ka 1 : Nat) : Int)) ∧ w'.cell? ⟨fb, i * 5 + 2, none⟩ = some (.int .u64 ((ka 2 : Nat) : Int)) ∧ w'.cell? ⟨fb, i * 5 + 3, none⟩ = some (.int .u64 ((ka 3 : Nat) : Int)) ∧ w'.cell? ⟨fb, i * 5 + 4, none⟩ = some (.bool false) ∧ w'.cell? ⟨cb, 0, none⟩ = some (.int .u64 ((c.1 0 : Nat) : Int)) ∧ w'.cell? ⟨cb, 1, none⟩ = some (.int .u64 ((c.1 1 : Nat) : Int)) ∧ w'.cell? ⟨cb, 2, none⟩ = some (.int .u64 ((c.1 2 : Nat) : Int)) ∧ w'.cell? ⟨cb, 3, none⟩ = some (.int .u64 ((c.1 3 : Nat) : Int)) ∧ w'.cell? ⟨cb, 4, none⟩ = some (.bool c.2)) (by kernel_rfl) (by rw [← hV0]; exact HSS.out _ HB0.out) (fun hHeld => ?_)
      rw [← hV0] at hHeld ⊢
      clear hV0 b0 b1 b2 b3 b4 c0 c1 c2 c3 c4
      refine wpAnyH_take (i := 0) (oi := _) (v := ?_) rfl (by kernel_rfl) (by kernel_rfl) (by kernel_rfl) (fun _ _ _ h => h) (Or.inl ⟨by rfl, ?_⟩) (by assumption) ?_
      rotate_left
      · intro w' hSw; (try dsimp only at hSw); go_simp; (try with_reducible rfl)
      simp only [Act.put, List.setIfInBounds_toArray, List.set_cons_zero, List.set_cons_succ]
      refine wpAnyH_take (i := 1) (oi := _) (v := ?_) rfl (by kernel_rfl) (by kernel_rfl) (by kernel_rfl) (fun _ _ _ h => h) (Or.inl ⟨by rfl, ?_⟩) (by assumption) ?_
      rotate_left
      · intro w' hSw; (try dsimp only at hSw); go_simp; (try with_reducible rfl)
      simp only [Act.put, List.setIfInBounds_toArray, List.set_cons_zero, List.set_cons_succ]
      refine wpAnyH_take (i := 2) (oi := _) (v := ?_) rfl (by kernel_rfl) (by kernel_rfl) (by kernel_rfl) (fun _ _ _ h => h) (Or.inl ⟨by rfl, ?_⟩) (by assumption) ?_
      rotate_left
      · intro w' hSw; (try dsimp only at hSw); go_simp; (try with_reducible rfl)
      simp only [Act.put, List.setIfInBounds_toArray, List.set_cons_zero, List.set_cons_succ]
      refine wpAnyH_take (i := 3) (oi := _) (v := ?_) rfl (by kernel_rfl) (by kernel_rfl) (by kernel_rfl) (fun _ _ _ h => h) (Or.inl ⟨by rfl, ?_⟩) (by assumption) ?_
      rotate_left
      · intro w' hSw; (try dsimp only at hSw); go_simp; (try with_reducible rfl)
      simp only [Act.put, List.setIfInBounds_toArray, List.set_cons_zero, List.set_cons_succ]
      refine wpAnyH_take (i := 4) (oi := _) (v := ?_) rfl (by kernel_rfl) (by kernel_rfl) (by kernel_rfl) (fun _ _ _ h => h) (Or.inl ⟨by rfl, ?_⟩) (by assumption) ?_
      rotate_left
      · intro w' hSw; (try dsimp only at hSw); go_simp; (try with_reducible rfl)
      simp only [Act.put, List.setIfInBounds_toArray, List.set_cons_zero, List.set_cons_succ]
      refine wpAnyH_take (i := 5) (oi := _) (v := ?_) rfl (by kernel_rfl) (by kernel_rfl) (by kernel_rfl) (fun _ _ _ h => h) (Or.inl ⟨by rfl, ?_⟩) (by assumption) ?_
      rotate_left
      · intro w' hSw; (try dsimp only at hSw); go_simp; (try with_reducible rfl)
      simp only [Act.put, List.setIfInBounds_toArray, List.set_cons_zero, List.set_cons_succ]
      refine wpAnyH_take (i := 7) (oi := _) (v := ?_) rfl (by kernel_rfl) (by kernel_rfl) (by kernel_rfl) (fun _ _ _ h => h) (Or.inl ⟨by rfl, ?_⟩) (by assumption) ?_
      rotate_left
      · intro w' hSw; (try dsimp only at hSw); go_simp; (try with_reducible rfl)
      simp only [Act.put, List.setIfInBounds_toArray, List.set_cons_zero, List.set_cons_succ]
      refine wpAnyH_take (i := 8) (oi := _) (v := ?_) rfl (by kernel_rfl) (by kernel_rfl) (by kernel_rfl) (fun _ _ _ h => h) (Or.inl ⟨by rfl, ?_⟩) (by assumption) ?_
      rotate_left
      · intro w' hSw; (try dsimp only at hSw); go_simp; (try with_reducible rfl)
      simp only [Act.put, List.setIfInBounds_toArray, List.set_cons_zero, List.set_cons_succ]
      refine wpAnyH_take (i := 9) (oi := _) (v := ?_) rfl (by kernel_rfl) (by kernel_rfl) (by kernel_rfl) (fun _ _ _ h => h) (Or.inl ⟨by rfl, ?_⟩) (by assumption) ?_
      rotate_left
      · intro w' hSw; (try dsimp only at hSw); go_simp; (try with_reducible rfl)
      simp only [Act.put, List.setIfInBounds_toArray, List.set_cons_zero, List.set_cons_succ]
      refine wpAnyH_take (i := 10) (oi := _) (v := ?_) rfl (by kernel_rfl) (by kernel_rfl) (by kernel_rfl) (fun _ _ _ h => h) (Or.inl ⟨by rfl, ?_⟩) (by assumption) ?_
      rotate_left
      · intro w' hSw; (try dsimp only at hSw); go_simp; (try with_reducible rfl)
      simp only [Act.put, List.setIfInBounds_toArray, List.set_cons_zero, List.set_cons_succ]
      refine wpAnyH_ready (rs := [6, 16]) (by kernel_rfl) (by simp) ?_
      refine AllReadyH.cons rfl (fun K hK => ?_) ?_
      · go_simp
        refine (KO.out _).mono ?_
        rintro e V1 ⟨rfl, b2'⟩
        have HB1 : Hid (Below W2.heap.size W2 V1) := HB0.out.trans (b2'.mono HB0.out.size)
        refine hK.out _ _ (HSS.out _ HB1.out) (fun hHeld => ?_)
        clear hK K b2'
        refine wpAnyH_take (i := 11) (oi := _) (v := ?_) rfl (by kernel_rfl) (by kernel_rfl) (by kernel_rfl) (fun _ _ _ h => h) (Or.inl ⟨by rfl, ?_⟩) (by assumption) ?_
        rotate_left
        · intro w' hSw; (try dsimp only at hSw); go_simp; (try with_reducible rfl)
        simp only [Act.put, List.setIfInBounds_toArray, List.set_cons_zero, List.set_cons_succ]
        refine wpAnyH_take (i := 12) (oi := _) (v := ?_) rfl (by kernel_rfl) (by kernel_rfl) (by kernel_rfl) (fun _ _ _ h => h) (Or.inl ⟨by rfl, ?_⟩) (by assumption) ?_
        rotate_left
        · intro w' hSw; (try dsimp only at hSw); go_simp; (try with_reducible rfl)
        simp only [Act.put, List.setIfInBounds_toArray, List.set_cons_zero, List.set_cons_succ]
        refine wpAnyH_take (i := 13) (oi := _) (v := ?_) rfl (by kernel_rfl) (by kernel_rfl) (by kernel_rfl) (fun _ _ _ h => h) (Or.inl ⟨by rfl, ?_⟩) (by assumption) ?_
        rotate_left
        · intro w' hSw; (try dsimp only at hSw); go_simp; (try with_reducible rfl)
        simp only [Act.put, List.setIfInBounds_toArray, List.set_cons_zero, List.set_cons_succ]
        refine wpAnyH_take (i := 14) (oi := _) (v := ?_) rfl (by kernel_rfl) (by kernel_rfl) (by kernel_rfl) (fun _ _ _ h => h) (Or.inl ⟨by rfl, ?_⟩) (by assumption) ?_
        rotate_left
        · intro w' hSw; (try dsimp only at hSw); go_simp; (try with_reducible rfl)
        simp only [Act.put, List.setIfInBounds_toArray, List.set_cons_zero, List.set_cons_succ]
        refine wpAnyH_take (i := 15) (oi := _) (v := ?_) rfl (by kernel_rfl) (by kernel_rfl) (by kernel_rfl) (fun _ _ _ h => h) (Or.inl ⟨by rfl, ?_⟩) (by assumption) ?_
        rotate_left
        · intro w' hSw; (try dsimp only at hSw); go_simp; (try with_reducible rfl)
        simp only [Act.put, List.setIfInBounds_toArray, List.set_cons_zero, List.set_cons_succ]
        refine wpAnyH_ready (rs := [16]) (by kernel_rfl) (by simp) ?_
        refine AllReadyH.cons rfl (fun K hK => ?_) ?_
        · go_simp
          obtain ⟨V2, hV⟩ : ∃ V, V = V1.alloc (.cells #[.int .u64 0, .int .u64 0, .int .u64 0, .int .u64 0, .bool false] 55) := ⟨_, rfl⟩
          obtain ⟨gx, hx⟩ : ∃ x, x = V1.heap.size := ⟨_, rfl⟩
          have HB2 : Hid (Below W2.heap.size W2 V2) := by show Below _ _ _; rw [hV]; exact HB1.out.alloc HB1.out.size _
          have HGX : Hid (W2.heap.size ≤ gx) := by show _ ≤ _; rw [hx]; exact HB1.out.size
          have HX2 : Hid (V2.heap[gx]? = some (.cells #[.int .u64 0, .int .u64 0, .int .u64 0, .int .u64 0, .bool false] 55)) := by show _ = _; rw [hV, hx]; exact heap_alloc_new _ _
          rw [← hV, ← hx]
          clear hV hx
          refine hK.out _ _ (HSS.out _ HB2.out) (fun hHeld => ?_)
          clear hK K
          have r0 : V2.cell? ⟨gx, 0, none⟩ = some (.int .u64 0) := Lib.cell_of_heap HX2.out 0
          have f0 : V2.frozen? ⟨gx, 0, none⟩ = false := frzV HX2.out 0
          have r1 : V2.cell? ⟨gx, 1, none⟩ = some (.int .u64 0) := Lib.cell_of_heap HX2.out 1
          have f1 : V2.frozen? ⟨gx, 1, none⟩ = false := frzV HX2.out 1
          have r2 : V2.cell? ⟨gx, 2, none⟩ = some (.int .u64 0) := Lib.cell_of_heap HX2.out 2
          have f2 : V2.frozen? ⟨gx, 2, none⟩ = false := frzV HX2.out 2
          have r3 : V2.cell? ⟨gx, 3, none⟩ = some (.int .u64 0) := Lib.cell_of_heap HX2.out 3
          have f3 : V2.frozen? ⟨gx, 3, none⟩ = false := frzV HX2.out 3
          have r4 : V2.cell? ⟨gx, 4, none⟩ = some (.bool false) := Lib.cell_of_heap HX2.out 4
          have f4 : V2.frozen? ⟨gx, 4, none⟩ = false := frzV HX2.out 4
          have rl : gx < V2.heap.size := block_lt HX2.out
          have HST : Hid (∀ fv0 fv1 fv2 fv3 fv4 : Value, Below W2.heap.size W2 (((((V2.setCell ⟨gx, 0, none⟩ fv0).setCell ⟨gx, 1, none⟩ fv1).setCell ⟨gx, 2, none⟩ fv2).setCell ⟨gx, 3, none⟩ fv3).setCell ⟨gx, 4, none⟩ fv4)) := fun _ _ _ _ _ => ((((HB2.out.setCell (p := ⟨gx, 0, none⟩) HGX.out _).setCell (p := ⟨gx, 1, none⟩) HGX.out _).setCell (p := ⟨gx, 2, none⟩) HGX.out _).setCell (p := ⟨gx, 3, none⟩) HGX.out _).setCell (p := ⟨gx, 4, none⟩) HGX.out _
          refine wpAnyH_ready (rs := [17]) (by kernel_rfl) (by simp) ?_
          refine AllReadyH.cons rfl (fun K hK => ?_) ?_
          · go_simp
            refine hK.out _ _ (HSS.out _ (HST.out _ _ _ _ _)) (fun hHeld => ?_)
            clear hK K
            refine wpAnyH_done (by kernel_rfl) ?_ _
            refine NoPanic.normal ?_
            go_wp2
            go_meet
            case rel => exact ⟨gx, rfl, HGX.out, HST.out _ _ _ _ _, by rw [hf2]; exact four_set HX2.out⟩
          exact AllReadyH.nil
        exact AllReadyH.nil
      refine AllReadyH.cons rfl (fun K hK => ?_) ?_
      · go_simp
        obtain ⟨V1, hV⟩ : ∃ V, V = V0.alloc (.cells #[.int .u64 0, .int .u64 0, .int .u64 0, .int .u64 0, .bool false] 55) := ⟨_, rfl⟩
        obtain ⟨gx, hx⟩ : ∃ x, x = V0.heap.size := ⟨_, rfl⟩
        have HB1 : Hid (Below W2.heap.size W2 V1) := by show Below _ _ _; rw [hV]; exact HB0.out.alloc HB0.out.size _
        have HGX : Hid (W2.heap.size ≤ gx) := by show _ ≤ _; rw [hx]; exact HB0.out.size
        have HX1 : Hid (V1.heap[gx]? = some (.cells #[.int .u64 0, .int .u64 0, .int .u64 0, .int .u64 0, .bool false] 55)) := by show _ = _; rw [hV, hx]; exact heap_alloc_new _ _
        rw [← hV, ← hx]
        clear hV hx
        refine hK.out _ _ (HSS.out _ HB1.out) (fun hHeld => ?_)
        clear hK K
        refine wpAnyH_ready (rs := [6]) (by kernel_rfl) (by simp) ?_
        refine AllReadyH.cons rfl (fun K hK => ?_) ?_
        · go_simp
          refine (KO.out _).mono ?_
          rintro e V2 ⟨rfl, b2'⟩
          have HB2 : Hid (Below W2.heap.size W2 V2) := HB1.out.trans (b2'.mono HB1.out.size)
          have HX2 : Hid (V2.heap[gx]? = some (.cells #[.int .u64 0, .int .u64 0, .int .u64 0, .int .u64 0, .bool false] 55)) := (b2'.block gx (block_lt HX1.out)).trans HX1.out
          refine hK.out _ _ (HSS.out _ HB2.out) (fun hHeld => ?_)
          clear hK K b2'
          refine wpAnyH_take (i := 11) (oi := _) (v := ?_) rfl (by kernel_rfl) (by kernel_rfl) (by kernel_rfl) (fun _ _ _ h => h) (Or.inl ⟨by rfl, ?_⟩) (by assumption) ?_
          rotate_left
          · intro w' hSw; (try dsimp only at hSw); go_simp; (try with_reducible rfl)
          simp only [Act.put, List.setIfInBounds_toArray, List.set_cons_zero, List.set_cons_succ]
          refine wpAnyH_take (i := 12) (oi := _) (v := ?_) rfl (by kernel_rfl) (by kernel_rfl) (by kernel_rfl) (fun _ _ _ h => h) (Or.inl ⟨by rfl, ?_⟩) (by assumption) ?_
          rotate_left
          · intro w' hSw; (try dsimp only at hSw); go_simp; (try with_reducible rfl)
          simp only [Act.put, List.setIfInBounds_toArray, List.set_cons_zero, List.set_cons_succ]
          refine wpAnyH_take (i := 13) (oi := _) (v := ?_) rfl (by kernel_rfl) (by kernel_rfl) (by kernel_rfl) (fun _ _ _ h => h) (Or.inl ⟨by rfl, ?_⟩) (by assumption) ?_
          rotate_left
          · intro w' hSw; (try dsimp only at hSw); go_simp; (try with_reducible rfl)
          simp only [Act.put, List.setIfInBounds_toArray, List.set_cons_zero, List.set_cons_succ]
          refine wpAnyH_take (i := 14) (oi := _) (v := ?_) rfl (by kernel_rfl) (by kernel_rfl) (by kernel_rfl) (fun _ _ _ h => h) (Or.inl ⟨by rfl, ?_⟩) (by assumption) ?_
          rotate_left
          · intro w' hSw; (try dsimp only at hSw); go_simp; (try with_reducible rfl)
          simp only [Act.put, List.setIfInBounds_toArray, List.set_cons_zero, List.set_cons_succ]
          refine wpAnyH_take (i := 15) (oi := _) (v := ?_) rfl (by kernel_rfl) (by kernel_rfl) (by kernel_rfl) (fun _ _ _ h => h) (Or.inl ⟨by rfl, ?_⟩) (by assumption) ?_
          rotate_left
          · intro w' hSw; (try dsimp only at hSw); go_simp; (try with_reducible rfl)
          simp only [Act.put, List.setIfInBounds_toArray, List.set_cons_zero, List.set_cons_succ]
          have r0 : V2.cell? ⟨gx, 0, none⟩ = some (.int .u64 0) := Lib.cell_of_heap HX2.out 0
          have f0 : V2.frozen? ⟨gx, 0, none⟩ = false := frzV HX2.out 0
          have r1 : V2.cell? ⟨gx, 1, none⟩ = some (.int .u64 0) := Lib.cell_of_heap HX2.out 1
          have f1 : V2.frozen? ⟨gx, 1, none⟩ = false := frzV HX2.out 1
          have r2 : V2.cell? ⟨gx, 2, none⟩ = some (.int .u64 0) := Lib.cell_of_heap HX2.out 2
          have f2 : V2.frozen? ⟨gx, 2, none⟩ = false := frzV HX2.out 2
          have r3 : V2.cell? ⟨gx, 3, none⟩ = some (.int .u64 0) := Lib.cell_of_heap HX2.out 3
          have f3 : V2.frozen? ⟨gx, 3, none⟩ = false := frzV HX2.out 3
          have r4 : V2.cell? ⟨gx, 4, none⟩ = some (.bool false) := Lib.cell_of_heap HX2.out 4
          have f4 : V2.frozen? ⟨gx, 4, none⟩ = false := frzV HX2.out 4
          have rl : gx < V2.heap.size := block_lt HX2.out
          have HST : Hid (∀ fv0 fv1 fv2 fv3 fv4 : Value, Below W2.heap.size W2 (((((V2.setCell ⟨gx, 0, none⟩ fv0).setCell ⟨gx, 1, none⟩ fv1).setCell ⟨gx, 2, none⟩ fv2).setCell ⟨gx, 3, none⟩ fv3).setCell ⟨gx, 4, none⟩ fv4)) := fun _ _ _ _ _ => ((((HB2.out.setCell (p := ⟨gx, 0, none⟩) HGX.out _).setCell (p := ⟨gx, 1, none⟩) HGX.out _).setCell (p := ⟨gx, 2, none⟩) HGX.out _).setCell (p := ⟨gx, 3, none⟩) HGX.out _).setCell (p := ⟨gx, 4, none⟩) HGX.out _
          refine wpAnyH_ready (rs := [17]) (by kernel_rfl) (by simp) ?_
          refine AllReadyH.cons rfl (fun K hK => ?_) ?_
          · go_simp
            refine hK.out _ _ (HSS.out _ (HST.out _ _ _ _ _)) (fun hHeld => ?_)
            clear hK K
            refine wpAnyH_done (by kernel_rfl) ?_ _
            refine NoPanic.normal ?_
            go_wp2
            go_meet
            case rel => exact ⟨gx, rfl, HGX.out, HST.out _ _ _ _ _, by rw [hf2]; exact four_set HX2.out⟩
          exact AllReadyH.nil
        exact AllReadyH.nil
      exact AllReadyH.nil
    · have hf2 : f = (r, true) := hf1
      dsimp only at b0 b1 b2 b3 b4 KO
      have HSS : Hid (∀ w', Below W2.heap.size W2 w' → Below W2.heap.size W2 w' ∧ w'.cell? ⟨fb, i * 5, none⟩ = some (.int .u64 ((ka 0 : Nat) : Int)) ∧ w'.cell? ⟨fb, i * 5 + 1, none⟩ = some (.int .u64 ((ka 1 : Nat) : Int)) ∧ w'.cell? ⟨fb, i * 5 + 2, none⟩ = some (.int .u64 ((ka 2 : Nat) : Int)) ∧ w'.cell? ⟨fb, i * 5 + 3, none⟩ = some (.int .u64 ((ka 3 : Nat) : Int)) ∧ w'.cell? ⟨fb, i * 5 + 4, none⟩ = some (.bool true) ∧ w'.cell? ⟨cb, 0, none⟩ = some (.int .u64 ((c.1 0 : Nat) : Int)) ∧ w'.cell? ⟨cb, 1, none⟩ = some (.int .u64 ((c.1 1 : Nat) : Int)) ∧ w'.cell? ⟨cb, 2, none⟩ = some (.int .u64 ((c.1 2 : Nat) : Int)) ∧ w'.cell? ⟨cb, 3, none⟩ = some (.int .u64 ((c.1 3 : Nat) : Int)) ∧ w'.cell? ⟨cb, 4, none⟩ = some (.bool c.2)) := fun w' h => by
        have T : ∀ {b o : Nat} {v : Value}, W2.cell? ⟨b, o, none⟩ = some v → w'.cell? ⟨b, o, none⟩ = some v := fun hc => (h.cell (p := ⟨_, _, none⟩) (block_lt_of_cell hc)).trans hc
        exact ⟨h, T b0, T b1, T b2, T b3, T b4, T c0, T c1, T c2, T c3, T c4⟩
      refine wp_region_noPanic ?_
      obtain ⟨V0, hV0⟩ : ∃ V, V = W2.drew := ⟨_, rfl⟩
      have HB0 : Hid (Below W2.heap.size W2 V0) := by show Below _ _ _; rw [hV0]; exact (Below.refl _ _).drew
      refine wp_region_held_drew (S := fun w' => Below W2.heap.size W2 w' ∧ w'.cell? ⟨fb, i * 5, none⟩ = some (.int .u64 ((ka 0 : Nat) : Int)) ∧ w'.cell? ⟨fb, i * 5 + 1, none⟩ = some (.int .u64 ((ka 1 : Nat) : Int)) ∧ w'.cell? ⟨fb, i * 5 + 2, none⟩ = some (.int .u64 ((ka 2 : Nat) : Int)) ∧ w'.cell? ⟨fb, i * 5 + 3, none⟩ = some (.int .u64 ((ka 3 : Nat) : Int)) ∧ w'.cell? ⟨fb, i * 5 + 4, none⟩ = some (.bool true) ∧ w'.cell? ⟨cb, 0, none⟩ = some (.int .u64 ((c.1 0 : Nat) : Int)) ∧ w'.cell? ⟨cb, 1, none⟩ = some (.int .u64 ((c.1 1 : Nat) : Int)) ∧ w'.cell? ⟨cb, 2, none⟩ = some (.int .u64 ((c.1 2 : Nat) : Int)) ∧ w'.cell? ⟨cb, 3, none⟩ = some (.int .u64 ((c.1 3 : Nat) : Int)) ∧ w'.cell? ⟨cb, 4, none⟩ = some (.bool c.2)) (by kernel_rfl) (by rw [← hV0]; exact HSS.out _ HB0.out) (fun hHeld => ?_)
      rw [← hV0] at hHeld ⊢
      clear hV0 b0 b1 b2 b3 b4 c0 c1 c2 c3 c4
      refine wpAnyH_take (i := 0) (oi := _) (v := ?_) rfl (by kernel_rfl) (by kernel_rfl) (by kernel_rfl) (fun _ _ _ h => h) (Or.inl ⟨by rfl, ?_⟩) (by assumption) ?_
      rotate_left
      · intro w' hSw; (try dsimp only at hSw); go_simp; (try with_reducible rfl)
      simp only [Act.put, List.setIfInBounds_toArray, List.set_cons_zero, List.set_cons_succ]
      refine wpAnyH_take (i := 1) (oi := _) (v := ?_) rfl (by kernel_rfl) (by kernel_rfl) (by kernel_rfl) (fun _ _ _ h => h) (Or.inl ⟨by rfl, ?_⟩) (by assumption) ?_
      rotate_left
      · intro w' hSw; (try dsimp only at hSw); go_simp; (try with_reducible rfl)
      simp only [Act.put, List.setIfInBounds_toArray, List.set_cons_zero, List.set_cons_succ]
      refine wpAnyH_take (i := 2) (oi := _) (v := ?_) rfl (by kernel_rfl) (by kernel_rfl) (by kernel_rfl) (fun _ _ _ h => h) (Or.inl ⟨by rfl, ?_⟩) (by assumption) ?_
      rotate_left
      · intro w' hSw; (try dsimp only at hSw); go_simp; (try with_reducible rfl)
      simp only [Act.put, List.setIfInBounds_toArray, List.set_cons_zero, List.set_cons_succ]
      refine wpAnyH_take (i := 3) (oi := _) (v := ?_) rfl (by kernel_rfl) (by kernel_rfl) (by kernel_rfl) (fun _ _ _ h => h) (Or.inl ⟨by rfl, ?_⟩) (by assumption) ?_
      rotate_left
      · intro w' hSw; (try dsimp only at hSw); go_simp; (try with_reducible rfl)
      simp only [Act.put, List.setIfInBounds_toArray, List.set_cons_zero, List.set_cons_succ]
      refine wpAnyH_take (i := 4) (oi := _) (v := ?_) rfl (by kernel_rfl) (by kernel_rfl) (by kernel_rfl) (fun _ _ _ h => h) (Or.inl ⟨by rfl, ?_⟩) (by assumption) ?_
      rotate_left
      · intro w' hSw; (try dsimp only at hSw); go_simp; (try with_reducible rfl)
      simp only [Act.put, List.setIfInBounds_toArray, List.set_cons_zero, List.set_cons_succ]
      refine wpAnyH_take (i := 5) (oi := _) (v := ?_) rfl (by kernel_rfl) (by kernel_rfl) (by kernel_rfl) (fun _ _ _ h => h) (Or.inl ⟨by rfl, ?_⟩) (by assumption) ?_
      rotate_left
      · intro w' hSw; (try dsimp only at hSw); go_simp; (try with_reducible rfl)
      simp only [Act.put, List.setIfInBounds_toArray, List.set_cons_zero, List.set_cons_succ]
      refine wpAnyH_take (i := 7) (oi := _) (v := ?_) rfl (by kernel_rfl) (by kernel_rfl) (by kernel_rfl) (fun _ _ _ h => h) (Or.inl ⟨by rfl, ?_⟩) (by assumption) ?_
      rotate_left
      · intro w' hSw; (try dsimp only at hSw); go_simp; (try with_reducible rfl)
      simp only [Act.put, List.setIfInBounds_toArray, List.set_cons_zero, List.set_cons_succ]
      refine wpAnyH_take (i := 8) (oi := _) (v := ?_) rfl (by kernel_rfl) (by kernel_rfl) (by kernel_rfl) (fun _ _ _ h => h) (Or.inl ⟨by rfl, ?_⟩) (by assumption) ?_
      rotate_left
      · intro w' hSw; (try dsimp only at hSw); go_simp; (try with_reducible rfl)
      simp only [Act.put, List.setIfInBounds_toArray, List.set_cons_zero, List.set_cons_succ]
      refine wpAnyH_take (i := 9) (oi := _) (v := ?_) rfl (by kernel_rfl) (by kernel_rfl) (by kernel_rfl) (fun _ _ _ h => h) (Or.inl ⟨by rfl, ?_⟩) (by assumption) ?_
      rotate_left
      · intro w' hSw; (try dsimp only at hSw); go_simp; (try with_reducible rfl)
      simp only [Act.put, List.setIfInBounds_toArray, List.set_cons_zero, List.set_cons_succ]
      refine wpAnyH_take (i := 10) (oi := _) (v := ?_) rfl (by kernel_rfl) (by kernel_rfl) (by kernel_rfl) (fun _ _ _ h => h) (Or.inl ⟨by rfl, ?_⟩) (by assumption) ?_
      rotate_left
      · intro w' hSw; (try dsimp only at hSw); go_simp; (try with_reducible rfl)
      simp only [Act.put, List.setIfInBounds_toArray, List.set_cons_zero, List.set_cons_succ]
      refine wpAnyH_ready (rs := [6, 16]) (by kernel_rfl) (by simp) ?_
      refine AllReadyH.cons rfl (fun K hK => ?_) ?_
      · go_simp
        refine (KO.out _).mono ?_
        rintro e V1 ⟨rfl, b2'⟩
        have HB1 : Hid (Below W2.heap.size W2 V1) := HB0.out.trans (b2'.mono HB0.out.size)
        refine hK.out _ _ (HSS.out _ HB1.out) (fun hHeld => ?_)
        clear hK K b2'
        refine wpAnyH_take (i := 11) (oi := _) (v := ?_) rfl (by kernel_rfl) (by kernel_rfl) (by kernel_rfl) (fun _ _ _ h => h) (Or.inl ⟨by rfl, ?_⟩) (by assumption) ?_
        rotate_left
        · intro w' hSw; (try dsimp only at hSw); go_simp; (try with_reducible rfl)
        simp only [Act.put, List.setIfInBounds_toArray, List.set_cons_zero, List.set_cons_succ]
        refine wpAnyH_take (i := 12) (oi := _) (v := undef) rfl (by kernel_rfl) (by kernel_rfl) (by kernel_rfl) (fun _ _ _ h => h) (Or.inr ⟨by rfl, rfl⟩) (by assumption) ?_
        simp only [Act.put, List.setIfInBounds_toArray, List.set_cons_zero, List.set_cons_succ]
        refine wpAnyH_take (i := 13) (oi := _) (v := undef) rfl (by kernel_rfl) (by kernel_rfl) (by kernel_rfl) (fun _ _ _ h => h) (Or.inr ⟨by rfl, rfl⟩) (by assumption) ?_
        simp only [Act.put, List.setIfInBounds_toArray, List.set_cons_zero, List.set_cons_succ]
        refine wpAnyH_take (i := 14) (oi := _) (v := ?_) rfl (by kernel_rfl) (by kernel_rfl) (by kernel_rfl) (fun _ _ _ h => h) (Or.inl ⟨by rfl, ?_⟩) (by assumption) ?_
        rotate_left
        · intro w' hSw; (try dsimp only at hSw); go_simp; (try with_reducible rfl)
        simp only [Act.put, List.setIfInBounds_toArray, List.set_cons_zero, List.set_cons_succ]
        refine wpAnyH_take (i := 15) (oi := _) (v := ?_) rfl (by kernel_rfl) (by kernel_rfl) (by kernel_rfl) (fun _ _ _ h => h) (Or.inl ⟨by rfl, ?_⟩) (by assumption) ?_
        rotate_left
        · intro w' hSw; (try dsimp only at hSw); go_simp; (try with_reducible rfl)
        simp only [Act.put, List.setIfInBounds_toArray, List.set_cons_zero, List.set_cons_succ]
        refine wpAnyH_ready (rs := [16]) (by kernel_rfl) (by simp) ?_
        refine AllReadyH.cons rfl (fun K hK => ?_) ?_
        · go_simp
          obtain ⟨V2, hV⟩ : ∃ V, V = V1.alloc (.cells #[.int .u64 0, .int .u64 0, .int .u64 0, .int .u64 0, .bool false] 55) := ⟨_, rfl⟩
          obtain ⟨gx, hx⟩ : ∃ x, x = V1.heap.size := ⟨_, rfl⟩
          have HB2 : Hid (Below W2.heap.size W2 V2) := by show Below _ _ _; rw [hV]; exact HB1.out.alloc HB1.out.size _
          have HGX : Hid (W2.heap.size ≤ gx) := by show _ ≤ _; rw [hx]; exact HB1.out.size
          have HX2 : Hid (V2.heap[gx]? = some (.cells #[.int .u64 0, .int .u64 0, .int .u64 0, .int .u64 0, .bool false] 55)) := by show _ = _; rw [hV, hx]; exact heap_alloc_new _ _
          rw [← hV, ← hx]
          clear hV hx
          refine hK.out _ _ (HSS.out _ HB2.out) (fun hHeld => ?_)
          clear hK K
          have r0 : V2.cell? ⟨gx, 0, none⟩ = some (.int .u64 0) := Lib.cell_of_heap HX2.out 0
          have f0 : V2.frozen? ⟨gx, 0, none⟩ = false := frzV HX2.out 0
          have r1 : V2.cell? ⟨gx, 1, none⟩ = some (.int .u64 0) := Lib.cell_of_heap HX2.out 1
          have f1 : V2.frozen? ⟨gx, 1, none⟩ = false := frzV HX2.out 1
          have r2 : V2.cell? ⟨gx, 2, none⟩ = some (.int .u64 0) := Lib.cell_of_heap HX2.out 2
          have f2 : V2.frozen? ⟨gx, 2, none⟩ = false := frzV HX2.out 2
          have r3 : V2.cell? ⟨gx, 3, none⟩ = some (.int .u64 0) := Lib.cell_of_heap HX2.out 3
          have f3 : V2.frozen? ⟨gx, 3, none⟩ = false := frzV HX2.out 3
          have r4 : V2.cell? ⟨gx, 4, none⟩ = some (.bool false) := Lib.cell_of_heap HX2.out 4
          have f4 : V2.frozen? ⟨gx, 4, none⟩ = false := frzV HX2.out 4
          have rl : gx < V2.heap.size := block_lt HX2.out
          have HST : Hid (∀ fv0 fv1 fv2 fv3 fv4 : Value, Below W2.heap.size W2 (((((V2.setCell ⟨gx, 0, none⟩ fv0).setCell ⟨gx, 1, none⟩ fv1).setCell ⟨gx, 2, none⟩ fv2).setCell ⟨gx, 3, none⟩ fv3).setCell ⟨gx, 4, none⟩ fv4)) := fun _ _ _ _ _ => ((((HB2.out.setCell (p := ⟨gx, 0, none⟩) HGX.out _).setCell (p := ⟨gx, 1, none⟩) HGX.out _).setCell (p := ⟨gx, 2, none⟩) HGX.out _).setCell (p := ⟨gx, 3, none⟩) HGX.out _).setCell (p := ⟨gx, 4, none⟩) HGX.out _
          refine wpAnyH_ready (rs := [17]) (by kernel_rfl) (by simp) ?_
          refine AllReadyH.cons rfl (fun K hK => ?_) ?_
          · go_simp
            refine hK.out _ _ (HSS.out _ (HST.out _ _ _ _ _)) (fun hHeld => ?_)
            clear hK K
            refine wpAnyH_done (by kernel_rfl) ?_ _
            refine NoPanic.normal ?_
            go_wp2
            go_meet
            case rel => exact ⟨gx, rfl, HGX.out, HST.out _ _ _ _ _, by rw [hf2]; exact four_set HX2.out⟩
          exact AllReadyH.nil
        exact AllReadyH.nil
      refine AllReadyH.cons rfl (fun K hK => ?_) ?_
      · go_simp
        obtain ⟨V1, hV⟩ : ∃ V, V = V0.alloc (.cells #[.int .u64 0, .int .u64 0, .int .u64 0, .int .u64 0, .bool false] 55) := ⟨_, rfl⟩
        obtain ⟨gx, hx⟩ : ∃ x, x = V0.heap.size := ⟨_, rfl⟩
        have HB1 : Hid (Below W2.heap.size W2 V1) := by show Below _ _ _; rw [hV]; exact HB0.out.alloc HB0.out.size _
        have HGX : Hid (W2.heap.size ≤ gx) := by show _ ≤ _; rw [hx]; exact HB0.out.size
        have HX1 : Hid (V1.heap[gx]? = some (.cells #[.int .u64 0, .int .u64 0, .int .u64 0, .int .u64 0, .bool false] 55)) := by show _ = _; rw [hV, hx]; exact heap_alloc_new _ _
        rw [← hV, ← hx]
        clear hV hx
        refine hK.out _ _ (HSS.out _ HB1.out) (fun hHeld => ?_)
        clear hK K
        refine wpAnyH_ready (rs := [6]) (by kernel_rfl) (by simp) ?_
        refine AllReadyH.cons rfl (fun K hK => ?_) ?_
        · go_simp
          refine (KO.out _).mono ?_
          rintro e V2 ⟨rfl, b2'⟩
          have HB2 : Hid (Below W2.heap.size W2 V2) := HB1.out.trans (b2'.mono HB1.out.size)
          have HX2 : Hid (V2.heap[gx]? = some (.cells #[.int .u64 0, .int .u64 0, .int .u64 0, .int .u64 0, .bool false] 55)) := (b2'.block gx (block_lt HX1.out)).trans HX1.out
          refine hK.out _ _ (HSS.out _ HB2.out) (fun hHeld => ?_)
          clear hK K b2'
          refine wpAnyH_take (i := 11) (oi := _) (v := ?_) rfl (by kernel_rfl) (by kernel_rfl) (by kernel_rfl) (fun _ _ _ h => h) (Or.inl ⟨by rfl, ?_⟩) (by assumption) ?_
          rotate_left
          · intro w' hSw; (try dsimp only at hSw); go_simp; (try with_reducible rfl)
          simp only [Act.put, List.setIfInBounds_toArray, List.set_cons_zero, List.set_cons_succ]
          refine wpAnyH_take (i := 12) (oi := _) (v := undef) rfl (by kernel_rfl) (by kernel_rfl) (by kernel_rfl) (fun _ _ _ h => h) (Or.inr ⟨by rfl, rfl⟩) (by assumption) ?_
          simp only [Act.put, List.setIfInBounds_toArray, List.set_cons_zero, List.set_cons_succ]
          refine wpAnyH_take (i := 13) (oi := _) (v := undef) rfl (by kernel_rfl) (by kernel_rfl) (by kernel_rfl) (fun _ _ _ h => h) (Or.inr ⟨by rfl, rfl⟩) (by assumption) ?_
          simp only [Act.put, List.setIfInBounds_toArray, List.set_cons_zero, List.set_cons_succ]
          refine wpAnyH_take (i := 14) (oi := _) (v := ?_) rfl (by kernel_rfl) (by kernel_rfl) (by kernel_rfl) (fun _ _ _ h => h) (Or.inl ⟨by rfl, ?_⟩) (by assumption) ?_
          rotate_left
          · intro w' hSw; (try dsimp only at hSw); go_simp; (try with_reducible rfl)
          simp only [Act.put, List.setIfInBounds_toArray, List.set_cons_zero, List.set_cons_succ]
          refine wpAnyH_take (i := 15) (oi := _) (v := ?_) rfl (by kernel_rfl) (by kernel_rfl) (by kernel_rfl) (fun _ _ _ h => h) (Or.inl ⟨by rfl, ?_⟩) (by assumption) ?_
          rotate_left
          · intro w' hSw; (try dsimp only at hSw); go_simp; (try with_reducible rfl)
          simp only [Act.put, List.setIfInBounds_toArray, List.set_cons_zero, List.set_cons_succ]
          have r0 : V2.cell? ⟨gx, 0, none⟩ = some (.int .u64 0) := Lib.cell_of_heap HX2.out 0
          have f0 : V2.frozen? ⟨gx, 0, none⟩ = false := frzV HX2.out 0
          have r1 : V2.cell? ⟨gx, 1, none⟩ = some (.int .u64 0) := Lib.cell_of_heap HX2.out 1
          have f1 : V2.frozen? ⟨gx, 1, none⟩ = false := frzV HX2.out 1
          have r2 : V2.cell? ⟨gx, 2, none⟩ = some (.int .u64 0) := Lib.cell_of_heap HX2.out 2
          have f2 : V2.frozen? ⟨gx, 2, none⟩ = false := frzV HX2.out 2
          have r3 : V2.cell? ⟨gx, 3, none⟩ = some (.int .u64 0) := Lib.cell_of_heap HX2.out 3
          have f3 : V2.frozen? ⟨gx, 3, none⟩ = false := frzV HX2.out 3
          have r4 : V2.cell? ⟨gx, 4, none⟩ = some (.bool false) := Lib.cell_of_heap HX2.out 4
          have f4 : V2.frozen? ⟨gx, 4, none⟩ = false := frzV HX2.out 4
          have rl : gx < V2.heap.size := block_lt HX2.out
          have HST : Hid (∀ fv0 fv1 fv2 fv3 fv4 : Value, Below W2.heap.size W2 (((((V2.setCell ⟨gx, 0, none⟩ fv0).setCell ⟨gx, 1, none⟩ fv1).setCell ⟨gx, 2, none⟩ fv2).setCell ⟨gx, 3, none⟩ fv3).setCell ⟨gx, 4, none⟩ fv4)) := fun _ _ _ _ _ => ((((HB2.out.setCell (p := ⟨gx, 0, none⟩) HGX.out _).setCell (p := ⟨gx, 1, none⟩) HGX.out _).setCell (p := ⟨gx, 2, none⟩) HGX.out _).setCell (p := ⟨gx, 3, none⟩) HGX.out _).setCell (p := ⟨gx, 4, none⟩) HGX.out _
          refine wpAnyH_ready (rs := [17]) (by kernel_rfl) (by simp) ?_
          refine AllReadyH.cons rfl (fun K hK => ?_) ?_
          · go_simp
            refine hK.out _ _ (HSS.out _ (HST.out _ _ _ _ _)) (fun hHeld => ?_)
            clear hK K
            refine wpAnyH_done (by kernel_rfl) ?_ _
            refine NoPanic.normal ?_
            go_wp2
            go_meet
            case rel => exact ⟨gx, rfl, HGX.out, HST.out _ _ _ _ _, by rw [hf2]; exact four_set HX2.out⟩
          exact AllReadyH.nil
        exact AllReadyH.nil
      exact AllReadyH.nil
  case rest =>
    obtain ⟨gx, h9, hX⟩ := hcut
    subst h9
    obtain ⟨V, hV⟩ : ∃ V, V = wc := ⟨_, rfl⟩
    subst hV
    obtain ⟨hgx, hbc, hxc⟩ := hX.out
    have HBC : Hid (Below W2.heap.size W2 V) := hbc
    have T : ∀ {b o : Nat} {v : Value}, W2.cell? ⟨b, o, none⟩ = some v → V.cell? ⟨b, o, none⟩ = some v := fun hc => (hbc.cell (p := ⟨_, _, none⟩) (block_lt_of_cell hc)).trans hc
    have z0 := T b0
    have z1 := T b1
    have z2 := T b2
    have z3 := T b3
    have z4 := T b4
    have g0 : V.cell? ⟨gx, 0, none⟩ = some (.int .u64 ((f.1 0 : Nat) : Int)) := Lib.cell_of_heap hxc 0
    have g1 : V.cell? ⟨gx, 1, none⟩ = some (.int .u64 ((f.1 1 : Nat) : Int)) := Lib.cell_of_heap hxc 1
    have g2 : V.cell? ⟨gx, 2, none⟩ = some (.int .u64 ((f.1 2 : Nat) : Int)) := Lib.cell_of_heap hxc 2
    have g3 : V.cell? ⟨gx, 3, none⟩ = some (.int .u64 ((f.1 3 : Nat) : Int)) := Lib.cell_of_heap hxc 3
    have g4 : V.cell? ⟨gx, 4, none⟩ = some (.bool f.2) := Lib.cell_of_heap hxc 4
    have hlb := HLB.out
    have HBV : Hid (FoAt V fb n B) := (hbc.block fb (by omega)).trans HBY.out
    have fb0 : V.frozen? ⟨fb, i * 5, none⟩ = false := frzV HBV.out _
    have fb1 : V.frozen? ⟨fb, i * 5 + 1, none⟩ = false := frzV HBV.out _
    have fb2 : V.frozen? ⟨fb, i * 5 + 2, none⟩ = false := frzV HBV.out _
    have fb3 : V.frozen? ⟨fb, i * 5 + 3, none⟩ = false := frzV HBV.out _
    have fb4 : V.frozen? ⟨fb, i * 5 + 4, none⟩ = false := frzV HBV.out _
    have bl : fb < V.heap.size := Nat.lt_of_lt_of_le (by omega) hbc.size
    obtain ⟨bq, hbq⟩ : ∃ bq, bq = unlikeF f k := ⟨_, rfl⟩
    have hq : ∀ w, (Op.equalIn 10000 55 (.agg #[.int .u64 ((f.1 0 : Nat) : Int), .int .u64 ((f.1 1 : Nat) : Int), .int .u64 ((f.1 2 : Nat) : Int), .int .u64 ((f.1 3 : Nat) : Int), .bool f.2]) (.agg #[.int .u64 ((k.1 0 : Nat) : Int), .int .u64 ((k.1 1 : Nat) : Int), .int .u64 ((k.1 2 : Nat) : Int), .int .u64 ((k.1 3 : Nat) : Int), .bool k.2])).run Try.prog w = .ok (!bq) w := fun w => by
      have hc : ∀ a b : Nat, ((a : Int) == (b : Int)) = (a == b) := fun a b => by
        by_cases e : a = b
        · subst e; rw [beq_self_eq_true, beq_self_eq_true]
        · rw [beq_eq_false_iff_ne.2 e, beq_eq_false_iff_ne]; omega
      rw [Try.eqFollow, hbq, hc, hc, hc, hc]
      unfold unlikeF
      rw [Bool.not_not, Bool.and_assoc, Bool.and_assoc, Bool.and_assoc]
    have HBQ : Hid (bq = unlikeF f k) := hbq
    clear hbq hxc hbc hX hgx T b0 b1 b2 b3 b4 c0 c1 c2 c3 c4 hf1 hlb
    go_upto_region 2 with fail
    refine wp_region_noPanic ?_
    refine wp_region_held_drew (S := fun w' => w'.cell? ⟨fb, i * 5, none⟩ = some (.int .u64 ((k.1 0 : Nat) : Int)) ∧ w'.cell? ⟨fb, i * 5 + 1, none⟩ = some (.int .u64 ((k.1 1 : Nat) : Int)) ∧ w'.cell? ⟨fb, i * 5 + 2, none⟩ = some (.int .u64 ((k.1 2 : Nat) : Int)) ∧ w'.cell? ⟨fb, i * 5 + 3, none⟩ = some (.int .u64 ((k.1 3 : Nat) : Int)) ∧ w'.cell? ⟨fb, i * 5 + 4, none⟩ = some (.bool k.2) ∧ w'.cell? ⟨gx, 0, none⟩ = some (.int .u64 ((f.1 0 : Nat) : Int)) ∧ w'.cell? ⟨gx, 1, none⟩ = some (.int .u64 ((f.1 1 : Nat) : Int)) ∧ w'.cell? ⟨gx, 2, none⟩ = some (.int .u64 ((f.1 2 : Nat) : Int)) ∧ w'.cell? ⟨gx, 3, none⟩ = some (.int .u64 ((f.1 3 : Nat) : Int)) ∧ w'.cell? ⟨gx, 4, none⟩ = some (.bool f.2)) (by kernel_rfl) ⟨z0, z1, z2, z3, z4, g0, g1, g2, g3, g4⟩ (fun hHeld => ?_)
    refine wpAnyH_take (i := 0) (oi := _) (v := ?_) rfl (by kernel_rfl) (by kernel_rfl) (by kernel_rfl) (fun _ _ _ h => h) (Or.inl ⟨by rfl, ?_⟩) (by assumption) ?_
    rotate_left
    · intro w' hSw; (try dsimp only at hSw); go_simp; (try with_reducible rfl)
    simp only [Act.put, List.setIfInBounds_toArray, List.set_cons_zero, List.set_cons_succ]
    refine wpAnyH_take (i := 1) (oi := _) (v := ?_) rfl (by kernel_rfl) (by kernel_rfl) (by kernel_rfl) (fun _ _ _ h => h) (Or.inl ⟨by rfl, ?_⟩) (by assumption) ?_
    rotate_left
    · intro w' hSw; (try dsimp only at hSw); go_simp; (try with_reducible rfl)
    simp only [Act.put, List.setIfInBounds_toArray, List.set_cons_zero, List.set_cons_succ]
    refine wpAnyH_take (i := 2) (oi := _) (v := ?_) rfl (by kernel_rfl) (by kernel_rfl) (by kernel_rfl) (fun _ _ _ h => h) (Or.inl ⟨by rfl, ?_⟩) (by assumption) ?_
    rotate_left
    · intro w' hSw; (try dsimp only at hSw); go_simp; (try with_reducible rfl)
    simp only [Act.put, List.setIfInBounds_toArray, List.set_cons_zero, List.set_cons_succ]
    refine wpAnyH_take (i := 3) (oi := _) (v := ?_) rfl (by kernel_rfl) (by kernel_rfl) (by kernel_rfl) (fun _ _ _ h => h) (Or.inl ⟨by rfl, ?_⟩) (by assumption) ?_
    rotate_left
    · intro w' hSw; (try dsimp only at hSw); go_simp; (try with_reducible rfl)
    simp only [Act.put, List.setIfInBounds_toArray, List.set_cons_zero, List.set_cons_succ]
    refine wpAnyH_take (i := 4) (oi := _) (v := ?_) rfl (by kernel_rfl) (by kernel_rfl) (by kernel_rfl) (fun _ _ _ h => h) (Or.inl ⟨by rfl, ?_⟩) (by assumption) ?_
    rotate_left
    · intro w' hSw; (try dsimp only at hSw); go_simp; (try with_reducible rfl)
    simp only [Act.put, List.setIfInBounds_toArray, List.set_cons_zero, List.set_cons_succ]
    refine wpAnyH_take (i := 5) (oi := _) (v := ?_) rfl (by kernel_rfl) (by kernel_rfl) (by kernel_rfl) (fun _ _ _ h => h) (Or.inl ⟨by rfl, ?_⟩) (by assumption) ?_
    rotate_left
    · intro w' hSw; (try dsimp only at hSw); go_simp; (try with_reducible rfl)
    simp only [Act.put, List.setIfInBounds_toArray, List.set_cons_zero, List.set_cons_succ]
    refine wpAnyH_done (by kernel_rfl) ?_ _
    refine NoPanic.normal ?_
    clear hHeld hq
    go_wp2
    go_ret
    have hF : But w.heap.size fb w (setO V.drew fb i f) := but_setO ((But.of HBW.out).trans ((But.of HBC.out.drew).mono HLB.out.2)) i f
    exact ⟨by show Ending.returned (.bool bq) = _; rw [HBQ.out], FoAt.put5 (w := V.drew) HBV.out HI.out f, hF⟩
end Go.Proofs.Ytopokicdgdjgkaa
