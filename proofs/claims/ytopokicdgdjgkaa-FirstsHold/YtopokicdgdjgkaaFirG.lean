/- begin (package first). -/
import Derived.Test.YtopokicdgdjgkaaFirN
import Derived.Test.YtopokicdgdjgkaaFirB
namespace Go.Proofs.Ytopokicdgdjgkaa
set_option linter.unusedVariables false
set_option linter.unusedSimpArgs false
open Go.ChangeShapes Go.WideShapes Go.ChangeAt Go.RowKit Go.Shelf

theorem made_bytes (n : Nat) : madeCells #[.int .u64 0, .int .u64 0, .int .u64 0, .int .u64 0] (n * 4) = bysA n (fun _ => zB) := by
  apply Array.ext_getElem?
  intro i
  rw [bysA_get]
  by_cases hi : i < n * 4
  · rw [if_pos hi]
    have h4 : i % 4 = 0 ∨ i % 4 = 1 ∨ i % 4 = 2 ∨ i % 4 = 3 := by omega
    rcases h4 with h | h | h | h <;> simp [madeCells, hi, h, zB]
  · rw [if_neg hi, Array.getElem?_eq_none (by rw [size_madeCells]; omega)]
theorem Try.infoBytesF : (Try.prog.info? 39).map (fun i => (i.zero, i.size, i.bytes)) = some (some (.agg #[.int .u64 0, .int .u64 0, .int .u64 0, .int .u64 0]), 4, 32) := by kernel_rfl
theorem make_bytes (n : Nat) (hn : n ≤ 64) (w : World) : (Instr.makeSlice 47 (.int .i64 (n : Int)) (.int .i64 (n : Int))).run Try.prog w = .ok (.slice (some ⟨w.heap.size, 0, none⟩) n n) (w.alloc (.cells (bysA n (fun _ => zB)) 39)) := by
  obtain ⟨i, hi, hz, hs, hb⟩ := info_parts Try.infoBytesF
  have h := run_make (P := Try.prog) w 47 39 i _ Try.underlying47 hi hz .i64 .i64 (n : Int) (n : Int) (by omega) (Int.le_refl _) (by rw [hb]; omega) (by omega)
  simp only [Int.toNat_natCast, hs] at h
  rw [← made_bytes]
  exact h
def sumN (f : Nat → Nat) : Nat → Nat
  | 0 => 0
  | m + 1 => sumN f m + f m
theorem sumN_le {f g : Nat → Nat} (h : ∀ i, f i ≤ g i) : ∀ m, sumN f m ≤ sumN g m
  | 0 => Nat.le_refl _
  | m + 1 => Nat.add_le_add (sumN_le h m) (h m)
theorem sumN_lt {f g : Nat → Nat} (h : ∀ i, f i ≤ g i) {i : Nat} (hi : f i < g i) : ∀ m, i < m → sumN f m < sumN g m
  | 0, hm => by omega
  | m + 1, hm => by
    by_cases e : i = m
    · subst e; have := sumN_le h i; show sumN f i + f i < sumN g i + g i; omega
    · have := sumN_lt h hi m (by omega); have := h m; show sumN f m + f m < sumN g m + g m; omega
/-- Sets of bytes, each a set. -/
abbrev BB := {B : Nat → Nat → Nat // ∀ k, okB (B k)}
theorem trB_ok {E : Nat → Bool} {B : Nat → Nat → Nat} (hB : ∀ k, okB (B k)) (h : Int) (l : List Sy) : ∀ k, okB ((trB E B h l).2 k) := by
  unfold trB
  split
  · intro k
    show okB (updB B h.toNat (orB (B h.toNat) (comT E B l).1) k)
    unfold updB
    split
    · exact okB_or (hB _) (comT_ok hB l)
    · exact hB k
  · exact hB
def trC (E : Nat → Bool) (s : BB) (h : Int) (l : List Sy) : Bool × BB := ((trB E s.1 h l).1, ⟨(trB E s.1 h l).2, trB_ok s.2 h l⟩)
theorem trC_no {E : Nat → Bool} {s : BB} {h : Int} {l : List Sy} (e : (trC E s h l).1 = false) : (trC E s h l).2 = s := by
  have e2 : (trB E s.1 h l).1 = false := e
  apply Subtype.ext
  show (trB E s.1 h l).2 = s.1
  unfold trB at e2 ⊢
  split
  · rename_i hc; rw [if_pos hc] at e2; cases e2
  · rfl
def offB (n : Nat) (s : BB) : Nat := sumN (fun i => 18446744073709551616 - s.1 (i / 4) (i % 4)) (n * 4)
theorem trC_yes {E : Nat → Bool} {n : Nat} {s : BB} {h : Int} {l : List Sy} (hh : h.toNat < n) (e : (trC E s h l).1 = true) : offB n (trC E s h l).2 < offB n s := by
  obtain ⟨B, hB⟩ := s
  have e2 : (trB E B h l).1 = true := e
  have e3 : (trB E B h l).2 = updB B h.toNat (orB (B h.toNat) (comT E B l).1) := by
    unfold trB at e2 ⊢
    split
    · rfl
    · rename_i hc; rw [if_neg hc] at e2; cases e2
  have e4 : unlikeB (orB (B h.toNat) (comT E B l).1) (B h.toNat) = true := by
    unfold trB at e2
    split at e2
    · assumption
    · cases e2
  have hle : ∀ j, B h.toNat j ≤ orB (B h.toNat) (comT E B l).1 j := fun j => Nat.left_le_or
  have hok := okB_or (hB h.toNat) (comT_ok (E := E) hB l)
  have hj : ∃ j, j < 4 ∧ B h.toNat j < orB (B h.toNat) (comT E B l).1 j := by
    unfold unlikeB at e4
    generalize orB (B h.toNat) (comT E B l).1 = a at e4 hle
    have h0 := hle 0; have h1 := hle 1; have h2 := hle 2; have h3 := hle 3
    by_cases q0 : a 0 = B h.toNat 0
    · by_cases q1 : a 1 = B h.toNat 1
      · by_cases q2 : a 2 = B h.toNat 2
        · by_cases q3 : a 3 = B h.toNat 3
          · rw [q0, q1, q2, q3] at e4; simp at e4
          · exact ⟨3, by omega, by omega⟩
        · exact ⟨2, by omega, by omega⟩
      · exact ⟨1, by omega, by omega⟩
    · exact ⟨0, by omega, by omega⟩
  obtain ⟨j, hj4, hjl⟩ := hj
  show sumN (fun i => 18446744073709551616 - (trB E B h l).2 (i / 4) (i % 4)) (n * 4) < sumN (fun i => 18446744073709551616 - B (i / 4) (i % 4)) (n * 4)
  rw [e3]
  refine sumN_lt (fun i => ?_) (i := h.toNat * 4 + j) ?_ _ (by omega)
  · unfold updB
    split
    · rename_i q; rw [q]; have := hle (i % 4); omega
    · exact Nat.le_refl _
  · have d1 : (h.toNat * 4 + j) / 4 = h.toNat := by omega
    have d2 : (h.toNat * 4 + j) % 4 = j := by omega
    have := hok j
    simp only [d1, d2, updB, if_true]
    unfold okB at hok
    have := hok j
    omega
structure BgOk (W2 : World) (L : List Ru) (n gx eb bb : Nat) (E : Nat → Bool) (wc : World) : Prop where
  be : Below W2.heap.size W2 wc
  ge : W2.heap.size ≤ eb
  gb : W2.heap.size ≤ bb
  gg : W2.heap.size ≤ gx
  el : BlAt wc eb n E
  bl : ByAt wc bb n (fun _ => zB)
  bx : wc.heap[gx]? = some (.cells #[.slice (some ⟨eb, 0, none⟩) n n, .slice (some ⟨bb, 0, none⟩) n n] 67)
  eo : EmpOk L E
theorem ne_bl {w : World} {eb gx n : Nat} {E : Nat → Bool} {a : Array Value} (h : BlAt w eb n E) (k : w.heap[gx]? = some (.cells a 67)) : eb ≠ gx := by
  rintro rfl
  rw [show w.heap[eb]? = _ from h] at k
  injection k with k
  injection k with k1 k2
  exact absurd k2 (by decide)
theorem ne_by {w : World} {bb gx n : Nat} {B : Nat → Nat → Nat} {a : Array Value} (h : ByAt w bb n B) (k : w.heap[gx]? = some (.cells a 67)) : bb ≠ gx := by
  rintro rfl
  rw [show w.heap[bb]? = _ from h] at k
  injection k with k
  injection k with k1 k2
  exact absurd k2 (by decide)
theorem ne_bb {w : World} {eb bb n m : Nat} {E : Nat → Bool} {B : Nat → Nat → Nat} (h : BlAt w eb n E) (k : ByAt w bb m B) : eb ≠ bb := by
  rintro rfl
  have k : some (Obj.cells (boolsA n E) 4) = some (Obj.cells (bysA m B) 39) := (show w.heap[eb]? = _ from h).symm.trans k
  injection k with k
  injection k with k1 k2
  exact absurd k2 (by decide)
theorem JB.keep {n eb bb y : Nat} {E : Nat → Bool} {B : Nat → Nat → Nat} {w w' : World} (h : JB n eb bb y E B w) (hb : Below w.heap.size w w') : JB n eb bb y E B w' :=
  ⟨(hb.cell (p := ⟨y, 0, none⟩) (cell_in h.y0)).trans h.y0, (hb.cell (p := ⟨y, 1, none⟩) (cell_in h.y1)).trans h.y1, (hb.block eb (block_lt h.el)).trans h.el, (hb.block bb (block_lt h.bl)).trans h.bl, h.ok⟩
theorem JB.turned {n eb bb y : Nat} {E : Nat → Bool} {B C : Nat → Nat → Nat} {w w' : World} (h : JB n eb bb y E B w) (hy : bb ≠ y) (hb : But w.heap.size bb w w') (hC : ByAt w' bb n C) (ok : ∀ k, okB (C k)) : JB n eb bb y E C w' :=
  ⟨(hb.cell (p := ⟨y, 0, none⟩) (cell_in h.y0) (Ne.symm hy)).trans h.y0, (hb.cell (p := ⟨y, 1, none⟩) (cell_in h.y1) (Ne.symm hy)).trans h.y1, (hb.block eb (block_lt h.el) (ne_bb h.el h.bl)).trans h.el, hC, ok⟩
theorem BgOk.of {W2 V : World} {L : List Ru} {n gx eb bb : Nat} {E : Nat → Bool} (be : Below W2.heap.size W2 V) (ge : W2.heap.size ≤ eb) (gb : W2.heap.size ≤ bb) (gg : W2.heap.size ≤ gx) (el : BlAt V eb n E) (bl : ByAt V bb n (fun _ => zB)) (bx : V.heap[gx]? = some (.cells #[.slice none 0 0, .slice none 0 0] 67)) (eo : EmpOk L E) :
    BgOk W2 L n gx eb bb E ((V.setCell ⟨gx, 0, none⟩ (.slice (some ⟨eb, 0, none⟩) n n)).setCell ⟨gx, 1, none⟩ (.slice (some ⟨bb, 0, none⟩) n n)) :=
  ⟨(be.setCell (p := ⟨gx, 0, none⟩) gg _).setCell (p := ⟨gx, 1, none⟩) gg _, ge, gb, gg,
    (Below.heap_setCell _ _ _ _ (ne_bl el bx)).trans ((Below.heap_setCell _ _ _ _ (ne_bl el bx)).trans el),
    (Below.heap_setCell _ _ _ _ (ne_by bl bx)).trans ((Below.heap_setCell _ _ _ _ (ne_by bl bx)).trans bl),
    heap_setCell_same _ gx 1 _ _ _ (heap_setCell_same V gx 0 _ _ _ bx), eo⟩
set_option maxHeartbeats 8000000 in
set_option maxRecDepth 100000 in
theorem begin_any (g : Gr) (v1 v2 : Value) (w : World) {F : Nat → Prop} (hg : GrIs w F v1 v2 g) (hM : mayG g = true) (P : (Nat → Bool) → (Nat → Nat → Nat) → Prop) (hP0 : ∀ E, P E (fun _ => zB)) (hPs : ∀ E B (r : Ru) (c : Cn), r ∈ g.rules → c ∈ r.conj → (∀ k, okB (B k)) → P E B → P E (trB E B r.head c.seq).2) :
    Calls Try.prog 22 #[.agg #[.int .i64 g.start, v1, v2]] w fun e w' => ∃ eb bb E B, e = .returned (.agg #[.slice (some ⟨eb, 0, none⟩) g.names.length g.names.length, .slice (some ⟨bb, 0, none⟩) g.names.length g.names.length]) ∧ w.heap.size ≤ eb ∧ w.heap.size ≤ bb ∧ Hid (BlAt w' eb g.names.length E) ∧ Hid (ByAt w' bb g.names.length B) ∧ Hid (∀ k, okB (B k)) ∧ Hid (EmpOk g.rules E) ∧ Hid (Still (trB E) B g.rules) ∧ Hid (P E B) ∧ Hid (Below w.heap.size w w') := by
  obtain ⟨p1, p2, p3, p4, p5⟩ := may_partsY hM
  have hn64 : g.names.length ≤ 64 := by unfold mayNames at p1; simp only [Bool.and_eq_true, decide_eq_true_eq] at p1; omega
  have hhd := may_headF hM
  obtain ⟨W2, hW2⟩ : ∃ x, x = (w.alloc (.cells #[.int .i64 g.start, v1, v2] 27)).alloc (.cells #[.slice none 0 0, .slice none 0 0] 67) := ⟨_, rfl⟩
  have s2 : W2.heap.size = w.heap.size + 2 := by rw [hW2]; simp
  have B2 : Hid (Below w.heap.size w W2) := by show Below _ _ _; rw [hW2]; exact (bel1 w _).alloc (by simp) _
  have HG : Hid (GrIs W2 F v1 v2 g) := hg.any B2.out
  have HHD : Hid (∀ r, r ∈ g.rules → 0 ≤ r.head ∧ r.head < (g.names.length : Int)) := hhd
  have HRW : Hid (∀ r, r ∈ g.rules → r.conj.length ≤ 8 ∧ ∀ c, c ∈ r.conj → mayRow g.names.length c.seq = true) := fun r hr => ⟨(p5 r hr).1.2, fun c hc => (p5 r hr).2 c hc⟩
  have HP0 := hid_ofF hP0
  have HPS := hid_ofF hPs
  obtain ⟨gb, hgb⟩ : ∃ b, b = w.heap.size := ⟨_, rfl⟩
  have kg : W2.heap[gb]? = some (.cells #[.int .i64 g.start, v1, v2] 27) := by rw [hgb, hW2]; exact (heap_alloc_old _ (by simp)).trans (heap_alloc_new _ _)
  have HKR : Hid (W2.heap[gb + 1]? = some (.cells #[.slice none 0 0, .slice none 0 0] 67)) := by show _ = _; rw [hgb, hW2]; exact new2V w _ _
  have HGB : Hid (gb = w.heap.size ∧ W2.heap.size = gb + 2) := ⟨hgb, by omega⟩
  have hKE : ∀ V, Below W2.heap.size W2 V → Calls Try.prog 21 #[.agg #[.int .i64 g.start, v1, v2]] V fun e w' => ∃ b E, e = .returned (.slice (some ⟨b, 0, none⟩) g.names.length g.names.length) ∧ V.heap.size ≤ b ∧ Hid (BlAt w' b g.names.length E) ∧ Hid (EmpOk g.rules E) ∧ Hid (Below V.heap.size V w') := fun V hb => empties_any g v1 v2 V (HG.out.any hb) hM
  obtain ⟨q1, c1, e1, -⟩ := HG.out.1
  obtain ⟨q2, c2, e2⟩ := lngRF HG.out.2
  have HRU : Hid (IsRus W2 F v2 g.rules) := HG.out.2
  obtain ⟨n, hn⟩ : ∃ n, n = g.names.length := ⟨_, rfl⟩
  obtain ⟨m, hm⟩ : ∃ m, m = g.rules.length := ⟨_, rfl⟩
  obtain ⟨st, hst⟩ : ∃ s, s = g.start := ⟨_, rfl⟩
  obtain ⟨L, hLL⟩ : ∃ L, L = g.rules := ⟨_, rfl⟩
  rw [← hn] at e1 hn64 HHD HRW hKE ⊢
  rw [← hst] at kg hKE hW2 ⊢
  rw [← hm] at e2 p4
  rw [← hLL] at HRU HHD HRW HPS hKE hm ⊢
  clear HG hg
  subst e1 e2
  have KE := hid_ofF hKE
  have HM : Hid (m = L.length ∧ m ≤ 100000) := ⟨hm, by omega⟩
  have HN : Hid (n ≤ 64) := hn64
  have hmk := make_bytes n hn64
  have k0 : W2.cell? ⟨gb, 0, none⟩ = some (.int .i64 st) := Lib.cell_of_heap kg 0
  have k1 : W2.cell? ⟨gb, 1, none⟩ = some (.slice q1 n c1) := Lib.cell_of_heap kg 1
  have k2 : W2.cell? ⟨gb, 2, none⟩ = some (.slice q2 m c2) := Lib.cell_of_heap kg 2
  have HSS : Hid (∀ w', Below W2.heap.size W2 w' → Below W2.heap.size W2 w' ∧ w'.cell? ⟨gb, 0, none⟩ = some (.int .i64 st) ∧ w'.cell? ⟨gb, 1, none⟩ = some (.slice q1 n c1) ∧ w'.cell? ⟨gb, 2, none⟩ = some (.slice q2 m c2)) := fun w' h => by
    have T : ∀ {b o : Nat} {v : Value}, W2.cell? ⟨b, o, none⟩ = some v → w'.cell? ⟨b, o, none⟩ = some v := fun hc => (h.cell (p := ⟨_, _, none⟩) (block_lt_of_cell hc)).trans hc
    exact ⟨h, T k0, T k1, T k2⟩
  clear hn hm hst hLL hM p1 p2 p3 p4 p5 hhd kg hKE hn64 hP0 hPs s2
  go_enter Try.func22, Try.ntmps22
  go_upto_region 1 with fail
  rw [← hW2, ← hgb]
  clear hW2 hgb
  go_cut [3] from 4 to 14 (fun t wc => ∃ gx eb bb E, t = .pointer (some ⟨gx, 0, none⟩) ∧ Hid (BgOk W2 L n gx eb bb E wc))
  case first =>
    refine wp_region_noPanic ?_
    obtain ⟨V0, hV0⟩ : ∃ V, V = W2.drew := ⟨_, rfl⟩
    have HB0 : Hid (Below W2.heap.size W2 V0) := by show Below _ _ _; rw [hV0]; exact (Below.refl _ _).drew
    refine wp_region_held_drew (S := fun w' => Below W2.heap.size W2 w' ∧ w'.cell? ⟨gb, 0, none⟩ = some (.int .i64 st) ∧ w'.cell? ⟨gb, 1, none⟩ = some (.slice q1 n c1) ∧ w'.cell? ⟨gb, 2, none⟩ = some (.slice q2 m c2)) (by kernel_rfl) (by rw [← hV0]; exact HSS.out _ HB0.out) (fun hHeld => ?_)
    rw [← hV0] at hHeld ⊢
    clear hV0 k0 k1 k2
    refine wpAnyH_take (i := 0) (oi := _) (v := ?_) rfl (by kernel_rfl) (by kernel_rfl) (by kernel_rfl) (fun _ _ _ h => h) (Or.inl ⟨by rfl, ?_⟩) (by assumption) ?_
    rotate_left
    · intro w' hSw; (try dsimp only at hSw); go_simp; (try with_reducible rfl)
    simp only [Act.put, List.setIfInBounds_toArray, List.set_cons_zero, List.set_cons_succ]
    refine wpAnyH_take (i := 2) (oi := _) (v := ?_) rfl (by kernel_rfl) (by kernel_rfl) (by kernel_rfl) (fun _ _ _ h => h) (Or.inl ⟨by rfl, ?_⟩) (by assumption) ?_
    rotate_left
    · intro w' hSw; (try dsimp only at hSw); go_simp; (try with_reducible rfl)
    simp only [Act.put, List.setIfInBounds_toArray, List.set_cons_zero, List.set_cons_succ]
    refine wpAnyH_take (i := 3) (oi := _) (v := ?_) rfl (by kernel_rfl) (by kernel_rfl) (by kernel_rfl) (fun _ _ _ h => h) (Or.inl ⟨by rfl, ?_⟩) (by assumption) ?_
    rotate_left
    · intro w' hSw; (try dsimp only at hSw); go_simp; (try with_reducible rfl)
    simp only [Act.put, List.setIfInBounds_toArray, List.set_cons_zero, List.set_cons_succ]
    refine wpAnyH_take (i := 4) (oi := _) (v := ?_) rfl (by kernel_rfl) (by kernel_rfl) (by kernel_rfl) (fun _ _ _ h => h) (Or.inl ⟨by rfl, ?_⟩) (by assumption) ?_
    rotate_left
    · intro w' hSw; (try dsimp only at hSw); go_simp; (try with_reducible rfl)
    simp only [Act.put, List.setIfInBounds_toArray, List.set_cons_zero, List.set_cons_succ]
    refine wpAnyH_ready (rs := [1, 5, 7]) (by kernel_rfl) (by simp) ?_
    refine AllReadyH.cons rfl (fun K hK => ?_) ?_
    · go_simp
      refine (KE.out _ HB0.out).mono ?_
      rintro e V1 ⟨eb, E, rfl, he1, he2, he3, he4⟩
      have HB1 : Hid (Below W2.heap.size W2 V1) := HB0.out.trans (he4.out.mono HB0.out.size)
      have HEB : Hid (W2.heap.size ≤ eb) := Nat.le_trans HB0.out.size he1
      have HE1 : Hid (BlAt V1 eb n E) := he2
      have HEO : Hid (EmpOk L E) := he3
      clear he1 he2 he3 he4
      refine hK.out _ _ (HSS.out _ HB1.out) (fun hHeld => ?_)
      clear hK K
      refine wpAnyH_ready (rs := [5, 7]) (by kernel_rfl) (by simp) ?_
      refine AllReadyH.cons rfl (fun K hK => ?_) ?_
      · go_simp
        obtain ⟨V2, hV⟩ : ∃ V, V = V1.alloc (.cells (bysA n (fun _ => zB)) 39) := ⟨_, rfl⟩
        obtain ⟨bb, hx⟩ : ∃ x, x = V1.heap.size := ⟨_, rfl⟩
        have HB2 : Hid (Below W2.heap.size W2 V2) := by show Below _ _ _; rw [hV]; exact HB1.out.alloc HB1.out.size _
        have hal : Below V1.heap.size V1 V2 := by rw [hV]; exact bel1 _ _
        have HE2 : Hid (BlAt V2 eb n E) := (hal.block eb (block_lt HE1.out)).trans HE1.out
        have HBB : Hid (W2.heap.size ≤ bb) := by show _ ≤ _; rw [hx]; exact HB1.out.size
        have HY2 : Hid (ByAt V2 bb n (fun _ => zB)) := by show _ = _; rw [hV, hx]; exact heap_alloc_new _ _
        rw [← hV, ← hx]
        clear hV hx hal
        refine hK.out _ _ (HSS.out _ HB2.out) (fun hHeld => ?_)
        clear hK K
        refine wpAnyH_take (i := 6) (oi := _) (v := ?_) rfl (by kernel_rfl) (by kernel_rfl) (by kernel_rfl) (fun _ _ _ h => h) (Or.inl ⟨by rfl, ?_⟩) (by assumption) ?_
        rotate_left
        · intro w' hSw; (try dsimp only at hSw); go_simp; (try with_reducible rfl)
        simp only [Act.put, List.setIfInBounds_toArray, List.set_cons_zero, List.set_cons_succ]
        refine wpAnyH_ready (rs := [7]) (by kernel_rfl) (by simp) ?_
        refine AllReadyH.cons rfl (fun K hK => ?_) ?_
        · go_simp
          obtain ⟨V3, hV⟩ : ∃ V, V = V2.alloc (.cells #[.slice none 0 0, .slice none 0 0] 67) := ⟨_, rfl⟩
          obtain ⟨gx, hx⟩ : ∃ x, x = V2.heap.size := ⟨_, rfl⟩
          have HB3 : Hid (Below W2.heap.size W2 V3) := by show Below _ _ _; rw [hV]; exact HB2.out.alloc HB2.out.size _
          have hal : Below V2.heap.size V2 V3 := by rw [hV]; exact bel1 _ _
          have HE3 : Hid (BlAt V3 eb n E) := (hal.block eb (block_lt HE2.out)).trans HE2.out
          have HY3 : Hid (ByAt V3 bb n (fun _ => zB)) := (hal.block bb (block_lt HY2.out)).trans HY2.out
          have HGX : Hid (W2.heap.size ≤ gx) := by show _ ≤ _; rw [hx]; exact HB2.out.size
          have HX3 : Hid (V3.heap[gx]? = some (.cells #[.slice none 0 0, .slice none 0 0] 67)) := by show _ = _; rw [hV, hx]; exact heap_alloc_new _ _
          rw [← hV, ← hx]
          clear hV hx hal
          refine hK.out _ _ (HSS.out _ HB3.out) (fun hHeld => ?_)
          clear hK K
          refine wpAnyH_ready (rs := [8]) (by kernel_rfl) (by simp) ?_
          refine AllReadyH.cons rfl (fun K hK => ?_) ?_
          · have r0 : V3.cell? ⟨gx, 0, none⟩ = some (.slice none 0 0) := Lib.cell_of_heap HX3.out 0
            have r1 : V3.cell? ⟨gx, 1, none⟩ = some (.slice none 0 0) := Lib.cell_of_heap HX3.out 1
            have f0 : V3.frozen? ⟨gx, 0, none⟩ = false := frzV HX3.out 0
            have f1 : V3.frozen? ⟨gx, 1, none⟩ = false := frzV HX3.out 1
            have rl : gx < V3.heap.size := block_lt HX3.out
            have BG := BgOk.of HB3.out HEB.out HBB.out HGX.out HE3.out HY3.out HX3.out HEO.out
            have HBG := hid_ofF BG
            clear BG
            go_simp
            refine hK.out _ _ (HSS.out _ HBG.out.be) (fun hHeld => ?_)
            clear hK K
            refine wpAnyH_done (by kernel_rfl) ?_ _
            refine NoPanic.normal ?_
            go_wp2
            go_meet
            case rel => exact ⟨gx, eb, bb, E, rfl, HBG⟩
          exact AllReadyH.nil
        exact AllReadyH.nil
      refine AllReadyH.cons rfl (fun K hK => ?_) ?_
      · go_simp
        obtain ⟨V2, hV⟩ : ∃ V, V = V1.alloc (.cells #[.slice none 0 0, .slice none 0 0] 67) := ⟨_, rfl⟩
        obtain ⟨gx, hx⟩ : ∃ x, x = V1.heap.size := ⟨_, rfl⟩
        have HB2 : Hid (Below W2.heap.size W2 V2) := by show Below _ _ _; rw [hV]; exact HB1.out.alloc HB1.out.size _
        have hal : Below V1.heap.size V1 V2 := by rw [hV]; exact bel1 _ _
        have HE2 : Hid (BlAt V2 eb n E) := (hal.block eb (block_lt HE1.out)).trans HE1.out
        have HGX : Hid (W2.heap.size ≤ gx) := by show _ ≤ _; rw [hx]; exact HB1.out.size
        have HX2 : Hid (V2.heap[gx]? = some (.cells #[.slice none 0 0, .slice none 0 0] 67)) := by show _ = _; rw [hV, hx]; exact heap_alloc_new _ _
        rw [← hV, ← hx]
        clear hV hx hal
        refine hK.out _ _ (HSS.out _ HB2.out) (fun hHeld => ?_)
        clear hK K
        refine wpAnyH_ready (rs := [5]) (by kernel_rfl) (by simp) ?_
        refine AllReadyH.cons rfl (fun K hK => ?_) ?_
        · go_simp
          obtain ⟨V3, hV⟩ : ∃ V, V = V2.alloc (.cells (bysA n (fun _ => zB)) 39) := ⟨_, rfl⟩
          obtain ⟨bb, hx⟩ : ∃ x, x = V2.heap.size := ⟨_, rfl⟩
          have HB3 : Hid (Below W2.heap.size W2 V3) := by show Below _ _ _; rw [hV]; exact HB2.out.alloc HB2.out.size _
          have hal : Below V2.heap.size V2 V3 := by rw [hV]; exact bel1 _ _
          have HE3 : Hid (BlAt V3 eb n E) := (hal.block eb (block_lt HE2.out)).trans HE2.out
          have HX3 : Hid (V3.heap[gx]? = some (.cells #[.slice none 0 0, .slice none 0 0] 67)) := (hal.block gx (block_lt HX2.out)).trans HX2.out
          have HBB : Hid (W2.heap.size ≤ bb) := by show _ ≤ _; rw [hx]; exact HB2.out.size
          have HY3 : Hid (ByAt V3 bb n (fun _ => zB)) := by show _ = _; rw [hV, hx]; exact heap_alloc_new _ _
          rw [← hV, ← hx]
          clear hV hx hal
          refine hK.out _ _ (HSS.out _ HB3.out) (fun hHeld => ?_)
          clear hK K
          refine wpAnyH_take (i := 6) (oi := _) (v := ?_) rfl (by kernel_rfl) (by kernel_rfl) (by kernel_rfl) (fun _ _ _ h => h) (Or.inl ⟨by rfl, ?_⟩) (by assumption) ?_
          rotate_left
          · intro w' hSw; (try dsimp only at hSw); go_simp; (try with_reducible rfl)
          simp only [Act.put, List.setIfInBounds_toArray, List.set_cons_zero, List.set_cons_succ]
          refine wpAnyH_ready (rs := [8]) (by kernel_rfl) (by simp) ?_
          refine AllReadyH.cons rfl (fun K hK => ?_) ?_
          · have r0 : V3.cell? ⟨gx, 0, none⟩ = some (.slice none 0 0) := Lib.cell_of_heap HX3.out 0
            have r1 : V3.cell? ⟨gx, 1, none⟩ = some (.slice none 0 0) := Lib.cell_of_heap HX3.out 1
            have f0 : V3.frozen? ⟨gx, 0, none⟩ = false := frzV HX3.out 0
            have f1 : V3.frozen? ⟨gx, 1, none⟩ = false := frzV HX3.out 1
            have rl : gx < V3.heap.size := block_lt HX3.out
            have BG := BgOk.of HB3.out HEB.out HBB.out HGX.out HE3.out HY3.out HX3.out HEO.out
            have HBG := hid_ofF BG
            clear BG
            go_simp
            refine hK.out _ _ (HSS.out _ HBG.out.be) (fun hHeld => ?_)
            clear hK K
            refine wpAnyH_done (by kernel_rfl) ?_ _
            refine NoPanic.normal ?_
            go_wp2
            go_meet
            case rel => exact ⟨gx, eb, bb, E, rfl, HBG⟩
          exact AllReadyH.nil
        exact AllReadyH.nil
      exact AllReadyH.nil
    refine AllReadyH.cons rfl (fun K hK => ?_) ?_
    · go_simp
      obtain ⟨V1, hV⟩ : ∃ V, V = V0.alloc (.cells (bysA n (fun _ => zB)) 39) := ⟨_, rfl⟩
      obtain ⟨bb, hx⟩ : ∃ x, x = V0.heap.size := ⟨_, rfl⟩
      have HB1 : Hid (Below W2.heap.size W2 V1) := by show Below _ _ _; rw [hV]; exact HB0.out.alloc HB0.out.size _
      have hal : Below V0.heap.size V0 V1 := by rw [hV]; exact bel1 _ _
      have HBB : Hid (W2.heap.size ≤ bb) := by show _ ≤ _; rw [hx]; exact HB0.out.size
      have HY1 : Hid (ByAt V1 bb n (fun _ => zB)) := by show _ = _; rw [hV, hx]; exact heap_alloc_new _ _
      rw [← hV, ← hx]
      clear hV hx hal
      refine hK.out _ _ (HSS.out _ HB1.out) (fun hHeld => ?_)
      clear hK K
      refine wpAnyH_ready (rs := [1, 7]) (by kernel_rfl) (by simp) ?_
      refine AllReadyH.cons rfl (fun K hK => ?_) ?_
      · go_simp
        refine (KE.out _ HB1.out).mono ?_
        rintro e V2 ⟨eb, E, rfl, he1, he2, he3, he4⟩
        have HB2 : Hid (Below W2.heap.size W2 V2) := HB1.out.trans (he4.out.mono HB1.out.size)
        have HEB : Hid (W2.heap.size ≤ eb) := Nat.le_trans HB1.out.size he1
        have HE2 : Hid (BlAt V2 eb n E) := he2
        have HEO : Hid (EmpOk L E) := he3
        have HY2 : Hid (ByAt V2 bb n (fun _ => zB)) := (he4.out.block bb (block_lt HY1.out)).trans HY1.out
        clear he1 he2 he3 he4
        refine hK.out _ _ (HSS.out _ HB2.out) (fun hHeld => ?_)
        clear hK K
        refine wpAnyH_take (i := 6) (oi := _) (v := ?_) rfl (by kernel_rfl) (by kernel_rfl) (by kernel_rfl) (fun _ _ _ h => h) (Or.inl ⟨by rfl, ?_⟩) (by assumption) ?_
        rotate_left
        · intro w' hSw; (try dsimp only at hSw); go_simp; (try with_reducible rfl)
        simp only [Act.put, List.setIfInBounds_toArray, List.set_cons_zero, List.set_cons_succ]
        refine wpAnyH_ready (rs := [7]) (by kernel_rfl) (by simp) ?_
        refine AllReadyH.cons rfl (fun K hK => ?_) ?_
        · go_simp
          obtain ⟨V3, hV⟩ : ∃ V, V = V2.alloc (.cells #[.slice none 0 0, .slice none 0 0] 67) := ⟨_, rfl⟩
          obtain ⟨gx, hx⟩ : ∃ x, x = V2.heap.size := ⟨_, rfl⟩
          have HB3 : Hid (Below W2.heap.size W2 V3) := by show Below _ _ _; rw [hV]; exact HB2.out.alloc HB2.out.size _
          have hal : Below V2.heap.size V2 V3 := by rw [hV]; exact bel1 _ _
          have HE3 : Hid (BlAt V3 eb n E) := (hal.block eb (block_lt HE2.out)).trans HE2.out
          have HY3 : Hid (ByAt V3 bb n (fun _ => zB)) := (hal.block bb (block_lt HY2.out)).trans HY2.out
          have HGX : Hid (W2.heap.size ≤ gx) := by show _ ≤ _; rw [hx]; exact HB2.out.size
          have HX3 : Hid (V3.heap[gx]? = some (.cells #[.slice none 0 0, .slice none 0 0] 67)) := by show _ = _; rw [hV, hx]; exact heap_alloc_new _ _
          rw [← hV, ← hx]
          clear hV hx hal
          refine hK.out _ _ (HSS.out _ HB3.out) (fun hHeld => ?_)
          clear hK K
          refine wpAnyH_ready (rs := [8]) (by kernel_rfl) (by simp) ?_
          refine AllReadyH.cons rfl (fun K hK => ?_) ?_
          · have r0 : V3.cell? ⟨gx, 0, none⟩ = some (.slice none 0 0) := Lib.cell_of_heap HX3.out 0
            have r1 : V3.cell? ⟨gx, 1, none⟩ = some (.slice none 0 0) := Lib.cell_of_heap HX3.out 1
            have f0 : V3.frozen? ⟨gx, 0, none⟩ = false := frzV HX3.out 0
            have f1 : V3.frozen? ⟨gx, 1, none⟩ = false := frzV HX3.out 1
            have rl : gx < V3.heap.size := block_lt HX3.out
            have BG := BgOk.of HB3.out HEB.out HBB.out HGX.out HE3.out HY3.out HX3.out HEO.out
            have HBG := hid_ofF BG
            clear BG
            go_simp
            refine hK.out _ _ (HSS.out _ HBG.out.be) (fun hHeld => ?_)
            clear hK K
            refine wpAnyH_done (by kernel_rfl) ?_ _
            refine NoPanic.normal ?_
            go_wp2
            go_meet
            case rel => exact ⟨gx, eb, bb, E, rfl, HBG⟩
          exact AllReadyH.nil
        exact AllReadyH.nil
      refine AllReadyH.cons rfl (fun K hK => ?_) ?_
      · go_simp
        obtain ⟨V2, hV⟩ : ∃ V, V = V1.alloc (.cells #[.slice none 0 0, .slice none 0 0] 67) := ⟨_, rfl⟩
        obtain ⟨gx, hx⟩ : ∃ x, x = V1.heap.size := ⟨_, rfl⟩
        have HB2 : Hid (Below W2.heap.size W2 V2) := by show Below _ _ _; rw [hV]; exact HB1.out.alloc HB1.out.size _
        have hal : Below V1.heap.size V1 V2 := by rw [hV]; exact bel1 _ _
        have HY2 : Hid (ByAt V2 bb n (fun _ => zB)) := (hal.block bb (block_lt HY1.out)).trans HY1.out
        have HGX : Hid (W2.heap.size ≤ gx) := by show _ ≤ _; rw [hx]; exact HB1.out.size
        have HX2 : Hid (V2.heap[gx]? = some (.cells #[.slice none 0 0, .slice none 0 0] 67)) := by show _ = _; rw [hV, hx]; exact heap_alloc_new _ _
        rw [← hV, ← hx]
        clear hV hx hal
        refine hK.out _ _ (HSS.out _ HB2.out) (fun hHeld => ?_)
        clear hK K
        refine wpAnyH_ready (rs := [1]) (by kernel_rfl) (by simp) ?_
        refine AllReadyH.cons rfl (fun K hK => ?_) ?_
        · go_simp
          refine (KE.out _ HB2.out).mono ?_
          rintro e V3 ⟨eb, E, rfl, he1, he2, he3, he4⟩
          have HB3 : Hid (Below W2.heap.size W2 V3) := HB2.out.trans (he4.out.mono HB2.out.size)
          have HEB : Hid (W2.heap.size ≤ eb) := Nat.le_trans HB2.out.size he1
          have HE3 : Hid (BlAt V3 eb n E) := he2
          have HEO : Hid (EmpOk L E) := he3
          have HY3 : Hid (ByAt V3 bb n (fun _ => zB)) := (he4.out.block bb (block_lt HY2.out)).trans HY2.out
          have HX3 : Hid (V3.heap[gx]? = some (.cells #[.slice none 0 0, .slice none 0 0] 67)) := (he4.out.block gx (block_lt HX2.out)).trans HX2.out
          clear he1 he2 he3 he4
          refine hK.out _ _ (HSS.out _ HB3.out) (fun hHeld => ?_)
          clear hK K
          refine wpAnyH_take (i := 6) (oi := _) (v := ?_) rfl (by kernel_rfl) (by kernel_rfl) (by kernel_rfl) (fun _ _ _ h => h) (Or.inl ⟨by rfl, ?_⟩) (by assumption) ?_
          rotate_left
          · intro w' hSw; (try dsimp only at hSw); go_simp; (try with_reducible rfl)
          simp only [Act.put, List.setIfInBounds_toArray, List.set_cons_zero, List.set_cons_succ]
          refine wpAnyH_ready (rs := [8]) (by kernel_rfl) (by simp) ?_
          refine AllReadyH.cons rfl (fun K hK => ?_) ?_
          · have r0 : V3.cell? ⟨gx, 0, none⟩ = some (.slice none 0 0) := Lib.cell_of_heap HX3.out 0
            have r1 : V3.cell? ⟨gx, 1, none⟩ = some (.slice none 0 0) := Lib.cell_of_heap HX3.out 1
            have f0 : V3.frozen? ⟨gx, 0, none⟩ = false := frzV HX3.out 0
            have f1 : V3.frozen? ⟨gx, 1, none⟩ = false := frzV HX3.out 1
            have rl : gx < V3.heap.size := block_lt HX3.out
            have BG := BgOk.of HB3.out HEB.out HBB.out HGX.out HE3.out HY3.out HX3.out HEO.out
            have HBG := hid_ofF BG
            clear BG
            go_simp
            refine hK.out _ _ (HSS.out _ HBG.out.be) (fun hHeld => ?_)
            clear hK K
            refine wpAnyH_done (by kernel_rfl) ?_ _
            refine NoPanic.normal ?_
            go_wp2
            go_meet
            case rel => exact ⟨gx, eb, bb, E, rfl, HBG⟩
          exact AllReadyH.nil
        exact AllReadyH.nil
      exact AllReadyH.nil
    refine AllReadyH.cons rfl (fun K hK => ?_) ?_
    · go_simp
      obtain ⟨V1, hV⟩ : ∃ V, V = V0.alloc (.cells #[.slice none 0 0, .slice none 0 0] 67) := ⟨_, rfl⟩
      obtain ⟨gx, hx⟩ : ∃ x, x = V0.heap.size := ⟨_, rfl⟩
      have HB1 : Hid (Below W2.heap.size W2 V1) := by show Below _ _ _; rw [hV]; exact HB0.out.alloc HB0.out.size _
      have hal : Below V0.heap.size V0 V1 := by rw [hV]; exact bel1 _ _
      have HGX : Hid (W2.heap.size ≤ gx) := by show _ ≤ _; rw [hx]; exact HB0.out.size
      have HX1 : Hid (V1.heap[gx]? = some (.cells #[.slice none 0 0, .slice none 0 0] 67)) := by show _ = _; rw [hV, hx]; exact heap_alloc_new _ _
      rw [← hV, ← hx]
      clear hV hx hal
      refine hK.out _ _ (HSS.out _ HB1.out) (fun hHeld => ?_)
      clear hK K
      refine wpAnyH_ready (rs := [1, 5]) (by kernel_rfl) (by simp) ?_
      refine AllReadyH.cons rfl (fun K hK => ?_) ?_
      · go_simp
        refine (KE.out _ HB1.out).mono ?_
        rintro e V2 ⟨eb, E, rfl, he1, he2, he3, he4⟩
        have HB2 : Hid (Below W2.heap.size W2 V2) := HB1.out.trans (he4.out.mono HB1.out.size)
        have HEB : Hid (W2.heap.size ≤ eb) := Nat.le_trans HB1.out.size he1
        have HE2 : Hid (BlAt V2 eb n E) := he2
        have HEO : Hid (EmpOk L E) := he3
        have HX2 : Hid (V2.heap[gx]? = some (.cells #[.slice none 0 0, .slice none 0 0] 67)) := (he4.out.block gx (block_lt HX1.out)).trans HX1.out
        clear he1 he2 he3 he4
        refine hK.out _ _ (HSS.out _ HB2.out) (fun hHeld => ?_)
        clear hK K
        refine wpAnyH_ready (rs := [5]) (by kernel_rfl) (by simp) ?_
        refine AllReadyH.cons rfl (fun K hK => ?_) ?_
        · go_simp
          obtain ⟨V3, hV⟩ : ∃ V, V = V2.alloc (.cells (bysA n (fun _ => zB)) 39) := ⟨_, rfl⟩
          obtain ⟨bb, hx⟩ : ∃ x, x = V2.heap.size := ⟨_, rfl⟩
          have HB3 : Hid (Below W2.heap.size W2 V3) := by show Below _ _ _; rw [hV]; exact HB2.out.alloc HB2.out.size _
          have hal : Below V2.heap.size V2 V3 := by rw [hV]; exact bel1 _ _
          have HE3 : Hid (BlAt V3 eb n E) := (hal.block eb (block_lt HE2.out)).trans HE2.out
          have HX3 : Hid (V3.heap[gx]? = some (.cells #[.slice none 0 0, .slice none 0 0] 67)) := (hal.block gx (block_lt HX2.out)).trans HX2.out
          have HBB : Hid (W2.heap.size ≤ bb) := by show _ ≤ _; rw [hx]; exact HB2.out.size
          have HY3 : Hid (ByAt V3 bb n (fun _ => zB)) := by show _ = _; rw [hV, hx]; exact heap_alloc_new _ _
          rw [← hV, ← hx]
          clear hV hx hal
          refine hK.out _ _ (HSS.out _ HB3.out) (fun hHeld => ?_)
          clear hK K
          refine wpAnyH_take (i := 6) (oi := _) (v := ?_) rfl (by kernel_rfl) (by kernel_rfl) (by kernel_rfl) (fun _ _ _ h => h) (Or.inl ⟨by rfl, ?_⟩) (by assumption) ?_
          rotate_left
          · intro w' hSw; (try dsimp only at hSw); go_simp; (try with_reducible rfl)
          simp only [Act.put, List.setIfInBounds_toArray, List.set_cons_zero, List.set_cons_succ]
          refine wpAnyH_ready (rs := [8]) (by kernel_rfl) (by simp) ?_
          refine AllReadyH.cons rfl (fun K hK => ?_) ?_
          · have r0 : V3.cell? ⟨gx, 0, none⟩ = some (.slice none 0 0) := Lib.cell_of_heap HX3.out 0
            have r1 : V3.cell? ⟨gx, 1, none⟩ = some (.slice none 0 0) := Lib.cell_of_heap HX3.out 1
            have f0 : V3.frozen? ⟨gx, 0, none⟩ = false := frzV HX3.out 0
            have f1 : V3.frozen? ⟨gx, 1, none⟩ = false := frzV HX3.out 1
            have rl : gx < V3.heap.size := block_lt HX3.out
            have BG := BgOk.of HB3.out HEB.out HBB.out HGX.out HE3.out HY3.out HX3.out HEO.out
            have HBG := hid_ofF BG
            clear BG
            go_simp
            refine hK.out _ _ (HSS.out _ HBG.out.be) (fun hHeld => ?_)
            clear hK K
            refine wpAnyH_done (by kernel_rfl) ?_ _
            refine NoPanic.normal ?_
            go_wp2
            go_meet
            case rel => exact ⟨gx, eb, bb, E, rfl, HBG⟩
          exact AllReadyH.nil
        exact AllReadyH.nil
      refine AllReadyH.cons rfl (fun K hK => ?_) ?_
      · go_simp
        obtain ⟨V2, hV⟩ : ∃ V, V = V1.alloc (.cells (bysA n (fun _ => zB)) 39) := ⟨_, rfl⟩
        obtain ⟨bb, hx⟩ : ∃ x, x = V1.heap.size := ⟨_, rfl⟩
        have HB2 : Hid (Below W2.heap.size W2 V2) := by show Below _ _ _; rw [hV]; exact HB1.out.alloc HB1.out.size _
        have hal : Below V1.heap.size V1 V2 := by rw [hV]; exact bel1 _ _
        have HX2 : Hid (V2.heap[gx]? = some (.cells #[.slice none 0 0, .slice none 0 0] 67)) := (hal.block gx (block_lt HX1.out)).trans HX1.out
        have HBB : Hid (W2.heap.size ≤ bb) := by show _ ≤ _; rw [hx]; exact HB1.out.size
        have HY2 : Hid (ByAt V2 bb n (fun _ => zB)) := by show _ = _; rw [hV, hx]; exact heap_alloc_new _ _
        rw [← hV, ← hx]
        clear hV hx hal
        refine hK.out _ _ (HSS.out _ HB2.out) (fun hHeld => ?_)
        clear hK K
        refine wpAnyH_ready (rs := [1]) (by kernel_rfl) (by simp) ?_
        refine AllReadyH.cons rfl (fun K hK => ?_) ?_
        · go_simp
          refine (KE.out _ HB2.out).mono ?_
          rintro e V3 ⟨eb, E, rfl, he1, he2, he3, he4⟩
          have HB3 : Hid (Below W2.heap.size W2 V3) := HB2.out.trans (he4.out.mono HB2.out.size)
          have HEB : Hid (W2.heap.size ≤ eb) := Nat.le_trans HB2.out.size he1
          have HE3 : Hid (BlAt V3 eb n E) := he2
          have HEO : Hid (EmpOk L E) := he3
          have HY3 : Hid (ByAt V3 bb n (fun _ => zB)) := (he4.out.block bb (block_lt HY2.out)).trans HY2.out
          have HX3 : Hid (V3.heap[gx]? = some (.cells #[.slice none 0 0, .slice none 0 0] 67)) := (he4.out.block gx (block_lt HX2.out)).trans HX2.out
          clear he1 he2 he3 he4
          refine hK.out _ _ (HSS.out _ HB3.out) (fun hHeld => ?_)
          clear hK K
          refine wpAnyH_take (i := 6) (oi := _) (v := ?_) rfl (by kernel_rfl) (by kernel_rfl) (by kernel_rfl) (fun _ _ _ h => h) (Or.inl ⟨by rfl, ?_⟩) (by assumption) ?_
          rotate_left
          · intro w' hSw; (try dsimp only at hSw); go_simp; (try with_reducible rfl)
          simp only [Act.put, List.setIfInBounds_toArray, List.set_cons_zero, List.set_cons_succ]
          refine wpAnyH_ready (rs := [8]) (by kernel_rfl) (by simp) ?_
          refine AllReadyH.cons rfl (fun K hK => ?_) ?_
          · have r0 : V3.cell? ⟨gx, 0, none⟩ = some (.slice none 0 0) := Lib.cell_of_heap HX3.out 0
            have r1 : V3.cell? ⟨gx, 1, none⟩ = some (.slice none 0 0) := Lib.cell_of_heap HX3.out 1
            have f0 : V3.frozen? ⟨gx, 0, none⟩ = false := frzV HX3.out 0
            have f1 : V3.frozen? ⟨gx, 1, none⟩ = false := frzV HX3.out 1
            have rl : gx < V3.heap.size := block_lt HX3.out
            have BG := BgOk.of HB3.out HEB.out HBB.out HGX.out HE3.out HY3.out HX3.out HEO.out
            have HBG := hid_ofF BG
            clear BG
            go_simp
            refine hK.out _ _ (HSS.out _ HBG.out.be) (fun hHeld => ?_)
            clear hK K
            refine wpAnyH_done (by kernel_rfl) ?_ _
            refine NoPanic.normal ?_
            go_wp2
            go_meet
            case rel => exact ⟨gx, eb, bb, E, rfl, HBG⟩
          exact AllReadyH.nil
        exact AllReadyH.nil
      exact AllReadyH.nil
    exact AllReadyH.nil
  case rest =>
    obtain ⟨gx, eb, bb, E, h3, HBG⟩ := hcut
    subst h3
    obtain ⟨V, hV⟩ : ∃ V, V = wc := ⟨_, rfl⟩
    subst hV
    obtain ⟨-, z0, z1, z2⟩ := HSS.out V HBG.out.be
    have hng : bb ≠ gx := ne_by HBG.out.bl HBG.out.bx
    have KS := settleB (trC E) (offB n) (fun s h l e => trC_no e) st (.slice q1 n c1) (.slice q2 m c2) L V (F := fun b => b < W2.heap.size) bb (block_lt HBG.out.bl) ((HRU.out.low (fun b h1 h2 => h2)).any HBG.out.be) (fun b h e => by have := HBG.out.gb; omega) (q1, n, c1) rfl
      (fun s r l hr e => trC_yes (by have := HHD.out r hr; omega) e) (by have := HM.out; omega) (fun r hr => by have := (HRW.out r hr).1; omega) gx (fun s w' => Hid (JB n eb bb gx E s.1 w') ∧ P E s.1)
      (fun s u u' hJ hb => ⟨hJ.1.out.keep hb, hJ.2⟩)
      (fun s u r c v hr hc hJ hbut hsys => by
        have h1 := HHD.out r hr
        obtain ⟨k, hk⟩ : ∃ k : Nat, r.head = (k : Int) := ⟨r.head.toNat, by omega⟩
        have hrow := (HRW.out r hr).2 c hc
        unfold mayRow at hrow
        simp only [Bool.and_eq_true, decide_eq_true_eq, List.all_eq_true] at hrow
        have h2 := turnB_any E s.1 n eb bb gx k v c.seq u (by omega) HN.out hsys hrow.1 hrow.2 hJ.1.out
        have hp := HPS.out E s.1 r c hr hc s.2 hJ.2
        have hok := trB_ok (E := E) s.2 r.head c.seq
        show Calls Try.prog _ _ u fun e w' => e = .returned (.bool (trB E s.1 r.head c.seq).1) ∧ Hid (Hid (JB n eb bb gx E (trB E s.1 r.head c.seq).2 w') ∧ P E (trB E s.1 r.head c.seq).2) ∧ Hid (But u.heap.size bb u w')
        rw [hk] at hp hok ⊢
        refine h2.mono ?_
        rintro e u' ⟨h4, h5, h6⟩
        exact ⟨h4, ⟨hJ.1.out.turned hng h6.out h5.out hok, hp⟩, h6⟩)
      ⟨fun _ => zB, fun _ => okB_zB⟩ ⟨⟨Lib.cell_of_heap HBG.out.bx 0, Lib.cell_of_heap HBG.out.bx 1, HBG.out.el, HBG.out.bl, fun _ => okB_zB⟩, HP0.out E⟩
    have HRB : Hid (∀ w3, But V.heap.size bb V w3 → w3.heap[gb + 1]? = some (.cells #[.slice none 0 0, .slice none 0 0] 67)) := fun w3 h => by
      have h1 := HGB.out.2
      have h2 := HBG.out.be.size
      have h3 := HBG.out.gb
      exact (h.block _ (by omega) (by omega)).trans ((HBG.out.be.block _ (by omega)).trans HKR.out)
    clear k0 k1 k2 hng
    go_wp2_with (go_at_call 31; refine KS.mono ?_; rintro e w3 ⟨rfl, s, HS, HJ, HB⟩; have y0 := HJ.out.1.out.y0; have y1 := HJ.out.1.out.y1; have hr := HRB.out w3 HB.out; have r0 : w3.cell? ⟨gb + 1, 0, none⟩ = some (.slice none 0 0) := Lib.cell_of_heap hr 0; have r1 : w3.cell? ⟨gb + 1, 1, none⟩ = some (.slice none 0 0) := Lib.cell_of_heap hr 1; have f0 : w3.frozen? ⟨gb + 1, 0, none⟩ = false := frzV hr 0; have f1 : w3.frozen? ⟨gb + 1, 1, none⟩ = false := frzV hr 1; have rl : gb + 1 < w3.heap.size := block_lt hr; clear hr KS)
    refine bodyPost_ret (v := .agg #[.slice (some ⟨eb, 0, none⟩) n n, .slice (some ⟨bb, 0, none⟩) n n]) ?_ rfl ?_
    · rw [results_cellF rfl]
      go_simp
    · obtain ⟨h1, h2⟩ := HGB.out
      have h3 := HBG.out.gb
      have h4 := HBG.out.ge
      have hbV := block_lt HBG.out.bl
      have hB3 : Below w.heap.size w w3 := B2.out.trans ((HBG.out.be.mono B2.out.size).trans ((HB.out.below (Nat.le_of_lt hbV)).mono (by omega)))
      refine ⟨eb, bb, E, s.1, rfl, by omega, by omega, ?_, ?_, HJ.out.1.out.ok, HBG.out.eo, fun r hr c hc => HS.out r hr c hc, HJ.out.2, ?_⟩
      · exact (Below.heap_setCell _ _ _ _ (by show eb ≠ gb + 1; omega)).trans ((Below.heap_setCell _ _ _ _ (by show eb ≠ gb + 1; omega)).trans HJ.out.1.out.el)
      · exact (Below.heap_setCell _ _ _ _ (by show bb ≠ gb + 1; omega)).trans ((Below.heap_setCell _ _ _ _ (by show bb ≠ gb + 1; omega)).trans HJ.out.1.out.bl)
      · exact (hB3.setCell (p := ⟨gb + 1, 0, none⟩) (by show w.heap.size ≤ gb + 1; omega) _).setCell (p := ⟨gb + 1, 1, none⟩) (by show w.heap.size ≤ gb + 1; omega) _
end Go.Proofs.Ytopokicdgdjgkaa
