/- awake of layer 12. -/
import Derived.Test.YtopokicdgdjgkaaFirX
import Derived.Test.YtopokicdgdjgkaaSbF
import Derived.Test.YtopokicdgdjgkaaRefF
import Derived.Test.YtopokicdgdjgkaaGf
namespace Go.Proofs.Ytopokicdgdjgkaa
set_option linter.unusedVariables false
set_option linter.unusedSimpArgs false
open Go.ChangeShapes Go.WideShapes Go.ChangeAt Go.RowKit

theorem emp_same {L : List Ru} {E E' : Nat → Bool} (h : EmpOk L E) (h' : EmpOk L E') : E = E' := by
  funext k
  cases e : E k with
  | true => exact (h.le E' h'.cl k e).symm
  | false =>
    cases e' : E' k with
    | false => rfl
    | true => rw [h'.le E h.cl k e'] at e; cases e
theorem byAt_same {w : World} {b n : Nat} {B C : Nat → Nat → Nat} (h : ByAt w b n B) (hc : ∀ i, i < n → ∀ j, j < 4 → B i j = C i j) : ByAt w b n C := by
  unfold ByAt at h ⊢
  rw [h]
  have : bysA n B = bysA n C := by
    apply Array.ext_getElem?
    intro i
    rw [bysA_get, bysA_get]
    split
    · rw [hc _ (by omega) _ (by omega)]
    · rfl
  rw [this]
theorem foAt_same {w : World} {b n : Nat} {B C : Nat → Fo} (h : FoAt w b n B) (hc : ∀ i, i < n → (∀ j, j < 4 → (B i).1 j = (C i).1 j) ∧ (B i).2 = (C i).2) : FoAt w b n C := by
  unfold FoAt at h ⊢
  rw [h]
  have : fosA n B = fosA n C := by
    apply Array.ext_getElem?
    intro i
    rw [fosA_get, fosA_get]
    split
    · rename_i hi
      obtain ⟨h1, h2⟩ := hc (i / 5) (by omega)
      unfold foV
      split
      · rw [h2]
      · rw [h1 _ (by omega)]
    · rfl
  rw [this]
/-- Two that are closed and least are alike. -/
theorem fst_same {g : Gr} {E E' : Nat → Bool} {B B' : Nat → Nat → Nat} (h : FstOk g E B) (h' : FstOk g E' B') : E = E' ∧ (∀ k, leB (B k) (B' k)) ∧ ∀ k, leB (B' k) (B k) := by
  have e := emp_same h.eo h'.eo
  subst e
  exact ⟨rfl, h.le B' h'.cl, h'.le B h.cl⟩
theorem closF_with {g : Gr} {E : Nat → Bool} {B B' : Nat → Nat → Nat} {D : Nat → Fo} (h : ClosF g E B D) (hB : ∀ k, leB (B' k) (B k)) : ClosF g E B' D :=
  ⟨h.1, fun r hr c hc l1 s l2 e hn => (com_mono (fun _ e => e) hB (leF.refl _) l2).trans (h.2 r hr c hc l1 s l2 e hn)⟩
theorem split_cons {P : Sy → List Sy → Prop} {s0 : Sy} {l : List Sy} (h0 : P s0 l) (h : ∀ l1 s l2, l = l1 ++ s :: l2 → P s l2) : ∀ l1 s l2, s0 :: l = l1 ++ s :: l2 → P s l2 := fun l1 s l2 e => by
  cases l1 with
  | nil => injection e with e1 e2; subst e1; subst e2; exact h0
  | cons a l1 => injection e with e1 e2; exact h l1 s l2 e2
theorem split_nil {P : Sy → List Sy → Prop} : ∀ l1 s l2, ([] : List Sy) = l1 ++ s :: l2 → P s l2 := fun l1 s l2 e => by cases l1 <;> cases e

def a12G : Gr := ⟨0, [⟨#[83]⟩, ⟨#[88]⟩], [⟨0, [⟨false, [⟨1, 0, 0⟩, ⟨0, 0, 0⟩, ⟨-1, 98, 98⟩]⟩, ⟨true, [⟨-1, 97, 97⟩]⟩]⟩, ⟨1, [⟨false, []⟩]⟩]⟩
def a12E : Nat → Bool := fun k => decide (k = 1)
def a12B : Nat → Nat → Nat := fun k => if k = 0 then rngB 97 97 else zB
def a12D : Nat → Fo := fun k => if k = 0 then (rngB 98 98, true) else if k = 1 then (rngB 97 97, false) else (zB, false)
theorem a12_may : mayG a12G = true := by kernel_rfl
theorem a12_mem {P : Ru → Cn → Prop} (h1 : P ⟨0, [⟨false, [⟨1, 0, 0⟩, ⟨0, 0, 0⟩, ⟨-1, 98, 98⟩]⟩, ⟨true, [⟨-1, 97, 97⟩]⟩]⟩ ⟨false, [⟨1, 0, 0⟩, ⟨0, 0, 0⟩, ⟨-1, 98, 98⟩]⟩) (h2 : P ⟨0, [⟨false, [⟨1, 0, 0⟩, ⟨0, 0, 0⟩, ⟨-1, 98, 98⟩]⟩, ⟨true, [⟨-1, 97, 97⟩]⟩]⟩ ⟨true, [⟨-1, 97, 97⟩]⟩) (h3 : P ⟨1, [⟨false, []⟩]⟩ ⟨false, []⟩) : ∀ r, r ∈ a12G.rules → ∀ c, c ∈ r.conj → P r c := fun r hr c hc => by
  rcases List.mem_cons.1 hr with rfl | hr
  · rcases List.mem_cons.1 hc with rfl | hc
    · exact h1
    · rw [List.mem_singleton.1 hc]; exact h2
  · obtain rfl := List.mem_singleton.1 hr
    rw [List.mem_singleton.1 hc]; exact h3
theorem a12_emp : EmpOk a12G.rules a12E := by
  have h3 : ∀ C, ClosE a12G.rules C → C 1 = true := fun C hC => hC _ (List.mem_cons_of_mem _ (List.mem_cons_self ..)) _ (List.mem_cons_self ..) rfl
  refine ⟨a12_mem (fun h => by revert h; decide) (fun h => by revert h; decide) (fun _ => rfl), fun C hC k hk => ?_, fun k hk => ?_⟩
  · have e : k = 1 := of_decide_eq_true hk
    subst e; exact h3 C hC
  · have e : k = 1 := of_decide_eq_true hk
    subst e
    exact ⟨_, _, List.mem_cons_of_mem _ (List.mem_cons_self ..), List.mem_cons_self .., rfl, rfl⟩
theorem a12_fst : FstOk a12G a12E a12B := by
  refine ⟨a12_emp, fun k => ?_, a12_mem ?_ ?_ ?_, fun C hC k => ?_⟩
  · unfold a12B; split
    · exact okB_rng _ _
    · exact okB_zB
  · exact leB_or (leB_zero _) (leB.refl _)
  · exact leB.refl _
  · exact leB.refl _
  · unfold a12B
    split
    · rename_i e; subst e
      exact hC _ (List.mem_cons_self ..) _ (List.mem_cons_of_mem _ (List.mem_cons_self ..))
    · exact leB_zero _
theorem a12_fol (D : Nat → Fo) (hc : ClosF a12G a12E a12B D) (hl : LeastF a12G a12E a12B D) : ∀ k, leF (a12D k) (D k) ∧ leF (D k) (a12D k) := by
  have hC : ClosF a12G a12E a12B a12D := by
    refine ⟨rfl, a12_mem ?_ ?_ ?_⟩
    · refine split_cons (fun _ => ?_) (split_cons (fun _ => ?_) (split_cons (fun h => absurd rfl h) split_nil))
      · exact ⟨leB.refl _, fun e => by cases e⟩
      · exact ⟨leB.refl _, fun e => rfl⟩
    · exact split_cons (fun h => absurd rfl h) split_nil
    · exact split_nil
  refine fun k => ⟨?_, hl _ hC k⟩
  unfold a12D
  split
  · rename_i e; subst e
    refine ⟨?_, fun _ => hc.1⟩
    exact (hc.2 _ (List.mem_cons_self ..) _ (List.mem_cons_self ..) [⟨1, 0, 0⟩] ⟨0, 0, 0⟩ [⟨-1, 98, 98⟩] rfl (by decide)).1
  · split
    · rename_i e; subst e
      exact ⟨(hc.2 _ (List.mem_cons_self ..) _ (List.mem_cons_self ..) [] ⟨1, 0, 0⟩ [⟨0, 0, 0⟩, ⟨-1, 98, 98⟩] rfl (by decide)).1, fun e => by cases e⟩
    · exact ⟨leB_zero _, fun e => by cases e⟩
def a12P (n : Nat) : List Obj :=
  [.cells #[.int .i64 (-1), .int .i64 97, .int .i64 97] 36, .cells #[.int .i64 (-1), .int .i64 98, .int .i64 98] 36, .cells #[.int .i64 0, .int .i64 0, .int .i64 0] 36, .cells #[.int .i64 1, .int .i64 0, .int .i64 0] 36,
   .cells #[.string ⟨#[83]⟩, .string ⟨#[88]⟩] 9, .cells #[.int .i64 1, .int .i64 0, .int .i64 0, .int .i64 0, .int .i64 0, .int .i64 0, .int .i64 (-1), .int .i64 98, .int .i64 98] 36, .cells #[.int .i64 (-1), .int .i64 97, .int .i64 97] 36,
   .cells #[.bool false, .slice (some ⟨n + 1 + 1 + 1 + 1 + 1, 0, none⟩) 3 3, .bool true, .slice (some ⟨n + 1 + 1 + 1 + 1 + 1 + 1, 0, none⟩) 1 1] 30, .cells #[.bool false, .slice none 0 0] 30,
   .cells #[.int .i64 0, .slice (some ⟨n + 1 + 1 + 1 + 1 + 1 + 1 + 1, 0, none⟩) 2 2, .int .i64 1, .slice (some ⟨n + 1 + 1 + 1 + 1 + 1 + 1 + 1 + 1, 0, none⟩) 1 1] 33,
   .cells #[.int .i64 0, .slice (some ⟨n + 1 + 1 + 1 + 1, 0, none⟩) 2 2, .slice (some ⟨n + 1 + 1 + 1 + 1 + 1 + 1 + 1 + 1 + 1, 0, none⟩) 2 2] 27]
theorem leK (k : Nat) (h : k ≤ 1000) : k ≤ maxLen ∧ k ≤ k := by unfold maxLen; omega
theorem a12_nil (X : World) : IsSys X Any (.slice none 0 0) [] := ⟨none, 0, rfl, ⟨Nat.zero_le _, Nat.zero_le _⟩, fun h => absurd h (Nat.lt_irrefl _)⟩
theorem a12_gram (X : World) (n : Nat) (h : ∀ k o, (a12P n)[k]? = some o → X.heap[n + k]? = some o) : GrIs X Any (.slice (some ⟨n + 1 + 1 + 1 + 1, 0, none⟩) 2 2) (.slice (some ⟨n + 1 + 1 + 1 + 1 + 1 + 1 + 1 + 1 + 1, 0, none⟩) 2 2) a12G := by
  have i1 : IsSys X Any (.slice (some ⟨n + 1 + 1 + 1 + 1 + 1, 0, none⟩) 3 3) [⟨1, 0, 0⟩, ⟨0, 0, 0⟩, ⟨-1, 98, 98⟩] := reads_laid (h 5 _ rfl) (leK 3 (by omega)) rfl
  have i2 : IsSys X Any (.slice (some ⟨n + 1 + 1 + 1 + 1 + 1 + 1, 0, none⟩) 1 1) [⟨-1, 97, 97⟩] := reads_laid (h 6 _ rfl) (leK 1 (by omega)) rfl
  have c1 : IsCns X Any (.slice (some ⟨n + 1 + 1 + 1 + 1 + 1 + 1 + 1, 0, none⟩) 2 2) [⟨false, [⟨1, 0, 0⟩, ⟨0, 0, 0⟩, ⟨-1, 98, 98⟩]⟩, ⟨true, [⟨-1, 97, 97⟩]⟩] := ⟨[_, _], reads_laid (h 7 _ rfl) (leK 2 (by omega)) rfl, ((CnsIn.nil _ _).snoc (c := ⟨false, _⟩) i1).snoc (c := ⟨true, _⟩) i2⟩
  have c2 : IsCns X Any (.slice (some ⟨n + 1 + 1 + 1 + 1 + 1 + 1 + 1 + 1, 0, none⟩) 1 1) [⟨false, []⟩] := ⟨[_], reads_laid (h 8 _ rfl) (leK 1 (by omega)) rfl, (CnsIn.nil _ _).snoc (c := ⟨false, _⟩) (a12_nil X)⟩
  exact ⟨reads_laid (h 4 _ rfl) (leK 2 (by omega)) rfl, [_, _], reads_laid (h 9 _ rfl) (leK 2 (by omega)) rfl, ((RusIn.nil _ _).snoc (c := ⟨0, _⟩) c1).snoc (c := ⟨1, _⟩) c2⟩
theorem cnt_one97 : cntTo (hasB (rngB 97 97)) 256 = 1 := by decide +kernel
theorem cnt_zero : cntTo (hasB zB) 256 = 0 := by decide +kernel
theorem has_97 : hasZ (rngB 97 97) 97 = true := by decide +kernel
theorem has_98 : hasZ (rngB 98 98) 98 = true := by decide +kernel
theorem small_names {l : List ByteArray} (h : l.all (fun s => decide (s.size ≤ 1000)) = true) : ∀ s, s ∈ l → s.size ≤ maxLen := fun s hs => by
  have := of_decide_eq_true (List.all_eq_true.1 h s hs)
  unfold maxLen; omega
set_option maxHeartbeats 8000000 in
set_option maxRecDepth 100000 in
theorem awake12_core (w : World)
    (KE : ∀ v1 v2 w, GrIs w Any v1 v2 a12G → Calls Try.prog 11 #[.agg #[.int .i64 0, v1, v2]] w fun e w' => ∃ b, e = .returned (.tuple #[.slice (some ⟨b, 0, none⟩) 2 2, .int .i64 0]) ∧ Hid (BlAt w' b 2 a12E) ∧ Hid (Below w.heap.size w w'))
    (KF : ∀ v1 v2 w, GrIs w Any v1 v2 a12G → Calls Try.prog 12 #[.agg #[.int .i64 0, v1, v2]] w fun e w' => ∃ b, e = .returned (.tuple #[.slice (some ⟨b, 0, none⟩) 2 2, .int .i64 0]) ∧ Hid (ByAt w' b 2 a12B) ∧ Hid (Below w.heap.size w w'))
    (KL : ∀ v1 v2 w, GrIs w Any v1 v2 a12G → Calls Try.prog 13 #[.agg #[.int .i64 0, v1, v2]] w fun e w' => ∃ b, e = .returned (.tuple #[.slice (some ⟨b, 0, none⟩) 2 2, .int .i64 0]) ∧ Hid (FoAt w' b 2 a12D) ∧ Hid (Below w.heap.size w w'))
    (KN : ∀ w, Calls Try.prog 12 #[.agg #[.int .i64 0, .slice none 0 0, .slice none 0 0]] w fun e w' => e = .returned (.tuple #[.slice none 0 0, .int .i64 1200]) ∧ Hid (Below w.heap.size w w')) :
    Calls Try.prog 7 #[] w fun e w' => e = .returned (.bool true) ∧ Hid (Below w.heap.size w w') := by
  have HKE := hid_ofF KE
  have HKF := hid_ofF KF
  have HKL := hid_ofF KL
  have HKN := hid_ofF KN
  clear KE KF KL KN
  obtain ⟨ra, hra⟩ : ∃ r, r = rngB 97 97 := ⟨_, rfl⟩
  obtain ⟨rb, hrb⟩ : ∃ r, r = rngB 98 98 := ⟨_, rfl⟩
  obtain ⟨rz, hrz⟩ : ∃ r, r = zB := ⟨_, rfl⟩
  have HH1 : Hid (∀ w, Calls Try.prog 18 #[bv ra, .int .i64 97] w fun e w' => e = .returned (.bool true) ∧ Below w.heap.size w w') := fun w => by rw [hra]; have h := rhas_any (rngB 97 97) 97 w (okB_rng _ _); rw [has_97] at h; exact h
  have HH2 : Hid (∀ w, Calls Try.prog 18 #[bv rb, .int .i64 98] w fun e w' => e = .returned (.bool true) ∧ Below w.heap.size w w') := fun w => by rw [hrb]; have h := rhas_any (rngB 98 98) 98 w (okB_rng _ _); rw [has_98] at h; exact h
  have HC1 : Hid (∀ w, Calls Try.prog 19 #[bv ra] w fun e w' => e = .returned (.int .i64 1) ∧ Below w.heap.size w w') := fun w => by rw [hra]; have h := rcount_any (rngB 97 97) w (okB_rng _ _); rw [cnt_one97] at h; exact h
  have HC2 : Hid (∀ w, Calls Try.prog 19 #[bv rz] w fun e w' => e = .returned (.int .i64 0) ∧ Below w.heap.size w w') := fun w => by rw [hrz]; have h := rcount_any zB w okB_zB; rw [cnt_zero] at h; exact h
  have HB0 : Hid (a12B 0 = ra ∧ a12B 1 = rz) := by rw [hra, hrz]; exact ⟨rfl, rfl⟩
  have HD0 : Hid (a12D 0 = (rb, true) ∧ a12D 1 = (ra, false)) := by rw [hra, hrb]; exact ⟨rfl, rfl⟩
  clear hra hrb hrz
  obtain ⟨X, hX⟩ : ∃ X, X = blks w (a12P w.heap.size) := ⟨_, rfl⟩
  have hb : ∀ k o, (a12P w.heap.size)[k]? = some o → X.heap[w.heap.size + k]? = some o := fun k o ho => by rw [hX]; exact blks_at _ w k o ho
  have HBX : Hid (Below w.heap.size w X) := by rw [hX]; exact blks_below _ _
  have HG : Hid (∀ V, Below X.heap.size X V → GrIs V Any (.slice (some ⟨w.heap.size + 1 + 1 + 1 + 1, 0, none⟩) 2 2) (.slice (some ⟨w.heap.size + 1 + 1 + 1 + 1 + 1 + 1 + 1 + 1 + 1, 0, none⟩) 2 2) a12G ∧ (V.cell? ⟨w.heap.size + 1 + 1 + 1 + 1 + 1 + 1 + 1 + 1 + 1 + 1, 0, none⟩ = some (.int .i64 0) ∧ V.cell? ⟨w.heap.size + 1 + 1 + 1 + 1 + 1 + 1 + 1 + 1 + 1 + 1, 1, none⟩ = some (.slice (some ⟨w.heap.size + 1 + 1 + 1 + 1, 0, none⟩) 2 2) ∧ V.cell? ⟨w.heap.size + 1 + 1 + 1 + 1 + 1 + 1 + 1 + 1 + 1 + 1, 2, none⟩ = some (.slice (some ⟨w.heap.size + 1 + 1 + 1 + 1 + 1 + 1 + 1 + 1 + 1, 0, none⟩) 2 2))) := fun V h => by
    have hg := hb 10 _ rfl
    have hg2 := (h.block _ (block_lt hg)).trans hg
    exact ⟨(a12_gram X w.heap.size hb).any h, Lib.cell_of_heap hg2 0, Lib.cell_of_heap hg2 1, Lib.cell_of_heap hg2 2⟩
  have hX2 : (((((((((((w.alloc (.cells #[.int .i64 (-1), .int .i64 97, .int .i64 97] 36)).alloc (.cells #[.int .i64 (-1), .int .i64 98, .int .i64 98] 36)).alloc (.cells #[.int .i64 0, .int .i64 0, .int .i64 0] 36)).alloc (.cells #[.int .i64 1, .int .i64 0, .int .i64 0] 36)).alloc (.cells #[.string ⟨#[83]⟩, .string ⟨#[88]⟩] 9)).alloc (.cells #[.int .i64 1, .int .i64 0, .int .i64 0, .int .i64 0, .int .i64 0, .int .i64 0, .int .i64 (-1), .int .i64 98, .int .i64 98] 36)).alloc (.cells #[.int .i64 (-1), .int .i64 97, .int .i64 97] 36)).alloc (.cells #[.bool false, .slice (some ⟨w.heap.size + 1 + 1 + 1 + 1 + 1, 0, none⟩) 3 3, .bool true, .slice (some ⟨w.heap.size + 1 + 1 + 1 + 1 + 1 + 1, 0, none⟩) 1 1] 30)).alloc (.cells #[.bool false, .slice none 0 0] 30)).alloc (.cells #[.int .i64 0, .slice (some ⟨w.heap.size + 1 + 1 + 1 + 1 + 1 + 1 + 1, 0, none⟩) 2 2, .int .i64 1, .slice (some ⟨w.heap.size + 1 + 1 + 1 + 1 + 1 + 1 + 1 + 1, 0, none⟩) 1 1] 33)).alloc (.cells #[.int .i64 0, .slice (some ⟨w.heap.size + 1 + 1 + 1 + 1, 0, none⟩) 2 2, .slice (some ⟨w.heap.size + 1 + 1 + 1 + 1 + 1 + 1 + 1 + 1 + 1, 0, none⟩) 2 2] 27)) = X := hX.symm
  clear hb hX
  go_enter Try.func7, Try.ntmps7
  go_upto_region 3 with fail
  try rw [hX2]
  clear hX2
  obtain ⟨-, g0, g1, g2⟩ := HG.out X (Below.refl _ _)
  go_upto_region 6 with (first
    | (have hh := HB2; clear hh; go_at_call 13; refine (HKL.out _ _ _ (HG.out _ HB2.out).1).mono ?_; rintro e w3 ⟨b3, rfl, i3, k3⟩; have HB3 : Hid (Below X.heap.size X w3) := HB2.out.trans (k3.out.mono HB2.out.size); clear g0 g1 g2)
    | (have hh := HB1; clear hh; go_at_call 12; refine (HKF.out _ _ _ (HG.out _ HB1.out).1).mono ?_; rintro e w2 ⟨b2, rfl, i2, k2⟩; have HB2 : Hid (Below X.heap.size X w2) := HB1.out.trans (k2.out.mono HB1.out.size); clear g0 g1 g2; obtain ⟨-, g0, g1, g2⟩ := HG.out w2 HB2.out)
    | (go_at_call 11; refine (HKE.out _ _ _ (HG.out _ (Below.refl _ _)).1).mono ?_; rintro e w1 ⟨b1, rfl, i1, k1⟩; have HB1 : Hid (Below X.heap.size X w1) := k1.out; clear g0 g1 g2; obtain ⟨-, g0, g1, g2⟩ := HG.out w1 HB1.out))
  have HI1 : Hid (BlAt w3 b1 2 a12E) := (i1.out.keep k2.out).keep k3.out
  have HI2 : Hid (ByAt w3 b2 2 a12B) := (k3.out.block _ (block_lt i2.out)).trans i2.out
  have HI3 : Hid (FoAt w3 b3 2 a12D) := i3.out
  have HCC : Hid (∀ V, Below w3.heap.size w3 V → (V.cell? ⟨b2, 0, none⟩ = some (.int .u64 ((ra 0 : Nat) : Int)) ∧ V.cell? ⟨b2, 1, none⟩ = some (.int .u64 ((ra 1 : Nat) : Int)) ∧ V.cell? ⟨b2, 2, none⟩ = some (.int .u64 ((ra 2 : Nat) : Int)) ∧ V.cell? ⟨b2, 3, none⟩ = some (.int .u64 ((ra 3 : Nat) : Int)) ∧ V.cell? ⟨b2, 4, none⟩ = some (.int .u64 ((rz 0 : Nat) : Int)) ∧ V.cell? ⟨b2, 5, none⟩ = some (.int .u64 ((rz 1 : Nat) : Int)) ∧ V.cell? ⟨b2, 6, none⟩ = some (.int .u64 ((rz 2 : Nat) : Int)) ∧ V.cell? ⟨b2, 7, none⟩ = some (.int .u64 ((rz 3 : Nat) : Int))) ∧ (V.cell? ⟨b3, 0, none⟩ = some (.int .u64 ((rb 0 : Nat) : Int)) ∧ V.cell? ⟨b3, 1, none⟩ = some (.int .u64 ((rb 1 : Nat) : Int)) ∧ V.cell? ⟨b3, 2, none⟩ = some (.int .u64 ((rb 2 : Nat) : Int)) ∧ V.cell? ⟨b3, 3, none⟩ = some (.int .u64 ((rb 3 : Nat) : Int)) ∧ V.cell? ⟨b3, 4, none⟩ = some (.bool true) ∧ V.cell? ⟨b3, 5, none⟩ = some (.int .u64 ((ra 0 : Nat) : Int)) ∧ V.cell? ⟨b3, 6, none⟩ = some (.int .u64 ((ra 1 : Nat) : Int)) ∧ V.cell? ⟨b3, 7, none⟩ = some (.int .u64 ((ra 2 : Nat) : Int)) ∧ V.cell? ⟨b3, 8, none⟩ = some (.int .u64 ((ra 3 : Nat) : Int)) ∧ V.cell? ⟨b3, 9, none⟩ = some (.bool false))) := fun V h => by
    have hy : ByAt V b2 2 a12B := (h.block _ (block_lt HI2.out)).trans HI2.out
    have hf : FoAt V b3 2 a12D := (h.block _ (block_lt HI3.out)).trans HI3.out
    obtain ⟨e0, e1⟩ := HB0.out
    obtain ⟨d0, d1⟩ := HD0.out
    have y : ∀ i j, i < 2 → j < 4 → V.cell? ⟨b2, i * 4 + j, none⟩ = some (.int .u64 ((a12B i j : Nat) : Int)) := fun i j hi hj => hy.cell hi hj
    have f : ∀ i j, i < 2 → j < 5 → V.cell? ⟨b3, i * 5 + j, none⟩ = some (foV (a12D i) j) := fun i j hi hj => hf.cell hi hj
    have y0 := fun j hj => y 0 j (by omega) hj
    have y1 := fun j hj => y 1 j (by omega) hj
    have f0 := fun j hj => f 0 j (by omega) hj
    have f1 := fun j hj => f 1 j (by omega) hj
    rw [e0] at y0
    rw [e1] at y1
    rw [d0] at f0
    rw [d1] at f1
    exact ⟨⟨y0 0 (by omega), y0 1 (by omega), y0 2 (by omega), y0 3 (by omega), y1 0 (by omega), y1 1 (by omega), y1 2 (by omega), y1 3 (by omega)⟩, f0 0 (by omega), f0 1 (by omega), f0 2 (by omega), f0 3 (by omega), f0 4 (by omega), f1 0 (by omega), f1 1 (by omega), f1 2 (by omega), f1 3 (by omega), f1 4 (by omega)⟩
  have HBW : Hid (Below w.heap.size w w3) := HBX.out.trans (HB3.out.mono HBX.out.size)
  clear i1 i2 i3 k1 k2 k3 HB1 HB2 HB3 HG HKE HKF HKL
  have T0 : Hid True := trivial
  have T1 : Hid True := trivial
  have T2 : Hid True := trivial
  go_wp2_with (first
    | (go_at_call 12; refine (HKN.out _).mono ?_; rintro e w4 ⟨rfl, b4⟩; obtain ⟨x4, hx4⟩ : ∃ x, x = w4.alloc (.cells #[.bool false, .bool true] 4) := ⟨_, rfl⟩; have HB4 : Hid (Below w3.heap.size w3 w4) := b4.out; have HX4 : Hid (BlAt x4 w4.heap.size 2 a12E) := (by rw [hx4]; exact heap_alloc_new _ _); have HI4 : Hid (BlAt x4 b1 2 a12E) := (HI1.out.keep HB4.out).keep (by rw [hx4]; exact bel1 _ _); have HB5 : Hid (Below w3.heap.size w3 x4) := (by rw [hx4]; exact HB4.out.alloc HB4.out.size _))
    | (go_at_call 17; rw [← hx4]; refine (sameBls_yes _ _ _ _ (HI4.out.bls (F := Any) trivial (by decide)) (HX4.out.bls (F := Any) trivial (by decide)) (by decide)).mono ?_; rintro e w6 ⟨rfl, b6⟩; have HB6 : Hid (Below w3.heap.size w3 w6) := HB5.out.trans (b6.out.mono HB5.out.size); obtain ⟨⟨y0, y1, y2, y3, y4, y5, y6, y7⟩, f0, f1, f2, f3, f4, f5, f6, f7, f8, f9⟩ := HCC.out w6 HB6.out)
    | (go_at_call 14; refine (num_any _ _).mono ?_; rintro e wn ⟨rfl, rfl⟩)
    | (have hh := T0; clear hh T0; go_at_call 18; refine (HH1.out _).mono ?_; rintro e w7 ⟨rfl, b7⟩; have HB7 : Hid (Below w3.heap.size w3 w7) := HB6.out.trans (b7.mono HB6.out.size); clear b7 y0 y1 y2 y3 y4 y5 y6 y7 f0 f1 f2 f3 f4 f5 f6 f7 f8 f9; obtain ⟨⟨y0, y1, y2, y3, y4, y5, y6, y7⟩, f0, f1, f2, f3, f4, f5, f6, f7, f8, f9⟩ := HCC.out w7 HB7.out)
    | (have hh := T1; clear hh T1; go_at_call 19; refine (HC1.out _).mono ?_; rintro e w8 ⟨rfl, b8⟩; have HB8 : Hid (Below w3.heap.size w3 w8) := HB7.out.trans (b8.mono HB7.out.size); clear b8 y0 y1 y2 y3 y4 y5 y6 y7 f0 f1 f2 f3 f4 f5 f6 f7 f8 f9; obtain ⟨⟨y0, y1, y2, y3, y4, y5, y6, y7⟩, f0, f1, f2, f3, f4, f5, f6, f7, f8, f9⟩ := HCC.out w8 HB8.out)
    | (go_at_call 19; refine (HC2.out _).mono ?_; rintro e w9 ⟨rfl, b9⟩; have HB9 : Hid (Below w3.heap.size w3 w9) := HB8.out.trans (b9.mono HB8.out.size); clear b9 y0 y1 y2 y3 y4 y5 y6 y7 f0 f1 f2 f3 f4 f5 f6 f7 f8 f9; obtain ⟨⟨y0, y1, y2, y3, y4, y5, y6, y7⟩, f0, f1, f2, f3, f4, f5, f6, f7, f8, f9⟩ := HCC.out w9 HB9.out)
    | (have hh := T2; clear hh T2; go_at_call 18; refine (HH2.out _).mono ?_; rintro e wa ⟨rfl, ba⟩; have HBA : Hid (Below w3.heap.size w3 wa) := HB9.out.trans (ba.mono HB9.out.size); clear ba y0 y1 y2 y3 y4 y5 y6 y7 f0 f1 f2 f3 f4 f5 f6 f7 f8 f9; obtain ⟨⟨y0, y1, y2, y3, y4, y5, y6, y7⟩, f0, f1, f2, f3, f4, f5, f6, f7, f8, f9⟩ := HCC.out wa HBA.out)
    | (go_at_call 18; refine (HH1.out _).mono ?_; rintro e wb ⟨rfl, bb⟩; have HBB : Hid (Below w3.heap.size w3 wb) := HBA.out.trans (bb.mono HBA.out.size); clear bb y0 y1 y2 y3 y4 y5 y6 y7 f0 f1 f2 f3 f4 f5 f6 f7 f8 f9))
  go_ret
  exact ⟨rfl, HBW.out.trans (HBB.out.mono HBW.out.size)⟩
theorem awake12_any (w : World) : Calls Try.prog 7 #[] w fun e w' => e = .returned (.bool true) ∧ Hid (Below w.heap.size w w') := by
  have hS : Short a12G.rules := a12_mem (by decide) (by decide) (by decide)
  have hn : ∀ s, s ∈ a12G.names → s.size ≤ maxLen := small_names (by decide)
  refine awake12_core w (fun v1 v2 w hg => ?_) (fun v1 v2 w hg => ?_) (fun v1 v2 w hg => ?_) (fun w => ?_)
  · refine (empty_ok a12G v1 v2 w hg hn hS a12_may).mono ?_
    rintro e w' ⟨eb, E, h1, h2, h3, h4, h5⟩
    rw [emp_same h4.out a12_emp] at h3
    exact ⟨eb, h1, h3, h5⟩
  · refine (fst_ok a12G v1 v2 w hg hn hS a12_may).mono ?_
    rintro e w' ⟨bb, E, B, h1, h2, h3, h4, h5⟩
    obtain ⟨-, s1, s2⟩ := fst_same h4.out a12_fst
    exact ⟨bb, h1, byAt_same h3.out (fun i _ j hj => (s1 i).anti (s2 i) j hj), h5⟩
  · refine (follow_ok a12G v1 v2 w hg hn hS a12_may).mono ?_
    rintro e w' ⟨fb, E, B, D, h1, h2, h3, h4, h5, h6⟩
    obtain ⟨rfl, s1, s2⟩ := fst_same h4.out a12_fst
    obtain ⟨o1, o2, o3⟩ := h5.out
    have q := a12_fol D (closF_with o2 s2) (fun C hC k => o3 C (closF_with hC s1) k)
    refine ⟨fb, h1, foAt_same h3.out (fun i _ => ⟨fun j hj => ((q i).2.1).anti (q i).1.1 j hj, ?_⟩), h6⟩
    cases e1 : (D i).2 with
    | true => exact ((q i).2.2 e1).symm
    | false =>
      cases e2 : (a12D i).2 with
      | false => rfl
      | true => rw [(q i).1.2 e2] at e1; cases e1
  · exact fst_no ⟨0, [], []⟩ (.slice none 0 0) (.slice none 0 0) w (F0 := Any) ⟨⟨none, 0, rfl, ⟨Nat.zero_le _, Nat.zero_le _⟩, fun h => absurd h (Nat.lt_irrefl _)⟩, [], ⟨none, 0, rfl, ⟨Nat.zero_le _, Nat.zero_le _⟩, fun h => absurd h (Nat.lt_irrefl _)⟩, RusIn.nil w Any⟩ (fun s hs => by cases hs) (fun r hr => by cases hr) (by kernel_rfl)
end Go.Proofs.Ytopokicdgdjgkaa
