/- The meaning of a span hangs on its bytes alone; plain. No program in sight. -/
import Derived.Test.YtclceeghjgeplaaGreatDoorGb
namespace Go.Proofs.YtclceeghjgeplaaGreatDoor
set_option linter.unusedVariables false

section
variable {b b' : Nat → Nat} {k n n' : Nat} {L : List Ru}
/-- A row of symbols has the bytes of a span that lies further on. -/
theorem restB_shift {M M' : SpM} {J : Nat} (hb : ∀ i, i < J → b' (k + i) = b i) : ∀ (l : List Sy) (i j : Nat), i ≤ j → j ≤ J → (∀ s, s ∈ l → s.name ≠ -1 → ∀ i j, i ≤ j → j ≤ J → M s.name.toNat i j = M' s.name.toNat (k + i) (k + j)) → restB b M l i j = restB b' M' l (k + i) (k + j)
  | [], i, j, hij, hj, hM => by
    unfold restB
    by_cases e : i = j
    · subst e; simp
    · simp [e]
  | s :: l, i, j, hij, hj, hM => by
    have hM' : ∀ s, s ∈ l → s.name ≠ -1 → ∀ i j, i ≤ j → j ≤ J → M s.name.toNat i j = M' s.name.toNat (k + i) (k + j) := fun s hs => hM s (List.mem_cons_of_mem _ hs)
    unfold restB
    by_cases e : s.name = -1
    · rw [if_pos e, if_pos e]
      by_cases hlt : i < j
      · have h1 : k + i < k + j := by omega
        have h2 : inR b s i = inR b' s (k + i) := by unfold inR; rw [hb i (by omega)]
        have h3 := restB_shift hb l (i + 1) j (by omega) hj hM'
        rw [h2, h3, Nat.add_assoc]
        simp [hlt]
      · have h1 : ¬ k + i < k + j := by omega
        simp [hlt]
    · rw [if_neg e, if_neg e, Bool.eq_iff_iff, List.any_eq_true, List.any_eq_true]
      have hs := hM s (List.mem_cons_self ..) e
      constructor
      · rintro ⟨c, hc, h⟩
        have hcj : c ≤ j := by have := List.mem_range.1 hc; omega
        simp only [Bool.and_eq_true, decide_eq_true_eq] at h
        refine ⟨k + c, List.mem_range.2 (by omega), ?_⟩
        simp only [Bool.and_eq_true, decide_eq_true_eq]
        exact ⟨by omega, by rw [← hs i c h.1 (by omega)]; exact h.2.1, by rw [← restB_shift hb l c j hcj hj hM']; exact h.2.2⟩
      · rintro ⟨c, hc, h⟩
        have hcj : c ≤ k + j := by have := List.mem_range.1 hc; omega
        simp only [Bool.and_eq_true, decide_eq_true_eq] at h
        obtain ⟨c', rfl⟩ : ∃ c', c = k + c' := ⟨c - k, by omega⟩
        refine ⟨c', List.mem_range.2 (by omega), ?_⟩
        simp only [Bool.and_eq_true, decide_eq_true_eq]
        exact ⟨by omega, by rw [hs i c' (by omega) (by omega)]; exact h.2.1, by rw [restB_shift hb l c' j (by omega) hj hM']; exact h.2.2⟩
theorem red3_shift {M M' X X' : SpM} (hb : ∀ i, i < n → b' (k + i) = b i) (hM : ∀ x i j, i ≤ j → j ≤ n → M x i j = M' x (k + i) (k + j)) (hX : ∀ x i j, i ≤ j → j ≤ n → X x i j = X' x (k + i) (k + j)) (r : Ru) {i j : Nat} (hij : i ≤ j) (hj : j ≤ n) : red3 b M X r i j = red3 b' M' X' r (k + i) (k + j) := by
  unfold red3
  congr 1
  funext c
  unfold redC3
  rw [restB_shift hb c.seq i j hij hj (fun s _ _ i j => hM _ i j), restB_shift (M := X) hb c.seq i j hij hj (fun s _ _ i j => hX _ i j)]
theorem holB3_shift {M M' : SpM} (hb : ∀ i, i < n → b' (k + i) = b i) (hM : ∀ x i j, i ≤ j → j ≤ n → M x i j = M' x (k + i) (k + j)) (r : Ru) {i j : Nat} (hij : i ≤ j) (hj : j ≤ n) : holB3 b M r i j = holB3 b' M' r (k + i) (k + j) := by
  rw [← red3_self, ← red3_self]
  exact red3_shift hb hM hM r hij hj
/-- A text within another one. -/
def cutM (M' : SpM) (k n : Nat) : SpM := fun x i j => decide (i ≤ j) && (decide (j ≤ n) && M' x (k + i) (k + j))
theorem cutM_at {M' : SpM} {x i j : Nat} (hij : i ≤ j) (hj : j ≤ n) : cutM M' k n x i j = M' x (k + i) (k + j) := by unfold cutM; simp [hij, hj]
def outX (X : SpM) (k n : Nat) : SpM := fun y a c => if k ≤ a ∧ c ≤ k + n then X y (a - k) (c - k) else true
/-- The meaning of a text within another one is the other's, cut out. -/
theorem stb_cut {M' : SpM} (h : Stb3 b' n' L M') (hk : k + n ≤ n') (hb : ∀ i, i < n → b' (k + i) = b i) : Stb3 b n L (cutM M' k n) := by
  have hM : ∀ x i j, i ≤ j → j ≤ n → cutM M' k n x i j = M' x (k + i) (k + j) := fun x i j hij hj => cutM_at hij hj
  refine ⟨fun r hr i j hij hj hd => ?_, fun X hX x i j hx => ?_⟩
  · rw [red3_shift hb hM hM r hij hj] at hd
    rw [hM _ i j hij hj]
    exact h.1 r hr (k + i) (k + j) (by omega) (by omega) hd
  · have hij : i ≤ j ∧ j ≤ n ∧ M' x (k + i) (k + j) = true := by
      unfold cutM at hx
      simpa using hx
    have hX' : ∀ x i j, i ≤ j → j ≤ n → X x i j = outX X k n x (k + i) (k + j) := fun x i j h1 h2 => by
      show X x i j = if k ≤ k + i ∧ k + j ≤ k + n then X x (k + i - k) (k + j - k) else true
      rw [if_pos ⟨by omega, by omega⟩, Nat.add_sub_cancel_left, Nat.add_sub_cancel_left]
    have hc : Cl3 b' n' L M' (outX X k n) := fun r hr a c hac hc hd => by
      show (if k ≤ a ∧ c ≤ k + n then X r.head.toNat (a - k) (c - k) else true) = true
      split
      · rename_i hin
        obtain ⟨a', rfl⟩ : ∃ a', a = k + a' := ⟨a - k, by omega⟩
        obtain ⟨c', rfl⟩ : ∃ c', c = k + c' := ⟨c - k, by omega⟩
        rw [Nat.add_sub_cancel_left, Nat.add_sub_cancel_left]
        refine hX r hr a' c' (by omega) (by omega) ?_
        rw [red3_shift hb hM hX' r (by omega) (by omega)]
        exact hd
      · rfl
    have := h.2 _ hc x (k + i) (k + j) hij.2.2
    rw [hX' x i j hij.1 hij.2.1]; exact this
/-- Ranks too. -/
theorem rkS_cut {M M' : SpM} (hM : ∀ x i j, i ≤ j → j ≤ n → M x i j = M' x (k + i) (k + j)) (hb : ∀ i, i < n → b' (k + i) = b i) : ∀ m,
    (∀ x i j, i ≤ j → j ≤ n → (rkS b L M m).1 x i j = (rkS b' L M' m).1 x (k + i) (k + j)) ∧ ∀ q c p i j, i ≤ j → j ≤ n → (rkS b L M m).2 q c p i j = (rkS b' L M' m).2 q c p (k + i) (k + j)
  | 0 => ⟨fun _ _ _ _ _ => rfl, fun _ _ _ _ _ _ _ => rfl⟩
  | m + 1 => by
    obtain ⟨ih1, ih2⟩ := rkS_cut hM hb m
    refine ⟨fun x i j hij hj => ?_, fun q c p i j hij hj => ?_⟩
    · rw [Bool.eq_iff_iff, rkS_name, rkS_name, hM x i j hij hj]
      refine and_congr_right fun _ => exists_congr fun q => exists_congr fun r => ?_
      rw [holB3_shift hb hM r hij hj]
      have : ranS (rkS b L M m).2 q r.conj i j = ranS (rkS b' L M' m).2 q r.conj (k + i) (k + j) := by
        unfold ranS
        congr 1
        funext c
        rw [ih2 q c 0 i j hij hj]
      rw [this]
    · have hst : ∀ l : List Sy, stpS b (rkS b L M m).1 (rkS b L M m).2 q c p l i j = stpS b' (rkS b' L M' m).1 (rkS b' L M' m).2 q c p l (k + i) (k + j) := fun l => by
        unfold stpS
        cases hs : l[p]? with
        | none =>
          simp only
          by_cases e : i = j
          · subst e; simp
          · simp [e]
        | some s =>
          simp only
          by_cases e : s.name = -1
          · rw [if_pos e, if_pos e]
            by_cases hlt : i < j
            · have h2 : inR b s i = inR b' s (k + i) := by unfold inR; rw [hb i (by omega)]
              rw [h2, ih2 q c (p + 1) (i + 1) j (by omega) hj, Nat.add_assoc]
              have h1 : k + i < k + j := by omega
              simp [hlt]
            · have h1 : ¬ k + i < k + j := by omega
              simp [hlt]
          · rw [if_neg e, if_neg e, Bool.eq_iff_iff, List.any_eq_true, List.any_eq_true]
            constructor
            · rintro ⟨a, ha, h⟩
              have haj : a ≤ j := by have := List.mem_range.1 ha; omega
              simp only [Bool.and_eq_true, decide_eq_true_eq] at h
              refine ⟨k + a, List.mem_range.2 (by omega), ?_⟩
              simp only [Bool.and_eq_true, decide_eq_true_eq]
              exact ⟨by omega, by rw [← ih1 _ i a h.1 (by omega)]; exact h.2.1, by rw [← ih2 q c (p + 1) a j haj hj]; exact h.2.2⟩
            · rintro ⟨a, ha, h⟩
              have haj : a ≤ k + j := by have := List.mem_range.1 ha; omega
              simp only [Bool.and_eq_true, decide_eq_true_eq] at h
              obtain ⟨a', rfl⟩ : ∃ a', a = k + a' := ⟨a - k, by omega⟩
              refine ⟨a', List.mem_range.2 (by omega), ?_⟩
              simp only [Bool.and_eq_true, decide_eq_true_eq]
              exact ⟨by omega, by rw [ih1 _ i a' (by omega) (by omega)]; exact h.2.1, by rw [ih2 q c (p + 1) a' j (by omega) hj]; exact h.2.2⟩
      show (match L[q]? with | none => false | some r => match r.conj[c]? with | none => false | some d => decide (p ≤ d.seq.length) && (restB b M (d.seq.drop p) i j && stpS b (rkS b L M m).1 (rkS b L M m).2 q c p d.seq i j)) = (match L[q]? with | none => false | some r => match r.conj[c]? with | none => false | some d => decide (p ≤ d.seq.length) && (restB b' M' (d.seq.drop p) (k + i) (k + j) && stpS b' (rkS b' L M' m).1 (rkS b' L M' m).2 q c p d.seq (k + i) (k + j)))
      cases hr : L[q]? with
      | none => rfl
      | some r =>
        simp only
        cases hd : r.conj[c]? with
        | none => rfl
        | some d =>
          simp only
          rw [hst d.seq, restB_shift hb (d.seq.drop p) i j hij hj (fun s _ _ i j => hM _ i j)]
end
end Go.Proofs.YtclceeghjgeplaaGreatDoor
