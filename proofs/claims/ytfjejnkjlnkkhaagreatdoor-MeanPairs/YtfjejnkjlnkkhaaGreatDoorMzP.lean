/- What the grammar of pairs means of a text of a and b; plain. No program in sight. -/
import Derived.Test.YtfjejnkjlnkkhaaGreatDoorGc
namespace Go.Proofs.YtfjejnkjlnkkhaaGreatDoor
set_option linter.unusedVariables false

/-- Its rules. -/
def prL : List Ru := [⟨0, [⟨false, [⟨-1, 97, 97⟩, ⟨0, 0, 0⟩, ⟨-1, 98, 98⟩]⟩, ⟨true, [⟨1, 0, 0⟩]⟩]⟩, ⟨0, [⟨false, []⟩]⟩, ⟨1, [⟨false, [⟨-1, 97, 97⟩]⟩]⟩, ⟨1, [⟨false, [⟨1, 0, 0⟩, ⟨1, 0, 0⟩]⟩]⟩]
/-- From i on d letters a and d letters b. -/
def PrS (b : Nat → Nat) (i d : Nat) : Prop := (∀ k, i ≤ k → k < i + d → b k = 97) ∧ ∀ k, i + d ≤ k → k < i + 2 * d → b k = 98
instance (b : Nat → Nat) (i d : Nat) : Decidable (PrS b i d) := by
  have h1 : (∀ k, i ≤ k → k < i + d → b k = 97) ↔ ∀ k, k < i + d → i ≤ k → b k = 97 := ⟨fun h k h1 h2 => h k h2 h1, fun h k h1 h2 => h k h2 h1⟩
  have h2 : (∀ k, i + d ≤ k → k < i + 2 * d → b k = 98) ↔ ∀ k, k < i + 2 * d → i + d ≤ k → b k = 98 := ⟨fun h k h1 h2 => h k h2 h1, fun h k h1 h2 => h k h2 h1⟩
  unfold PrS
  rw [h1, h2]
  exact inferInstance
/-- A row of a. -/
def PrR (b : Nat → Nat) (i j : Nat) : Prop := i < j ∧ ∀ k, k < j → i ≤ k → b k = 97
instance (b : Nat → Nat) (i j : Nat) : Decidable (PrR b i j) := by unfold PrR; exact inferInstance
def prM (b : Nat → Nat) (n : Nat) : SpM := fun x i j => decide (i ≤ j) && (decide (j ≤ n) && (if x = 0 then decide ((j - i) % 2 = 0) && decide (PrS b i ((j - i) / 2)) else if x = 1 then decide (PrR b i j) else false))
section
variable {b : Nat → Nat} {n : Nat}
theorem prM_zero {i j : Nat} : prM b n 0 i j = true ↔ i ≤ j ∧ j ≤ n ∧ (j - i) % 2 = 0 ∧ PrS b i ((j - i) / 2) := by
  unfold prM
  simp only [if_true, Bool.and_eq_true, decide_eq_true_eq]
theorem prM_one {i j : Nat} : prM b n 1 i j = true ↔ i ≤ j ∧ j ≤ n ∧ PrR b i j := by
  unfold prM
  simp
theorem rB_ch {X : SpM} {z : Int} {l : List Sy} {i j : Nat} : restB b X (⟨-1, z, z⟩ :: l) i j = true ↔ i < j ∧ (b i : Int) = z ∧ restB b X l (i + 1) j = true := by
  show (if (-1 : Int) = -1 then decide (i < j) && (inR b ⟨-1, z, z⟩ i && restB b X l (i + 1) j) else _) = true ↔ _
  rw [if_pos rfl]
  unfold inR
  simp only [Bool.and_eq_true, decide_eq_true_eq]
  constructor
  · rintro ⟨h1, ⟨h2, h3⟩, h4⟩
    exact ⟨h1, by omega, h4⟩
  · rintro ⟨h1, h2, h4⟩
    exact ⟨h1, ⟨by omega, by omega⟩, h4⟩
theorem rB_nm {X : SpM} {x : Nat} {l : List Sy} {i j : Nat} : restB b X (⟨(x : Int), 0, 0⟩ :: l) i j = true ↔ ∃ e, i ≤ e ∧ e ≤ j ∧ X x i e = true ∧ restB b X l e j = true := by
  show (if (x : Int) = -1 then _ else (List.range (j + 1)).any fun k => decide (i ≤ k) && (X ((x : Int)).toNat i k && restB b X l k j)) = true ↔ _
  rw [if_neg (by omega), List.any_eq_true]
  simp only [Bool.and_eq_true, decide_eq_true_eq, List.mem_range, Int.toNat_natCast]
  constructor
  · rintro ⟨e, h1, h2, h3, h4⟩
    exact ⟨e, h2, by omega, h3, h4⟩
  · rintro ⟨e, h1, h2, h3, h4⟩
    exact ⟨e, by omega, h1, h3, h4⟩
theorem rB_nil {X : SpM} {i j : Nat} : restB b X [] i j = true ↔ i = j := by
  show decide (i = j) = true ↔ _
  exact decide_eq_true_iff
theorem pr_r0 {M X : SpM} {i j : Nat} : red3 b M X ⟨0, [⟨false, [⟨-1, 97, 97⟩, ⟨0, 0, 0⟩, ⟨-1, 98, 98⟩]⟩, ⟨true, [⟨1, 0, 0⟩]⟩]⟩ i j = true ↔ (i + 2 ≤ j ∧ b i = 97 ∧ b (j - 1) = 98 ∧ X 0 (i + 1) (j - 1) = true) ∧ M 1 i j = false ∨ (i + 2 ≤ j ∧ b i = 97 ∧ b (j - 1) = 98 ∧ X 0 (i + 1) (j - 1) = true) ∧ ¬ (i ≤ j) := by
  have e1 : restB b X [⟨-1, 97, 97⟩, ⟨0, 0, 0⟩, ⟨-1, 98, 98⟩] i j = true ↔ (i + 2 ≤ j ∧ b i = 97 ∧ b (j - 1) = 98 ∧ X 0 (i + 1) (j - 1) = true) := by
    rw [rB_ch]
    have := @rB_nm b X 0 [⟨-1, 98, 98⟩] (i + 1) j
    rw [show ((0 : Nat) : Int) = 0 from rfl] at this
    rw [this]
    constructor
    · rintro ⟨h1, h2, e, h3, h4, h5, h6⟩
      rw [rB_ch, rB_nil] at h6
      obtain ⟨h7, h8, h9⟩ := h6
      obtain rfl : e = j - 1 := by omega
      exact ⟨by omega, by omega, by omega, h5⟩
    · rintro ⟨h1, h2, h3, h4⟩
      exact ⟨by omega, by omega, j - 1, by omega, by omega, h4, rB_ch.2 ⟨by omega, by omega, rB_nil.2 (by omega)⟩⟩
  have e2 : ∀ h : i ≤ j, restB b M [⟨1, 0, 0⟩] i j = M 1 i j := fun h => by
    have := @rB_nm b M 1 [] i j
    rw [show ((1 : Nat) : Int) = 1 from rfl] at this
    rw [Bool.eq_iff_iff, this]
    constructor
    · rintro ⟨e, h1, h2, h3, h4⟩
      rw [rB_nil] at h4
      subst h4; exact h3
    · intro h1
      exact ⟨j, h, Nat.le_refl _, h1, rB_nil.2 rfl⟩
  unfold red3 redC3
  simp only [List.all_cons, List.all_nil, Bool.and_true, Bool.and_eq_true, Bool.false_eq_true, if_false, if_true]
  rw [e1]
  by_cases hij : i ≤ j
  · rw [e2 hij]
    simp [hij]
  · constructor
    · rintro ⟨h, -⟩; exact absurd (by omega) hij
    · rintro (⟨h, -⟩ | ⟨h, -⟩) <;> exact absurd (by omega) hij
theorem pr_r1 {M X : SpM} {i j : Nat} : red3 b M X ⟨0, [⟨false, []⟩]⟩ i j = true ↔ i = j := by
  unfold red3 redC3
  simp only [List.all_cons, List.all_nil, Bool.and_true, Bool.false_eq_true, if_false]
  exact rB_nil
theorem pr_r2 {M X : SpM} {i j : Nat} : red3 b M X ⟨1, [⟨false, [⟨-1, 97, 97⟩]⟩]⟩ i j = true ↔ i + 1 = j ∧ b i = 97 := by
  unfold red3 redC3
  simp only [List.all_cons, List.all_nil, Bool.and_true, Bool.false_eq_true, if_false]
  rw [rB_ch, rB_nil]
  constructor
  · rintro ⟨h1, h2, h3⟩; exact ⟨h3, by omega⟩
  · rintro ⟨h1, h2⟩; exact ⟨by omega, by omega, h1⟩
theorem pr_r3 {M X : SpM} {i j : Nat} : red3 b M X ⟨1, [⟨false, [⟨1, 0, 0⟩, ⟨1, 0, 0⟩]⟩]⟩ i j = true ↔ ∃ e, i ≤ e ∧ e ≤ j ∧ X 1 i e = true ∧ X 1 e j = true := by
  unfold red3 redC3
  simp only [List.all_cons, List.all_nil, Bool.and_true, Bool.false_eq_true, if_false]
  have h1 := @rB_nm b X 1 [⟨1, 0, 0⟩] i j
  rw [show ((1 : Nat) : Int) = 1 from rfl] at h1
  rw [h1]
  refine exists_congr fun e => and_congr_right fun h2 => and_congr_right fun h3 => and_congr_right fun h4 => ?_
  have h5 := @rB_nm b X 1 [] e j
  rw [show ((1 : Nat) : Int) = 1 from rfl] at h5
  rw [h5]
  constructor
  · rintro ⟨f, h6, h7, h8, h9⟩
    rw [rB_nil] at h9
    subst h9; exact h8
  · intro h6
    exact ⟨j, h3, Nat.le_refl _, h6, rB_nil.2 rfl⟩
theorem pr_step {i j : Nat} (hij : i + 2 ≤ j) (ha : b i = 97) (hb : b (j - 1) = 98) (he : (j - 1 - (i + 1)) % 2 = 0) (h : PrS b (i + 1) ((j - 1 - (i + 1)) / 2)) : (j - i) % 2 = 0 ∧ PrS b i ((j - i) / 2) := by
  obtain ⟨d, hd⟩ : ∃ d, (j - 1 - (i + 1)) / 2 = d := ⟨_, rfl⟩
  have hj : j = i + 2 * (d + 1) := by omega
  rw [hd] at h
  refine ⟨by omega, ?_⟩
  rw [show (j - i) / 2 = d + 1 by omega]
  refine ⟨fun k h1 h2 => ?_, fun k h1 h2 => ?_⟩
  · by_cases e : k = i
    · rw [e]; exact ha
    · exact h.1 k (by omega) (by omega)
  · by_cases e : k = j - 1
    · rw [e]; exact hb
    · exact h.2 k (by omega) (by omega)
theorem pr_back {i j : Nat} (hij : i < j) (he : (j - i) % 2 = 0) (h : PrS b i ((j - i) / 2)) : i + 2 ≤ j ∧ b i = 97 ∧ b (j - 1) = 98 ∧ (j - 1 - (i + 1)) % 2 = 0 ∧ PrS b (i + 1) ((j - 1 - (i + 1)) / 2) := by
  obtain ⟨d, hd⟩ : ∃ d, (j - i) / 2 = d + 1 := ⟨(j - i) / 2 - 1, by omega⟩
  rw [hd] at h
  have hj : j = i + 2 * (d + 1) := by omega
  refine ⟨by omega, h.1 i (by omega) (by omega), h.2 (j - 1) (by omega) (by omega), by omega, ?_⟩
  rw [show (j - 1 - (i + 1)) / 2 = d by omega]
  exact ⟨fun k h1 h2 => h.1 k (by omega) (by omega), fun k h1 h2 => h.2 k (by omega) (by omega)⟩
/-- The meaning. -/
theorem pr_stb : Stb3 b n prL (prM b n) := by
  refine ⟨fun r hr i j hij hj hd => ?_, fun X hX => ?_⟩
  · unfold prL at hr
    simp only [List.mem_cons, List.not_mem_nil, or_false] at hr
    rcases hr with rfl | rfl | rfl | rfl
    · show prM b n 0 i j = true
      rw [pr_r0] at hd
      rcases hd with ⟨⟨h1, h2, h3, h4⟩, -⟩ | ⟨-, h⟩
      · rw [prM_zero] at h4 ⊢
        exact ⟨hij, hj, pr_step h1 h2 h3 h4.2.2.1 h4.2.2.2⟩
      · exact absurd hij h
    · show prM b n 0 i j = true
      rw [pr_r1] at hd
      subst hd
      rw [prM_zero]
      refine ⟨hij, hj, by simp, ?_⟩
      rw [Nat.sub_self]
      exact ⟨fun k h1 h2 => by omega, fun k h1 h2 => by omega⟩
    · show prM b n 1 i j = true
      rw [pr_r2] at hd
      rw [prM_one]
      refine ⟨hij, hj, by omega, fun k h1 h2 => ?_⟩
      obtain rfl : k = i := by omega
      exact hd.2
    · show prM b n 1 i j = true
      rw [pr_r3] at hd
      obtain ⟨e, h1, h2, h3, h4⟩ := hd
      rw [prM_one] at h3 h4 ⊢
      refine ⟨hij, hj, by have := h3.2.2.1; omega, fun k h5 h6 => ?_⟩
      by_cases hk : k < e
      · exact h3.2.2.2 k hk h6
      · exact h4.2.2.2 k h5 (by omega)
  · have c0 : ∀ i j, i ≤ j → j ≤ n → red3 b (prM b n) X ⟨0, [⟨false, [⟨-1, 97, 97⟩, ⟨0, 0, 0⟩, ⟨-1, 98, 98⟩]⟩, ⟨true, [⟨1, 0, 0⟩]⟩]⟩ i j = true → X 0 i j = true := fun i j h1 h2 h3 => hX ⟨0, [⟨false, [⟨-1, 97, 97⟩, ⟨0, 0, 0⟩, ⟨-1, 98, 98⟩]⟩, ⟨true, [⟨1, 0, 0⟩]⟩]⟩ (by unfold prL; simp) i j h1 h2 h3
    have c1 : ∀ i j, i ≤ j → j ≤ n → red3 b (prM b n) X ⟨0, [⟨false, []⟩]⟩ i j = true → X 0 i j = true := fun i j h1 h2 h3 => hX ⟨0, [⟨false, []⟩]⟩ (by unfold prL; simp) i j h1 h2 h3
    have c2 : ∀ i j, i ≤ j → j ≤ n → red3 b (prM b n) X ⟨1, [⟨false, [⟨-1, 97, 97⟩]⟩]⟩ i j = true → X 1 i j = true := fun i j h1 h2 h3 => hX ⟨1, [⟨false, [⟨-1, 97, 97⟩]⟩]⟩ (by unfold prL; simp) i j h1 h2 h3
    have c3 : ∀ i j, i ≤ j → j ≤ n → red3 b (prM b n) X ⟨1, [⟨false, [⟨1, 0, 0⟩, ⟨1, 0, 0⟩]⟩]⟩ i j = true → X 1 i j = true := fun i j h1 h2 h3 => hX ⟨1, [⟨false, [⟨1, 0, 0⟩, ⟨1, 0, 0⟩]⟩]⟩ (by unfold prL; simp) i j h1 h2 h3
    have k1 : ∀ d i, i + (d + 1) ≤ n → (∀ k, k < i + (d + 1) → i ≤ k → b k = 97) → X 1 i (i + (d + 1)) = true := by
      intro d
      induction d with
      | zero => intro i h1 h2; exact c2 i (i + 1) (by omega) h1 (pr_r2.2 ⟨rfl, h2 i (by omega) (Nat.le_refl _)⟩)
      | succ d ih =>
        intro i h1 h2
        refine c3 i (i + (d + 1 + 1)) (by omega) h1 (pr_r3.2 ⟨i + 1, by omega, by omega, ?_, ?_⟩)
        · exact c2 i (i + 1) (by omega) (by omega) (pr_r2.2 ⟨rfl, h2 i (by omega) (Nat.le_refl _)⟩)
        · have := ih (i + 1) (by omega) (fun k h3 h4 => h2 k (by omega) (by omega))
          rw [show i + (d + 1 + 1) = i + 1 + (d + 1) by omega]
          exact this
    have k0 : ∀ d i, i + 2 * d ≤ n → PrS b i d → X 0 i (i + 2 * d) = true := by
      intro d
      induction d with
      | zero => intro i h1 h2; exact c1 i i (Nat.le_refl _) (by omega) (pr_r1.2 rfl)
      | succ d ih =>
        intro i h1 h2
        refine c0 i (i + 2 * (d + 1)) (by omega) h1 (pr_r0.2 (Or.inl ⟨⟨by omega, h2.1 i (by omega) (by omega), h2.2 _ (by omega) (by omega), ?_⟩, ?_⟩))
        · have := ih (i + 1) (by omega) ⟨fun k h3 h4 => h2.1 k (by omega) (by omega), fun k h3 h4 => h2.2 k (by omega) (by omega)⟩
          rw [show i + 2 * (d + 1) - 1 = i + 1 + 2 * d by omega]
          exact this
        · cases hc : prM b n 1 i (i + 2 * (d + 1)) with
          | false => rfl
          | true =>
            have h3 := (prM_one.1 hc).2.2.2 (i + 2 * (d + 1) - 1) (by omega) (by omega)
            have h4 := h2.2 (i + 2 * (d + 1) - 1) (by omega) (by omega)
            omega
    intro x i j h
    by_cases h0 : x = 0
    · subst h0
      rw [prM_zero] at h
      have := k0 ((j - i) / 2) i (by omega) h.2.2.2
      rw [show i + 2 * ((j - i) / 2) = j by omega] at this
      exact this
    · by_cases h1 : x = 1
      · subst h1
        rw [prM_one] at h
        have := k1 (j - i - 1) i (by have := h.2.2.1; omega) (fun k h3 h4 => h.2.2.2 k (by have := h.2.2.1; omega) h4)
        rw [show i + (j - i - 1 + 1) = j by have := h.2.2.1; omega] at this
        exact this
      · unfold prM at h
        simp [h0, h1] at h
end
end Go.Proofs.YtfjejnkjlnkkhaaGreatDoor
