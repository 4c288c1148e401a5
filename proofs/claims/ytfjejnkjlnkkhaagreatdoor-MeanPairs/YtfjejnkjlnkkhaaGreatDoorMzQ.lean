/- How the statement on pairs counts; its text; plain. No program in sight. -/
import Derived.Test.YtfjejnkjlnkkhaaGreatDoorMzP
namespace Go.Proofs.YtfjejnkjlnkkhaaGreatDoor
set_option linter.unusedVariables false

/-- So far each letter is a just where it is in the first half. -/
def prB (b : Nat → Nat) (i h : Nat) : Nat → Bool
  | 0 => true
  | k + 1 => prB b i h k && (decide (k < i) || (decide (b k = 97) == decide (k < i + h)))
/-- So far each letter is a. -/
def prA (b : Nat → Nat) (i : Nat) : Nat → Bool
  | 0 => true
  | k + 1 => prA b i k && (decide (k < i) || decide (b k = 97))
section
variable {b : Nat → Nat} {i h : Nat}
theorem prB_low : ∀ {k : Nat}, k ≤ i → prB b i h k = true
  | 0, _ => rfl
  | k + 1, hk => by
    show (prB b i h k && (decide (k < i) || _)) = true
    rw [prB_low (by omega), decide_eq_true (show k < i by omega)]
    rfl
theorem prA_low : ∀ {k : Nat}, k ≤ i → prA b i k = true
  | 0, _ => rfl
  | k + 1, hk => by
    show (prA b i k && (decide (k < i) || _)) = true
    rw [prA_low (by omega), decide_eq_true (show k < i by omega)]
    rfl
theorem prB_next {k : Nat} (hk : i ≤ k) : prB b i h (k + 1) = (prB b i h k && (decide (b k = 97) == decide (k < i + h))) := by
  show (prB b i h k && (decide (k < i) || _)) = _
  rw [decide_eq_false (show ¬ k < i by omega), Bool.false_or]
theorem prA_next {k : Nat} (hk : i ≤ k) : prA b i (k + 1) = (prA b i k && decide (b k = 97)) := by
  show (prA b i k && (decide (k < i) || _)) = _
  rw [decide_eq_false (show ¬ k < i by omega), Bool.false_or]
theorem prB_iff : ∀ {k : Nat}, prB b i h k = true ↔ ∀ q, q < k → i ≤ q → (b q = 97 ↔ q < i + h)
  | 0 => ⟨fun _ q hq => by omega, fun _ => rfl⟩
  | k + 1 => by
    show (prB b i h k && (decide (k < i) || (decide (b k = 97) == decide (k < i + h)))) = true ↔ _
    rw [Bool.and_eq_true, prB_iff, Bool.or_eq_true, decide_eq_true_eq, beq_iff_eq, decide_eq_decide]
    constructor
    · rintro ⟨h1, h2⟩ q hq hi
      by_cases e : q = k
      · subst e
        rcases h2 with h2 | h2
        · omega
        · exact h2
      · exact h1 q (by omega) hi
    · intro h1
      refine ⟨fun q hq hi => h1 q (by omega) hi, ?_⟩
      by_cases e : k < i
      · exact Or.inl e
      · exact Or.inr (h1 k (by omega) (by omega))
theorem prA_iff : ∀ {k : Nat}, prA b i k = true ↔ ∀ q, q < k → i ≤ q → b q = 97
  | 0 => ⟨fun _ q hq => by omega, fun _ => rfl⟩
  | k + 1 => by
    show (prA b i k && (decide (k < i) || decide (b k = 97))) = true ↔ _
    rw [Bool.and_eq_true, prA_iff, Bool.or_eq_true, decide_eq_true_eq, decide_eq_true_eq]
    constructor
    · rintro ⟨h1, h2⟩ q hq hi
      by_cases e : q = k
      · subst e
        rcases h2 with h2 | h2
        · omega
        · exact h2
      · exact h1 q (by omega) hi
    · intro h1
      refine ⟨fun q hq hi => h1 q (by omega) hi, ?_⟩
      by_cases e : k < i
      · exact Or.inl e
      · exact Or.inr (h1 k (by omega) (by omega))
theorem pr_say0 {n j : Nat} (hl : ∀ k, k < n → b k = 97 ∨ b k = 98) (hij : i ≤ j) (hj : j ≤ n) : prM b n 0 i j = (decide ((j - i) % 2 = 0) && prB b i ((j - i) / 2) j) := by
  rw [Bool.eq_iff_iff, prM_zero, Bool.and_eq_true, decide_eq_true_eq, prB_iff]
  constructor
  · rintro ⟨-, -, h1, h2⟩
    refine ⟨h1, fun q hq hi => ⟨fun h3 => ?_, fun h3 => h2.1 q hi h3⟩⟩
    by_cases h4 : q < i + (j - i) / 2
    · exact h4
    · have := h2.2 q (by omega) (by omega)
      omega
  · rintro ⟨h1, h2⟩
    refine ⟨hij, hj, h1, fun k h3 h4 => (h2 k (by omega) h3).2 h4, fun k h3 h4 => ?_⟩
    rcases hl k (by omega) with h5 | h5
    · have := (h2 k (by omega) (by omega)).1 h5
      omega
    · exact h5
theorem pr_say1 {n j : Nat} (hij : i ≤ j) (hj : j ≤ n) : prM b n 1 i j = (decide (i < j) && prA b i j) := by
  rw [Bool.eq_iff_iff, prM_one, Bool.and_eq_true, decide_eq_true_eq, prA_iff]
  constructor
  · rintro ⟨-, -, h1, h2⟩; exact ⟨h1, h2⟩
  · rintro ⟨h1, h2⟩; exact ⟨hij, hj, h1, h2⟩
end
end Go.Proofs.YtfjejnkjlnkkhaaGreatDoor
