/- A text of a and b, letter by letter; plain. No program in sight. -/
import Derived.PlainAid
import Derived.Test.YtfjejnkjlnkkhaaGreatDoorMzQ
namespace Go.Proofs.YtfjejnkjlnkkhaaGreatDoor
set_option linter.unusedVariables false

/-- The letter at a place. -/
def abC (P : Nat → Bool) (k : Nat) : ByteArray := if P k = true then ⟨#[97]⟩ else ⟨#[98]⟩
def abT (P : Nat → Bool) : Nat → ByteArray
  | 0 => ⟨#[]⟩
  | k + 1 => abT P k ++ abC P k
theorem abC_size (P : Nat → Bool) (k : Nat) : (abC P k).size = 1 := by unfold abC; split <;> rfl
theorem abT_size (P : Nat → Bool) : ∀ k, (abT P k).size = k
  | 0 => rfl
  | k + 1 => by
    show (abT P k ++ abC P k).size = _
    rw [ByteArray.size_append, abT_size P k, abC_size]
theorem abC_is (P : Nat → Bool) (k : Nat) : PlainAid.bt (abC P k) 0 = 97 ∨ PlainAid.bt (abC P k) 0 = 98 := by
  unfold abC
  split
  · left; rfl
  · right; rfl
theorem abT_is (P : Nat → Bool) : ∀ n k, k < n → PlainAid.bt (abT P n) k = 97 ∨ PlainAid.bt (abT P n) k = 98
  | 0, k, h => by omega
  | n + 1, k, h => by
    have hs := abT_size P n
    by_cases e : k < n
    · have h1 := abT_is P n k e
      have h2 : PlainAid.bt (abT P n ++ abC P n) k = PlainAid.bt (abT P n) k := by
        unfold PlainAid.bt
        rw [dif_pos (by rw [ByteArray.size_append]; omega), dif_pos (by omega), ByteArray.getElem_append_left (by omega)]
      show PlainAid.bt (abT P n ++ abC P n) k = 97 ∨ PlainAid.bt (abT P n ++ abC P n) k = 98
      rw [h2]; exact h1
    · obtain rfl : k = n := by omega
      have h2 : PlainAid.bt (abT P k ++ abC P k) k = PlainAid.bt (abC P k) 0 := by
        unfold PlainAid.bt
        rw [dif_pos (by rw [ByteArray.size_append, abC_size]; omega), dif_pos (by rw [abC_size]; omega), ByteArray.getElem_append_right (by omega)]
        simp [hs]
      show PlainAid.bt (abT P k ++ abC P k) k = 97 ∨ PlainAid.bt (abT P k ++ abC P k) k = 98
      rw [h2]; exact abC_is P k
end Go.Proofs.YtfjejnkjlnkkhaaGreatDoor
