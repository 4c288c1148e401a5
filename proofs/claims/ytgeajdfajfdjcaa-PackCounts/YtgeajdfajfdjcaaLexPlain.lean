/- Plain functions of the notation's tokens: letters, digits, marks, one byte of a text. No program in sight. -/
import Derived.WalkKit
import Derived.PlainAid
namespace Go.Proofs.Ytgeajdfajfdjcaa

def letB (c : Int) : Bool := (decide (97 ≤ c) && decide (c ≤ 122)) || (decide (65 ≤ c) && decide (c ≤ 90)) || decide (c = 95)
def digB (c : Int) : Bool := decide (48 ≤ c) && decide (c ≤ 57)
def hexF (c : Int) : Int := if digB c then c - 48 else if decide (97 ≤ c) && decide (c ≤ 102) then c - 87 else -1
def markF (c : Int) : Int := if c = 61 then 4 else if c = 124 then 5 else if c = 38 then 6 else if c = 126 then 7 else if c = 59 then 8 else 0
theorem hexF_le (c : Int) : -1 ≤ hexF c ∧ hexF c ≤ 15 := by
  unfold hexF digB
  split
  · rename_i h; simp at h; omega
  · split
    · rename_i h; simp at h; omega
    · omega

/-- One byte of a text or a range at a place: it, and the place behind. -/
def signF (b : Nat → Int) (n k : Nat) (q : Int) : Option (Int × Nat) :=
  if n ≤ k ∨ b k < 32 ∨ 126 < b k ∨ b k = q then none
  else if b k ≠ 92 then some (b k, k + 1)
  else if n ≤ k + 1 then none
  else if b (k + 1) = 92 ∨ b (k + 1) = 34 ∨ b (k + 1) = 39 then some (b (k + 1), k + 2)
  else if b (k + 1) ≠ 120 ∨ n ≤ k + 3 ∨ hexF (b (k + 2)) < 0 ∨ hexF (b (k + 3)) < 0 then none
  else some (16 * hexF (b (k + 2)) + hexF (b (k + 3)), k + 4)
def signV : Option (Int × Nat) → Int × Int
  | none => (-1, 0)
  | some (c, k) => (c, (k : Int))

/-- What stands between tokens, byte by byte; c: within a comment. -/
def skipS (b : Nat → Int) (n : Nat) : Nat → Bool → Nat → Nat
  | 0, _, k => k
  | f + 1, true, k => if b k = 10 then skipS b n f false (k + 1) else skipS b n f true (k + 1)
  | f + 1, false, k => if b k = 35 then skipS b n f true (k + 1) else if b k = 9 ∨ b k = 10 ∨ b k = 13 ∨ b k = 32 then skipS b n f false (k + 1) else k
def skp (b : Nat → Int) (n : Nat) (c : Bool) (k : Nat) : Nat := skipS b n (n - k) c k

theorem skp_end (b : Nat → Int) (n : Nat) (c : Bool) (k : Nat) (h : n ≤ k) : skp b n c k = k := by
  unfold skp; rw [show n - k = 0 by omega]; cases c <;> rfl
theorem skp_true (b : Nat → Int) (n k : Nat) (h : k < n) : skp b n true k = if b k = 10 then skp b n false (k + 1) else skp b n true (k + 1) := by
  unfold skp; rw [show n - k = (n - (k + 1)) + 1 by omega]; rfl
theorem skp_false (b : Nat → Int) (n k : Nat) (h : k < n) : skp b n false k = if b k = 35 then skp b n true (k + 1) else if b k = 9 ∨ b k = 10 ∨ b k = 13 ∨ b k = 32 then skp b n false (k + 1) else k := by
  unfold skp; rw [show n - k = (n - (k + 1)) + 1 by omega]; rfl

theorem signF_some {b : Nat → Int} {n k : Nat} {q c : Int} {to : Nat} (hb : ∀ j, 0 ≤ b j ∧ b j ≤ 255) (h : signF b n k q = some (c, to)) : 0 ≤ c ∧ c ≤ 255 ∧ k < to ∧ to ≤ n := by
  have hx := fun x => hexF_le x
  unfold signF at h
  by_cases h1 : n ≤ k ∨ b k < 32 ∨ 126 < b k ∨ b k = q
  · rw [if_pos h1] at h; cases h
  · rw [if_neg h1] at h
    by_cases h2 : b k ≠ 92
    · rw [if_pos h2] at h
      injection h with h; injection h with e1 e2
      have := hb k
      omega
    · rw [if_neg h2] at h
      by_cases h3 : n ≤ k + 1
      · rw [if_pos h3] at h; cases h
      · rw [if_neg h3] at h
        by_cases h4 : b (k + 1) = 92 ∨ b (k + 1) = 34 ∨ b (k + 1) = 39
        · rw [if_pos h4] at h
          injection h with h; injection h with e1 e2
          have := hb (k + 1)
          omega
        · rw [if_neg h4] at h
          by_cases h5 : b (k + 1) ≠ 120 ∨ n ≤ k + 3 ∨ hexF (b (k + 2)) < 0 ∨ hexF (b (k + 3)) < 0
          · rw [if_pos h5] at h; cases h
          · rw [if_neg h5] at h
            injection h with h; injection h with e1 e2
            have := hx (b (k + 2))
            have := hx (b (k + 3))
            omega

/-- A byte in its quotes at a place: it, and the place behind. -/
def oneF (b : Nat → Int) (n k : Nat) : Option (Int × Nat) :=
  if n ≤ k ∨ b k ≠ 39 then none
  else match signF b n (k + 1) 39 with
    | none => none
    | some (c, to) => if n ≤ to ∨ b to ≠ 39 then none else some (c, to + 1)
def oneV : Option (Int × Nat) → Int × Int
  | none => (0, -1)
  | some (c, k) => (c, (k : Int))
end Go.Proofs.Ytgeajdfajfdjcaa
