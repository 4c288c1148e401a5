/- What the program's reader does in a range; a step of it. -/
import Derived.Test.YtgeajdfajfdjcaaLexStep
namespace Go.Proofs.Ytgeajdfajfdjcaa
set_option linter.unusedVariables false
open Go.ChangeShapes Go.WideShapes Go.ChangeAt Go.RowKit

section
variable {W : World} {B : Nat} {s : ByteArray} {st nx bg : Nat} {rd : List Int} {ps : List Pc} {ft : Nat} {w : World}

theorem half_none {b : Nat → Int} {n nx : Nat} (h : signF b n nx 39 = none) : half b n nx = none := by unfold half; rw [h]
theorem half_no {b : Nat → Int} {n nx : Nat} {c : Int} {to : Nat} (h : signF b n nx 39 = some (c, to)) (h2 : n ≤ to ∨ b to ≠ 39) : half b n nx = none := by unfold half; rw [h]; exact if_pos h2
theorem half_yes {b : Nat → Int} {n nx : Nat} {c : Int} {to : Nat} (h : signF b n nx 39 = some (c, to)) (h2 : ¬ (n ≤ to ∨ b to ≠ 39)) : half b n nx = some (c, to + 1) := by unfold half; rw [h]; exact if_neg h2

end
end Go.Proofs.Ytgeajdfajfdjcaa
