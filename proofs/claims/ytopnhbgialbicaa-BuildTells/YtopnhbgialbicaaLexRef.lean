/- What the document's own letter, digit, hex, mark do. -/
import Derived.Test.YtopnhbgialbicaaRows
import Derived.Test.YtopnhbgialbicaaLexPlain
import Derived.ProofKit
import Derived.OpenShut
import Derived.WalkLawsBesides
import Derived.Deep.QuietTactic
import Derived.BigQuiet
namespace Go.Proofs.Ytopnhbgialbicaa
open Go.ChangeShapes Go.WideShapes Go.ChangeAt Go.RowKit

theorem rb {a b : Bool} (h : a = b) : Ending.returned (.bool a) = .returned (.bool b) := by rw [h]
theorem ri {k : IntKind} {a b : Int} (h : a = b) : Ending.returned (.int k a) = .returned (.int k b) := by rw [h]

theorem letter_any (c : Int) (w : World) (h0 : 0 ≤ c) (h1 : c ≤ 255) : Calls Try.prog 34 #[.int .u8 c] w fun e w' => e = .returned (.bool (letB c)) ∧ w = w' := by
  by_cases a1 : 97 ≤ c
  · by_cases a2 : c ≤ 122
    · go_enter Try.func34, Try.ntmps34
      go_wp2
      go_ret
      exact ⟨rb (by rw [Bool.eq_iff_iff]; simp [letB]; omega), rfl⟩
    · by_cases a5 : c = 95
      · omega
      · go_enter Try.func34, Try.ntmps34
        go_wp2
        all_goals go_ret
        all_goals exact ⟨rb (by rw [Bool.eq_iff_iff]; simp [letB]; omega), rfl⟩
  · go_enter Try.func34, Try.ntmps34
    go_wp2
    all_goals go_ret
    all_goals exact ⟨rb (by rw [Bool.eq_iff_iff]; simp [letB]; omega), rfl⟩

theorem digit_any (c : Int) (w : World) : Calls Try.prog 35 #[.int .u8 c] w fun e w' => e = .returned (.bool (digB c)) ∧ w = w' := by
  by_cases a1 : 48 ≤ c
  · go_enter Try.func35, Try.ntmps35
    go_wp2
    all_goals go_ret
    all_goals exact ⟨rb (by rw [Bool.eq_iff_iff]; simp [digB]; omega), rfl⟩
  · go_enter Try.func35, Try.ntmps35
    go_wp2
    all_goals go_ret
    all_goals exact ⟨rb (by rw [Bool.eq_iff_iff]; simp [digB]; omega), rfl⟩

end Go.Proofs.Ytopnhbgialbicaa
