/- What Has, the three functions of words, Or, And, Minus do. -/
import Derived.Test.YtopokicdgdjgkaaRows
import Derived.Test.YtopokicdgdjgkaaBits
namespace Go.Proofs.Ytopokicdgdjgkaa
open Go.ChangeShapes Go.WideShapes Go.ChangeAt Go.RowKit

theorem or1 (x y : Int) (w : World) : Calls Try.prog 49 #[.int .u64 x, .int .u64 y] w fun e w' => e = .returned (.int .u64 (bits .or .u64 x y)) ∧ w' = w := by
  go_enter Try.func49, Try.ntmps49
  go_wp2
  go_ret
  exact ⟨rfl, rfl⟩
end Go.Proofs.Ytopokicdgdjgkaa
