/- Itoa of small numbers, laid off the shelf. -/
import Derived.Test.YtgpklcpmabafmaaDoorBinN
import Derived.Shelf.Strconv.Itoa3
import Derived.Shelf.Lay
namespace Go.Proofs
open Go.Proofs.YtgpklcpmabafmaaDoor
shelf_lay Lays.n171 Nm 171 at Tryd as Tryd.lays171
end Go.Proofs
namespace Go.Proofs.YtgpklcpmabafmaaDoor
set_option linter.unusedVariables false
open Go.RowKit

theorem itoa_small (k : Nat) (w : World) (hk : k < 100) : Calls Tryd.prog 28 #[.int .i64 (k : Int)] w fun e w' => e = .returned (.string (dD k)) ∧ w' = w := Any.strconv_Itoa_small Tryd.lays171 k hk w
end Go.Proofs.YtgpklcpmabafmaaDoor
