/- What the document's own letter, digit, hex, mark do. -/
import Derived.Test.YtbpkpfnjgljilaaRows
import Derived.Test.YtbpkpfnjgljilaaLexPlain
import Derived.ProofKit
import Derived.OpenShut
import Derived.WalkLawsBesides
import Derived.Deep.QuietTactic
import Derived.BigQuiet
namespace Go.Proofs.Ytbpkpfnjgljilaa
open Go.ChangeShapes Go.WideShapes Go.ChangeAt Go.RowKit

theorem rb {a b : Bool} (h : a = b) : Ending.returned (.bool a) = .returned (.bool b) := by rw [h]
theorem ri {k : IntKind} {a b : Int} (h : a = b) : Ending.returned (.int k a) = .returned (.int k b) := by rw [h]

end Go.Proofs.Ytbpkpfnjgljilaa
