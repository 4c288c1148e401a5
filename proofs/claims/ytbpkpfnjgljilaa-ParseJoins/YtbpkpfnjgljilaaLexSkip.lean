/- What the document's own skip does. -/
import Derived.Test.YtbpkpfnjgljilaaLexRef
namespace Go.Proofs.Ytbpkpfnjgljilaa
open Go.ChangeShapes Go.WideShapes Go.ChangeAt Go.RowKit

end Go.Proofs.Ytbpkpfnjgljilaa
