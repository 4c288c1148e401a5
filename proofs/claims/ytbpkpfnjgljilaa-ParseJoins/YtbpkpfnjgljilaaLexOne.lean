/- What the document's own one does. -/
import Derived.Test.YtbpkpfnjgljilaaLexSkip
namespace Go.Proofs.Ytbpkpfnjgljilaa
open Go.ChangeShapes Go.WideShapes Go.ChangeAt Go.RowKit

end Go.Proofs.Ytbpkpfnjgljilaa
