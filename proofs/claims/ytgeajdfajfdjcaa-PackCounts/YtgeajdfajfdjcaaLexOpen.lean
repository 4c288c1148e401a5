/- What the program's reader does between tokens and in a comment. -/
import Derived.Test.YtgeajdfajfdjcaaLexWrt2
namespace Go.Proofs.Ytgeajdfajfdjcaa
set_option linter.unusedVariables false
open Go.ChangeShapes Go.WideShapes Go.ChangeAt Go.RowKit

section
variable {W : World} {B : Nat} {s : ByteArray} {st nx bg : Nat} {rd : List Int} {ps : List Pc} {ft : Nat} {w : World}

end
end Go.Proofs.Ytgeajdfajfdjcaa
