/- What the document's own named, ranged and quoted hand back. -/
import Derived.Test.YtbpkpfnjgljilaaLexOne
import Derived.Test.YtbpkpfnjgljilaaLexAwake
namespace Go.Proofs.Ytbpkpfnjgljilaa
set_option linter.unusedVariables false
open Go.ChangeShapes Go.WideShapes Go.ChangeAt Go.RowKit

theorem strOf_cut (s : ByteArray) (k e : Nat) (he : e ≤ s.size) : strOf (cut (PlainAid.bt s) k e) = s.extract k e := by
  apply ByteArray.ext
  apply Array.ext
  · simp [strOf, cut]
    have : s.data.size = s.size := rfl
    omega
  · intro i h1 h2
    simp [strOf, cut] at h1
    simp only [strOf, cut, List.getElem_toArray, List.getElem_map, List.getElem_range, ByteArray.data_extract, Array.getElem_extract]
    unfold PlainAid.bt
    rw [dif_pos (by omega)]
    simp
    rfl

def gotT : Got → Tok
  | .ok (t, _) => t
  | _ => ⟨0, 0, ⟨#[]⟩, 0, 0⟩
def gotP : Got → Int
  | .ok (_, to) => (to : Int)
  | _ => -1
/-- What is said of a call that reads one token. -/
def GotEnd (w : World) (g : Got) (e : Ending) (w' : World) : Prop := e = .returned (.tuple #[tokV (gotT g), .int .i64 (gotP g)]) ∧ Below w.heap.size w w'

end Go.Proofs.Ytbpkpfnjgljilaa
