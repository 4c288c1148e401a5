/- What the document's own Lex hands back; Lexes: the program's Lex hands back the same, of every text: at every argument, with no condition. -/
import Derived.Test.YtbpkpfnjgljilaaLexQuoted
namespace Go.Proofs.Ytbpkpfnjgljilaa
set_option linter.unusedVariables false
open Go.ChangeShapes Go.WideShapes Go.ChangeAt Go.RowKit

theorem own5 {w : World} {base e size n m : Nat} {v : Value} {xs : List Value} (h : w.ownsRow base e size v m xs) (hn : v.ownBlock ≠ some n) (x0 x1 x2 x3 x4 : Value) :
    (((((w.setCell ⟨n, 0, none⟩ x0).setCell ⟨n, 1, none⟩ x1).setCell ⟨n, 2, none⟩ x2).setCell ⟨n, 3, none⟩ x3).setCell ⟨n, 4, none⟩ x4).ownsRow base e size v m xs :=
  ownsRow_setCell_other (ownsRow_setCell_other (ownsRow_setCell_other (ownsRow_setCell_other (ownsRow_setCell_other h (a := ⟨n, 0, none⟩) hn _) (a := ⟨n, 1, none⟩) hn _) (a := ⟨n, 2, none⟩) hn _) (a := ⟨n, 3, none⟩) hn _) (a := ⟨n, 4, none⟩) hn _
theorem size5 (w : World) (n : Nat) (x0 x1 x2 x3 x4 : Value) : (((((w.setCell ⟨n, 0, none⟩ x0).setCell ⟨n, 1, none⟩ x1).setCell ⟨n, 2, none⟩ x2).setCell ⟨n, 3, none⟩ x3).setCell ⟨n, 4, none⟩ x4).heap.size = w.heap.size := by simp [World.setCell]

theorem size_alloc1 (w : World) (o : Obj) : (w.alloc o).heap.size = w.heap.size + 1 := by simp
theorem heap_alloc_at (w : World) (o : Obj) (n : Nat) (h : w.heap.size = n) : (w.alloc o).heap[n]? = some o := by rw [← h]; exact heap_alloc_new w o
theorem nameG_no (b : Nat → Int) (n k : Nat) : nameG b n k ≠ .noByte := by unfold nameG; split <;> simp
theorem textG_no (b : Nat → Int) (n k : Nat) : textG b n k ≠ .noByte := by rw [textG_R]; cases textF b n (k + 1) [] <;> simp [textR]
theorem rangeG_no (b : Nat → Int) (n k : Nat) : rangeG b n k ≠ .noByte := by unfold rangeG; split <;> simp

end Go.Proofs.Ytbpkpfnjgljilaa
