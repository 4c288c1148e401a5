/- The head of the program's text: it is of the kind that a claim may enter. The words of the head are read one by one, the rest unread: read whole they take the kernel more memory than it has, in a program of many rows. -/
import Derived.Test.YtkkmjgohjaedkaaLawOpen
namespace Go.Proofs.Ytkkmjgohjaedkaa
set_option linter.unusedVariables false

theorem words_step : ∀ (w r : List Char), (w.all (· != ' ')) = true → wordsSigns (w ++ ' ' :: r) = w :: wordsSigns r
  | [], r, _ => rfl
  | c :: w, r, h => by
    rw [List.all_cons, Bool.and_eq_true] at h
    have hc : c ≠ ' ' := by intro e; subst e; exact absurd h.1 (by decide)
    have ih := words_step w r h.2
    show wordsSigns (c :: (w ++ ' ' :: r)) = _
    rw [wordsSigns.eq_3 _ _ (by intro e; exact hc e), ih]
def headMain : List Char := ['h', 'a', 'r', 'n', 'e', 's', 's']
def headSum : List Char := ['3', '9', 'a', '1', '6', '6', '6', 'a', '8', 'f', '2', 'b', '5', 'f', 'f', '8', '2', 'a', '8', 'e', 'd', 'e', '6', '5', '8', 'f', '3', 'e', 'b', 'c', '0', '7', '5', '8', 'b', '6', 'b', 'c', '6', '0', 'c', '5', '9', '1', '3', 'a', 'a', '2', 'e', 'e', 'c', 'c', '9', '8', '9', 'f', '5', 'a', '4', 'c', '4', 'b', '6', '6']
def headMake : List Char := ['c', 'u', 't']
set_option maxRecDepth 100000 in
def headRest : List Char := ['a', 't', ' ', 't', 'e', 'm', 'p', 'l', 'e', '/', 't', 'e', 'm', 'p', 'l', 'e', 'l', 'a', 'w', '2', '.', 'L', 'e', 'x', 'e', 's', ' ', 't', 'e', 'm', 'p', 'l', 'e', '/', 't', 'e', 'm', 'p', 'l', 'e', 'l', 'a', 'w', '2', '.', 'L', 'e', 'x', 'J', 'o', 'i', 'n', 's', ' ', 't', 'e', 'm', 'p', 'l', 'e', '/', 't', 'e', 'm', 'p', 'l', 'e', 'l', 'a', 'w', '2', '.', 'L', 'e', 'x', 'T', 'e', 'x', 't', 's', ' ', 't', 'e', 'm', 'p', 'l', 'e', '/', 't', 'e', 'm', 'p', 'l', 'e', 'l', 'a', 'w', '2', '.', 'L', 'e', 'x', 'B', 'l', 'a', 'n', 'k', 's', ' ', 't', 'e', 'm', 'p', 'l', 'e', '/', 't', 'e', 'm', 'p', 'l', 'e', 'l', 'a', 'w', '2', '.', 'L', 'e', 'x', 'N', 'a', 'm', 'e', 's', ' ', 't', 'e', 'm', 'p', 'l', 'e', '/', 't', 'e', 'm', 'p', 'l', 'e', 'l', 'a', 'w', '2', '.', 'L', 'e', 'x', 'W', 'r', 'o', 'n', 'g', ' ', 't', 'e', 'm', 'p', 'l', 'e', '/', 't', 'e', 'm', 'p', 'l', 'e', 'l', 'a', 'w', '2', '.', 'L', 'e', 'x', 'P', 'l', 'a', 'c', 'e', 's', ' ', 't', 'e', 'm', 'p', 'l', 'e', '/', 't', 'e', 'm', 'p', 'l', 'e', 'l', 'a', 'w', '2', '.', 'L', 'e', 'x', 'R', 'o', 'w', 's', ' ', 't', 'e', 'm', 'p', 'l', 'e', '/', 't', 'e', 'm', 'p', 'l', 'e', 'l', 'a', 'w', '3', '.', 'P', 'a', 'r', 's', 'e', 's', ' ', 't', 'e', 'm', 'p', 'l', 'e', '/', 't', 'e', 'm', 'p', 'l', 'e', 'l', 'a', 'w', '3', '.', 'P', 'a', 'r', 's', 'e', 'J', 'o', 'i', 'n', 's', ' ', 't', 'e', 'm', 'p', 'l', 'e', '/', 't', 'e', 'm', 'p', 'l', 'e', 'l', 'a', 'w', '3', '.', 'P', 'a', 'r', 's', 'e', 'W', 'r', 'o', 'n', 'g', ' ', 't', 'e', 'm', 'p', 'l', 'e', '/', 't', 'e', 'm', 'p', 'l', 'e', 'l', 'a', 'w', '3', '.', 'P', 'a', 'r', 's', 'e', 'M', 'a', 'd', 'e', ' ', 't', 'e', 'm', 'p', 'l', 'e', '/', 't', 'e', 'm', 'p', 'l', 'e', 'l', 'a', 'w', '3', '.', 'P', 'a', 'r', 's', 'e', 'C', 'u', 't', 's', ' ', 't', 'e', 'm', 'p', 'l', 'e', '/', 't', 'e', 'm', 'p', 'l', 'e', 'l', 'a', 'w', '3', '.', 'P', 'a', 'r', 's', 'e', 'S', 't', 'a', 'r', 't', 's', ' ', 't', 'e', 'm', 'p', 'l', 'e', '/', 't', 'e', 'm', 'p', 'l', 'e', 'l', 'a', 'w', '4', '.', 'B', 'u', 'i', 'l', 'd', 's', ' ', 't', 'e', 'm', 'p', 'l', 'e', '/', 't', 'e', 'm', 'p', 'l', 'e', 'l', 'a', 'w', '4', '.', 'B', 'u', 'i', 'l', 'd', 'T', 'e', 'l', 'l', 's', ' ', 't', 'e', 'm', 'p', 'l', 'e', '/', 't', 'e', 'm', 'p', 'l', 'e', 'l', 'a', 'w', '4', '.', 'G', 'r', 'a', 'm', 'F', 'o', 'r', 'm', 's', ' ', 't', 'e', 'm', 'p', 'l', 'e', '/', 't', 'e', 'm', 'p', 'l', 'e', 'l', 'a', 'w', '4', '.', 'G', 'r', 'a', 'm', 'L', 'i', 'm', 'i', 't', 's', ' ', 't', 'e', 'm', 'p', 'l', 'e', '/', 't', 'e', 'm', 'p', 'l', 'e', 'l', 'a', 'w', '4', '.', 'B', 'u', 'i', 'l', 'd', 'R', 'o', 'w', 's', ' ', 't', 'e', 'm', 'p', 'l', 'e', '/', 't', 'e', 'm', 'p', 'l', 'e', 'l', 'a', 'w', '4', '.', 'B', 'u', 'i', 'l', 'd', 'W', 'r', 'o', 'n', 'g', ' ', 't', 'e', 'm', 'p', 'l', 'e', '/', 't', 'e', 'm', 'p', 'l', 'e', 'l', 'a', 'w', '4', '.', 'B', 'u', 'i', 'l', 'd', 'L', 'o', 'n', 'g', ' ', 't', 'e', 'm', 'p', 'l', 'e', '/', 't', 'e', 'm', 'p', 'l', 'e', 'l', 'a', 'w', '5', '.', 'S', 'h', 'o', 'w', 's', ' ', 't', 'e', 'm', 'p', 'l', 'e', '/', 't', 'e', 'm', 'p', 'l', 'e', 'l', 'a', 'w', '5', '.', 'S', 'h', 'o', 'w', 'B', 'a', 'c', 'k', ' ', 't', 'e', 'm', 'p', 'l', 'e', '/', 't', 'e', 'm', 'p', 'l', 'e', 'l', 'a', 'w', '5', '.', 'S', 'h', 'o', 'w', 'B', 'y', 't', 'e', 's', ' ', 't', 'e', 'm', 'p', 'l', 'e', '/', 't', 'e', 'm', 'p', 'l', 'e', 'l', 'a', 'w', '5', '.', 'S', 'h', 'o', 'w', 'R', 'u', 'n', 's', ' ', 't', 'e', 'm', 'p', 'l', 'e', '/', 't', 'e', 'm', 'p', 'l', 'e', 'l', 'a', 'w', '5', '.', 'S', 'h', 'o', 'w', 'U', 'n', 'l', 'i', 'k', 'e', ' ', 't', 'e', 'm', 'p', 'l', 'e', '/', 't', 'e', 'm', 'p', 'l', 'e', 'l', 'a', 'w', '5', '.', 'S', 'h', 'o', 'w', 'R', 'o', 'w', 's']
theorem head_is : Try.checked.prog.initOrder = String.ofList (headMain ++ ' ' :: (headSum ++ ' ' :: (headMake ++ ' ' :: headRest))) := by kernel_rfl
theorem behind_main (h s : List Char) (r : List (List Char)) (e : ((h == "harness".toList || h == "ownmain".toList) && isSumSigns s) = true) : behindMainWord (h :: s :: r) = r := by
  show (if _ then r else _) = r
  rw [if_pos e]
theorem head_cut : ∃ tl, behindMainWord (wordsSigns Try.checked.prog.initOrder.toList) = ['c', 'u', 't'] :: tl := by
  rw [head_is, String.toList_ofList, words_step _ _ (by kernel_rfl), words_step _ _ (by kernel_rfl), words_step _ _ (by kernel_rfl)]
  exact ⟨wordsSigns headRest, behind_main _ _ _ (by kernel_rfl)⟩
theorem strip_cut (tl : List (List Char)) : stripLifts liftWords (['c', 'u', 't'] :: tl) = ([], ['c', 'u', 't'] :: tl) := by kernel_rfl
theorem lays_no : Try.checked.prog.laysLater = false := by kernel_rfl
theorem bears_no : Try.checked.prog.bearsReflect = false := by kernel_rfl
theorem door_ok : Try.checked.prog.doorFits [] = true := by kernel_rfl
theorem enter_of {P : Program} {tl : List (List Char)} (h : behindMainWord (wordsSigns P.initOrder.toList) = ['c', 'u', 't'] :: tl) (h1 : P.laysLater = false) (h2 : P.bearsReflect = false) (h3 : P.doorFits [] = true) : P.mayEnter = true := by
  unfold Program.mayEnter
  rw [h]
  dsimp only
  rw [strip_cut, h1, h2, h3]
  have e : ((['c', 'u', 't'] :: tl).head? == some "cut".toList) = true := by kernel_rfl
  dsimp only
  rw [e]
  simp
theorem lifts_of {P : Program} {tl : List (List Char)} (h : behindMainWord (wordsSigns P.initOrder.toList) = ['c', 'u', 't'] :: tl) : P.liftsFinal = false := by
  have h0 : P.headLifts = [] := by
    unfold Program.headLifts
    rw [h, strip_cut]
    dsimp only
    split <;> rfl
  unfold Program.liftsFinal
  rw [h, h0]
  have e : ((['c', 'u', 't'] :: tl).head? == some "carried".toList) = false := by kernel_rfl
  dsimp only
  rw [e]; rfl
theorem make_of {P : Program} {tl : List (List Char)} (h : behindMainWord (wordsSigns P.initOrder.toList) = ['c', 'u', 't'] :: tl) : P.make = some .cut := by
  unfold Program.make
  rw [h]
  dsimp only
  rw [if_neg (by rw [show ((['c', 'u', 't'] : List Char) == "gc".toList || (['c', 'u', 't'] : List Char) == "spec".toList) = false by kernel_rfl]; simp), if_pos (by rw [show ((['c', 'u', 't'] : List Char) == "cut".toList) = true by kernel_rfl]; rfl)]
theorem enter_ok : Try.checked.prog.mayEnter = true := head_cut.elim fun _ h => enter_of h lays_no bears_no door_ok
theorem lifts_no : Try.checked.prog.liftsFinal = false := head_cut.elim fun _ h => lifts_of h
theorem make_cut : Try.checked.prog.make = some .cut := head_cut.elim fun _ h => make_of h
theorem and_ok {a b : Bool} (h : a = true) (k : b = true) : (a && b) = true := by subst h; subst k; rfl
end Go.Proofs.Ytkkmjgohjaedkaa
