/- What a step of the program's reader does; how its pieces become tokens. -/
import Derived.Test.YtgeajdfajfdjcaaLexTwo
import Derived.RegionTactic
namespace Go.Proofs.Ytgeajdfajfdjcaa
set_option linter.unusedVariables false
open Go.ChangeShapes Go.WideShapes Go.ChangeAt Go.RowKit

/-- A token as a value, as cells. -/
def tokC (t : Tok) : List Value := [.int .i64 (t.kind : Int), .int .i64 (t.pl : Int), .string t.text, .int .i64 t.lo, .int .i64 t.hi]
def tokV (t : Tok) : Value := .agg #[.int .i64 (t.kind : Int), .int .i64 (t.pl : Int), .string t.text, .int .i64 t.lo, .int .i64 t.hi]
def toksV : List Tok → List Value
  | [] => []
  | t :: l => tokC t ++ toksV l
theorem toksV_append : ∀ l m : List Tok, toksV (l ++ m) = toksV l ++ toksV m
  | [], _ => rfl
  | t :: l, m => by simp [toksV, toksV_append l m]
theorem toksV_length : ∀ l : List Tok, (toksV l).length = l.length * 5
  | [] => rfl
  | t :: l => by simp [toksV, tokC, toksV_length l]; omega

theorem bel1 (w : World) (o : Obj) : Below w.heap.size w (w.alloc o) := (Below.refl _ _).alloc (Nat.le_refl _) o
theorem bel2 (w : World) (o o' : Obj) : Below w.heap.size w ((w.alloc o).alloc o') := (bel1 w o).alloc (by simp) o'
theorem bel3 (w : World) (o o' o'' : Obj) : Below w.heap.size w (((w.alloc o).alloc o').alloc o'') := (bel2 w o o').alloc (by simp; omega) o''
theorem bel4 (w : World) (o o' o'' o3 : Obj) : Below w.heap.size w ((((w.alloc o).alloc o').alloc o'').alloc o3) := (bel3 w o o' o'').alloc (by simp; omega) o3

theorem assert_str (t : ByteArray) (w : World) : (Instr.typeAssert (.iface 9 (.string t)) 20 9 false).run Try.prog w = .ok (.string t) w := by kernel_rfl
end Go.Proofs.Ytgeajdfajfdjcaa
