/- What the program's Lex hands back. -/
import Derived.Test.YtgeajdfajfdjcaaLexTokens
namespace Go.Proofs.Ytgeajdfajfdjcaa
set_option linter.unusedVariables false
open Go.ChangeShapes Go.WideShapes Go.ChangeAt Go.RowKit

theorem le_alloc (w : World) (o : Obj) : w.heap.size ≤ (w.alloc o).heap.size := by simp
theorem take_map (l : List Pc) (k : Nat) (p : Pc) (h : l[k]? = some p) : (l.take (k + 1)).map Pc.tok = (l.take k).map Pc.tok ++ [p.tok] := by
  rw [List.take_add_one, h]; simp

def cInt (w : World) (b j : Nat) : Nat := match w.cell? ⟨b, j, none⟩ with
  | some (.int _ z) => z.toNat
  | _ => 0
theorem cInt_of {w : World} {b j k : Nat} (h : w.cell? ⟨b, j, none⟩ = some (.int .i64 (k : Int))) : cInt w b j = k := by unfold cInt; rw [h]; rfl

/-- What Lex hands back: the tokens in a row, a place, an error's number. -/
def lexAns : Res → List Tok × Nat × Nat
  | .ok l => (l, 0, 0)
  | .error (p, e) => ([], p, e)
theorem resume5 {b : Nat → Int} {n nx bg ft : Nat} {rd : List Int} {ps : List Pc} : resume b n ⟨5, nx, bg, rd, ps, ft⟩ = if ft = 0 then .ok (ps.map Pc.tok) else .error (bg, ft) := by
  show Res.pre _ (if ft = 0 then _ else _) = _
  by_cases h : ft = 0
  · rw [if_pos h, if_pos h, Res.pre_ok]
  · rw [if_neg h, if_neg h]; rfl

theorem rlex {v v' : Value} {a b c d : Int} (h0 : v = v') (h : a = b) (h' : c = d) : Ending.returned (.tuple #[v, .int .i64 a, .int .i64 c]) = .returned (.tuple #[v', .int .i64 b, .int .i64 d]) := by rw [h0, h, h']

end Go.Proofs.Ytgeajdfajfdjcaa
