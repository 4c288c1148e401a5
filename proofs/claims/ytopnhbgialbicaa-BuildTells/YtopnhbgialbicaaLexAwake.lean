/- awake answers true. -/
import Derived.Test.YtopnhbgialbicaaLexSame
namespace Go.Proofs.Ytopnhbgialbicaa
set_option linter.unusedVariables false
open Go.ChangeShapes Go.WideShapes Go.ChangeAt Go.RowKit

def awS : ByteArray := ⟨#[115, 116, 97, 114, 116, 32, 65, 98, 95, 49, 59, 32, 35, 32, 120, 10, 61, 32, 34, 97, 92, 120, 48, 97, 92, 34, 34, 32, 39, 97, 39, 46, 46, 39, 92, 39, 39, 32, 39, 98, 39, 32, 38, 32, 124, 32, 126]⟩
def awL : List Tok := [⟨3, 0, ⟨#[]⟩, 0, 0⟩, ⟨0, 6, ⟨#[65, 98, 95, 49]⟩, 0, 0⟩, ⟨8, 10, ⟨#[]⟩, 0, 0⟩, ⟨4, 16, ⟨#[]⟩, 0, 0⟩, ⟨1, 18, ⟨#[97, 10, 34]⟩, 0, 0⟩, ⟨2, 28, ⟨#[]⟩, 97, 39⟩, ⟨2, 38, ⟨#[]⟩, 98, 98⟩, ⟨6, 42, ⟨#[]⟩, 0, 0⟩, ⟨5, 44, ⟨#[]⟩, 0, 0⟩, ⟨7, 46, ⟨#[]⟩, 0, 0⟩]
theorem aw1 : lexT awS = .ok awL := by kernel_rfl
theorem aw2 : lexT ⟨#[97, 32, 36]⟩ = .error (2, 200) := by kernel_rfl
theorem aw3 : lexT ⟨#[97, 32, 34, 98]⟩ = .error (2, 201) := by kernel_rfl

theorem aw_len : awL.length ≤ 65536 := by decide
theorem aw_cells : #[Value.int IntKind.i64 3, Value.int IntKind.i64 0, Value.string { data := #[] }, Value.int IntKind.i64 0,
          Value.int IntKind.i64 0, Value.int IntKind.i64 0, Value.int IntKind.i64 6,
          Value.string { data := #[65, 98, 95, 49] }, Value.int IntKind.i64 0, Value.int IntKind.i64 0,
          Value.int IntKind.i64 8, Value.int IntKind.i64 10, Value.string { data := #[] }, Value.int IntKind.i64 0,
          Value.int IntKind.i64 0, Value.int IntKind.i64 4, Value.int IntKind.i64 16, Value.string { data := #[] },
          Value.int IntKind.i64 0, Value.int IntKind.i64 0, Value.int IntKind.i64 1, Value.int IntKind.i64 18,
          Value.string { data := #[97, 10, 34] }, Value.int IntKind.i64 0, Value.int IntKind.i64 0,
          Value.int IntKind.i64 2, Value.int IntKind.i64 28, Value.string { data := #[] }, Value.int IntKind.i64 97,
          Value.int IntKind.i64 39, Value.int IntKind.i64 2, Value.int IntKind.i64 38, Value.string { data := #[] },
          Value.int IntKind.i64 98, Value.int IntKind.i64 98, Value.int IntKind.i64 6, Value.int IntKind.i64 42,
          Value.string { data := #[] }, Value.int IntKind.i64 0, Value.int IntKind.i64 0, Value.int IntKind.i64 5,
          Value.int IntKind.i64 44, Value.string { data := #[] }, Value.int IntKind.i64 0, Value.int IntKind.i64 0,
          Value.int IntKind.i64 7, Value.int IntKind.i64 46, Value.string { data := #[] }, Value.int IntKind.i64 0,
          Value.int IntKind.i64 0] = (toksV awL).toArray := by kernel_rfl

/-- A call of Lex whose answer is known: of tokens. -/
theorem lex_ok {s : ByteArray} {l : List Tok} (h : lexT s = .ok l) (hs : s.size ≤ maxLen) (w : World) :
    Calls Try.prog 38 #[.string s] w fun e w' => ∃ p cap, e = .returned (.tuple #[.slice p l.length cap, .int .i64 0, .int .i64 0]) ∧ TRow w' (.slice p l.length cap) l ∧ Below w.heap.size w w' := by
  refine (lex_any s w hs).mono ?_
  rintro e w1 ⟨v, rfl, hown, hb⟩
  rw [h] at hown ⊢
  obtain ⟨p, cap, hv⟩ := row_slice hown
  subst hv
  exact ⟨p, cap, rfl, TRow.of hown, hb⟩
/-- Of an error. -/
theorem lex_err {s : ByteArray} {p k : Nat} (h : lexT s = .error (p, k)) (hs : s.size ≤ maxLen) (w : World) :
    Calls Try.prog 38 #[.string s] w fun e w' => ∃ q cap, e = .returned (.tuple #[.slice q 0 cap, .int .i64 (p : Int), .int .i64 (k : Int)]) ∧ Below w.heap.size w w' := by
  refine (lex_any s w hs).mono ?_
  rintro e w1 ⟨v, rfl, hown, hb⟩
  rw [h] at hown ⊢
  obtain ⟨q, cap, hv⟩ := row_slice hown
  subst hv
  exact ⟨q, cap, rfl, hb⟩

end Go.Proofs.Ytopnhbgialbicaa
