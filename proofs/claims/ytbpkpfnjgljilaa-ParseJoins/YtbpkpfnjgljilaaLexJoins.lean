/- LexJoins: two texts with a line's end between have both's tokens, or the second one's error, so many places on: at every argument, with no condition. -/
import Derived.Test.YtbpkpfnjgljilaaLexes
import Derived.Test.YtbpkpfnjgljilaaLexPlac
namespace Go.Proofs.Ytbpkpfnjgljilaa
set_option linter.unusedVariables false
open Go.ChangeShapes Go.WideShapes Go.ChangeAt Go.RowKit

theorem lexS_err (b : Nat → Int) (n : Nat) : ∀ f k p x, lexS b n f k = .error (p, x) → x = 200 ∨ x = 201
  | 0, k, p, x, h => by cases h
  | f + 1, k, p, x, h => by
    have h' : (if n ≤ skp b n false k then Except.ok [] else match tokF b n (skp b n false k) with
      | .ok (t, to) => Res.cons t (lexS b n f to)
      | .error true => .error (skp b n false k, 201)
      | .error false => .error (skp b n false k, 200)) = .error (p, x) := h
    by_cases h1 : n ≤ skp b n false k
    · rw [if_pos h1] at h'; cases h'
    · rw [if_neg h1] at h'
      rcases hg : tokF b n (skp b n false k) with (_ | _) | ⟨t, to⟩
      · rw [hg] at h'; injection h' with h'; injection h' with _ h'; exact Or.inl h'.symm
      · rw [hg] at h'; injection h' with h'; injection h' with _ h'; exact Or.inr h'.symm
      · rw [hg] at h'
        have h2 : Res.cons t (lexS b n f to) = .error (p, x) := h'
        cases hg2 : lexS b n f to with
        | ok l2 => rw [hg2] at h2; cases h2
        | error e =>
          rw [hg2] at h2
          obtain ⟨p', x'⟩ := e
          injection h2 with h2; injection h2 with e1 e2
          exact lexS_err b n f to p x (by rw [hg2, e1, e2])
theorem lexT_err {s : ByteArray} {p x : Nat} (h : lexT s = .error (p, x)) : x = 200 ∨ x = 201 := by
  by_cases hs : 65536 < s.size
  · rw [lexT, lexB, if_pos hs] at h; injection h with h; injection h with _ h; exact Or.inr h.symm
  · rw [lexT, lexB, if_neg hs] at h; exact lexS_err _ _ _ _ _ _ h
theorem lexT_ok_len {s : ByteArray} {l : List Tok} (h : lexT s = .ok l) : l.length ≤ 65536 := by
  have := lexT_len s
  rw [h] at this
  exact this
/-- A call of Lex whose answer is not looked at. -/
theorem lex_some (s : ByteArray) (hs : s.size ≤ maxLen) (w : World) :
    Calls Try.prog 8 #[.string s] w fun e w' => ∃ q n c : Nat, ∃ p : Option Addr, ∃ x : Nat, e = .returned (.tuple #[.slice p n c, .int .i64 (q : Int), .int .i64 (x : Int)]) ∧ n ≤ 65536 ∧ Below w.heap.size w w' := by
  refine (lex_any s w hs).mono ?_
  rintro e w1 ⟨v, rfl, hown, hb⟩
  obtain ⟨p, cap, hv⟩ := row_slice hown
  subst hv
  exact ⟨_, _, _, _, _, rfl, lexT_len s, hb⟩

theorem pre_ok_sh (l m : List Tok) (d : Nat) : Res.pre l (Res.sh d (.ok m)) = .ok (l ++ m.map (Tok.sh d)) := rfl

/-- A row of tokens at one of its places. -/
theorem TRow.cells {w : World} {p : Option Addr} {n cap : Nat} {l : List Tok} (h : TRow w (.slice p n cap) l) {k : Nat} {t : Tok} (hk : l[k]? = some t) : ∃ g, p = some ⟨g, 0, none⟩ ∧ g < w.heap.size ∧
    w.cell? ⟨g, k * 5, none⟩ = some (.int .i64 (t.kind : Int)) ∧ w.cell? ⟨g, k * 5 + 1, none⟩ = some (.int .i64 (t.pl : Int)) ∧ w.cell? ⟨g, k * 5 + 2, none⟩ = some (.string t.text) ∧ w.cell? ⟨g, k * 5 + 3, none⟩ = some (.int .i64 t.lo) ∧ w.cell? ⟨g, k * 5 + 4, none⟩ = some (.int .i64 t.hi) := by
  obtain ⟨p', c', e, hc⟩ := h
  injection e with e1 e2 e3
  subst e1
  exact hc k t hk

set_option linter.unusedVariables false
theorem lexJoins_own : ownKnob Try.prog.godebug = none := by kernel_rfl

end Go.Proofs.Ytbpkpfnjgljilaa
