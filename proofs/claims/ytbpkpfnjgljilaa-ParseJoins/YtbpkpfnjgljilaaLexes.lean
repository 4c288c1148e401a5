/- Lexes: of every text the program's Lex hands back what the document's own Lex does: tokens, an error's place and number: at every argument, with no condition. -/
import Derived.Test.YtbpkpfnjgljilaaLexDoc
import Derived.Test.YtbpkpfnjgljilaaLexAwake
import Derived.Test.YtbpkpfnjgljilaaShowBackT
import Derived.Test.YtbpkpfnjgljilaaLawOpen
namespace Go.Proofs.Ytbpkpfnjgljilaa
set_option linter.unusedVariables false
open Go.ChangeShapes Go.WideShapes Go.ChangeAt Go.RowKit

theorem lexS_len (b : Nat → Int) (n : Nat) : ∀ f k l, lexS b n f k = .ok l → k ≤ n → l.length ≤ n - k
  | 0, k, l, h, _ => by injection h with h; subst h; simp
  | f + 1, k, l, h, hk => by
    have h' : (if n ≤ skp b n false k then Except.ok [] else match tokF b n (skp b n false k) with
      | .ok (t, to) => Res.cons t (lexS b n f to)
      | .error true => .error (skp b n false k, 201)
      | .error false => .error (skp b n false k, 200)) = .ok l := h
    by_cases h1 : n ≤ skp b n false k
    · rw [if_pos h1] at h'; injection h' with h'; subst h'; simp
    · rw [if_neg h1] at h'
      have hge := skp_ge b n false k
      rcases hg : tokF b n (skp b n false k) with (_ | _) | ⟨t, to⟩
      · rw [hg] at h'; cases h'
      · rw [hg] at h'; cases h'
      · rw [hg] at h'
        have hto := tokF_to (by omega) hg
        have h2 : Res.cons t (lexS b n f to) = .ok l := h'
        cases hg2 : lexS b n f to with
        | error e => rw [hg2] at h2; cases h2
        | ok l2 =>
          rw [hg2] at h2
          obtain rfl : t :: l2 = l := by injection h2
          have := lexS_len b n f to l2 hg2 hto.2
          simp only [List.length_cons]; omega
theorem lexT_len (s : ByteArray) : (lexAns (lexT s)).1.length ≤ 65536 := by
  cases h : lexT s with
  | error e => exact Nat.zero_le _
  | ok l =>
    show l.length ≤ 65536
    by_cases hs : 65536 < s.size
    · rw [lexT, lexB, if_pos hs] at h; cases h
    · rw [lexT, lexB, if_neg hs] at h
      have := lexS_len _ _ _ _ _ h (Nat.zero_le _)
      omega

set_option linter.unusedVariables false
theorem lexes_own : ownKnob Try.prog.godebug = none := by kernel_rfl

end Go.Proofs.Ytbpkpfnjgljilaa
