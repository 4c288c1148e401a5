/- Parts of what may be. No program in sight. -/
import Derived.Test.YtdoibpgkfdpbdaaGramPl
namespace Go.Proofs.Ytdoibpgkfdpbdaa
set_option linter.unusedVariables false
set_option linter.unusedSimpArgs false

/-- A rule that may be, but for sums. -/
def RuOk (k : Nat) (r : Ru) : Prop := (1 ≤ r.conj.length ∧ r.conj.length ≤ 8) ∧ ∀ c, c ∈ r.conj → mayRow k c.seq = true
def symsC : List Cn → Nat
  | [] => 0
  | c :: l => c.seq.length + symsC l
theorem mayCs_toY {k : Nat} : ∀ (l : List Cn) (n m : Nat), mayCs k n l = some m → m = n + symsC l ∧ ∀ c, c ∈ l → mayRow k c.seq = true
  | [], n, m, h => by
    have h1 : some n = some m := h
    injection h1 with h1
    exact ⟨h1.symm, fun c hc => by cases hc⟩
  | c :: l, n, m, h => by
    have h1 : (if n + c.seq.length ≤ 1024 ∧ mayRow k c.seq = true then mayCs k (n + c.seq.length) l else none) = some m := h
    by_cases hc : n + c.seq.length ≤ 1024 ∧ mayRow k c.seq = true
    · rw [if_pos hc] at h1
      have h2 := mayCs_toY l _ m h1
      refine ⟨?_, fun d hd => ?_⟩
      · show m = n + (c.seq.length + symsC l)
        omega
      · rcases List.mem_cons.1 hd with e | hd
        · rw [e]; exact hc.2
        · exact h2.2 d hd
    · rw [if_neg hc] at h1; cases h1
theorem mayRs_toY {k : Nat} : ∀ (L : List Ru) (n : Nat), mayRs k n L = true → ∀ r, r ∈ L → RuOk k r
  | [], _, _, r, h => by cases h
  | q :: L, n, h, r, hr => by
    have h1 : (if 1 ≤ q.conj.length ∧ q.conj.length ≤ 8 then (match mayCs k n q.conj with | none => false | some m => mayRs k m L) else false) = true := h
    by_cases hc : 1 ≤ q.conj.length ∧ q.conj.length ≤ 8
    · rw [if_pos hc] at h1
      cases hm : mayCs k n q.conj with
      | none => rw [hm] at h1; cases h1
      | some m =>
        rw [hm] at h1
        rcases List.mem_cons.1 hr with e | hr
        · rw [e]; exact ⟨hc, (mayCs_toY q.conj n m hm).2⟩
        · exact mayRs_toY L m h1 r hr
    · rw [if_neg hc] at h1; cases h1
theorem may_partsY {g : Gr} (h : mayG g = true) : mayNames g.names = true ∧ isNum g.start g.names.length = true ∧ mayHeads g.names.length (-1) g.rules = true ∧ (1 ≤ g.rules.length ∧ g.rules.length ≤ 256) ∧ ∀ r, r ∈ g.rules → RuOk g.names.length r := by
  unfold mayG mayRules at h
  simp only [Bool.and_eq_true, decide_eq_true_eq] at h
  exact ⟨h.1, h.2.1, h.2.2.1, ⟨h.2.2.2.1, h.2.2.2.2.1⟩, mayRs_toY g.rules 0 h.2.2.2.2.2⟩
end Go.Proofs.Ytdoibpgkfdpbdaa
