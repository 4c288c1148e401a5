/- What layer 4's texts need of tokens and of literals in memory. -/
import Derived.Test.YtopnhbgialbicaaNoteSame
import Derived.Test.YtopnhbgialbicaaLexAwake
namespace Go.Proofs.Ytopnhbgialbicaa
set_option linter.unusedVariables false
open Go.RowKit

theorem lexErrS (b : Nat → Int) (n : Nat) : ∀ f k p x, lexS b n f k = .error (p, x) → x = 200 ∨ x = 201
  | 0, k, p, x, h => by cases h
  | f + 1, k, p, x, h => by
    have h' : (if n ≤ skp b n false k then Except.ok [] else match tokF b n (skp b n false k) with
      | .ok (t, to) => Res.cons t (lexS b n f to)
      | .error true => .error (skp b n false k, 201)
      | .error false => .error (skp b n false k, 200)) = .error (p, x) := h
    by_cases h1 : n ≤ skp b n false k
    · rw [if_pos h1] at h'; cases h'
    · rw [if_neg h1] at h'
      rcases hg : tokF b n (skp b n false k) with (_ | _) | ⟨t, to⟩
      · rw [hg] at h'; injection h' with h'; injection h' with _ h'; exact Or.inl h'.symm
      · rw [hg] at h'; injection h' with h'; injection h' with _ h'; exact Or.inr h'.symm
      · rw [hg] at h'
        have h2 : Res.cons t (lexS b n f to) = .error (p, x) := h'
        cases hg2 : lexS b n f to with
        | ok l2 => rw [hg2] at h2; cases h2
        | error e =>
          rw [hg2] at h2
          obtain ⟨p', x'⟩ := e
          injection h2 with h2; injection h2 with e1 e2
          exact lexErrS b n f to p x (by rw [hg2, e1, e2])
theorem lexErrK {s : ByteArray} {p x : Nat} (h : lexT s = .error (p, x)) : x = 200 ∨ x = 201 := by
  by_cases hs : 65536 < s.size
  · rw [lexT, lexB, if_pos hs] at h; injection h with h; injection h with _ h; exact Or.inr h.symm
  · rw [lexT, lexB, if_neg hs] at h; exact lexErrS _ _ _ _ _ _ h
theorem tok_at {w : World} {p : Option Addr} {n cap : Nat} {l : List Tok} (h : TRow w (.slice p n cap) l) {k : Nat} {t : Tok} (hk : l[k]? = some t) : ∃ g, p = some ⟨g, 0, none⟩ ∧ g < w.heap.size ∧
    w.cell? ⟨g, k * 5, none⟩ = some (.int .i64 (t.kind : Int)) ∧ w.cell? ⟨g, k * 5 + 1, none⟩ = some (.int .i64 (t.pl : Int)) ∧ w.cell? ⟨g, k * 5 + 2, none⟩ = some (.string t.text) ∧ w.cell? ⟨g, k * 5 + 3, none⟩ = some (.int .i64 t.lo) ∧ w.cell? ⟨g, k * 5 + 4, none⟩ = some (.int .i64 t.hi) := by
  obtain ⟨p', c', e, hc⟩ := h
  injection e with e1 e2 e3
  subst e1
  exact hc k t hk
/-- Blocks laid one behind the other. -/
def blks (w : World) : List Obj → World
  | [] => w
  | o :: l => blks (w.alloc o) l
theorem blks_below : ∀ (l : List Obj) (w : World), Below w.heap.size w (blks w l)
  | [], w => Below.refl _ _
  | o :: l, w => (bel1 w o).trans ((blks_below l (w.alloc o)).mono (le_alloc _ _))
theorem blks_at : ∀ (l : List Obj) (w : World) (k : Nat) (o : Obj), l[k]? = some o → (blks w l).heap[w.heap.size + k]? = some o
  | [], w, k, o, h => by simp at h
  | a :: l, w, 0, o, h => by
    obtain rfl : a = o := by simpa using h
    exact ((blks_below l (w.alloc a)).block _ (by simp)).trans (heap_alloc_new w a)
  | a :: l, w, k + 1, o, h => by
    have := blks_at l (w.alloc a) k o (by simpa using h)
    rw [show (w.alloc a).heap.size + k = w.heap.size + (k + 1) by simp; omega] at this
    exact this
/-- A row just laid. -/
theorem reads_laid {w : World} {g n c : Nat} {arr : Array Value} {t : TypeId} (h : w.heap[g]? = some (.cells arr t)) (hn : n ≤ maxLen ∧ n ≤ c) {cs : List Value} (hcs : cs = arr.toList) : Reads w Any (.slice (some ⟨g, 0, none⟩) n c) n cs := by
  subst hcs
  have hg : g < w.heap.size := by
    by_cases hh : g < w.heap.size
    · exact hh
    · rw [Array.getElem?_eq_none (by omega)] at h; cases h
  refine ⟨_, _, rfl, hn, fun _ => ⟨g, 0, rfl, trivial, hg, fun j c hj => ?_, fun j _ => by simp [World.frozen?, h]⟩⟩
  simp [World.cell?, h]
  simpa using hj
theorem cjs_nil (w : World) (F : Nat → Prop) : CjsIn w F [] [] := ⟨rfl, fun k c u e => by simp at e⟩
theorem cjs_snoc {w : World} {F : Nat → Prop} {l : List Cj} {vs : List Value} {c : Cj} {v : Value} (h : CjsIn w F l vs) (hi : IsIts w F v c.items) : CjsIn w F (l ++ [c]) (vs ++ [v]) := in_snoc (P := fun (c : Cj) (u : Value) => IsIts w F u c.items) h.1 h.2 hi
theorem alts_nil (w : World) (F : Nat → Prop) : AltsIn w F [] [] := ⟨rfl, fun k c u e => by simp at e⟩
theorem alts_snoc {w : World} {F : Nat → Prop} {l : List (List Cj)} {vs : List Value} {c : List Cj} {v : Value} (h : AltsIn w F l vs) (hi : IsCjs w F v c) : AltsIn w F (l ++ [c]) (vs ++ [v]) := in_snoc (P := fun (c : List Cj) (u : Value) => IsCjs w F u c) h.1 h.2 hi
theorem defs_nil (w : World) (F : Nat → Prop) : DefsIn w F [] [] := ⟨rfl, fun k c u e => by simp at e⟩
theorem defs_snoc {w : World} {F : Nat → Prop} {l : List Df} {vs : List Value} {c : Df} {v : Value} (h : DefsIn w F l vs) (hi : IsAlts w F v c.alts) : DefsIn w F (l ++ [c]) (vs ++ [v]) := in_snoc (P := fun (c : Df) (u : Value) => IsAlts w F u c.alts) h.1 h.2 hi
theorem le11 : 1 ≤ maxLen ∧ 1 ≤ 1 := by unfold maxLen; omega
theorem le22 : 2 ≤ maxLen ∧ 2 ≤ 2 := by unfold maxLen; omega
end Go.Proofs.Ytopnhbgialbicaa
