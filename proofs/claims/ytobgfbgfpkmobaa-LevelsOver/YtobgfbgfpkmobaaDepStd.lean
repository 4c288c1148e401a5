/- stands of layer 6: an edge that stands in a rule is found. -/
import Derived.Test.YtobgfbgfpkmobaaDepSame
namespace Go.Proofs.Ytobgfbgfpkmobaa
set_option linter.unusedVariables false
open Go.ChangeShapes Go.WideShapes Go.ChangeAt Go.RowKit

theorem IsSys.at {w : World} {F : Nat → Prop} {p : Option Addr} {n c : Nat} {l : List Sy} (h : IsSys w F (.slice p n c) l) {k : Nat} {e : Sy} (hk : l[k]? = some e) : ∃ g o, p = some ⟨g, o, none⟩ ∧ g < w.heap.size ∧ w.cell? ⟨g, o + k * 3, none⟩ = some (.int .i64 e.name) ∧ w.cell? ⟨g, o + k * 3 + 1, none⟩ = some (.int .i64 e.lo) ∧ w.cell? ⟨g, o + k * 3 + 2, none⟩ = some (.int .i64 e.hi) := by
  obtain ⟨p2, c2, e2, _, hc⟩ := h
  injection e2 with e3
  subst e3
  have hlt := (List.getElem?_eq_some_iff.1 hk).1
  obtain ⟨g, o, e9, _, hg, cc, _⟩ := hc (by omega)
  obtain ⟨a0, a1, a2⟩ := sysV_at l k e hk
  exact ⟨g, o, e9, hg, cc _ _ a0, by rw [Nat.add_assoc]; exact cc _ _ a1, by rw [Nat.add_assoc]; exact cc _ _ a2⟩
theorem IsSys.max {w : World} {F : Nat → Prop} {v : Value} {l : List Sy} (h : IsSys w F v l) : l.length ≤ maxLen := by
  obtain ⟨_, _, _, h, _⟩ := h
  exact h.1
theorem drop_cons {α : Type} {l : List α} {k : Nat} {a : α} (h : l[k]? = some a) : l.drop k = a :: l.drop (k + 1) := by
  have hlt := (List.getElem?_eq_some_iff.1 h).1
  rw [List.drop_eq_getElem_cons hlt, (List.getElem?_eq_some_iff.1 h).2]
end Go.Proofs.Ytobgfbgfpkmobaa
