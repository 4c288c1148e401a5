/- Small facts of rows and blocks. No program in sight. -/
import Derived.Test.YtobgfbgfpkmobaaGramMay
namespace Go.Proofs.Ytobgfbgfpkmobaa
set_option linter.unusedVariables false
open Go.RowKit

theorem block_lt {w : World} {b : Nat} {o : Obj} (h : w.heap[b]? = some o) : b < w.heap.size := by
  by_cases hh : b < w.heap.size
  · exact hh
  · rw [Array.getElem?_eq_none (by omega)] at h; cases h
theorem heap_alloc_old {w : World} (o : Obj) {b : Nat} (h : b < w.heap.size) : (w.alloc o).heap[b]? = w.heap[b]? := (bel1 w o).block b h
/-- A block of another type stays where a row grows. -/
theorem row_other {w w' : World} {base e size n b : Nat} {v : Value} {xs : List Value} {arr : Array Value} {t : TypeId} (h : w.ownsRow base e size v n xs) (he : t ≠ e) (hb : w.heap[b]? = some (.cells arr t)) (hg : w.grownBy w' v.ownBlock) : w'.heap[b]? = some (.cells arr t) := by
  refine (hg.block b (block_lt hb) ?_).trans hb
  intro e1
  obtain ⟨_, ⟨h1, _⟩ | ⟨g, cap, cur, h1, _, h3, _⟩⟩ := h
  · rw [h1] at e1; cases e1
  · rw [h1] at e1
    have e2 : b = g := by injection e1
    subst e2
    rw [hb] at h3
    injection h3 with h3
    injection h3 with _ h4
    exact he h4
theorem nil_not (P : Nat → Prop) : ∀ b, (Value.slice none 0 0).ownBlock = some b → ¬ P b := fun b h => by cases h
section
variable {w : World} {F F' : Nat → Prop}
theorem Reads.mono {v : Value} {n : Nat} {cs : List Value} (h : Reads w F v n cs) (hm : ∀ b, F b → b < w.heap.size → F' b) : Reads w F' v n cs := by
  obtain ⟨p, cap, hv, hmx, hc⟩ := h
  refine ⟨p, cap, hv, hmx, fun hn => ?_⟩
  obtain ⟨g, o, hp, hF, hg, hx⟩ := hc hn
  exact ⟨g, o, hp, hm g hF hg, hg, hx⟩
end
end Go.Proofs.Ytobgfbgfpkmobaa
