/- Two rows of the same texts, items, conjuncts; two of the same declarations: held against one another. -/
import Derived.Test.YtgeajdfajfdjcaaNoteMem
import Derived.Test.YtgeajdfajfdjcaaLexSame
import Derived.Deep.RegionHeld3
namespace Go.Proofs.Ytgeajdfajfdjcaa
set_option linter.unusedVariables false
open Go.ChangeShapes Go.WideShapes Go.ChangeAt Go.RowKit

theorem stay_below {F : Nat → Prop} {w w' : World} (hb : Below w.heap.size w w') (hF : ∀ b, F b → b < w.heap.size) : Stay F w w' := ⟨hb.size, fun b h => hb.block b (hF b h)⟩
/-- A row that is read, whatever its blocks. -/
abbrev Any : Nat → Prop := fun _ => True
theorem Reads.any {w : World} {F : Nat → Prop} {v : Value} {n : Nat} {cs : List Value} (h : Reads w F v n cs) {w' : World} (hb : Below w.heap.size w w') : Reads w' F v n cs := by
  obtain ⟨p, cap, hv, hm, hc⟩ := h
  refine ⟨p, cap, hv, hm, fun hn => ?_⟩
  obtain ⟨g, o, hp, hF, hg, hx, hz⟩ := hc hn
  exact ⟨g, o, hp, hF, Nat.lt_of_lt_of_le hg hb.size, fun j c hj => (hb.cell (p := ⟨g, _, none⟩) hg).trans (hx j c hj), fun j hj => (hb.frozen (p := ⟨g, _, none⟩) hg).trans (hz j hj)⟩
section
variable {w w' : World} {F : Nat → Prop}
theorem IsIts.any {v : Value} {l : List It} (h : IsIts w F v l) (hb : Below w.heap.size w w') : IsIts w' F v l := Reads.any h hb
theorem IsCjs.any {v : Value} {l : List Cj} (h : IsCjs w F v l) (hb : Below w.heap.size w w') : IsCjs w' F v l := by
  obtain ⟨vs, h1, h2, h3⟩ := h
  exact ⟨vs, h1.any hb, h2, fun k c u e1 e2 => (h3 k c u e1 e2).any hb⟩
theorem IsAlts.any {v : Value} {l : List (List Cj)} (h : IsAlts w F v l) (hb : Below w.heap.size w w') : IsAlts w' F v l := by
  obtain ⟨vs, h1, h2, h3⟩ := h
  exact ⟨vs, h1.any hb, h2, fun k c u e1 e2 => (h3 k c u e1 e2).any hb⟩
theorem IsDefs.any {v : Value} {l : List Df} (h : IsDefs w F v l) (hb : Below w.heap.size w w') : IsDefs w' F v l := by
  obtain ⟨vs, h1, h2, h3⟩ := h
  exact ⟨vs, h1.any hb, h2, fun k c u e1 e2 => (h3 k c u e1 e2).any hb⟩
theorem IsTexts.any {v : Value} {l : List ByteArray} (h : IsTexts w F v l) (hb : Below w.heap.size w w') : IsTexts w' F v l := Reads.any h hb
end
theorem drewN_below (w : World) (n : Nat) : Below w.heap.size w (w.drewN n) := ⟨rfl, rfl, rfl, Nat.le_refl _, fun _ _ => rfl⟩

theorem box2_cells {w w1 : World} {c1 c2 : Array Value} {t t' : TypeId} (hb : Below ((w.alloc (.cells c1 t)).alloc (.cells c2 t')).heap.size ((w.alloc (.cells c1 t)).alloc (.cells c2 t')) w1) :
    (∀ j, w1.cell? ⟨w.heap.size, j, none⟩ = c1[j]?) ∧ (∀ j, w1.cell? ⟨w.heap.size + 1, j, none⟩ = c2[j]?) ∧ w.heap.size + 1 < w1.heap.size ∧ Below w.heap.size w w1 := by
  have hz : ((w.alloc (.cells c1 t)).alloc (.cells c2 t')).heap.size = w.heap.size + 2 := by simp
  have hs := hb.size
  rw [hz] at hs
  refine ⟨fun j => ?_, fun j => ?_, by omega, (bel2 w _ _).trans (hb.mono (by rw [hz]; omega))⟩
  · exact (hb.cell (p := ⟨_, _, none⟩) (by rw [hz]; show w.heap.size < _; omega)).trans ((World.cell?_alloc_past _ _ _ (by simp)).trans (World.cell?_alloc_at _ _ _ _ rfl))
  · exact (hb.cell (p := ⟨_, _, none⟩) (by rw [hz]; show w.heap.size + 1 < _; omega)).trans (World.cell?_alloc_at _ _ _ _ (by simp))
end Go.Proofs.Ytgeajdfajfdjcaa
