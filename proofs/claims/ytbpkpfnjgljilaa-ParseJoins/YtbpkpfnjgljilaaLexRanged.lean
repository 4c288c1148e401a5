/- What the document's own ranged hands back. -/
import Derived.Test.YtbpkpfnjgljilaaLexNamed
namespace Go.Proofs.Ytbpkpfnjgljilaa
set_option linter.unusedVariables false
open Go.ChangeShapes Go.WideShapes Go.ChangeAt Go.RowKit

theorem half_bd {b : Nat → Int} {n k : Nat} {c : Int} {to : Nat} (hb : ∀ j, 0 ≤ b j ∧ b j ≤ 255) (h : half b n k = some (c, to)) : 0 ≤ c ∧ c ≤ 255 := by
  unfold half at h
  split at h
  · cases h
  · rename_i c' t hs
    obtain ⟨q0, q1, _, _⟩ := signF_some hb hs
    split at h
    · cases h
    · injection h with h; injection h with e1 e2; subst e1; exact ⟨q0, q1⟩
theorem oneF_to {b : Nat → Int} {n k : Nat} {c : Int} {to : Nat} (hb : ∀ j, 0 ≤ b j ∧ b j ≤ 255) (h : oneF b n k = some (c, to)) : 0 ≤ c ∧ c ≤ 255 ∧ to ≤ n ∧ k < to := by
  rw [oneF_half] at h
  split at h
  · cases h
  · have := half_bd hb h
    have := half_to h
    omega

theorem bput5 {B n : Nat} {w w' : World} (h : Below B w w') (hn : B ≤ n) (x0 x1 x2 x3 x4 : Value) :
    Below B w (((((w'.setCell ⟨n, 0, none⟩ x0).setCell ⟨n, 1, none⟩ x1).setCell ⟨n, 2, none⟩ x2).setCell ⟨n, 3, none⟩ x3).setCell ⟨n, 4, none⟩ x4) :=
  ((((h.setCell (p := ⟨n, 0, none⟩) hn _).setCell (p := ⟨n, 1, none⟩) hn _).setCell (p := ⟨n, 2, none⟩) hn _).setCell (p := ⟨n, 3, none⟩) hn _).setCell (p := ⟨n, 4, none⟩) hn _
/-- A token's cells in block n, which may be written. -/
def T5 (w : World) (n : Nat) : Prop := (∃ a0 a1 a2 a3 a4, w.cell? ⟨n, 0, none⟩ = some a0 ∧ w.cell? ⟨n, 1, none⟩ = some a1 ∧ w.cell? ⟨n, 2, none⟩ = some a2 ∧ w.cell? ⟨n, 3, none⟩ = some a3 ∧ w.cell? ⟨n, 4, none⟩ = some a4) ∧ ∀ j, w.frozen? ⟨n, j, none⟩ = false
theorem T5.new (w : World) (a0 a1 a2 a3 a4 : Value) (t : TypeId) : T5 (w.alloc (.cells #[a0, a1, a2, a3, a4] t)) w.heap.size := by
  have hc : ∀ j, (w.alloc (.cells #[a0, a1, a2, a3, a4] t)).cell? ⟨w.heap.size, j, none⟩ = _ := fun j => World.cell?_alloc_at _ _ _ _ rfl
  exact ⟨⟨_, _, _, _, _, hc 0, hc 1, hc 2, hc 3, hc 4⟩, fun j => World.frozen?_alloc_at _ _ _ _ rfl⟩
theorem T5.lt {w : World} {n : Nat} (h : T5 w n) : n < w.heap.size := by
  obtain ⟨⟨a0, _, _, _, _, h0, _⟩, _⟩ := h; exact cell_lt h0
theorem T5.keep {w w' : World} {n : Nat} (h : T5 w n) (hb : Below w.heap.size w w') : T5 w' n := by
  have hl := h.lt
  obtain ⟨⟨a0, a1, a2, a3, a4, h0, h1, h2, h3, h4⟩, hf⟩ := h
  exact ⟨⟨a0, a1, a2, a3, a4, (hb.cell (p := ⟨n, 0, none⟩) hl).trans h0, (hb.cell (p := ⟨n, 1, none⟩) hl).trans h1, (hb.cell (p := ⟨n, 2, none⟩) hl).trans h2, (hb.cell (p := ⟨n, 3, none⟩) hl).trans h3, (hb.cell (p := ⟨n, 4, none⟩) hl).trans h4⟩, fun j => (hb.frozen (p := ⟨n, j, none⟩) hl).trans (hf j)⟩

end Go.Proofs.Ytbpkpfnjgljilaa
