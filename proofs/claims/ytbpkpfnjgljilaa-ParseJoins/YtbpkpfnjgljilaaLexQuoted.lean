/- What the document's own quoted hands back. -/
import Derived.Test.YtbpkpfnjgljilaaLexRanged
namespace Go.Proofs.Ytbpkpfnjgljilaa
set_option linter.unusedVariables false
open Go.ChangeShapes Go.WideShapes Go.ChangeAt Go.RowKit

theorem T5.below {w w' : World} {n B : Nat} (h : T5 w n) (hb : Below B w w') (hn : n < B) : T5 w' n := by
  obtain ⟨⟨a0, a1, a2, a3, a4, h0, h1, h2, h3, h4⟩, hf⟩ := h
  exact ⟨⟨a0, a1, a2, a3, a4, (hb.cell (p := ⟨n, 0, none⟩) hn).trans h0, (hb.cell (p := ⟨n, 1, none⟩) hn).trans h1, (hb.cell (p := ⟨n, 2, none⟩) hn).trans h2, (hb.cell (p := ⟨n, 3, none⟩) hn).trans h3, (hb.cell (p := ⟨n, 4, none⟩) hn).trans h4⟩, fun j => (hb.frozen (p := ⟨n, j, none⟩) hn).trans (hf j)⟩
/-- The two tokens of quoted in memory: what it will hand back, what it builds. -/
structure QS (w : World) (k : Nat) (wr : World) : Prop where
  t : T5 wr w.heap.size
  c0 : wr.cell? ⟨w.heap.size + 1, 0, none⟩ = some (.int .i64 1)
  c1 : wr.cell? ⟨w.heap.size + 1, 1, none⟩ = some (.int .i64 (k : Int))
  c2 : wr.cell? ⟨w.heap.size + 1, 2, none⟩ = some (.string ⟨#[]⟩)
  c3 : wr.cell? ⟨w.heap.size + 1, 3, none⟩ = some (.int .i64 0)
  c4 : wr.cell? ⟨w.heap.size + 1, 4, none⟩ = some (.int .i64 0)
  fz : ∀ j, wr.frozen? ⟨w.heap.size + 1, j, none⟩ = false
  bl : Below w.heap.size w wr
  sz : w.heap.size + 2 ≤ wr.heap.size
theorem QS.below {w wr w' : World} {k : Nat} (h : QS w k wr) (hb : Below (w.heap.size + 2) wr w') : QS w k w' := by
  have hc : ∀ j, w'.cell? ⟨w.heap.size + 1, j, none⟩ = wr.cell? ⟨w.heap.size + 1, j, none⟩ := fun j => hb.cell (p := ⟨w.heap.size + 1, j, none⟩) (by show w.heap.size + 1 < _; omega)
  exact ⟨h.t.below hb (by omega), (hc 0).trans h.c0, (hc 1).trans h.c1, (hc 2).trans h.c2, (hc 3).trans h.c3, (hc 4).trans h.c4, fun j => (hb.frozen (p := ⟨w.heap.size + 1, j, none⟩) (by show w.heap.size + 1 < _; omega)).trans (h.fz j), h.bl.trans (hb.mono (by omega)), Nat.le_trans h.sz hb.size⟩
theorem QS.keep {w wr w' : World} {k : Nat} (h : QS w k wr) (hb : Below wr.heap.size wr w') : QS w k w' := h.below (hb.mono h.sz)
theorem QS.new (w : World) (k : Nat) (a0 a1 a2 a3 a4 : Value) (t : TypeId) : QS w k ((w.alloc (.cells #[a0, a1, a2, a3, a4] t)).alloc (.cells #[.int .i64 1, .int .i64 (k : Int), .string ⟨#[]⟩, .int .i64 0, .int .i64 0] t)) := by
  have hs : w.heap.size + 1 = (w.alloc (.cells #[a0, a1, a2, a3, a4] t)).heap.size := by simp
  have hc : ∀ j, ((w.alloc (.cells #[a0, a1, a2, a3, a4] t)).alloc (.cells #[.int .i64 1, .int .i64 (k : Int), .string ⟨#[]⟩, .int .i64 0, .int .i64 0] t)).cell? ⟨w.heap.size + 1, j, none⟩ = _ := fun j => World.cell?_alloc_at _ _ _ _ hs
  exact ⟨(T5.new w _ _ _ _ _ _).keep (bel1 _ _), hc 0, hc 1, hc 2, hc 3, hc 4, fun j => World.frozen?_alloc_at _ _ _ _ hs, bel2 _ _ _, by simp⟩

def textR (k : Nat) : Option (List Int × Nat) → Got
  | none => .noText
  | some (l, to) => .tok ⟨1, k, strOf l, 0, 0⟩ to
theorem textG_R (b : Nat → Int) (n k : Nat) : textG b n k = textR k (textF b n (k + 1) []) := by
  unfold textG
  cases textF b n (k + 1) [] with
  | none => rfl
  | some x => rfl

end Go.Proofs.Ytbpkpfnjgljilaa
