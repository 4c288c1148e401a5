/- Texts of nothing but noughts: the declarations of BuildLong. No program in sight. -/
import Derived.Test.YteafdfalgeeheaaGramAwake
import Derived.Test.YteafdfalgeeheaaGramAid
import Derived.Deep.OwnRows
namespace Go.Proofs.Yteafdfalgeeheaa
set_option linter.unusedVariables false
open Go.RowKit

def zeros (k : Nat) : ByteArray := strOf (List.replicate k 0)
def lnR (k j : Nat) : Rw := ⟨[⟨#[83]⟩], [⟨⟨#[83]⟩, [[⟨false, List.replicate j ⟨1, zeros k, 0, 0⟩⟩]]⟩]⟩
def lnB (k j : Nat) : Bool := sizedB (lnR k j) && (match buildT (lnR k j) with
  | .error (n, e) => decide (64 < k * j) && (decide (n.size = 0) && decide (e = 404))
  | .ok g => decide (k * j ≤ 64) && (match g.rules with | [⟨_, [⟨_, sq⟩]⟩] => decide (sq.length = k * j) | _ => false))
theorem ln_all : ∀ j : Fin 4, ∀ k : Fin 64, lnB k.val (j.val + 1) = true := by decide +kernel
/-- The variable of BuildLong: its items in the row v. -/
structure LO (wa : World) (v : Value) (k j : Nat) (X : World) : Prop where
  b0 : X.heap[wa.heap.size]? = some (.cells #[.string ⟨#[83]⟩] 9)
  b1 : X.heap[wa.heap.size + 1]? = some (.cells #[.bool false, v] 36)
  b2 : X.heap[wa.heap.size + 1 + 1]? = some (.cells #[.slice (some ⟨wa.heap.size + 1, 0, none⟩) 1 1] 37)
  b3 : X.heap[wa.heap.size + 1 + 1 + 1]? = some (.cells #[.string ⟨#[83]⟩, .slice (some ⟨wa.heap.size + 1 + 1, 0, none⟩) 1 1] 31)
  b4 : X.heap[wa.heap.size + 1 + 1 + 1 + 1]? = some (.cells #[.slice (some ⟨wa.heap.size, 0, none⟩) 1 1, .slice (some ⟨wa.heap.size + 1 + 1 + 1, 0, none⟩) 1 1] 27)
  it : X.ownsRow (wa.heap.size + 5) 33 4 v j (itsV (List.replicate j ⟨1, zeros k, 0, 0⟩))
  bl : Below wa.heap.size wa X
theorem LO.raw {wa X : World} {v : Value} {k j : Nat} (h : LO wa v k j X) : IsTexts X Any (.slice (some ⟨wa.heap.size, 0, none⟩) 1 1) (lnR k j).starts ∧ IsDefs X Any (.slice (some ⟨wa.heap.size + 1 + 1 + 1, 0, none⟩) 1 1) (lnR k j).defs := by
  have i1 : IsIts X Any v (List.replicate j ⟨1, zeros k, 0, 0⟩) := by
    have := Reads.of (F := Any) h.it (fun _ _ => trivial)
    unfold IsIts
    rw [List.length_replicate]; exact this
  have c1 : IsCjs X Any (.slice (some ⟨wa.heap.size + 1, 0, none⟩) 1 1) [⟨false, List.replicate j ⟨1, zeros k, 0, 0⟩⟩] := ⟨[_], reads_laid h.b1 le11 rfl, cjs_snoc (cjs_nil _ _) (c := ⟨false, List.replicate j ⟨1, zeros k, 0, 0⟩⟩) i1⟩
  have a1 : IsAlts X Any (.slice (some ⟨wa.heap.size + 1 + 1, 0, none⟩) 1 1) [[⟨false, List.replicate j ⟨1, zeros k, 0, 0⟩⟩]] := ⟨[_], reads_laid h.b2 le11 rfl, alts_snoc (alts_nil _ _) c1⟩
  exact ⟨reads_laid h.b0 le11 rfl, [_], reads_laid h.b3 le11 rfl, defs_snoc (defs_nil _ _) (c := ⟨⟨#[83]⟩, _⟩) a1⟩
theorem LO.new (wa : World) (k : Nat) : LO wa (.slice none 0 0) k 0 (blks wa [.cells #[.string ⟨#[83]⟩] 9, .cells #[.bool false, .slice none 0 0] 36, .cells #[.slice (some ⟨wa.heap.size + 1, 0, none⟩) 1 1] 37, .cells #[.string ⟨#[83]⟩, .slice (some ⟨wa.heap.size + 1 + 1, 0, none⟩) 1 1] 31, .cells #[.slice (some ⟨wa.heap.size, 0, none⟩) 1 1, .slice (some ⟨wa.heap.size + 1 + 1 + 1, 0, none⟩) 1 1] 27]) := by
  have h := fun n o hk => blks_at [.cells #[.string ⟨#[83]⟩] 9, .cells #[.bool false, .slice none 0 0] 36, .cells #[.slice (some ⟨wa.heap.size + 1, 0, none⟩) 1 1] 37, .cells #[.string ⟨#[83]⟩, .slice (some ⟨wa.heap.size + 1 + 1, 0, none⟩) 1 1] 31, .cells #[.slice (some ⟨wa.heap.size, 0, none⟩) 1 1, .slice (some ⟨wa.heap.size + 1 + 1 + 1, 0, none⟩) 1 1] 27] wa n o hk
  exact ⟨h 0 _ rfl, h 1 _ rfl, h 2 _ rfl, h 3 _ rfl, h 4 _ rfl, World.ownsRow_nil _ _ _ _, blks_below _ wa⟩
theorem row_cells {w : World} {b : Nat} {v : Value} {base e size n : Nat} {xs : List Value} {arr : Array Value} {t : TypeId} (h : w.ownsRow base e size v n xs) (he : t ≠ e) (hb : w.heap[b]? = some (.cells arr t)) : v.ownBlock ≠ some b := fun e1 => by
  obtain ⟨_, ⟨h1, _⟩ | ⟨g, cap, cur, h1, _, h3, _⟩⟩ := h
  · rw [h1] at e1; cases e1
  · rw [h1] at e1
    have e2 : g = b := by injection e1
    subst e2
    rw [hb] at h3
    injection h3 with h3
    injection h3 with _ h4
    exact he h4
/-- One item more. -/
theorem LO.more {wa X w1 w2 : World} {v : Value} {k j g cap : Nat} (h : LO wa v k j X) (hb : Below X.heap.size X w1) (hg : w1.grownBy w2 v.ownBlock) (hown : w2.ownsRow (wa.heap.size + 5) 33 4 (.slice (some ⟨g, 0, none⟩) (j + 1) cap) (j + 1) (itsV (List.replicate j ⟨1, zeros k, 0, 0⟩) ++ [.int .i64 1, .string (zeros k), .int .i64 0, .int .i64 0])) :
    LO wa (.slice (some ⟨g, 0, none⟩) (j + 1) cap) k (j + 1) (w2.setCell ⟨wa.heap.size + 1, 1, none⟩ (.slice (some ⟨g, 0, none⟩) (j + 1) cap)) := by
  have it1 := row_keep h.it hb
  have q : ∀ (b : Nat) (arr : Array Value) (t : TypeId), t ≠ 33 → X.heap[b]? = some (.cells arr t) → w2.heap[b]? = some (.cells arr t) := fun b arr t ht hx => row_other it1 ht ((hb.block b (block_lt hx)).trans hx) hg
  have s : ∀ b, b ≠ wa.heap.size + 1 → (w2.setCell ⟨wa.heap.size + 1, 1, none⟩ (.slice (some ⟨g, 0, none⟩) (j + 1) cap)).heap[b]? = w2.heap[b]? := fun b hne => Go.Deep.blk_setCell_other w2 ⟨wa.heap.size + 1, 1, none⟩ _ b hne
  have hsz := h.bl.size
  have hs1 := hb.size
  refine ⟨(s _ (by omega)).trans (q _ _ _ (by decide) h.b0), heap_setCell_same w2 _ 1 _ _ _ (q _ _ _ (by decide) h.b1), (s _ (by omega)).trans (q _ _ _ (by decide) h.b2), (s _ (by omega)).trans (q _ _ _ (by decide) h.b3), (s _ (by omega)).trans (q _ _ _ (by decide) h.b4), ?_, ?_⟩
  · rw [show List.replicate (j + 1) (⟨1, zeros k, 0, 0⟩ : It) = List.replicate j ⟨1, zeros k, 0, 0⟩ ++ [⟨1, zeros k, 0, 0⟩] from List.replicate_succ', itsV_append]
    refine ownsRow_setCell_other (a := ⟨wa.heap.size + 1, 1, none⟩) hown (fun e => ?_) _
    have := (hown.lt _ e).1
    simp only at this
    omega
  · exact ((h.bl.trans (hb.mono hsz)).grown hg (by omega) (fun x hx => by have := (it1.lt x hx).1; omega)).setCell (p := ⟨wa.heap.size + 1, 1, none⟩) (by show _ ≤ wa.heap.size + 1; omega) _
end Go.Proofs.Yteafdfalgeeheaa
