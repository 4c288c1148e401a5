/- A definition that is being filled: d in block V, c in the block behind it. No program in sight. -/
import Derived.Test.YtjfdgdjfgiifeaaNoteMade
import Derived.Test.YtjfdgdjfgiifeaaNoteAwake
import Derived.Test.YtjfdgdjfgiifeaaParseStarts
namespace Go.Proofs.Ytjfdgdjfgiifeaa
set_option linter.unusedVariables false
open Go.RowKit

theorem sy3 (w : World) (a b c : Obj) : (((w.alloc a).alloc b).alloc c).heap.size = w.heap.size + 1 + 1 + 1 := by simp
theorem sy4 (w : World) (a b c d : Obj) : ((((w.alloc a).alloc b).alloc c).alloc d).heap.size = w.heap.size + 1 + 1 + 1 + 1 := by simp
theorem ss (w : World) (p : Addr) (u : Value) : (w.setCell p u).heap.size = w.heap.size := by simp [World.setCell]
theorem sy3s (w : World) (a b c : Obj) (p : Addr) (u : Value) : ((((w.setCell p u).alloc a).alloc b).alloc c).heap.size = w.heap.size + 1 + 1 + 1 := by rw [sy3, ss]
theorem sy4s (w : World) (a b c d : Obj) (p : Addr) (u : Value) : (((((w.setCell p u).alloc a).alloc b).alloc c).alloc d).heap.size = w.heap.size + 1 + 1 + 1 + 1 := by rw [sy4, ss]

theorem pieceT_le (r : Nat) : (pieceT r).size ≤ 8 := by
  match r with
  | 0 | 1 => decide
  | _ + 2 => exact (by decide : (⟨#[39, 97, 39, 46, 46, 39, 99, 39]⟩ : ByteArray).size ≤ 8)
structure MI (wa : World) (V : Nat) (F : Nat → Prop) (p : Pm) (x : Px) (u1 v0 v1 : Value) (w : World) : Prop where
  core : Core w (V + 1) F p x w
  d0 : w.cell? ⟨V, 0, none⟩ = some (.string ⟨#[81]⟩)
  d1 : w.cell? ⟨V, 1, none⟩ = some u1
  fz : ∀ j, w.frozen? ⟨V, j, none⟩ = false
  c0 : w.cell? ⟨V + 1, 0, none⟩ = some v0
  c1 : w.cell? ⟨V + 1, 1, none⟩ = some v1
  bl : Below V wa w
theorem Core.self {W w : World} {B : Nat} {F : Nat → Prop} {p : Pm} {x : Px} (h : Core W B F p x w) : Core w B F p x w :=
  ⟨h.fl, h.os, h.od, h.oa, h.ol, h.oi, h.ns, h.nd, h.na, h.nl, h.ni, h.id, h.ia, h.il, h.fz, Below.refl _ _, h.lt⟩
theorem Core.low {W w : World} {B : Nat} {F : Nat → Prop} {p : Pm} {x : Px} (h : Core W B F p x w) (a j : Nat) (ha : a < B) (u : Value) : Core (w.setCell ⟨a, j, none⟩ u) B F p x (w.setCell ⟨a, j, none⟩ u) := by
  have hz : (w.setCell ⟨a, j, none⟩ u).heap.size = w.heap.size := by simp [World.setCell]
  have hs : Stay F w (w.setCell ⟨a, j, none⟩ u) := ⟨by rw [hz]; exact Nat.le_refl _, fun b hF => Go.Deep.blk_setCell_other w ⟨a, j, none⟩ u b (by have := (h.fl b hF).1; show b ≠ a; omega)⟩
  have hi := fun (b : Nat) (hF : F b) => hF
  have hB : (⟨a, j, none⟩ : Addr).block < B + 1 := Nat.lt_succ_of_lt ha
  exact ⟨fun b hF => by rw [hz]; exact h.fl b hF, ownsRow_setCell_below h.os hB _, ownsRow_setCell_below h.od hB _, ownsRow_setCell_below h.oa hB _, ownsRow_setCell_below h.ol hB _, ownsRow_setCell_below h.oi hB _, h.ns, h.nd, h.na, h.nl, h.ni, h.id.keep hs hi, h.ia.keep hs hi, h.il.keep hs hi,
    fun k => (World.frozen?_setCell _ _ _ _).trans (h.fz k), Below.refl _ _, by rw [hz]; exact h.lt⟩
theorem Core.blank (w : World) (cs : Array Value) (t : TypeId) : Core w w.heap.size (fun _ => False) ⟨0, [], [], ⟨#[]⟩, ⟨#[]⟩, [], [], false, []⟩ ⟨.slice none 0 0, .slice none 0 0, .slice none 0 0, .slice none 0 0, .slice none 0 0, [], [], []⟩ (w.alloc (.cells cs t)) :=
  ⟨fun b h => h.elim, World.ownsRow_nil _ _ _ _, World.ownsRow_nil _ _ _ _, World.ownsRow_nil _ _ _ _, World.ownsRow_nil _ _ _ _, World.ownsRow_nil _ _ _ _, nil_not _, nil_not _, nil_not _, nil_not _, nil_not _, ⟨rfl, fun k c u h1 => by simp at h1⟩, ⟨rfl, fun k c u h1 => by simp at h1⟩, ⟨rfl, fun k c u h1 => by simp at h1⟩, fun j => World.frozen?_alloc_at _ _ _ _ rfl, (Below.refl _ _).alloc (Nat.le_refl _) _, by simp⟩
theorem MI.first (wa : World) (t t' : TypeId) : MI wa wa.heap.size (fun _ => False) ⟨0, [], [], ⟨#[]⟩, ⟨#[]⟩, [], [], false, []⟩ ⟨.slice none 0 0, .slice none 0 0, .slice none 0 0, .slice none 0 0, .slice none 0 0, [], [], []⟩ (.slice none 0 0) (.bool false) (.slice none 0 0) ((wa.alloc (.cells #[.string ⟨#[81]⟩, .slice none 0 0] t)).alloc (.cells #[.bool false, .slice none 0 0] t')) := by
  have hz : (wa.alloc (.cells #[.string ⟨#[81]⟩, .slice none 0 0] t)).heap.size = wa.heap.size + 1 := sz1 _ _
  have hl : wa.heap.size < (wa.alloc (.cells #[.string ⟨#[81]⟩, .slice none 0 0] t)).heap.size := by omega
  have hc := (Core.blank (wa.alloc (.cells #[.string ⟨#[81]⟩, .slice none 0 0] t)) #[.bool false, .slice none 0 0] t').self
  rw [hz] at hc
  refine ⟨hc, (World.cell?_alloc_past _ _ _ hl).trans (World.cell?_alloc_at _ _ _ _ rfl), (World.cell?_alloc_past _ _ _ hl).trans (World.cell?_alloc_at _ _ _ _ rfl), fun j => (World.frozen?_alloc_past _ _ _ hl).trans (World.frozen?_alloc_at _ _ _ _ rfl), ?_, ?_, (bel1 _ _).trans ((bel1 _ _).mono (le_alloc _ _))⟩
  · rw [← hz]; exact World.cell?_alloc_at _ _ _ _ rfl
  · rw [← hz]; exact World.cell?_alloc_at _ _ _ _ rfl
section
variable {wa w w' w1 : World} {V : Nat} {F : Nat → Prop} {p : Pm} {x : Px} {u1 v0 v1 : Value}
theorem MI.lt (h : MI wa V F p x u1 v0 v1 w) : V < w.heap.size := Nat.lt_of_succ_lt h.core.lt
theorem MI.keep (h : MI wa V F p x u1 v0 v1 w) (hb : Below w.heap.size w w') : MI wa V F p x u1 v0 v1 w' :=
  ⟨(h.core.keep hb).self, (hb.cell (p := ⟨V, 0, none⟩) h.lt).trans h.d0, (hb.cell (p := ⟨V, 1, none⟩) h.lt).trans h.d1, fun j => (hb.frozen (p := ⟨V, j, none⟩) h.lt).trans (h.fz j), (hb.cell (p := ⟨V + 1, 0, none⟩) h.core.lt).trans h.c0, (hb.cell (p := ⟨V + 1, 1, none⟩) h.core.lt).trans h.c1, h.bl.trans (hb.mono (Nat.le_of_lt h.lt))⟩
theorem MI.box (h : MI wa V F p x u1 v0 v1 w) (o : Obj) : MI wa V F p x u1 v0 v1 (w.alloc o) := h.keep (bel1 w o)
theorem MI.neg {st : Nat} {starts : List ByteArray} {defs : List Df} {start name : ByteArray} {alts : List (List Cj)} {alt : List Cj} {neg : Bool} {items : List It} (h : MI wa V F ⟨st, starts, defs, start, name, alts, alt, neg, items⟩ x u1 v0 v1 w) (b : Bool) : MI wa V F ⟨st, starts, defs, start, name, alts, alt, b, items⟩ x u1 v0 v1 w :=
  ⟨h.core.to st start name b, h.d0, h.d1, h.fz, h.c0, h.c1, h.bl⟩
theorem ne_blk {a b j k : Nat} (h : a ≠ b) : (⟨a, j, none⟩ : Addr) ≠ ⟨b, k, none⟩ := fun e => h (by injection e)
theorem MI.setC0 (h : MI wa V F p x u1 v0 v1 w) (u : Value) : MI wa V F p x u1 u v1 (w.setCell ⟨V + 1, 0, none⟩ u) :=
  ⟨(h.core.set 0 u).self, (World.cell?_setCell_other _ _ _ _ (ne_blk (by omega))).trans h.d0, (World.cell?_setCell_other _ _ _ _ (ne_blk (by omega))).trans h.d1, fun j => (World.frozen?_setCell _ _ _ _).trans (h.fz j), World.cell?_setCell_same _ _ _ h.c0, (World.cell?_setCell_other _ _ _ _ (ne_off (by decide))).trans h.c1, h.bl.setCell (p := ⟨V + 1, 0, none⟩) (Nat.le_succ _) _⟩
theorem MI.setC1 (h : MI wa V F p x u1 v0 v1 w) (u : Value) : MI wa V F p x u1 v0 u (w.setCell ⟨V + 1, 1, none⟩ u) :=
  ⟨(h.core.set 1 u).self, (World.cell?_setCell_other _ _ _ _ (ne_blk (by omega))).trans h.d0, (World.cell?_setCell_other _ _ _ _ (ne_blk (by omega))).trans h.d1, fun j => (World.frozen?_setCell _ _ _ _).trans (h.fz j), (World.cell?_setCell_other _ _ _ _ (ne_off (by decide))).trans h.c0, World.cell?_setCell_same _ _ _ h.c1, h.bl.setCell (p := ⟨V + 1, 1, none⟩) (Nat.le_succ _) _⟩
theorem MI.setD (h : MI wa V F p x u1 v0 v1 w) (u : Value) : MI wa V F p x u v0 v1 (w.setCell ⟨V, 1, none⟩ u) :=
  ⟨h.core.low V 1 (Nat.lt_succ_self _) u, (World.cell?_setCell_other _ _ _ _ (ne_off (by decide))).trans h.d0, World.cell?_setCell_same _ _ _ h.d1, fun j => (World.frozen?_setCell _ _ _ _).trans (h.fz j), (World.cell?_setCell_other _ _ _ _ (ne_blk (by omega))).trans h.c0, (World.cell?_setCell_other _ _ _ _ (ne_blk (by omega))).trans h.c1, h.bl.setCell (p := ⟨V, 1, none⟩) (Nat.le_refl _) _⟩
theorem MI.grown (h : MI wa V F p x u1 v0 v1 w) {F' : Nat → Prop} {p' : Pm} {x' : Px} {row : Option Nat} (hg : w.grownBy w1 row) (hr : ∀ b, row = some b → V + 1 < b ∧ ¬ F b) (hc : Core w (V + 1) F' p' x' w1) : MI wa V F' p' x' u1 v0 v1 w1 := by
  have hb := hg.block V h.lt (fun e => by have := (hr V e.symm).1; omega)
  have hcc := (h.core.grow hg hr).2.1
  exact ⟨hc.self, (World.cell?_of_block (a := ⟨V, 0, none⟩) hb).trans h.d0, (World.cell?_of_block (a := ⟨V, 1, none⟩) hb).trans h.d1, fun j => (World.frozen?_of_block (a := ⟨V, j, none⟩) hb).trans (h.fz j), (hcc 0).trans h.c0, (hcc 1).trans h.c1, h.bl.trans (hc.bl.mono (by omega))⟩
end
section
variable {wa w w1 : World} {V : Nat} {F : Nat → Prop} {u1 v0 v1 va vl vi : Value} {av cv : List Value} {alts : List (List Cj)} {alt : List Cj} {neg : Bool} {items : List It} {gg cap1 H : Nat}
theorem MI.growI {t : It} (h : MI wa V F ⟨0, [], [], ⟨#[]⟩, ⟨#[]⟩, alts, alt, neg, items⟩ ⟨.slice none 0 0, .slice none 0 0, va, vl, vi, [], av, cv⟩ u1 v0 v1 w) (hg : w.grownBy w1 vi.ownBlock) (o : w1.ownsRow (V + 1 + 1) 61 4 (.slice (some ⟨gg, 0, none⟩) (items.length + 1) cap1) (items.length + 1) (itsV items ++ itV t)) (hat : vi.ownBlock = some gg ∨ gg = H) (hH : w.heap.size = H) :
    MI wa V F ⟨0, [], [], ⟨#[]⟩, ⟨#[]⟩, alts, alt, neg, items ++ [t]⟩ ⟨.slice none 0 0, .slice none 0 0, va, vl, .slice (some ⟨gg, 0, none⟩) (items.length + 1) cap1, [], av, cv⟩ u1 v0 v1 w1 :=
  h.grown hg (row_out h.core.oi h.core.ni) (h.core.growI hg o (fun b hb => by
    obtain rfl : gg = b := by injection hb
    exact h.core.fresh h.core.ni hat hH))
theorem MI.growC (h : MI wa V F ⟨0, [], [], ⟨#[]⟩, ⟨#[]⟩, alts, alt, neg, items⟩ ⟨.slice none 0 0, .slice none 0 0, va, vl, vi, [], av, cv⟩ u1 v0 v1 w) (hg : w.grownBy w1 vl.ownBlock) (o : w1.ownsRow (V + 1 + 1) 59 2 (.slice (some ⟨gg, 0, none⟩) (alt.length + 1) cap1) (alt.length + 1) (cjsV alt cv ++ [.bool neg, vi])) (hat : vl.ownBlock = some gg ∨ gg = H) (hH : w.heap.size = H) :
    MI wa V (fun b => F b ∨ vi.ownBlock = some b) ⟨0, [], [], ⟨#[]⟩, ⟨#[]⟩, alts, alt ++ [⟨neg, items⟩], false, []⟩ ⟨.slice none 0 0, .slice none 0 0, va, .slice (some ⟨gg, 0, none⟩) (alt.length + 1) cap1, .slice none 0 0, [], av, cv ++ [vi]⟩ u1 v0 v1 w1 :=
  h.grown hg (row_out h.core.ol h.core.nl) (h.core.shutC hg o (fun b hb => by
    obtain rfl : gg = b := by injection hb
    exact h.core.fresh h.core.nl hat hH))
theorem MI.growA (h : MI wa V F ⟨0, [], [], ⟨#[]⟩, ⟨#[]⟩, alts, alt, neg, items⟩ ⟨.slice none 0 0, .slice none 0 0, va, vl, vi, [], av, cv⟩ u1 v0 v1 w) (hg : w.grownBy w1 va.ownBlock) (o : w1.ownsRow (V + 1 + 1) 56 1 (.slice (some ⟨gg, 0, none⟩) (alts.length + 1) cap1) (alts.length + 1) (av ++ [vl])) (hat : va.ownBlock = some gg ∨ gg = H) (hH : w.heap.size = H) :
    MI wa V (fun b => F b ∨ vl.ownBlock = some b) ⟨0, [], [], ⟨#[]⟩, ⟨#[]⟩, alts ++ [alt], [], neg, items⟩ ⟨.slice none 0 0, .slice none 0 0, .slice (some ⟨gg, 0, none⟩) (alts.length + 1) cap1, .slice none 0 0, vi, [], av ++ [vl], []⟩ u1 v0 v1 w1 :=
  h.grown hg (row_out h.core.oa h.core.na) (h.core.shutA hg o (fun b hb => by
    obtain rfl : gg = b := by injection hb
    exact h.core.fresh h.core.na hat hH))
/-- What it is held against, laid. -/
theorem MI.want (h : MI wa V F ⟨0, [], [], ⟨#[]⟩, ⟨#[]⟩, alts, alt, neg, items⟩ ⟨.slice none 0 0, .slice none 0 0, va, vl, vi, [], av, cv⟩ u1 v0 v1 w) :
    RawIs ((w.alloc (.cells #[.string ⟨#[81]⟩] 9)).alloc (.cells #[.string ⟨#[81]⟩, va] 55)) Any (.slice (some ⟨w.heap.size, 0, none⟩) 1 1) (.slice (some ⟨w.heap.size + 1, 0, none⟩) 1 1) ⟨[⟨#[81]⟩], [⟨⟨#[81]⟩, alts⟩]⟩ := by
  have b0 : ((w.alloc (.cells #[.string ⟨#[81]⟩] 9)).alloc (.cells #[.string ⟨#[81]⟩, va] 55)).heap[w.heap.size]? = some (.cells #[.string ⟨#[81]⟩] 9) := ((bel1 (w.alloc (.cells #[.string ⟨#[81]⟩] 9)) _).block w.heap.size (by simp)).trans (new_at _ _ _ rfl)
  have b1 : ((w.alloc (.cells #[.string ⟨#[81]⟩] 9)).alloc (.cells #[.string ⟨#[81]⟩, va] 55)).heap[w.heap.size + 1]? = some (.cells #[.string ⟨#[81]⟩, va] 55) := new_at _ _ _ (sz1 _ _)
  have hc := ((h.box (.cells #[.string ⟨#[81]⟩] 9)).box (.cells #[.string ⟨#[81]⟩, va] 55)).core
  refine ⟨Reads.laid b0 one_le rfl, [va], Reads.laid b1 one_le rfl, in_snoc (l := []) (vs := []) rfl (fun k c u h1 => by simp at h1) ?_⟩
  exact ⟨av, Reads.of hc.oa (fun _ _ => trivial), hc.ia.keep ⟨Nat.le_refl _, fun _ _ => rfl⟩ fun _ _ => trivial⟩
theorem MI.want2 (h : MI wa V F ⟨0, [], [], ⟨#[]⟩, ⟨#[]⟩, alts, alt, neg, items⟩ ⟨.slice none 0 0, .slice none 0 0, va, vl, vi, [], av, cv⟩ u1 v0 v1 w) (o : Obj) :
    RawIs (((w.alloc o).alloc (.cells #[.string ⟨#[81]⟩] 9)).alloc (.cells #[.string ⟨#[81]⟩, va] 55)) Any (.slice (some ⟨w.heap.size + 1, 0, none⟩) 1 1) (.slice (some ⟨w.heap.size + 1 + 1, 0, none⟩) 1 1) ⟨[⟨#[81]⟩], [⟨⟨#[81]⟩, alts⟩]⟩ := by
  have := (h.box o).want
  rwa [sz1] at this
end
theorem sz1s (w : World) (o : Obj) (p : Addr) (u : Value) : ((w.setCell p u).alloc o).heap.size = w.heap.size + 1 := by rw [sz1, ss]
theorem RawIs.box {w : World} {F : Nat → Prop} {v1 v2 : Value} {r : Rw} (h : RawIs w F v1 v2 r) (o : Obj) : RawIs (w.alloc o) F v1 v2 r := h.any (bel1 w o)
end Go.Proofs.Ytjfdgdjfgiifeaa
