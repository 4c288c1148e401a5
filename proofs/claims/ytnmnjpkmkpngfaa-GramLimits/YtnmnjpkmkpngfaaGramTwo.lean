/- A grammar of two names, block by block. -/
import Derived.Test.YtnmnjpkmkpngfaaGramAwake
namespace Go.Proofs.Ytnmnjpkmkpngfaa
set_option linter.unusedVariables false
open Go.ChangeShapes Go.WideShapes Go.ChangeAt Go.RowKit

/-- The grammar of two names in memory: its names a, b; its symbols' numbers; its heads; the second rule's conjuncts c. -/
structure T2 (n1 n2 n3 n4 n5 : Nat) (a b : ByteArray) (x0 x1 x2 x3 x4 x5 h0 h1 : Int) (c v : Value) (X : World) : Prop where
  b1 : X.heap[n1]? = some (.cells #[.string a, .string b] 9)
  b2 : X.heap[n2]? = some (.cells #[.int .i64 x0, .int .i64 x1, .int .i64 x2, .int .i64 x3, .int .i64 x4, .int .i64 x5] 84)
  b3 : X.heap[n3]? = some (.cells #[.bool false, .slice (some ⟨n2, 0, none⟩) 2 2] 82)
  b4 : X.heap[n4]? = some (.cells #[.bool false, v] 82)
  b5 : X.heap[n5]? = some (.cells #[.int .i64 h0, .slice (some ⟨n3, 0, none⟩) 1 1, .int .i64 h1, c] 79)
  l1 : n1 < n2
  l2 : n2 < n3
  l3 : n3 < n4
  l4 : n4 < n5
section
variable {n1 n2 n3 n4 n5 : Nat} {a b : ByteArray} {x0 x1 x2 x3 x4 x5 h0 h1 : Int} {c v : Value} {X X' : World}
theorem T2.keep (h : T2 n1 n2 n3 n4 n5 a b x0 x1 x2 x3 x4 x5 h0 h1 c v X) (hb : Below X.heap.size X X') : T2 n1 n2 n3 n4 n5 a b x0 x1 x2 x3 x4 x5 h0 h1 c v X' :=
  ⟨(hb.block _ (block_lt h.b1)).trans h.b1, (hb.block _ (block_lt h.b2)).trans h.b2, (hb.block _ (block_lt h.b3)).trans h.b3, (hb.block _ (block_lt h.b4)).trans h.b4, (hb.block _ (block_lt h.b5)).trans h.b5, h.l1, h.l2, h.l3, h.l4⟩
theorem T2.set1 (h : T2 n1 n2 n3 n4 n5 a b x0 x1 x2 x3 x4 x5 h0 h1 c v X) (j : Nat) (u : Value) {a' b' : ByteArray} (e : (#[.string a, .string b] : Array Value).setIfInBounds j u = #[.string a', .string b']) : T2 n1 n2 n3 n4 n5 a' b' x0 x1 x2 x3 x4 x5 h0 h1 c v (X.setCell ⟨n1, j, none⟩ u) := by
  have l1 := h.l1; have l2 := h.l2; have l3 := h.l3; have l4 := h.l4
  have o := fun k (hk : k ≠ n1) => Go.Deep.blk_setCell_other X ⟨n1, j, none⟩ u k hk
  exact ⟨e ▸ heap_setCell_same X n1 j _ _ u h.b1, (o _ (by omega)).trans h.b2, (o _ (by omega)).trans h.b3, (o _ (by omega)).trans h.b4, (o _ (by omega)).trans h.b5, h.l1, h.l2, h.l3, h.l4⟩
theorem T2.set2 (h : T2 n1 n2 n3 n4 n5 a b x0 x1 x2 x3 x4 x5 h0 h1 c v X) (j : Nat) (u : Value) {y0 y1 y2 y3 y4 y5 : Int} (e : (#[.int .i64 x0, .int .i64 x1, .int .i64 x2, .int .i64 x3, .int .i64 x4, .int .i64 x5] : Array Value).setIfInBounds j u = #[.int .i64 y0, .int .i64 y1, .int .i64 y2, .int .i64 y3, .int .i64 y4, .int .i64 y5]) : T2 n1 n2 n3 n4 n5 a b y0 y1 y2 y3 y4 y5 h0 h1 c v (X.setCell ⟨n2, j, none⟩ u) := by
  have l1 := h.l1; have l2 := h.l2; have l3 := h.l3; have l4 := h.l4
  have o := fun k (hk : k ≠ n2) => Go.Deep.blk_setCell_other X ⟨n2, j, none⟩ u k hk
  exact ⟨(o _ (by omega)).trans h.b1, e ▸ heap_setCell_same X n2 j _ _ u h.b2, (o _ (by omega)).trans h.b3, (o _ (by omega)).trans h.b4, (o _ (by omega)).trans h.b5, h.l1, h.l2, h.l3, h.l4⟩
theorem T2.set4 (h : T2 n1 n2 n3 n4 n5 a b x0 x1 x2 x3 x4 x5 h0 h1 c v X) (u : Value) : T2 n1 n2 n3 n4 n5 a b x0 x1 x2 x3 x4 x5 h0 h1 c u (X.setCell ⟨n4, 1, none⟩ u) := by
  have l1 := h.l1; have l2 := h.l2; have l3 := h.l3; have l4 := h.l4
  have o := fun k (hk : k ≠ n4) => Go.Deep.blk_setCell_other X ⟨n4, 1, none⟩ u k hk
  exact ⟨(o _ (by omega)).trans h.b1, (o _ (by omega)).trans h.b2, (o _ (by omega)).trans h.b3, heap_setCell_same X n4 1 _ _ u h.b4, (o _ (by omega)).trans h.b5, h.l1, h.l2, h.l3, h.l4⟩
theorem T2.set5 (h : T2 n1 n2 n3 n4 n5 a b x0 x1 x2 x3 x4 x5 h0 h1 c v X) (j : Nat) (u : Value) {g0 g1 : Int} {c' : Value} (e : (#[.int .i64 h0, .slice (some ⟨n3, 0, none⟩) 1 1, .int .i64 h1, c] : Array Value).setIfInBounds j u = #[.int .i64 g0, .slice (some ⟨n3, 0, none⟩) 1 1, .int .i64 g1, c']) : T2 n1 n2 n3 n4 n5 a b x0 x1 x2 x3 x4 x5 g0 g1 c' v (X.setCell ⟨n5, j, none⟩ u) := by
  have l1 := h.l1; have l2 := h.l2; have l3 := h.l3; have l4 := h.l4
  have o := fun k (hk : k ≠ n5) => Go.Deep.blk_setCell_other X ⟨n5, j, none⟩ u k hk
  exact ⟨(o _ (by omega)).trans h.b1, (o _ (by omega)).trans h.b2, (o _ (by omega)).trans h.b3, (o _ (by omega)).trans h.b4, e ▸ heap_setCell_same X n5 j _ _ u h.b5, h.l1, h.l2, h.l3, h.l4⟩
def gr2 (st : Int) (a b : ByteArray) (x0 x1 x2 x3 x4 x5 h0 h1 : Int) (cs : List Cn) : Gr := ⟨st, [a, b], [⟨h0, [⟨false, [⟨x0, x1, x2⟩, ⟨x3, x4, x5⟩]⟩]⟩, ⟨h1, cs⟩]⟩
theorem T2.rules (h : T2 n1 n2 n3 n4 n5 a b x0 x1 x2 x3 x4 x5 h0 h1 c v X) {cs : List Cn} (hc : IsCns X Any c cs) (st : Int) : IsRus X Any (.slice (some ⟨n5, 0, none⟩) 2 2) (gr2 st a b x0 x1 x2 x3 x4 x5 h0 h1 cs).rules := by
  have i1 : IsSys X Any (.slice (some ⟨n2, 0, none⟩) 2 2) [⟨x0, x1, x2⟩, ⟨x3, x4, x5⟩] := reads_laid h.b2 le22 rfl
  have c1 : IsCns X Any (.slice (some ⟨n3, 0, none⟩) 1 1) [⟨false, [⟨x0, x1, x2⟩, ⟨x3, x4, x5⟩]⟩] := ⟨[_], reads_laid h.b3 le11 rfl, (CnsIn.nil _ _).snoc (c := ⟨false, [⟨x0, x1, x2⟩, ⟨x3, x4, x5⟩]⟩) i1⟩
  exact ⟨[_, _], reads_laid h.b5 le22 rfl, ((RusIn.nil _ _).snoc (c := ⟨h0, _⟩) c1).snoc (c := ⟨h1, cs⟩) hc⟩
theorem T2.gr (h : T2 n1 n2 n3 n4 n5 a b x0 x1 x2 x3 x4 x5 h0 h1 c v X) {cs : List Cn} (hc : IsCns X Any c cs) (st : Int) : GrIs X Any (.slice (some ⟨n1, 0, none⟩) 2 2) (.slice (some ⟨n5, 0, none⟩) 2 2) (gr2 st a b x0 x1 x2 x3 x4 x5 h0 h1 cs) :=
  ⟨reads_laid h.b1 le22 rfl, h.rules hc st⟩
theorem T2.con (h : T2 n1 n2 n3 n4 n5 a b x0 x1 x2 x3 x4 x5 h0 h1 (.slice (some ⟨n4, 0, none⟩) 1 1) v X) {l : List Sy} (hv : IsSys X Any v l) : IsCns X Any (.slice (some ⟨n4, 0, none⟩) 1 1) [⟨false, l⟩] := ⟨[_], reads_laid h.b4 le11 rfl, (CnsIn.nil _ _).snoc (c := ⟨false, l⟩) hv⟩
end
abbrev T20 (n1 n2 n3 n4 n5 : Nat) (X : World) : Prop := T2 n1 n2 n3 n4 n5 ⟨#[83]⟩ ⟨#[88]⟩ (-1) 5 9 1 0 0 0 1 (.slice (some ⟨n4, 0, none⟩) 1 1) (.slice none 0 0) X
set_option maxHeartbeats 2000000 in
set_option maxRecDepth 100000 in
theorem two_any (w : World) : Calls Try.prog 43 #[] w fun e w' => ∃ n1 n2 n3 n4 n5, e = .returned (.agg #[.int .i64 0, .slice (some ⟨n1, 0, none⟩) 2 2, .slice (some ⟨n5, 0, none⟩) 2 2]) ∧ Hid (T20 n1 n2 n3 n4 n5 w') ∧ Hid (Below w.heap.size w w') ∧ Hid (w.heap.size ≤ n1) := by
  go_enter Try.func43, Try.ntmps43
  go_wp2
  refine bodyPost_ret (v := .agg #[.int .i64 0, .slice (some ⟨w.heap.size + 1, 0, none⟩) 2 2, .slice (some ⟨w.heap.size + 1 + 1 + 1 + 1 + 1, 0, none⟩) 2 2]) (by simp [results, Try.results43, go_sem]) rfl ?_
  have h := fun k o => blks_at [.cells #[.int .i64 0, .slice (some ⟨w.heap.size + 1, 0, none⟩) 2 2, .slice (some ⟨w.heap.size + 1 + 1 + 1 + 1 + 1, 0, none⟩) 2 2] 64, .cells #[.string ⟨#[83]⟩, .string ⟨#[88]⟩] 9, .cells #[.int .i64 (-1), .int .i64 5, .int .i64 9, .int .i64 1, .int .i64 0, .int .i64 0] 84, .cells #[.bool false, .slice (some ⟨w.heap.size + 1 + 1, 0, none⟩) 2 2] 82, .cells #[.bool false, .slice none 0 0] 82, .cells #[.int .i64 0, .slice (some ⟨w.heap.size + 1 + 1 + 1, 0, none⟩) 1 1, .int .i64 1, .slice (some ⟨w.heap.size + 1 + 1 + 1 + 1, 0, none⟩) 1 1] 79] w k o
  exact ⟨_, _, _, _, _, rfl, ⟨h 1 _ rfl, h 2 _ rfl, h 3 _ rfl, h 4 _ rfl, h 5 _ rfl, by omega, by omega, by omega, by omega⟩, blks_below [.cells #[.int .i64 0, .slice (some ⟨w.heap.size + 1, 0, none⟩) 2 2, .slice (some ⟨w.heap.size + 1 + 1 + 1 + 1 + 1, 0, none⟩) 2 2] 64, .cells #[.string ⟨#[83]⟩, .string ⟨#[88]⟩] 9, .cells #[.int .i64 (-1), .int .i64 5, .int .i64 9, .int .i64 1, .int .i64 0, .int .i64 0] 84, .cells #[.bool false, .slice (some ⟨w.heap.size + 1 + 1, 0, none⟩) 2 2] 82, .cells #[.bool false, .slice none 0 0] 82, .cells #[.int .i64 0, .slice (some ⟨w.heap.size + 1 + 1 + 1, 0, none⟩) 1 1, .int .i64 1, .slice (some ⟨w.heap.size + 1 + 1 + 1 + 1, 0, none⟩) 1 1] 79] w, by show _ ≤ _; omega⟩
/-- A grammar that may not be, as May tells it. -/
theorem may_of (g : Gr) (r : Bool) (hm : mayG g = r) (hl : (g.names.all fun s => decide (s.size ≤ 4294967296)) = true) (hS : (g.rules.all fun r => r.conj.all fun c => decide (c.seq.length ≤ 4294967296)) = true) (v1 v2 : Value) (w : World) {F : Nat → Prop} (hg : GrIs w F v1 v2 g) :
    Calls Try.prog 39 #[.agg #[.int .i64 g.start, v1, v2]] w fun e w' => e = .returned (.bool r) ∧ Hid (Below w.heap.size w w') := by
  subst hm
  refine may_any g v1 v2 w hg (fun s hs => ?_) (fun q hq c hc => ?_)
  · have := List.all_eq_true.1 hl s hs
    simp only [decide_eq_true_eq] at this
    unfold maxLen; omega
  · have := List.all_eq_true.1 (List.all_eq_true.1 hS q hq) c hc
    simp only [decide_eq_true_eq] at this
    omega
end Go.Proofs.Ytnmnjpkmkpngfaa
