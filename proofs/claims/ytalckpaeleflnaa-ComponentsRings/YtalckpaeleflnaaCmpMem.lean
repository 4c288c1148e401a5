/- Edges and rows of bits in memory. -/
import Derived.Test.YtalckpaeleflnaaCmpPl
import Derived.Test.YtalckpaeleflnaaRows
import Derived.ProofKit
import Derived.OpenShut
import Derived.WalkLawsBesides
import Derived.Deep.Heap
import Derived.Deep.WholeRow
import Derived.Deep.MidRow
import Derived.Laws.StructEq
namespace Go.Proofs.Ytalckpaeleflnaa
set_option linter.unusedVariables false
open Go.ChangeShapes Go.WideShapes Go.ChangeAt Go.RowKit

def Any (_ : Nat) : Prop := True
theorem bel1 (w : World) (o : Obj) : Below w.heap.size w (w.alloc o) := (Below.refl _ _).alloc (Nat.le_refl _) o
theorem bel_alloc {W w' : World} {o : Obj} (h : Below W.heap.size W w') : Below W.heap.size W (w'.alloc o) := h.alloc h.size o
theorem row_slice {w : World} {base e size n : Nat} {v : Value} {xs : List Value} (h : w.ownsRow base e size v n xs) : ∃ p cap, v = .slice p n cap := by
  obtain ⟨_, ⟨h1, h2⟩ | ⟨g, cap, cur, h1, _⟩⟩ := h
  · exact ⟨none, 0, by rw [h1, h2]⟩
  · exact ⟨_, _, h1⟩
theorem row_block {w w' : World} {base e size n : Nat} {v : Value} {xs : List Value} (h : w.ownsRow base e size v n xs) (hb : ∀ g, base ≤ g → g < w.heap.size → w'.heap[g]? = w.heap[g]?) : w'.ownsRow base e size v n xs := by
  obtain ⟨h0, h1 | ⟨g, cap, cur, h1, h2, h3, h4⟩⟩ := h
  · exact ⟨h0, .inl h1⟩
  · have hg : g < w.heap.size := by
      by_cases hh : g < w.heap.size
      · exact hh
      · rw [Array.getElem?_eq_none (by omega)] at h3; cases h3
    exact ⟨h0, .inr ⟨g, cap, cur, h1, h2, by rw [hb g h2 hg]; exact h3, h4⟩⟩
theorem row_keep {w w' : World} {base e size n : Nat} {v : Value} {xs : List Value} (h : w.ownsRow base e size v n xs) (hb : Below w.heap.size w w') : w'.ownsRow base e size v n xs :=
  row_block h fun g _ hg => hb.block g hg
theorem heap_lt {w : World} {b : Nat} {o : Obj} (h : w.heap[b]? = some o) : b < w.heap.size := by
  by_cases hh : b < w.heap.size
  · exact hh
  · rw [Array.getElem?_eq_none (by omega)] at h; cases h

/-- Slice v holds n elements, their cells cs, in a block of F. -/
def Reads (w : World) (F : Nat → Prop) (v : Value) (n : Nat) (cs : List Value) : Prop :=
  ∃ p cap, v = .slice p n cap ∧ (n ≤ maxLen ∧ n ≤ cap) ∧ (0 < n → ∃ g o, p = some ⟨g, o, none⟩ ∧ F g ∧ g < w.heap.size ∧ (∀ j c, cs[j]? = some c → w.cell? ⟨g, o + j, none⟩ = some c) ∧ ∀ j, j < (cs).length → w.frozen? ⟨g, o + j, none⟩ = false)
theorem Reads.keep {w w' : World} {F F' : Nat → Prop} {v : Value} {n : Nat} {cs : List Value} (h : Reads w F v n cs) (hz : w.heap.size ≤ w'.heap.size) (hs : ∀ b, F b → b < w.heap.size → w'.heap[b]? = w.heap[b]?) (hm : ∀ b, F b → b < w.heap.size → F' b) : Reads w' F' v n cs := by
  obtain ⟨p, cap, hv, hmx, hc⟩ := h
  refine ⟨p, cap, hv, hmx, fun hn => ?_⟩
  obtain ⟨g, o, hp, hF, hg, hx, hy⟩ := hc hn
  exact ⟨g, o, hp, hm g hF hg, Nat.lt_of_lt_of_le hg hz, fun j c hj => (World.cell?_of_block (a := ⟨g, _, none⟩) (hs g hF hg)).trans (hx j c hj), fun j hj => (World.frozen?_of_block (a := ⟨g, _, none⟩) (hs g hF hg)).trans (hy j hj)⟩
theorem Reads.any {w w' : World} {F : Nat → Prop} {v : Value} {n : Nat} {cs : List Value} (h : Reads w F v n cs) (hb : Below w.heap.size w w') : Reads w' F v n cs := h.keep hb.size (fun b _ hl => hb.block b hl) (fun _ x _ => x)
theorem Reads.of {w : World} {F : Nat → Prop} {base e size n : Nat} {v : Value} {cs : List Value} (h : w.ownsRow base e size v n cs) (hF : ∀ b, v.ownBlock = some b → F b) : Reads w F v n cs := by
  obtain ⟨p, cap, hv⟩ := row_slice h
  subst hv
  have hmx : n ≤ maxLen ∧ n ≤ cap := by
    obtain ⟨_, ⟨_, h2⟩ | ⟨g, c', cur, h1, h2, h3, h4, h5, _⟩⟩ := id h
    · rw [h2]; exact ⟨Nat.zero_le _, Nat.zero_le _⟩
    · injection h1 with _ _ h1
      subst h1
      exact ⟨Nat.le_trans h4 h5, h4⟩
  refine ⟨p, cap, rfl, hmx, fun hn => ?_⟩
  obtain ⟨hl, ⟨_, h2⟩ | ⟨g, c', cur, h1, h2, h3⟩⟩ := id h
  · omega
  · injection h1 with e1
    subst e1
    refine ⟨g, 0, rfl, hF g rfl, (h.lt g rfl).2, fun j c hj => ?_, fun j _ => ?_⟩
    · have hlt : j < cs.length := (List.getElem?_eq_some_iff.1 hj).1
      rw [Nat.zero_add]; exact (h.cellAt j (by omega)).trans hj
    · simp [World.frozen?, h3.1]
/-- A row just laid. -/
theorem reads_laid {w : World} {g n c : Nat} {arr : Array Value} {t : TypeId} (h : w.heap[g]? = some (.cells arr t)) (hn : n ≤ maxLen ∧ n ≤ c) {cs : List Value} (hcs : cs = arr.toList) : Reads w Any (.slice (some ⟨g, 0, none⟩) n c) n cs := by
  subst hcs
  refine ⟨_, _, rfl, hn, fun _ => ⟨g, 0, rfl, trivial, heap_lt h, fun j c hj => ?_, fun j _ => by simp [World.frozen?, h]⟩⟩
  simp [World.cell?, h]
  simpa using hj
theorem Reads.nil (w : World) (F : Nat → Prop) : Reads w F (.slice none 0 0) 0 [] := ⟨none, 0, rfl, ⟨Nat.zero_le _, Nat.zero_le _⟩, fun h => absurd h (Nat.lt_irrefl _)⟩

def edV (e : Ed) : List Value := [.int .i64 e.1, .int .i64 e.2.1, .bool e.2.2]
def edsV : List Ed → List Value
  | [] => []
  | e :: l => edV e ++ edsV l
theorem edsV_append : ∀ l m : List Ed, edsV (l ++ m) = edsV l ++ edsV m
  | [], _ => rfl
  | i :: l, m => by simp [edsV, edsV_append l m]
theorem edsV_length : ∀ l : List Ed, (edsV l).length = l.length * 3
  | [] => rfl
  | i :: l => by simp [edsV, edV, edsV_length l]; omega
theorem edsV_at : ∀ (l : List Ed) (k : Nat) (s : Ed), l[k]? = some s → (edsV l)[k * 3]? = some (.int .i64 s.1) ∧ (edsV l)[k * 3 + 1]? = some (.int .i64 s.2.1) ∧ (edsV l)[k * 3 + 2]? = some (.bool s.2.2)
  | [], k, i, h => by simp at h
  | q :: l, 0, i, h => by
    obtain rfl : q = i := by simpa using h
    exact ⟨rfl, rfl, rfl⟩
  | q :: l, k + 1, i, h => by
    have := edsV_at l k i (by simpa using h)
    rw [show (k + 1) * 3 = k * 3 + 1 + 1 + 1 by omega]
    simpa [edsV, edV] using this
def IsEds (w : World) (F : Nat → Prop) (v : Value) (l : List Ed) : Prop := Reads w F v l.length (edsV l)
theorem IsEds.any {w w' : World} {F : Nat → Prop} {v : Value} {l : List Ed} (h : IsEds w F v l) (hb : Below w.heap.size w w') : IsEds w' F v l := Reads.any h hb
theorem eds_nil (w : World) (F : Nat → Prop) : IsEds w F (.slice none 0 0) [] := Reads.nil w F
theorem IsEds.slc {w : World} {F : Nat → Prop} {v : Value} {l : List Ed} (h : IsEds w F v l) : ∃ p c, v = .slice p l.length c := by
  obtain ⟨p, c, e, _⟩ := h
  exact ⟨p, c, e⟩
theorem IsEds.len {w : World} {F : Nat → Prop} {v : Value} {l : List Ed} (h : IsEds w F v l) : l.length ≤ maxLen := by
  obtain ⟨p, c, e, h, _⟩ := h
  exact h.1
theorem IsEds.at {w : World} {F : Nat → Prop} {p : Option Addr} {n c : Nat} {l : List Ed} (h : IsEds w F (.slice p n c) l) {k : Nat} {e : Ed} (hk : l[k]? = some e) : ∃ g o, p = some ⟨g, o, none⟩ ∧ g < w.heap.size ∧ w.cell? ⟨g, o + k * 3, none⟩ = some (.int .i64 e.1) ∧ w.cell? ⟨g, o + k * 3 + 1, none⟩ = some (.int .i64 e.2.1) ∧ w.cell? ⟨g, o + k * 3 + 2, none⟩ = some (.bool e.2.2) := by
  obtain ⟨p2, c2, e2, _, hc⟩ := h
  injection e2 with e3
  subst e3
  have hlt := (List.getElem?_eq_some_iff.1 hk).1
  obtain ⟨g, o, e9, _, hg, cc, _⟩ := hc (by omega)
  obtain ⟨a0, a1, a2⟩ := edsV_at l k e hk
  exact ⟨g, o, e9, hg, cc _ _ a0, by rw [Nat.add_assoc]; exact cc _ _ a1, by rw [Nat.add_assoc]; exact cc _ _ a2⟩

def rowsL (r : Nat → Nat) : List Value := (List.range 64).map fun i => .int .u64 ((r i : Nat) : Int)
def rowsA (r : Nat → Nat) : Array Value := (rowsL r).toArray
def zR : Nat → Nat := fun _ => 0
theorem rowsA_size (r : Nat → Nat) : (rowsA r).size = 64 := by simp [rowsA, rowsL]
theorem rowsA_at (r : Nat → Nat) {k : Nat} (hk : k < 64) : (rowsA r)[k]? = some (.int .u64 ((r k : Nat) : Int)) := by
  simp [rowsA, rowsL, hk]
theorem rowsA_one (r : Nat → Nat) : (rowsA r).all (·.oneCell') = true := by
  refine Array.all_eq_true_iff_forall_mem.2 fun v hv => ?_
  simp only [rowsA, rowsL, List.mem_toArray, List.mem_map] at hv
  obtain ⟨i, _, rfl⟩ := hv
  rfl
theorem rowsA_put (r : Nat → Nat) {k : Nat} (hk : k < 64) (n : Nat) : (rowsA r).setIfInBounds k (.int .u64 ((n : Nat) : Int)) = rowsA (putR r k n) := by
  apply Array.ext_getElem?
  intro i
  rw [Array.getElem?_setIfInBounds, rowsA_size]
  by_cases e : k = i
  · subst e
    rw [if_pos rfl, if_pos hk, rowsA_at _ hk]; simp [putR]
  · rw [if_neg e]
    by_cases hi : i < 64
    · rw [rowsA_at _ hi, rowsA_at _ hi]; simp [putR, Ne.symm e]
    · rw [Array.getElem?_eq_none (by rw [rowsA_size]; omega), Array.getElem?_eq_none (by rw [rowsA_size]; omega)]
theorem rowsA_congr {r s : Nat → Nat} (h : ∀ i, i < 64 → r i = s i) : rowsA r = rowsA s := by
  unfold rowsA rowsL
  congr 1
  refine List.map_congr_left fun i hi => ?_
  rw [h i (List.mem_range.1 hi)]
/-- Block b is the rows of bits r. -/
def RwAt (w : World) (b : Nat) (r : Nat → Nat) : Prop := w.heap[b]? = some (.cells (rowsA r) 43)
section
variable {w w' : World} {b : Nat} {r : Nat → Nat}
theorem RwAt.lt (h : RwAt w b r) : b < w.heap.size := heap_lt h
theorem RwAt.cell (h : RwAt w b r) {k : Nat} (hk : k < 64) : w.cell? ⟨b, k, none⟩ = some (.int .u64 ((r k : Nat) : Int)) := by
  rw [cell_of_row _ _ k _ _ (0, 0) h]; exact rowsA_at r hk
theorem RwAt.frozen (h : RwAt w b r) (k : Nat) : w.frozen? ⟨b, k, none⟩ = false := by simp [World.frozen?, show w.heap[b]? = _ from h]
theorem RwAt.keep (h : RwAt w b r) (hb : Below w.heap.size w w') : RwAt w' b r := (hb.block b h.lt).trans h
theorem RwAt.blk (h : RwAt w b r) (hb : w'.heap[b]? = w.heap[b]?) : RwAt w' b r := hb.trans h
theorem RwAt.put (h : RwAt w b r) {k : Nat} (hk : k < 64) (n : Nat) : RwAt (w.setCell ⟨b, k, none⟩ (.int .u64 ((n : Nat) : Int))) b (putR r k n) := by
  unfold RwAt at *
  simp only [World.setCell, Array.getElem?_modify, if_pos, h, Option.map_some]
  rw [← rowsA_put r hk]; rfl
theorem RwAt.new (w : World) (r : Nat → Nat) : RwAt (w.alloc (.cells (rowsA r) 43)) w.heap.size r := heap_alloc_new w _
theorem RwAt.whole (h : RwAt w b r) : w.rangeAt b 0 (rowsL r) := fun j v hv => by
  have hj : j < 64 := by have := (List.getElem?_eq_some_iff.1 hv).1; simpa [rowsL] using this
  have := rowsA_at r hj
  unfold rowsA at this
  rw [List.getElem?_toArray, hv] at this
  rw [Nat.zero_add, h.cell hj, ← this]
end
/-- All blocks but b are as they were, and there are no more. -/
structure Only (b : Nat) (w w' : World) : Prop where
  os : w'.os = w.os
  tape : w'.tape = w.tape
  output : w'.output = w.output
  size : w'.heap.size = w.heap.size
  block : ∀ k, k ≠ b → w'.heap[k]? = w.heap[k]?
theorem Only.drew (b : Nat) (w : World) : Only b w w.drew := ⟨rfl, rfl, rfl, rfl, fun _ _ => rfl⟩
theorem Only.refl (b : Nat) (w : World) : Only b w w := ⟨rfl, rfl, rfl, rfl, fun _ _ => rfl⟩
theorem Only.set {b : Nat} {w w' : World} (h : Only b w w') (k : Nat) (v : Value) : Only b w (w'.setCell ⟨b, k, none⟩ v) :=
  ⟨h.os, h.tape, h.output, (Go.Deep.nblk_setCell _ _ _).trans h.size, fun i hi => (Go.Deep.blk_setCell_other _ _ _ _ hi).trans (h.block i hi)⟩
theorem Only.below {b B : Nat} {w w' : World} (h : Only b w w') (hB : B ≤ b) : Below B w w' := ⟨h.os, h.tape, h.output, by rw [h.size]; exact Nat.le_refl _, fun k hk => h.block k (by omega)⟩

theorem Try.infoRows : (Try.prog.info? 43).map (·.size) = some 64 := by kernel_rfl
theorem zero_rows : (#[.int .u64 0, .int .u64 0, .int .u64 0, .int .u64 0, .int .u64 0, .int .u64 0, .int .u64 0, .int .u64 0, .int .u64 0, .int .u64 0, .int .u64 0, .int .u64 0, .int .u64 0, .int .u64 0, .int .u64 0, .int .u64 0, .int .u64 0, .int .u64 0, .int .u64 0, .int .u64 0, .int .u64 0, .int .u64 0, .int .u64 0, .int .u64 0, .int .u64 0, .int .u64 0, .int .u64 0, .int .u64 0, .int .u64 0, .int .u64 0, .int .u64 0, .int .u64 0, .int .u64 0, .int .u64 0, .int .u64 0, .int .u64 0, .int .u64 0, .int .u64 0, .int .u64 0, .int .u64 0, .int .u64 0, .int .u64 0, .int .u64 0, .int .u64 0, .int .u64 0, .int .u64 0, .int .u64 0, .int .u64 0, .int .u64 0, .int .u64 0, .int .u64 0, .int .u64 0, .int .u64 0, .int .u64 0, .int .u64 0, .int .u64 0, .int .u64 0, .int .u64 0, .int .u64 0, .int .u64 0, .int .u64 0, .int .u64 0, .int .u64 0, .int .u64 0] : Array Value) = rowsA zR := by rfl
/-- A whole array into the block that was made last. -/
theorem wpList_store_rows {ops : Array Oper} {rest : List Oper} {op : Oper} {a : Act} {w : World} {Q : Exit → Act → World → Prop} (hgd : op.guard = none) (x y : Operand) (ho : op.op = .store 43 x y) (r s : Nat → Nat)
    (hx : a.eval x = .pointer (some ⟨w.heap.size, 0, none⟩)) (hy : a.eval y = .agg (rowsA r)) (h : wpList Try.prog ops Q rest (a.put op.dst undef) (w.alloc (.cells (rowsA r) 43))) : wpList Try.prog ops Q (op :: rest) a (w.alloc (.cells (rowsA s) 43)) :=
  wpList_plain hgd fun K hK => by
    have := run_storeAt_new (P := Try.prog) w 43 (rowsA s) (rowsA r) (by rw [rowsA_size]; exact Try.infoRows) (by rw [rowsA_size, rowsA_size]) (rowsA_one r)
    unfold Oper.wp execOp
    simp only [ho, hx, hy, Sem.run_bind, this, Result.andThen_ok]
    exact hK _ _ h
end Go.Proofs.Ytalckpaeleflnaa
