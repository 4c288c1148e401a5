/- Worlds that part in new blocks and in one old block alone; what a slice owns. No program in sight. -/
import Derived.Test.YtinpmoojmmpaoaaLies
namespace Go.Proofs.Ytinpmoojmmpaoaa
open Go.RowKit

/-- Below block number B the world w' is as w was, but for block x. -/
structure But (B x : Nat) (w w' : World) : Prop where
  os : w'.os = w.os
  tape : w'.tape = w.tape
  output : w'.output = w.output
  size : w.heap.size ≤ w'.heap.size
  block : ∀ k, k < B → k ≠ x → w'.heap[k]? = w.heap[k]?

theorem But.refl (B x : Nat) (w : World) : But B x w w := ⟨rfl, rfl, rfl, Nat.le_refl _, fun _ _ _ => rfl⟩
theorem But.trans {B x : Nat} {a b c : World} (h : But B x a b) (k : But B x b c) : But B x a c :=
  ⟨k.os.trans h.os, k.tape.trans h.tape, k.output.trans h.output, Nat.le_trans h.size k.size, fun i hi hx => (k.block i hi hx).trans (h.block i hi hx)⟩
theorem But.of {B x : Nat} {w w' : World} (h : Below B w w') : But B x w w' := ⟨h.os, h.tape, h.output, h.size, fun k hk _ => h.block k hk⟩
theorem But.drew {B x : Nat} {a w : World} (h : But B x a w) : But B x a w.drew := ⟨h.os, h.tape, h.output, h.size, h.block⟩
theorem But.alloc {B x : Nat} {a w : World} (h : But B x a w) (hB : B ≤ w.heap.size) (o : Obj) : But B x a (w.alloc o) :=
  h.trans (But.of ((Below.refl _ _).alloc hB o))
theorem But.setCell {B x : Nat} {a w : World} (h : But B x a w) {p : Addr} (hp : p.block = x) (u : Value) : But B x a (w.setCell p u) :=
  h.trans ⟨rfl, rfl, rfl, by simp [World.setCell], fun k _ hx => Below.heap_setCell _ _ _ _ (by omega)⟩
theorem But.grown {B x : Nat} {a w w' : World} {row : Option Nat} (h : But B x a w) (hg : w.grownBy w' row) (hB : B ≤ w.heap.size) (hr : ∀ k, row = some k → B ≤ k) : But B x a w' :=
  h.trans (But.of ((Below.refl _ _).grown hg hB hr))
theorem But.cell {B x : Nat} {w w' : World} (h : But B x w w') {p : Addr} (hp : p.block < B) (hx : p.block ≠ x) : w'.cell? p = w.cell? p := World.cell?_of_block (w := w) (h.block p.block hp hx)
theorem But.frozen {B x : Nat} {w w' : World} (h : But B x w w') {p : Addr} (hp : p.block < B) (hx : p.block ≠ x) : w'.frozen? p = w.frozen? p := World.frozen?_of_block (w := w) (h.block p.block hp hx)
theorem But.below {B x : Nat} {w w' : World} (h : But B x w w') (hx : x ≤ B) : Below x w w' := ⟨h.os, h.tape, h.output, h.size, fun k hk => h.block k (by omega) (by omega)⟩
theorem But.mono {B B' x : Nat} {w w' : World} (h : But B x w w') (hB : B' ≤ B) : But B' x w w' := ⟨h.os, h.tape, h.output, h.size, fun k hk hx => h.block k (by omega) hx⟩

theorem Lies.but {B x : Nat} {w w' : World} {b : Nat} {a : Nat → Nat} (h : Lies w b a) (hb : But B x w w') (hB : b < B) (hx : b ≠ x) : Lies w' b a :=
  ⟨fun j hj => (hb.cell (p := ⟨b, j, none⟩) hB hx).trans (h.1 j hj), fun j => (hb.frozen (p := ⟨b, j, none⟩) hB hx).trans (h.2 j)⟩

/-- The cells of a row of pairs. -/
def flat : List (Nat × Nat) → List Value
  | [] => []
  | (a, b) :: l => .int .i64 (a : Int) :: .int .i64 (b : Int) :: flat l
theorem flat_length : ∀ l : List (Nat × Nat), (flat l).length = l.length * 2
  | [] => rfl
  | (_, _) :: l => by simp [flat, flat_length l]; omega
theorem flat_append : ∀ l m : List (Nat × Nat), flat (l ++ m) = flat l ++ flat m
  | [], _ => rfl
  | (_, _) :: l, m => by simp [flat, flat_append l m]
theorem flat_at : ∀ (l : List (Nat × Nat)) (i : Nat), i < l.length → (flat l)[i * 2]? = some (.int .i64 (((l.getD i (0, 0)).1 : Nat) : Int)) ∧ (flat l)[i * 2 + 1]? = some (.int .i64 (((l.getD i (0, 0)).2 : Nat) : Int))
  | (a, b) :: l, 0, _ => ⟨rfl, rfl⟩
  | (a, b) :: l, i + 1, h => by
    have := flat_at l i (by simpa using h)
    rw [show (i + 1) * 2 = i * 2 + 1 + 1 by omega]
    simpa [flat] using this

theorem owns_slice {w : World} {base e size n : Nat} {v : Value} {xs : List Value} (h : w.ownsRow base e size v n xs) : ∃ p cap, v = .slice p n cap := by
  obtain ⟨_, ⟨h1, h2⟩ | ⟨g, cap, cur, h1, _⟩⟩ := h
  · exact ⟨none, 0, by rw [h1, h2]⟩
  · exact ⟨_, _, h1⟩
theorem owns_mono {w : World} {base base' e size n : Nat} {v : Value} {xs : List Value} (h : w.ownsRow base e size v n xs) (hb : base' ≤ base) : w.ownsRow base' e size v n xs := by
  obtain ⟨h0, h1 | ⟨g, cap, cur, h1, h2, h3⟩⟩ := h
  · exact ⟨h0, .inl h1⟩
  · exact ⟨h0, .inr ⟨g, cap, cur, h1, by omega, h3⟩⟩
theorem owns_block {w w' : World} {base e size n : Nat} {v : Value} {xs : List Value} (h : w.ownsRow base e size v n xs) (hb : ∀ g, base ≤ g → g < w.heap.size → w'.heap[g]? = w.heap[g]?) : w'.ownsRow base e size v n xs := by
  obtain ⟨h0, h1 | ⟨g, cap, cur, h1, h2, h3, h4⟩⟩ := h
  · exact ⟨h0, .inl h1⟩
  · have hg : g < w.heap.size := by
      by_cases hh : g < w.heap.size
      · exact hh
      · rw [Array.getElem?_eq_none (by omega)] at h3; cases h3
    exact ⟨h0, .inr ⟨g, cap, cur, h1, h2, by rw [hb g h2 hg]; exact h3, h4⟩⟩
/-- What is owned stays owned behind a call that turns nothing old. -/
theorem owns_keep {w w' : World} {base e size n : Nat} {v : Value} {xs : List Value} (h : w.ownsRow base e size v n xs) (hb : Below w.heap.size w w') : w'.ownsRow base e size v n xs :=
  owns_block h fun g _ hg => hb.block g hg
theorem owns_drew {w : World} {base e size n : Nat} {v : Value} {xs : List Value} (h : w.ownsRow base e size v n xs) : w.drew.ownsRow base e size v n xs := h
/-- The cells that a slice of pairs owns. -/
theorem owns_cells {w : World} {base e n cap : Nat} {p : Option Addr} {l : List (Nat × Nat)} (h : w.ownsRow base e 2 (.slice p n cap) n (flat l)) (i : Nat) (hi : i < n) :
    n = l.length ∧ ∃ g, p = some ⟨g, 0, none⟩ ∧ w.cell? ⟨g, i * 2, none⟩ = some (.int .i64 (((l.getD i (0, 0)).1 : Nat) : Int)) ∧ w.cell? ⟨g, i * 2 + 1, none⟩ = some (.int .i64 (((l.getD i (0, 0)).2 : Nat) : Int)) := by
  have hl : n = l.length := by have := h.1; rw [flat_length] at this; omega
  refine ⟨hl, ?_⟩
  obtain ⟨h0, ⟨_, h2⟩ | ⟨g, cap', cur, h1, h2, h3⟩⟩ := id h
  · omega
  · injection h1 with e1 e2 e3
    subst e1
    have hf := flat_at l i (by omega)
    exact ⟨g, rfl, (h.cellAt (i * 2) (by omega)).trans hf.1, (h.cellAt (i * 2 + 1) (by omega)).trans hf.2⟩
theorem owns_cell_at {w : World} {base e n cap g : Nat} {l : List (Nat × Nat)} (h : w.ownsRow base e 2 (.slice (some ⟨g, 0, none⟩) n cap) n (flat l)) (i : Nat) (hi : i < n) :
    w.cell? ⟨g, i * 2, none⟩ = some (.int .i64 (((l.getD i (0, 0)).1 : Nat) : Int)) ∧ w.cell? ⟨g, i * 2 + 1, none⟩ = some (.int .i64 (((l.getD i (0, 0)).2 : Nat) : Int)) := by
  obtain ⟨_, g', hg, h1, h2⟩ := owns_cells h i hi
  injection hg with hg
  injection hg with hg
  subst hg
  exact ⟨h1, h2⟩
theorem owns_some {w : World} {base e n cap : Nat} {p : Option Addr} {l : List (Nat × Nat)} (h : w.ownsRow base e 2 (.slice p n cap) n (flat l)) (i : Nat) (hi : i < n) : ∃ g, p = some ⟨g, 0, none⟩ := by
  obtain ⟨_, g, hg, _⟩ := owns_cells h i hi
  exact ⟨g, hg⟩
theorem owns_len {w : World} {base e n : Nat} {v : Value} {l : List (Nat × Nat)} (h : w.ownsRow base e 2 v n (flat l)) : n = l.length := by
  have := h.1; rw [flat_length] at this; omega

end Go.Proofs.Ytinpmoojmmpaoaa
