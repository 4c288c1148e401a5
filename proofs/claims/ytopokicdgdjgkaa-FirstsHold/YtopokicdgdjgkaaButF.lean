/- Worlds that part in new blocks and in one old block alone; what a slice owns. No program in sight. -/
import Derived.Test.YtopokicdgdjgkaaLies
namespace Go.Proofs.Ytopokicdgdjgkaa
open Go.RowKit

/-- Below block number B the world w' is as w was, but for block x. -/
structure But (B x : Nat) (w w' : World) : Prop where
  os : w'.os = w.os
  tape : w'.tape = w.tape
  output : w'.output = w.output
  size : w.heap.size ≤ w'.heap.size
  block : ∀ k, k < B → k ≠ x → w'.heap[k]? = w.heap[k]?

theorem But.refl (B x : Nat) (w : World) : But B x w w := ⟨rfl, rfl, rfl, Nat.le_refl _, fun _ _ _ => rfl⟩
theorem But.trans {B x : Nat} {a b c : World} (h : But B x a b) (k : But B x b c) : But B x a c :=
  ⟨k.os.trans h.os, k.tape.trans h.tape, k.output.trans h.output, Nat.le_trans h.size k.size, fun i hi hx => (k.block i hi hx).trans (h.block i hi hx)⟩
theorem But.of {B x : Nat} {w w' : World} (h : Below B w w') : But B x w w' := ⟨h.os, h.tape, h.output, h.size, fun k hk _ => h.block k hk⟩
theorem But.drew {B x : Nat} {a w : World} (h : But B x a w) : But B x a w.drew := ⟨h.os, h.tape, h.output, h.size, h.block⟩
theorem But.alloc {B x : Nat} {a w : World} (h : But B x a w) (hB : B ≤ w.heap.size) (o : Obj) : But B x a (w.alloc o) :=
  h.trans (But.of ((Below.refl _ _).alloc hB o))
theorem But.setCell {B x : Nat} {a w : World} (h : But B x a w) {p : Addr} (hp : p.block = x) (u : Value) : But B x a (w.setCell p u) :=
  h.trans ⟨rfl, rfl, rfl, by simp [World.setCell], fun k _ hx => Below.heap_setCell _ _ _ _ (by omega)⟩
theorem But.grown {B x : Nat} {a w w' : World} {row : Option Nat} (h : But B x a w) (hg : w.grownBy w' row) (hB : B ≤ w.heap.size) (hr : ∀ k, row = some k → B ≤ k) : But B x a w' :=
  h.trans (But.of ((Below.refl _ _).grown hg hB hr))
theorem But.cell {B x : Nat} {w w' : World} (h : But B x w w') {p : Addr} (hp : p.block < B) (hx : p.block ≠ x) : w'.cell? p = w.cell? p := World.cell?_of_block (w := w) (h.block p.block hp hx)
theorem But.frozen {B x : Nat} {w w' : World} (h : But B x w w') {p : Addr} (hp : p.block < B) (hx : p.block ≠ x) : w'.frozen? p = w.frozen? p := World.frozen?_of_block (w := w) (h.block p.block hp hx)
theorem But.below {B x : Nat} {w w' : World} (h : But B x w w') (hx : x ≤ B) : Below x w w' := ⟨h.os, h.tape, h.output, h.size, fun k hk => h.block k (by omega) (by omega)⟩
theorem But.mono {B B' x : Nat} {w w' : World} (h : But B x w w') (hB : B' ≤ B) : But B' x w w' := ⟨h.os, h.tape, h.output, h.size, fun k hk hx => h.block k (by omega) hx⟩

theorem Lies.but {B x : Nat} {w w' : World} {b : Nat} {a : Nat → Nat} (h : Lies w b a) (hb : But B x w w') (hB : b < B) (hx : b ≠ x) : Lies w' b a :=
  ⟨fun j hj => (hb.cell (p := ⟨b, j, none⟩) hB hx).trans (h.1 j hj), fun j => (hb.frozen (p := ⟨b, j, none⟩) hB hx).trans (h.2 j)⟩

end Go.Proofs.Ytopokicdgdjgkaa
