/- A block of four words in memory: laid, kept, written. No program in sight. -/
import Derived.Test.YtopokicdgdjgkaaBits
namespace Go.Proofs.Ytopokicdgdjgkaa
open Go.RowKit

/-- Block b of w holds the words of a, and may be written. -/
def Lies (w : World) (b : Nat) (a : Nat → Nat) : Prop :=
  (∀ j, j < 4 → w.cell? ⟨b, j, none⟩ = some (.int .u64 ((a j : Nat) : Int))) ∧ ∀ j, w.frozen? ⟨b, j, none⟩ = false

def zB : Nat → Nat := fun _ => 0
/-- The first k words of f, those of g behind. -/
def upTo (f g : Nat → Nat) (k : Nat) : Nat → Nat := fun j => if j < k then f j else g j
def putB (a : Nat → Nat) (k n : Nat) : Nat → Nat := fun j => if j = k then n else a j

theorem Lies.lt {w : World} {b : Nat} {a : Nat → Nat} (h : Lies w b a) : b < w.heap.size := by
  have h0 := h.1 0 (by decide)
  by_cases hb : b < w.heap.size
  · exact hb
  · exfalso
    have e : w.heap[b]? = none := Array.getElem?_eq_none (by omega)
    simp [World.cell?, e] at h0

theorem Lies.new (w : World) (a : Nat → Nat) (t : TypeId) (n : Nat) (hn : n = w.heap.size) : Lies (w.alloc (.cells #[.int .u64 ((a 0 : Nat) : Int), .int .u64 ((a 1 : Nat) : Int), .int .u64 ((a 2 : Nat) : Int), .int .u64 ((a 3 : Nat) : Int)] t)) n a := by
  subst hn
  refine ⟨fun j hj => ?_, fun j => World.frozen?_alloc_at _ _ _ _ rfl⟩
  rw [World.cell?_alloc_at _ _ _ _ rfl]
  match j, hj with
  | 0, _ => rfl
  | 1, _ => rfl
  | 2, _ => rfl
  | 3, _ => rfl

theorem Lies.new0 (w : World) (t : TypeId) (n : Nat) (hn : n = w.heap.size) : Lies (w.alloc (.cells #[.int .u64 0, .int .u64 0, .int .u64 0, .int .u64 0] t)) n zB := Lies.new w zB t n hn

theorem Lies.alloc {w : World} {b : Nat} {a : Nat → Nat} (h : Lies w b a) (o : Obj) : Lies (w.alloc o) b a :=
  ⟨fun j hj => (World.cell?_alloc_past _ _ _ h.lt).trans (h.1 j hj), fun j => (World.frozen?_alloc_past _ _ _ h.lt).trans (h.2 j)⟩

theorem Lies.drew {w : World} {b : Nat} {a : Nat → Nat} (h : Lies w b a) : Lies w.drew b a := h

theorem Lies.below {B : Nat} {w w' : World} {b : Nat} {a : Nat → Nat} (h : Lies w b a) (hb : Below B w w') (hB : b < B) : Lies w' b a :=
  ⟨fun j hj => (hb.cell (p := ⟨b, j, none⟩) hB).trans (h.1 j hj), fun j => (hb.frozen (p := ⟨b, j, none⟩) hB).trans (h.2 j)⟩

theorem Lies.keep {w w' : World} {b : Nat} {a : Nat → Nat} (h : Lies w b a) (hb : Below w.heap.size w w') : Lies w' b a := h.below hb h.lt

theorem Lies.other {w : World} {b : Nat} {a : Nat → Nat} (h : Lies w b a) {q : Addr} (hq : q.block ≠ b) (v : Value) : Lies (w.setCell q v) b a :=
  ⟨fun j hj => (World.cell?_setCell_other _ _ _ _ (by intro e; apply hq; rw [e])).trans (h.1 j hj), fun j => (World.frozen?_setCell _ _ _ _).trans (h.2 j)⟩

theorem Lies.put {w : World} {b : Nat} {a : Nat → Nat} (h : Lies w b a) (k n : Nat) (hk : k < 4) : Lies (w.setCell ⟨b, k, none⟩ (.int .u64 ((n : Nat) : Int))) b (putB a k n) := by
  refine ⟨fun j hj => ?_, fun j => (World.frozen?_setCell _ _ _ _).trans (h.2 j)⟩
  unfold putB
  by_cases e : j = k
  · subst e
    rw [World.cell?_setCell_same _ _ _ (h.1 j hj), if_pos rfl]
  · rw [World.cell?_setCell_other _ _ _ _ (by intro h'; apply e; injection h' with _ h2; exact h2.symm), if_neg e]
    exact h.1 j hj

theorem Lies.congr {w : World} {b : Nat} {a a' : Nat → Nat} (h : Lies w b a) (e : ∀ j, j < 4 → a j = a' j) : Lies w b a' :=
  ⟨fun j hj => by rw [← e j hj]; exact h.1 j hj, h.2⟩

theorem upTo_step (f g : Nat → Nat) (k j : Nat) : putB (upTo f g k) k (f k) j = upTo f g (k + 1) j := by
  unfold putB upTo
  by_cases h : j = k
  · subst h; simp
  · rw [if_neg h]
    by_cases h2 : j < k
    · rw [if_pos h2, if_pos (by omega)]
    · rw [if_neg h2, if_neg (by omega)]


theorem Lies.all {w : World} {b : Nat} {a : Nat → Nat} (h : Lies w b a) :
    (w.cell? ⟨b, 0, none⟩ = some (.int .u64 ((a 0 : Nat) : Int)) ∧ w.cell? ⟨b, 1, none⟩ = some (.int .u64 ((a 1 : Nat) : Int)) ∧ w.cell? ⟨b, 2, none⟩ = some (.int .u64 ((a 2 : Nat) : Int)) ∧ w.cell? ⟨b, 3, none⟩ = some (.int .u64 ((a 3 : Nat) : Int))) ∧
    w.frozen? ⟨b, 0, none⟩ = false ∧ w.frozen? ⟨b, 1, none⟩ = false ∧ w.frozen? ⟨b, 2, none⟩ = false ∧ w.frozen? ⟨b, 3, none⟩ = false :=
  ⟨⟨h.1 0 (by decide), h.1 1 (by decide), h.1 2 (by decide), h.1 3 (by decide)⟩, h.2 0, h.2 1, h.2 2, h.2 3⟩

theorem below_put4 {B n : Nat} {w w' : World} (h : Below B w w') (hn : B ≤ n) (x0 x1 x2 x3 : Value) :
    Below B w ((((w'.setCell ⟨n, 0, none⟩ x0).setCell ⟨n, 1, none⟩ x1).setCell ⟨n, 2, none⟩ x2).setCell ⟨n, 3, none⟩ x3) :=
  (((h.setCell (p := ⟨n, 0, none⟩) hn _).setCell (p := ⟨n, 1, none⟩) hn _).setCell (p := ⟨n, 2, none⟩) hn _).setCell (p := ⟨n, 3, none⟩) hn _

theorem sz1 (w : World) (o : Obj) : w.heap.size + 1 = (w.alloc o).heap.size := by simp
theorem sz2 (w : World) (o o' : Obj) : w.heap.size + 1 + 1 = ((w.alloc o).alloc o').heap.size := by simp
theorem sz3 (w : World) (o o' o'' : Obj) : w.heap.size + 1 + 1 + 1 = (((w.alloc o).alloc o').alloc o'').heap.size := by simp
theorem below1 (w : World) (o : Obj) : Below w.heap.size w (w.alloc o) := (Below.refl _ _).alloc (Nat.le_refl _) o
theorem below2 (w : World) (o o' : Obj) : Below w.heap.size w ((w.alloc o).alloc o') := (below1 w o).alloc (by simp) o'
theorem below3 (w : World) (o o' o'' : Obj) : Below w.heap.size w (((w.alloc o).alloc o').alloc o'') := (below2 w o o').alloc (by simp; omega) o''
theorem below4 (w : World) (o o' o'' o3 : Obj) : Below w.heap.size w ((((w.alloc o).alloc o').alloc o'').alloc o3) := (below3 w o o' o'').alloc (by simp; omega) o3

end Go.Proofs.Ytopokicdgdjgkaa
