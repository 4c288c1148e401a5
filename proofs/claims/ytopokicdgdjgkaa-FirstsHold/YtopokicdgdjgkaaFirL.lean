/- What the laws of layer 12 share. -/
import Derived.Test.YtopokicdgdjgkaaFirAw
import Derived.Test.YtopokicdgdjgkaaRefMayG
import Derived.Test.YtopokicdgdjgkaaRefMayF
namespace Go.Proofs.Ytopokicdgdjgkaa
set_option linter.unusedVariables false
set_option linter.unusedSimpArgs false
open Go.ChangeShapes Go.WideShapes Go.ChangeAt Go.RowKit

theorem region_classF {P : Program} {id : Nat} {Q : Exit → Act → World → Prop} {a : Act} {w : World} {l : List Oper} {ι : Type} (f : ι → World) (hm : P.follows .mixedOrders = true) (hB : Region.lexB .any l.toArray = true) (h0 : ∃ n, w.drew = f n)
    (h : wpQuiet P l.toArray (fun w' => ∃ n, w' = f n) (fun a' => ∀ w', (∃ n, w' = f n) → Q .normal a' w') l a) : (Code.region id l.toArray true).wp P Q a w :=
  wp_region_quiet (C := fun w' => ∃ n, w' = f n) hm hB h0 (by simpa using h)
theorem family2F (I : World → Prop) (w : World) (h : I w) : ∃ (ι : Type) (f : ι → World) (n0 : ι), w = f n0 ∧ (∀ n, I (f n)) ∧ ∀ w', I w' → ∃ m, w' = f m :=
  ⟨{x // I x}, Subtype.val, ⟨w, h⟩, rfl, Subtype.property, fun w' h => ⟨⟨w', h⟩, rfl⟩⟩
theorem laterF {w w' : World} {b j : Nat} {v : Value} (h : w.cell? ⟨b, j, none⟩ = some v) (hb : Below w.heap.size w w') : w'.cell? ⟨b, j, none⟩ = some v := (hb.cell (p := ⟨b, j, none⟩) (cell_in h)).trans h
/-- A grammar in a block of its own, and what is behind it. -/
def BxF (W : World) (s : Int) (v1 v2 : Value) (w : World) : Prop := Below W.heap.size W w ∧ W.heap.size < w.heap.size ∧ w.cell? ⟨W.heap.size, 0, none⟩ = some (.int .i64 s) ∧ w.cell? ⟨W.heap.size, 1, none⟩ = some v1 ∧ w.cell? ⟨W.heap.size, 2, none⟩ = some v2
theorem BxF.new (W : World) (s : Int) (v1 v2 : Value) : BxF W s v1 v2 (W.alloc (.cells #[.int .i64 s, v1, v2] 27)) :=
  ⟨bel1 _ _, by simp, World.cell?_alloc_at _ _ _ _ rfl, World.cell?_alloc_at _ _ _ _ rfl, World.cell?_alloc_at _ _ _ _ rfl⟩
theorem BxF.any {W : World} {s : Int} {v1 v2 : Value} {w w' : World} (h : BxF W s v1 v2 w) (hb : Below w.heap.size w w') : BxF W s v1 v2 w' :=
  ⟨h.1.trans (hb.mono h.1.size), Nat.lt_of_lt_of_le h.2.1 hb.size, (hb.cell (p := ⟨_, _, none⟩) h.2.1).trans h.2.2.1, (hb.cell (p := ⟨_, _, none⟩) h.2.1).trans h.2.2.2.1, (hb.cell (p := ⟨_, _, none⟩) h.2.1).trans h.2.2.2.2⟩
/-- A set in a box. -/
def WbAt (w : World) (b : Nat) (X : Nat → Nat) : Prop := w.heap[b]? = some (.cells #[.int .u64 ((X 0 : Nat) : Int), .int .u64 ((X 1 : Nat) : Int), .int .u64 ((X 2 : Nat) : Int), .int .u64 ((X 3 : Nat) : Int)] 39)
abbrev setW (w : World) (b : Nat) (X : Nat → Nat) : World := (((w.setCell ⟨b, 0, none⟩ (.int .u64 ((X 0 : Nat) : Int))).setCell ⟨b, 1, none⟩ (.int .u64 ((X 1 : Nat) : Int))).setCell ⟨b, 2, none⟩ (.int .u64 ((X 2 : Nat) : Int))).setCell ⟨b, 3, none⟩ (.int .u64 ((X 3 : Nat) : Int))
theorem WbAt.set {w : World} {b : Nat} {X : Nat → Nat} (h : WbAt w b X) (Y : Nat → Nat) : WbAt (setW w b Y) b Y := quad_set h
theorem WbAt.keep {w w' : World} {b : Nat} {X : Nat → Nat} (h : WbAt w b X) (hb : Below w.heap.size w w') : WbAt w' b X := (hb.block b (block_lt h)).trans h
theorem bel_setW {B b : Nat} {a w : World} (h : Below B a w) (hb : B ≤ b) (X : Nat → Nat) : Below B a (setW w b X) := (((h.setCell (p := ⟨b, 0, none⟩) hb _).setCell (p := ⟨b, 1, none⟩) hb _).setCell (p := ⟨b, 2, none⟩) hb _).setCell (p := ⟨b, 3, none⟩) hb _
theorem but_setW {B b : Nat} {a w : World} (h : But B b a w) (X : Nat → Nat) : But B b a (setW w b X) := but_setF (but_setF (but_setF (but_setF h _) _) _) _
theorem orB_comm (a b : Nat → Nat) : orB a b = orB b a := funext fun i => Nat.or_comm _ _
theorem bv_or {a b : Nat → Nat} (h : leB b a) : bv (orB a b) = bv a := by
  show Value.agg _ = Value.agg _
  rw [h.or_eq 0 (by omega), h.or_eq 1 (by omega), h.or_eq 2 (by omega), h.or_eq 3 (by omega)]
theorem mix_le (a b : Nat → Nat) (w : World) (ha : okB a) (hb : okB b) (h : leB b a) : Calls Try.prog 10 #[.int .i64 0, bv a, bv b] w fun e w' => e = .returned (bv a) ∧ Below w.heap.size w w' := by
  have k := rmix_or a b w ha hb
  have e : (Value.agg #[.int .u64 ((orB a b 0 : Nat) : Int), .int .u64 ((orB a b 1 : Nat) : Int), .int .u64 ((orB a b 2 : Nat) : Int), .int .u64 ((orB a b 3 : Nat) : Int)]) = bv a := bv_or h
  rw [e] at k
  exact k
theorem eq_bv (n : Nat) (hn : n = 9999 ∨ n = 10000) (a b : Nat → Nat) (h : ∀ j, j < 4 → a j = b j) (w : World) : (Op.equalIn n 39 (bv a) (bv b)).run Try.prog w = .ok true w := by
  have e : bv a = bv b := by
    show Value.agg _ = Value.agg _
    rw [h 0 (by omega), h 1 (by omega), h 2 (by omega), h 3 (by omega)]
  rw [e]
  rcases hn with rfl | rfl
  · rw [Try.eqBytes9]; simp
  · rw [Try.eqBytes]; simp
/-- A set's name is there. -/
theorem may_name {n : Nat} {s : Sy} (h : maySym n s = true) (hn : s.name ≠ -1) : ∃ y : Nat, s.name = (y : Int) ∧ y < n := by
  unfold maySym at h
  rw [if_neg hn] at h
  simp only [Bool.and_eq_true] at h
  have h2 := h.1
  unfold isNum at h2
  simp only [Bool.and_eq_true, decide_eq_true_eq] at h2
  exact ⟨s.name.toNat, by omega, by omega⟩
theorem may_range {n : Nat} {s : Sy} (h : maySym n s = true) (hn : s.name = -1) : ∃ a b : Nat, s.lo = (a : Int) ∧ s.hi = (b : Int) ∧ a ≤ b ∧ b < 256 := by
  unfold maySym at h
  rw [if_pos hn] at h
  simp only [Bool.and_eq_true, decide_eq_true_eq] at h
  exact ⟨s.lo.toNat, s.hi.toNat, by omega, by omega, by omega, by omega⟩
/-- What is coming of a row and of what stands behind it. -/
theorem com_parts (E : Nat → Bool) (B : Nat → Nat → Nat) (c : Fo) : ∀ l, leB (comT E B l).1 (comF E B c l).1 ∧ (empB E l = true → leF c (comF E B c l))
  | [] => ⟨leB_zero _, fun _ => leF.refl _⟩
  | s :: l => by
    obtain ⟨i1, i2⟩ := com_parts E B c l
    refine ⟨?_, fun h => ?_⟩
    · rw [comF_com]
      exact (com_mono (fun _ e => e) (fun _ => leB.refl _) ⟨leB_zero _, fun e => by cases e⟩ (s :: l)).1
    · have h : (symB E s && empB E l) = true := h
      rw [Bool.and_eq_true] at h
      obtain ⟨h1, h2⟩ := h
      unfold symB at h1
      simp only [Bool.and_eq_true, decide_eq_true_eq] at h1
      show leF c (aheadT E B s (comF E B c l))
      unfold aheadT
      rw [if_neg h1.1, if_neg (by rw [h1.2]; decide)]
      exact ⟨(i2 h2).1.trans (leB_right _ _), (i2 h2).2⟩
theorem com_yes {E : Nat → Bool} {B : Nat → Nat → Nat} {y : Nat} {lo up : Int} {c : Fo} (h : E y = true) : (aheadT E B ⟨(y : Int), lo, up⟩ c).1 = orB (B y) c.1 := by
  unfold aheadT
  rw [if_neg (by show ¬ (y : Int) = -1; omega), if_neg (by show ¬ E ((y : Int).toNat) = false; rw [Int.toNat_natCast, h]; decide)]
  show orB (B ((y : Int).toNat)) c.1 = _
  rw [Int.toNat_natCast]
theorem com_no {E : Nat → Bool} {B : Nat → Nat → Nat} {y : Nat} {lo up : Int} {c : Fo} (h : E y = false) : (aheadT E B ⟨(y : Int), lo, up⟩ c).1 = B y := by
  unfold aheadT
  rw [if_neg (by show ¬ (y : Int) = -1; omega), if_pos (by show E ((y : Int).toNat) = false; rw [Int.toNat_natCast, h])]
  show B ((y : Int).toNat) = _
  rw [Int.toNat_natCast]
theorem sym_nm (E : Nat → Bool) (y : Nat) (lo up : Int) : symB E ⟨(y : Int), lo, up⟩ = E y := by
  unfold symB
  show (decide ((y : Int) ≠ -1) && E ((y : Int).toNat)) = E y
  rw [Int.toNat_natCast, decide_eq_true (by omega), Bool.true_and]
theorem drop_cons {α : Type} {l : List α} {k : Nat} {a : α} (h : l[k]? = some a) : l.drop k = a :: l.drop (k + 1) := by
  have hk := (List.getElem?_eq_some_iff.1 h).1
  rw [List.drop_eq_getElem_cons hk]
  have : l[k] = a := (List.getElem?_eq_some_iff.1 h).2
  rw [this]
end Go.Proofs.Ytopokicdgdjgkaa
