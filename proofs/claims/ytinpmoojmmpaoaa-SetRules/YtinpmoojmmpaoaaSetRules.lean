/- SetRules answers true for every two sets, and leaves them as they were: the sum of both is as great as both parts; runs make the set again. No condition. -/
import Derived.Test.YtinpmoojmmpaoaaMem
import Derived.Test.YtinpmoojmmpaoaaOpen
import Derived.Test.YtinpmoojmmpaoaaRunMore
import Derived.Deep.RegionHeld3
import Derived.Deep.CutRange
namespace Go.Proofs.Ytinpmoojmmpaoaa
open Go.ChangeShapes Go.WideShapes Go.ChangeAt Go.RowKit

theorem eq_true (S T : Nat → Nat) (h : ∀ i, i < 4 → S i = T i) : ∀ w, (Op.equalIn 10000 24 (.agg #[.int .u64 ((S 0 : Nat) : Int), .int .u64 ((S 1 : Nat) : Int), .int .u64 ((S 2 : Nat) : Int), .int .u64 ((S 3 : Nat) : Int)]) (.agg #[.int .u64 ((T 0 : Nat) : Int), .int .u64 ((T 1 : Nat) : Int), .int .u64 ((T 2 : Nat) : Int), .int .u64 ((T 3 : Nat) : Int)])).run Try.prog w = .ok true w := fun w => by
  rw [Try.eqBytes, h 0 (by omega), h 1 (by omega), h 2 (by omega), h 3 (by omega)]; simp
theorem below_alloc {W w' : World} {o : Obj} (h : Below W.heap.size W w') : Below W.heap.size W (w'.alloc o) := h.alloc h.size o
theorem below_set {W w' : World} {n i : Nat} (h : Below W.heap.size W w') (hn : W.heap.size ≤ n) (v : Value) : Below W.heap.size W (w'.setCell ⟨n, i, none⟩ v) := h.setCell (p := ⟨n, i, none⟩) hn v
theorem below_call {w1 W w2 : World} (h : Below w1.heap.size w1 W) (hb : Below W.heap.size W w2) : Below w1.heap.size w1 w2 := h.trans (hb.mono h.size)
theorem Lies.put4 {w : World} {n : Nat} {z : Nat → Nat} (h : Lies w n z) (N : Nat → Nat) : Lies ((((w.setCell ⟨n, 0, none⟩ (.int .u64 ((N 0 : Nat) : Int))).setCell ⟨n, 1, none⟩ (.int .u64 ((N 1 : Nat) : Int))).setCell ⟨n, 2, none⟩ (.int .u64 ((N 2 : Nat) : Int))).setCell ⟨n, 3, none⟩ (.int .u64 ((N 3 : Nat) : Int))) n N :=
  ((((h.put 0 _ (by decide)).put 1 _ (by decide)).put 2 _ (by decide)).put 3 _ (by decide)).congr fun j hj => by
    match j, hj with
    | 0, _ => rfl
    | 1, _ => rfl
    | 2, _ => rfl
    | 3, _ => rfl
theorem Lies.off4 {w : World} {n m : Nat} {z : Nat → Nat} (h : Lies w n z) (hn : m ≠ n) (x0 x1 x2 x3 : Value) : Lies ((((w.setCell ⟨m, 0, none⟩ x0).setCell ⟨m, 1, none⟩ x1).setCell ⟨m, 2, none⟩ x2).setCell ⟨m, 3, none⟩ x3) n z :=
  (((h.other (q := ⟨m, 0, none⟩) hn x0).other (q := ⟨m, 1, none⟩) hn x1).other (q := ⟨m, 2, none⟩) hn x2).other (q := ⟨m, 3, none⟩) hn x3
theorem Lies.keepB {w W w2 : World} {n : Nat} {z : Nat → Nat} (h : Lies w n z) (hW : Below w.heap.size w W) (hb : Below W.heap.size W w2) : Lies w2 n z := (h.keep hW).keep hb
theorem held_two {W w' : World} {p q : Nat} {A B : Nat → Nat} (h : Lies W p A) (h2 : Lies W q B) (hb : Below W.heap.size W w') :
    Below W.heap.size W w' ∧ w'.cell? ⟨p, 0, none⟩ = some (.int .u64 ((A 0 : Nat) : Int)) ∧ w'.cell? ⟨p, 1, none⟩ = some (.int .u64 ((A 1 : Nat) : Int)) ∧ w'.cell? ⟨p, 2, none⟩ = some (.int .u64 ((A 2 : Nat) : Int)) ∧ w'.cell? ⟨p, 3, none⟩ = some (.int .u64 ((A 3 : Nat) : Int)) ∧ w'.cell? ⟨q, 0, none⟩ = some (.int .u64 ((B 0 : Nat) : Int)) ∧ w'.cell? ⟨q, 1, none⟩ = some (.int .u64 ((B 1 : Nat) : Int)) ∧ w'.cell? ⟨q, 2, none⟩ = some (.int .u64 ((B 2 : Nat) : Int)) ∧ w'.cell? ⟨q, 3, none⟩ = some (.int .u64 ((B 3 : Nat) : Int)) :=
  ⟨hb, (h.keep hb).1 0 (by decide), (h.keep hb).1 1 (by decide), (h.keep hb).1 2 (by decide), (h.keep hb).1 3 (by decide), (h2.keep hb).1 0 (by decide), (h2.keep hb).1 1 (by decide), (h2.keep hb).1 2 (by decide), (h2.keep hb).1 3 (by decide)⟩
theorem held_run {W w' : World} {base e n cap g : Nat} {l : List (Nat × Nat)} (h : W.ownsRow base e 2 (.slice (some ⟨g, 0, none⟩) n cap) n (flat l)) (k : Nat) (hk : k < n) {x y : Int} (hx : (((l.getD k (0, 0)).1 : Nat) : Int) = x) (hy : (((l.getD k (0, 0)).2 : Nat) : Int) = y) (hb : Below W.heap.size W w') :
    Below W.heap.size W w' ∧ w'.cell? ⟨g, k * 2, none⟩ = some (.int .i64 x) ∧ w'.cell? ⟨g, k * 2 + 1, none⟩ = some (.int .i64 y) := by
  have := owns_cell_at (owns_keep h hb) k hk
  rw [hx, hy] at this
  exact ⟨hb, this.1, this.2⟩

/-- What holds at the head of the loop's round: the set, its runs, the runs put together so far. -/
def RS (w : World) (n7 b0 : Nat) (A G : Nat → Nat) (v : Value) (l : List (Nat × Nat)) (wr : World) : Prop :=
  Lies wr n7 G ∧ Lies wr w.heap.size A ∧ wr.ownsRow b0 40 2 v l.length (flat l) ∧ n7 < b0 ∧ w.heap.size < n7 ∧ Below w.heap.size w wr
theorem RS.keep {w : World} {n7 b0 : Nat} {A G : Nat → Nat} {v : Value} {l : List (Nat × Nat)} {wr w1 : World} (h : RS w n7 b0 A G v l wr) (hb : Below wr.heap.size wr w1) : RS w n7 b0 A G v l w1 :=
  ⟨h.1.keep hb, h.2.1.keep hb, owns_keep h.2.2.1 hb, h.2.2.2.1, h.2.2.2.2.1, h.2.2.2.2.2.trans (hb.mono h.2.2.2.2.2.size)⟩
theorem RS.drew {w : World} {n7 b0 : Nat} {A G : Nat → Nat} {v : Value} {l : List (Nat × Nat)} {wr : World} (h : RS w n7 b0 A G v l wr) : RS w n7 b0 A G v l wr.drew :=
  ⟨h.1.drew, h.2.1.drew, owns_drew h.2.2.1, h.2.2.2.1, h.2.2.2.2.1, h.2.2.2.2.2.drew⟩
theorem lies_drewN {w : World} {b : Nat} {a : Nat → Nat} (h : Lies w b a) (n : Nat) : Lies (w.drewN n) b a := ⟨fun j hj => h.1 j hj, fun j => h.2 j⟩
theorem Lies.drewN {w : World} {b : Nat} {a : Nat → Nat} (h : Lies w b a) (n : Nat) : Lies (w.drewN n) b a := lies_drewN h n
theorem RS.drewN {w : World} {n7 b0 : Nat} {A G : Nat → Nat} {v : Value} {l : List (Nat × Nat)} {wr : World} (h : RS w n7 b0 A G v l wr) (n : Nat) : RS w n7 b0 A G v l (wr.drewN n) :=
  ⟨h.1.drewN n, h.2.1.drewN n, owns_block h.2.2.1 fun _ _ _ => rfl, h.2.2.2.1, h.2.2.2.2.1, h.2.2.2.2.2.trans ⟨rfl, rfl, rfl, Nat.le_refl _, fun _ _ => rfl⟩⟩
theorem RS.put {w : World} {n7 b0 : Nat} {A G : Nat → Nat} {v : Value} {l : List (Nat × Nat)} {wr : World} (h : RS w n7 b0 A G v l wr) (N : Nat → Nat) :
    RS w n7 b0 A N v l ((((wr.setCell ⟨n7, 0, none⟩ (.int .u64 ((N 0 : Nat) : Int))).setCell ⟨n7, 1, none⟩ (.int .u64 ((N 1 : Nat) : Int))).setCell ⟨n7, 2, none⟩ (.int .u64 ((N 2 : Nat) : Int))).setCell ⟨n7, 3, none⟩ (.int .u64 ((N 3 : Nat) : Int))) := by
  obtain ⟨h1, h2, h3, h4, h5, h6⟩ := h
  refine ⟨h1.put4 N, h2.off4 (by omega) _ _ _ _, ?_, h4, h5, below_put4 h6 (by omega) _ _ _ _⟩
  exact ownsRow_setCell_below (ownsRow_setCell_below (ownsRow_setCell_below (ownsRow_setCell_below h3 (a := ⟨n7, 0, none⟩) h4 _) (a := ⟨n7, 1, none⟩) h4 _) (a := ⟨n7, 2, none⟩) h4 _) (a := ⟨n7, 3, none⟩) h4 _

set_option maxHeartbeats 8000000 in
set_option maxRecDepth 100000 in
theorem rules_core (A B : Nat → Nat) (okA : okB A) (okB' : okB B) (n1 n2 n3 n4 : Nat) (_b1 : n1 ≤ 256) (_b2 : n2 ≤ 256) (_b3 : n3 ≤ 256) (_b4 : n4 ≤ 256)
    (C1 : ∀ w, Calls Try.prog 18 #[.agg #[.int .u64 ((orB A B 0 : Nat) : Int), .int .u64 ((orB A B 1 : Nat) : Int), .int .u64 ((orB A B 2 : Nat) : Int), .int .u64 ((orB A B 3 : Nat) : Int)]] w fun e w' => e = .returned (.int .i64 ((n1 : Nat) : Int)) ∧ Below w.heap.size w w')
    (C2 : ∀ w, Calls Try.prog 18 #[.agg #[.int .u64 ((andB A B 0 : Nat) : Int), .int .u64 ((andB A B 1 : Nat) : Int), .int .u64 ((andB A B 2 : Nat) : Int), .int .u64 ((andB A B 3 : Nat) : Int)]] w fun e w' => e = .returned (.int .i64 ((n2 : Nat) : Int)) ∧ Below w.heap.size w w')
    (C3 : ∀ w, Calls Try.prog 18 #[.agg #[.int .u64 ((A 0 : Nat) : Int), .int .u64 ((A 1 : Nat) : Int), .int .u64 ((A 2 : Nat) : Int), .int .u64 ((A 3 : Nat) : Int)]] w fun e w' => e = .returned (.int .i64 ((n3 : Nat) : Int)) ∧ Below w.heap.size w w')
    (C4 : ∀ w, Calls Try.prog 18 #[.agg #[.int .u64 ((B 0 : Nat) : Int), .int .u64 ((B 1 : Nat) : Int), .int .u64 ((B 2 : Nat) : Int), .int .u64 ((B 3 : Nat) : Int)]] w fun e w' => e = .returned (.int .i64 ((n4 : Nat) : Int)) ∧ Below w.heap.size w w')
    (hn : (((n1 : Nat) : Int) + ((n2 : Nat) : Int) != ((n3 : Nat) : Int) + ((n4 : Nat) : Int)) = false)
    (Q1 : ∀ w, (Op.equalIn 10000 24 (.agg #[.int .u64 ((minB (orB A B) B 0 : Nat) : Int), .int .u64 ((minB (orB A B) B 1 : Nat) : Int), .int .u64 ((minB (orB A B) B 2 : Nat) : Int), .int .u64 ((minB (orB A B) B 3 : Nat) : Int)]) (.agg #[.int .u64 ((minB A B 0 : Nat) : Int), .int .u64 ((minB A B 1 : Nat) : Int), .int .u64 ((minB A B 2 : Nat) : Int), .int .u64 ((minB A B 3 : Nat) : Int)])).run Try.prog w = .ok true w)
    (Q2 : ∀ w, (Op.equalIn 10000 24 (.agg #[.int .u64 ((orB (andB A B) (minB A B) 0 : Nat) : Int), .int .u64 ((orB (andB A B) (minB A B) 1 : Nat) : Int), .int .u64 ((orB (andB A B) (minB A B) 2 : Nat) : Int), .int .u64 ((orB (andB A B) (minB A B) 3 : Nat) : Int)]) (.agg #[.int .u64 ((A 0 : Nat) : Int), .int .u64 ((A 1 : Nat) : Int), .int .u64 ((A 2 : Nat) : Int), .int .u64 ((A 3 : Nat) : Int)])).run Try.prog w = .ok true w)
    (Q3 : ∀ w, (Op.equalIn 10000 24 (.agg #[.int .u64 ((andB (minB A B) B 0 : Nat) : Int), .int .u64 ((andB (minB A B) B 1 : Nat) : Int), .int .u64 ((andB (minB A B) B 2 : Nat) : Int), .int .u64 ((andB (minB A B) B 3 : Nat) : Int)]) (.agg #[.int .u64 0, .int .u64 0, .int .u64 0, .int .u64 0])).run Try.prog w = .ok true w)
    (l : List (Nat × Nat)) (hl : l.length ≤ 256) (HBD : Hid (∀ i, i < l.length → (l.getD i (0, 0)).1 ≤ (l.getD i (0, 0)).2 ∧ (l.getD i (0, 0)).2 < 256))
    (HGAP : Hid (∀ i, i + 1 < l.length → (l.getD i (0, 0)).2 + 1 < (l.getD (i + 1) (0, 0)).1))
    (RG : ∀ w, Calls Try.prog 21 #[.agg #[.int .u64 ((A 0 : Nat) : Int), .int .u64 ((A 1 : Nat) : Int), .int .u64 ((A 2 : Nat) : Int), .int .u64 ((A 3 : Nat) : Int)]] w fun e w' => ∃ v, e = .returned v ∧ w'.ownsRow w.heap.size 40 2 v l.length (flat l) ∧ Below w.heap.size w w')
    (G : Nat → Nat → Nat) (HG0 : Hid (∀ j, G 0 j = 0)) (HG : Hid (∀ k, G (k + 1) = orB (G k) (rngB (((l.getD k (0, 0)).1 : Nat) : Int) (((l.getD k (0, 0)).2 : Nat) : Int)))) (okG : ∀ k, okB (G k))
    (Q4 : ∀ w, (Op.equalIn 10000 24 (.agg #[.int .u64 ((G l.length 0 : Nat) : Int), .int .u64 ((G l.length 1 : Nat) : Int), .int .u64 ((G l.length 2 : Nat) : Int), .int .u64 ((G l.length 3 : Nat) : Int)]) (.agg #[.int .u64 ((A 0 : Nat) : Int), .int .u64 ((A 1 : Nat) : Int), .int .u64 ((A 2 : Nat) : Int), .int .u64 ((A 3 : Nat) : Int)])).run Try.prog w = .ok true w) (w : World) :
    Calls Try.prog 4 #[.agg #[.int .u64 ((A 0 : Nat) : Int), .int .u64 ((A 1 : Nat) : Int), .int .u64 ((A 2 : Nat) : Int), .int .u64 ((A 3 : Nat) : Int)], .agg #[.int .u64 ((B 0 : Nat) : Int), .int .u64 ((B 1 : Nat) : Int), .int .u64 ((B 2 : Nat) : Int), .int .u64 ((B 3 : Nat) : Int)]] w
      fun e w' => e = .returned (.bool true) ∧ Below w.heap.size w w' := by
  have ok1 : okB (orB A B) := okB_or okA okB'
  have ok2 : okB (andB A B) := okB_and okA
  have ok3 : okB (minB A B) := okB_min okA
  go_enter Try.func4, Try.ntmps4
  go_wp2_with fail
  refine (awake_any _).mono ?_
  rintro e w1 ⟨rfl, hb1⟩
  have hA : Lies w1 w.heap.size A := ((Lies.new w A 24 _ rfl).alloc _).keep hb1
  have hB0 : Lies w1 (w.heap.size + 1) B := (Lies.new _ B 24 _ (sz1 _ _)).keep hb1
  have hW1 : Below w.heap.size w w1 := (below2 _ _ _).trans (hb1.mono (by simp; omega))
  clear hb1
  go_wp2
  go_cut [5, 6] from 12 (fun x5 x6 wc => ∃ n5 n6, x5 = .pointer (some ⟨n5, 0, none⟩) ∧ x6 = .pointer (some ⟨n6, 0, none⟩) ∧ Below w1.heap.size w1 wc ∧ Lies wc n5 (orB A B) ∧ Lies wc n6 (andB A B))
  case first =>
    clear C1 C2 C3 C4 Q1 Q2 Q3 Q4 RG okG hn
    go_region_held3 (fun w' => Below w1.heap.size w1 w' ∧ w'.cell? ⟨w.heap.size, 0, none⟩ = some (.int .u64 ((A 0 : Nat) : Int)) ∧ w'.cell? ⟨w.heap.size, 1, none⟩ = some (.int .u64 ((A 1 : Nat) : Int)) ∧ w'.cell? ⟨w.heap.size, 2, none⟩ = some (.int .u64 ((A 2 : Nat) : Int)) ∧ w'.cell? ⟨w.heap.size, 3, none⟩ = some (.int .u64 ((A 3 : Nat) : Int)) ∧ w'.cell? ⟨w.heap.size + 1, 0, none⟩ = some (.int .u64 ((B 0 : Nat) : Int)) ∧ w'.cell? ⟨w.heap.size + 1, 1, none⟩ = some (.int .u64 ((B 1 : Nat) : Int)) ∧ w'.cell? ⟨w.heap.size + 1, 2, none⟩ = some (.int .u64 ((B 2 : Nat) : Int)) ∧ w'.cell? ⟨w.heap.size + 1, 3, none⟩ = some (.int .u64 ((B 3 : Nat) : Int)))
      ((refine held_two hA hB0 ?_; (repeat' (first | with_reducible assumption | with_reducible exact Below.refl _ _ | with_reducible apply Below.drew | with_reducible apply below_alloc | with_reducible refine below_set ?_ ?_ _)); all_goals omega))
      (first
        | (go_at_call 14; refine (or_any _ _ _ ?_ ?_).mono ?_; assumption; assumption; rintro e w8 ⟨rfl, hb2⟩; refine (fun (hBl : Below w1.heap.size w1 w8) => ?_) ?_; rotate_left; (focus (refine below_call ?_ hb2; (repeat' (first | with_reducible assumption | with_reducible exact Below.refl _ _ | with_reducible apply Below.drew | with_reducible apply below_alloc | with_reducible refine below_set ?_ ?_ _)); done)); have hs2 := hBl.size; (try (refine (fun (pa : Lies w8 w1.heap.size zB) => ?_) ?_; rotate_left; (focus (refine Lies.keepB (Lies.new0 w1 24 _ rfl) ?_ hb2; (repeat' (first | with_reducible assumption | with_reducible exact Below.refl _ _ | with_reducible apply Below.drew | with_reducible apply below_alloc | with_reducible refine below_set ?_ ?_ _)); done)); have pas := pa.lt; have pan := Nat.ne_of_lt pas; have pam := Nat.ne_of_gt pas; obtain ⟨⟨pa0, pa1, pa2, pa3⟩, pa4, pa5, pa6, pa7⟩ := pa.all)); (try (refine (fun (pb : Lies w8 (w1.heap.size + 1) zB) => ?_) ?_; rotate_left; (focus (refine Lies.keepB (Lies.new0 (w1.alloc (.cells #[.int .u64 0, .int .u64 0, .int .u64 0, .int .u64 0] 24)) 24 _ (sz1 _ _)) ?_ hb2; (repeat' (first | with_reducible assumption | with_reducible exact Below.refl _ _ | with_reducible apply Below.drew | with_reducible apply below_alloc | with_reducible refine below_set ?_ ?_ _)); done)); have pbs := pb.lt; have pbn := Nat.ne_of_lt pbs; have pbm := Nat.ne_of_gt pbs; obtain ⟨⟨pb0, pb1, pb2, pb3⟩, pb4, pb5, pb6, pb7⟩ := pb.all)); clear hb2)
        | (go_at_call 16; refine (and_any _ _ _ ?_ ?_).mono ?_; assumption; assumption; rintro e w9 ⟨rfl, hb2⟩; refine (fun (hBl : Below w1.heap.size w1 w9) => ?_) ?_; rotate_left; (focus (refine below_call ?_ hb2; (repeat' (first | with_reducible assumption | with_reducible exact Below.refl _ _ | with_reducible apply Below.drew | with_reducible apply below_alloc | with_reducible refine below_set ?_ ?_ _)); done)); have hs2 := hBl.size; (try (refine (fun (pa' : Lies w9 w1.heap.size zB) => ?_) ?_; rotate_left; (focus (refine Lies.keepB pa ?_ hb2; (repeat' (first | with_reducible assumption | with_reducible exact Below.refl _ _ | with_reducible apply Below.drew | with_reducible apply below_alloc | with_reducible refine below_set ?_ ?_ _)); done)); replace pa := pa'; have pas := pa.lt; have pan := Nat.ne_of_lt pas; have pam := Nat.ne_of_gt pas; obtain ⟨⟨pa0, pa1, pa2, pa3⟩, pa4, pa5, pa6, pa7⟩ := pa.all)); (try (refine (fun (pb' : Lies w9 (w1.heap.size + 1) zB) => ?_) ?_; rotate_left; (focus (refine Lies.keepB pb ?_ hb2; (repeat' (first | with_reducible assumption | with_reducible exact Below.refl _ _ | with_reducible apply Below.drew | with_reducible apply below_alloc | with_reducible refine below_set ?_ ?_ _)); done)); replace pb := pb'; have pbs := pb.lt; have pbn := Nat.ne_of_lt pbs; have pbm := Nat.ne_of_gt pbs; obtain ⟨⟨pb0, pb1, pb2, pb3⟩, pb4, pb5, pb6, pb7⟩ := pb.all)); (try (refine (fun (qa : Lies w9 w8.heap.size zB) => ?_) ?_; rotate_left; (focus (refine Lies.keepB (Lies.new0 w8 24 _ rfl) ?_ hb2; (repeat' (first | with_reducible assumption | with_reducible exact Below.refl _ _ | with_reducible apply Below.drew | with_reducible apply below_alloc | with_reducible refine below_set ?_ ?_ _)); done)); have qas := qa.lt; have qan := Nat.ne_of_lt qas; have qam := Nat.ne_of_gt qas; obtain ⟨⟨qa0, qa1, qa2, qa3⟩, qa4, qa5, qa6, qa7⟩ := qa.all)); (try (refine (fun (qb : Lies w9 (w8.heap.size + 1) zB) => ?_) ?_; rotate_left; (focus (refine Lies.keepB (Lies.new0 (w8.alloc (.cells #[.int .u64 0, .int .u64 0, .int .u64 0, .int .u64 0] 24)) 24 _ (sz1 _ _)) ?_ hb2; (repeat' (first | with_reducible assumption | with_reducible exact Below.refl _ _ | with_reducible apply Below.drew | with_reducible apply below_alloc | with_reducible refine below_set ?_ ?_ _)); done)); have qbs := qb.lt; have qbn := Nat.ne_of_lt qbs; have qbm := Nat.ne_of_gt qbs; obtain ⟨⟨qb0, qb1, qb2, qb3⟩, qb4, qb5, qb6, qb7⟩ := qb.all)); clear hb2))
    all_goals
      go_wp2
      go_meet
      case rel =>
        refine ⟨_, _, rfl, rfl, ?_, ?_, ?_⟩
        · (repeat' (first | with_reducible assumption | with_reducible exact Below.refl _ _ | with_reducible apply Below.drew | with_reducible apply below_alloc | with_reducible refine below_set ?_ ?_ _)) <;> omega
        all_goals
          repeat' (first | with_reducible assumption | with_reducible refine Lies.new _ _ _ _ ?_ | with_reducible refine Lies.put4 (z := zB) ?_ _ | with_reducible refine Lies.off4 ?_ ?_ _ _ _ _ | with_reducible refine Lies.alloc ?_ _)
          all_goals first | omega | (simp [World.setCell])

  case rest =>
    obtain ⟨n5, n6, rfl, rfl, hBc, hO, hX⟩ := hcut
    have hM : Mem w [(n6, andB A B), (n5, orB A B), (w.heap.size + 1, B), (w.heap.size, A)] wc :=
      ((((Mem.none (hW1.trans (hBc.mono hW1.size))).add (hA.keep hBc)).add (hB0.keep hBc)).add hO).add hX
    clear hBc hO hX hA hB0 hW1
    go_wp2
    obtain ⟨ι, f, i0, hf0, hf, hcl⟩ := family (Mem w [(n6, andB A B), (n5, orB A B), (w.heap.size + 1, B), (w.heap.size, A)]) (fun _ _ h hb => h.keep hb) wc.drew hM.drew
    have hne : Nonempty ι := ⟨i0⟩
    have x0 := fun n => ((hf n).at0).1 0 (by decide)
    have x1 := fun n => ((hf n).at0).1 1 (by decide)
    have x2 := fun n => ((hf n).at0).1 2 (by decide)
    have x3 := fun n => ((hf n).at0).1 3 (by decide)
    have o0 := fun n => ((hf n).rest.at0).1 0 (by decide)
    have o1 := fun n => ((hf n).rest.at0).1 1 (by decide)
    have o2 := fun n => ((hf n).rest.at0).1 2 (by decide)
    have o3 := fun n => ((hf n).rest.at0).1 3 (by decide)
    have b0 := fun n => ((hf n).rest.rest.at0).1 0 (by decide)
    have b1 := fun n => ((hf n).rest.rest.at0).1 1 (by decide)
    have b2 := fun n => ((hf n).rest.rest.at0).1 2 (by decide)
    have b3 := fun n => ((hf n).rest.rest.at0).1 3 (by decide)
    have a0 := fun n => ((hf n).rest.rest.rest.at0).1 0 (by decide)
    have a1 := fun n => ((hf n).rest.rest.rest.at0).1 1 (by decide)
    have a2 := fun n => ((hf n).rest.rest.rest.at0).1 2 (by decide)
    have a3 := fun n => ((hf n).rest.rest.rest.at0).1 3 (by decide)
    refine region_class f (by kernel_rfl) (by kernel_rfl) ⟨i0, hf0⟩ ?_
    clear hf0 hM
    repeat (go_big_quiet_step ((first | (go_at_call_of 18 (orB A B 0); refine (C1 _).mono ?_; rintro e w' ⟨rfl, hb⟩; exact ⟨rfl, hcl _ _ hb⟩) | (go_at_call_of 18 (andB A B 0); refine (C2 _).mono ?_; rintro e w' ⟨rfl, hb⟩; exact ⟨rfl, hcl _ _ hb⟩) | (go_at_call_of 18 (A 0); refine (C3 _).mono ?_; rintro e w' ⟨rfl, hb⟩; exact ⟨rfl, hcl _ _ hb⟩) | (go_at_call_of 18 (B 0); refine (C4 _).mono ?_; rintro e w' ⟨rfl, hb⟩; exact ⟨rfl, hcl _ _ hb⟩) | (go_at_call 14; refine (or_any _ _ _ ?_ ?_).mono ?_; assumption; assumption; rintro e w' ⟨rfl, hb⟩; exact ⟨rfl, hcl _ _ hb⟩) | (go_at_call 16; refine (and_any _ _ _ ?_ ?_).mono ?_; assumption; assumption; rintro e w' ⟨rfl, hb⟩; exact ⟨rfl, hcl _ _ hb⟩) | (go_at_call 17; refine (min_any _ _ _ ?_ ?_).mono ?_; assumption; assumption; rintro e w' ⟨rfl, hb⟩; exact ⟨rfl, hcl _ _ hb⟩))))
    refine wpQuiet_nil ?_
    intro w5 hw5
    obtain ⟨m, rfl⟩ := hw5
    have hS := hf m
    generalize f m = w5 at hS
    clear x0 x1 x2 x3 o0 o1 o2 o3 b0 b1 b2 b3 a0 a1 a2 a3 hcl hf hne i0 C1 C2 C3 C4 Q1 Q2 Q3 hn
    clear f
    obtain ⟨⟨a0, a1, a2, a3⟩, -⟩ := hS.rest.rest.rest.at0.all
    have hz := hS.rest.rest.rest.at0.lt
    go_wp2_with fail
    refine (RG _).mono ?_
    rintro e w6 ⟨v, rfl, hown, hb6⟩
    have hR : RS w w5.heap.size (w5.heap.size + 1) A (G 0) v l w6 := by
      have h1 : Lies (w5.alloc (.cells #[.int .u64 0, .int .u64 0, .int .u64 0, .int .u64 0] 24)) w5.heap.size (G 0) := (Lies.new0 _ _ _ rfl).congr fun j _ => (HG0.out j).symm
      have h2 := hS.rest.rest.rest.at0
      exact ⟨h1.keep hb6, (h2.alloc _).keep hb6, owns_mono hown (by simp), by omega, h2.lt, ((hS.2.alloc hS.2.size _)).trans (hb6.mono (by have := hS.2.size; simp; omega))⟩
    obtain ⟨p, cap, rfl⟩ := owns_slice hown
    clear hown hb6 a0 a1 a2 a3 RG hz
    have HB0 : Hid (w.heap.size < w5.heap.size) := hR.2.2.2.2.1
    clear hS
    go_wp2
    go_loopw [9] (fun i wr => ∃ k : Nat, k ≤ l.length ∧ i = .int .i64 k ∧ RS w w5.heap.size (w5.heap.size + 1) A (G k) (.slice p l.length cap) l wr) (fun i _ => l.length - (intOf i).toNat)
    case atStart => exact ⟨0, by omega, rfl, hR⟩
    case round =>
      clear hR
      obtain ⟨k, hk, rfl, hR⟩ := hrel
      by_cases hlt : k < l.length
      · obtain ⟨g, rfl⟩ := owns_some hR.2.2.1 k hlt
        obtain ⟨q1, q2⟩ := HBD.out k hlt
        have HK : Hid (G (k + 1) = orB (G k) (rngB (((l.getD k (0, 0)).1 : Nat) : Int) (((l.getD k (0, 0)).2 : Nat) : Int))) := HG.out k
        have HGK : Hid (∀ j, k = j + 1 → (l.getD j (0, 0)).2 + 1 < (l.getD k (0, 0)).1) := fun j hj => by subst hj; exact HGAP.out j hlt
        obtain ⟨lo, hlo⟩ : ∃ x, x = (l.getD k (0, 0)).1 := ⟨_, rfl⟩
        obtain ⟨hi, hhi⟩ : ∃ x, x = (l.getD k (0, 0)).2 := ⟨_, rfl⟩
        have HLO : Hid (lo = (l.getD k (0, 0)).1) := hlo
        have HHI : Hid (hi = (l.getD k (0, 0)).2) := hhi
        rw [← hlo, ← hhi] at HK
        rw [← hlo] at HGK
        rw [← hlo, ← hhi] at q1
        rw [← hhi] at q2
        clear hlo hhi
        have RNG := fun w => range_yes (lo : Int) (hi : Int) w (by omega) (by omega) (by omega)
        have okR := okB_rng (lo : Int) (hi : Int)
        have okGk := okG k
        generalize rngB (lo : Int) (hi : Int) = R at HK RNG okR
        go_wp2
        go_cut [10, 11] from 60 to 104 (fun x10 x11 wc => ∃ n10, x10 = .pointer (some ⟨n10, 0, none⟩) ∧ x11 = .int .i64 0 ∧ Below wr.heap.size wr wc ∧ Lies wc n10 R)
        case first =>
          go_region_held3 (fun w' => Below wr.heap.size wr w' ∧ w'.cell? ⟨g, k * 2, none⟩ = some (.int .i64 (lo : Int)) ∧ w'.cell? ⟨g, k * 2 + 1, none⟩ = some (.int .i64 (hi : Int)))
            ((refine held_run hR.2.2.1 k hlt (by rw [HLO.out]) (by rw [HHI.out]) ?_; (repeat' (first | with_reducible assumption | with_reducible exact Below.refl _ _ | with_reducible apply Below.drew | with_reducible apply below_alloc | with_reducible refine below_set ?_ ?_ _)); all_goals omega))
            (first
              | (go_at_call 9; refine (RNG _).mono ?_; rintro e w9 ⟨rfl, hb2⟩; refine (fun (hBl : Below wr.heap.size wr w9) => ?_) ?_; rotate_left; (focus (refine below_call ?_ hb2; (repeat' (first | with_reducible assumption | with_reducible exact Below.refl _ _ | with_reducible apply Below.drew | with_reducible apply below_alloc | with_reducible refine below_set ?_ ?_ _)); done)); have hs2 := hBl.size; (try (refine (fun (pa : Lies w9 wr.heap.size zB) => ?_) ?_; rotate_left; (focus (refine Lies.keepB (Lies.new0 wr 24 _ rfl) ?_ hb2; (repeat' (first | with_reducible assumption | with_reducible exact Below.refl _ _ | with_reducible apply Below.drew | with_reducible apply below_alloc | with_reducible refine below_set ?_ ?_ _)); done)); have pas := pa.lt; have pan := Nat.ne_of_lt pas; have pam := Nat.ne_of_gt pas; obtain ⟨⟨pa0, pa1, pa2, pa3⟩, pa4, pa5, pa6, pa7⟩ := pa.all)); clear hb2))
          all_goals
            go_wp2
            go_meet
            case rel =>
              refine ⟨_, rfl, rfl, ?_, ?_⟩
              · (repeat' (first | with_reducible assumption | with_reducible exact Below.refl _ _ | with_reducible apply Below.drew | with_reducible apply below_alloc | with_reducible refine below_set ?_ ?_ _)) <;> omega
              · repeat' (first | with_reducible assumption | with_reducible refine Lies.new _ _ _ _ ?_ | with_reducible refine Lies.put4 (z := zB) ?_ _ | with_reducible refine Lies.alloc ?_ _)
                all_goals first | omega | (simp [World.setCell])
        case rest =>
          obtain ⟨n10, rfl, rfl, hBc, hN⟩ := hcut
          replace hR := hR.keep hBc
          clear hBc RNG
          obtain ⟨⟨c0, c1, c2, c3⟩, f0, f1, f2, f3⟩ := hR.1.all
          obtain ⟨⟨d0, d1, d2, d3⟩, -⟩ := hN.all
          have cl := (owns_cell_at hR.2.2.1 k hlt).1
          rw [← HLO.out] at cl
          have HE : Hid (∀ wx, RS w w5.heap.size (w5.heap.size + 1) A (orB (G k) R) (.slice (some ⟨g, 0, none⟩) l.length cap) l wx → RS w w5.heap.size (w5.heap.size + 1) A (G (k + 1)) (.slice (some ⟨g, 0, none⟩) l.length cap) l wx) := fun wx h => by rw [HK.out]; exact h
          by_cases hk0 : k = 0
          · subst hk0
            go_wp2
            go_quiet ((go_at_call 11; refine (num_any _ _).mono ?_; rintro e w' ⟨rfl, hw⟩; exact ⟨rfl, ⟨_, hw.symm⟩⟩))
            replace hR := RS.drewN hR nq
            replace hN := Lies.drewN hN nq
            generalize wc.drewN nq = wd at hR hN ⊢
            clear c0 c1 c2 c3 f0 f1 f2 f3 d0 d1 d2 d3 cl
            obtain ⟨⟨c0, c1, c2, c3⟩, f0, f1, f2, f3⟩ := hR.1.all
            obtain ⟨⟨d0, d1, d2, d3⟩, -⟩ := hN.all
            go_wp2_with (go_at_call 14; refine (or_any _ _ _ ?_ ?_).mono ?_; assumption; assumption; rintro e w9 ⟨rfl, hb9⟩; replace hR := hR.keep hb9; clear c0 c1 c2 c3 f0 f1 f2 f3; obtain ⟨⟨c0, c1, c2, c3⟩, f0, f1, f2, f3⟩ := hR.1.all; clear hb9)
            go_roundw
            case rel => exact ⟨0 + 1, by omega, by go_num, HE.out _ (hR.put _)⟩
            case measure => simp [intOf]; omega
          · obtain ⟨j, rfl⟩ : ∃ j, k = j + 1 := ⟨k - 1, by omega⟩
            have cp := (owns_cell_at hR.2.2.1 j (by omega)).2
            have hgp := HGK.out j rfl
            have hb2 := (HBD.out j (by omega)).2
            generalize (l.getD j (0, 0)).2 = ph at cp hgp hb2
            have hnl : ¬ (lo : Int) ≤ (ph : Int) + 1 := by omega
            have hjl : ((j : Nat) : Int) + 1 < ((l.length : Nat) : Int) := by omega
            have hjl2 : ((j : Nat) : Int) < ((l.length : Nat) : Int) := by omega
            clear hgp hk0
            go_wp2
            go_quiet ((go_at_call 11; refine (num_any _ _).mono ?_; rintro e w' ⟨rfl, hw⟩; exact ⟨rfl, ⟨_, hw.symm⟩⟩))
            clear cp
            replace hR := RS.drewN hR nq
            replace hN := Lies.drewN hN nq
            generalize wc.drewN nq = wd at hR hN ⊢
            clear c0 c1 c2 c3 f0 f1 f2 f3 d0 d1 d2 d3 cl
            obtain ⟨⟨c0, c1, c2, c3⟩, f0, f1, f2, f3⟩ := hR.1.all
            obtain ⟨⟨d0, d1, d2, d3⟩, -⟩ := hN.all
            go_wp2_with (go_at_call 14; refine (or_any _ _ _ ?_ ?_).mono ?_; assumption; assumption; rintro e w9 ⟨rfl, hb9⟩; replace hR := hR.keep hb9; clear c0 c1 c2 c3 f0 f1 f2 f3; obtain ⟨⟨c0, c1, c2, c3⟩, f0, f1, f2, f3⟩ := hR.1.all; clear hb9)
            go_roundw
            case rel => exact ⟨j + 1 + 1, by omega, by go_num, HE.out _ (hR.put _)⟩
            case measure => simp [intOf]; omega
      · obtain rfl : k = l.length := by omega
        obtain ⟨⟨c0, c1, c2, c3⟩, -⟩ := hR.1.all
        obtain ⟨⟨a0, a1, a2, a3⟩, -⟩ := hR.2.1.all
        go_wp2
        go_ret
        exact ⟨rfl, hR.2.2.2.2.2⟩


theorem setRules_walk (A : Nat → Nat) (okA : okB A) (B : Nat → Nat) (okB' : okB B) (w : World) :
    Calls Try.prog 4 #[.agg #[.int .u64 ((A 0 : Nat) : Int), .int .u64 ((A 1 : Nat) : Int), .int .u64 ((A 2 : Nat) : Int), .int .u64 ((A 3 : Nat) : Int)], .agg #[.int .u64 ((B 0 : Nat) : Int), .int .u64 ((B 1 : Nat) : Int), .int .u64 ((B 2 : Nat) : Int), .int .u64 ((B 3 : Nat) : Int)]] w
      fun e w' => e = .returned (.bool true) ∧ Below w.heap.size w w' := by
  refine rules_core A B okA okB' (cntB (orB A B)) (cntB (andB A B)) (cntB A) (cntB B) (cntB_le _) (cntB_le _) (cntB_le _) (cntB_le _) (fun w => count_any _ w (okB_or okA okB')) (fun w => count_any _ w (okB_and okA)) (fun w => count_any _ w okA) (fun w => count_any _ w okB') ?_
    (eq_true _ _ fun i hi => ?_) (eq_true _ _ fun i hi => ?_) (eq_true _ zB fun i hi => ?_) (runsB A) (runsB_len A) (run_bound A) (fun i hi => runs_gap (hasB A) 256 i hi) (fun w => ranges_any A w okA) (agB (runsB A)) (fun _ => rfl) (fun k => agB_succ _ k) (okB_ag _) (eq_true _ _ fun i hi => ag_all A okA i hi) w
  · have := cntB_sum A B
    simp; omega
  · refine word_ext (okB_min (okB_or okA okB')) (okB_min okA) (fun k hk => ?_) i hi
    rw [hasB_min, hasB_min, hasB_or]
    cases hasB A k <;> cases hasB B k <;> rfl
  · refine word_ext (okB_or (okB_and okA) (okB_min okA)) okA (fun k hk => ?_) i hi
    rw [hasB_or, hasB_and, hasB_min]
    cases hasB A k <;> cases hasB B k <;> rfl
  · refine word_ext (okB_and (okB_min okA)) (fun _ => by show 0 < _; omega) (fun k hk => ?_) i hi
    rw [hasB_and, hasB_min]
    have : hasB zB k = false := by unfold hasB zB; simp
    rw [this]
    cases hasB A k <;> cases hasB B k <;> rfl

set_option linter.unusedVariables false
theorem setRules_own : ownKnob Try.prog.godebug = none := by kernel_rfl
set_option maxRecDepth 100000 in
theorem setRules_lifted (os : Os) (started : os.Started) (H : Type) (enc : TypeId × Value → H) :
    ReturnsInHanded {} Try.checked os 4 .any (Rows.setRulesSpec.pre6 enc Try.prog Try.f4 Rows.setRulesRow.domain false) (Rows.setRulesSpec.post enc Try.prog Try.f4 false true false false) := by
  refine returnsInHanded_of_change (C := Try.checked) setRules_own started (by kernel_rfl) Try.func4
    (ChangeSpec.witness6 (enc := enc) (C := Try.checked) false ⟨#[], #[.agg #[.int .u64 0, .int .u64 0, .int .u64 0, .int .u64 0], .agg #[.int .u64 0, .int .u64 0, .int .u64 0, .int .u64 0]], []⟩ 8 (by kernel_rfl) (by kernel_rfl) (by kernel_rfl) (by kernel_rfl)) ?_
  intro W base args ds gs before hval0 hW hcnd _
  have hval : ∀ (j : Nat) t v, Try.f4.params[j]? = some t → args[j]? = some v → Value.okWide Try.prog W .any base t v := hval0
  have hW' := hW
  obtain ⟨p, q, hA0, hV, rfl, hfz, hnd⟩ := hW
  have hA : DataW.TrodAll enc Try.prog W 0 (fun _ => true) true Try.f4.params.toList args.toList ds p := hA0
  rw [Try.params4] at hA hval
  obtain ⟨v0, vs0, d0, ds0, p0, q0, hargs, rfl, rfl, h0, r0⟩ := trodAll_cons hA
  obtain ⟨v1, vs1, d1, ds1, p1, q1, rfl, rfl, rfl, h1, r1⟩ := trodAll_cons r0
  obtain ⟨rfl, rfl, rfl⟩ := trodAll_nil r1
  obtain rfl : args = #[v0, v1] := by cases args; simp_all
  obtain ⟨rfl, rfl⟩ := trodVars_none hV
  obtain ⟨a0, w0, rfl, rfl, s0⟩ := open_set (hval 0 24 v0 rfl rfl) h0
  obtain ⟨a1, w1, rfl, rfl, s1⟩ := open_set (hval 1 24 v1 rfl rfl) h1
  clear hA0 hval0
  refine (setRules_walk a0 w0 a1 w1 W).mono fun e W' ⟨he, bel⟩ => ?_
  subst he
  exact ⟨_, rfl, _, _, _, [], _, [], hW', trodAll_mk1 (shut_bool Try.underlying4 _), (trodAll_cons_mk (s0 _ _ _ _) (trodAll_cons_mk (s1 _ _ _ _) trodAll_mk0)), rfl, bel.frame _, fun h => by cases h⟩

theorem setRules_holds : Rows.SetRulesSaid :=
  OpenClaim.holds_of_wide 4 Try.f4 rfl rfl rfl rfl rfl rfl rfl ⟨rfl, rfl, rfl, rfl, rfl⟩ rfl rfl rfl rfl rfl (by kernel_rfl) Try.func4 (by kernel_rfl)
    (of_decide_eq_true (by kernel_rfl)) (by unfold Func.isWrapper; first | (rw [if_pos (by decide +kernel)]; kernel_rfl) | (rw [if_neg (by decide +kernel)]; exact ⟨rfl, rfl⟩))
    (fun os started H enc _ => setRules_lifted os started H enc)
#print axioms setRules_holds
end Go.Proofs.Ytinpmoojmmpaoaa
