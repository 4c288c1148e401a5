/- SetLaws answers true for every three sets, and leaves them as they were: the usual laws, by the set of all bytes. No condition. -/
import Derived.Test.YtinpmoojmmpaoaaMem
import Derived.Test.YtinpmoojmmpaoaaOpen
import Derived.Deep.RegionHeld3
import Derived.Deep.CutRange
namespace Go.Proofs.Ytinpmoojmmpaoaa
open Go.ChangeShapes Go.WideShapes Go.ChangeAt Go.RowKit

theorem eq_true (S T : Nat → Nat) (h : ∀ i, i < 4 → S i = T i) : ∀ w, (Op.equalIn 10000 24 (.agg #[.int .u64 ((S 0 : Nat) : Int), .int .u64 ((S 1 : Nat) : Int), .int .u64 ((S 2 : Nat) : Int), .int .u64 ((S 3 : Nat) : Int)]) (.agg #[.int .u64 ((T 0 : Nat) : Int), .int .u64 ((T 1 : Nat) : Int), .int .u64 ((T 2 : Nat) : Int), .int .u64 ((T 3 : Nat) : Int)])).run Try.prog w = .ok true w := fun w => by
  rw [Try.eqBytes, h 0 (by omega), h 1 (by omega), h 2 (by omega), h 3 (by omega)]; simp
theorem below_alloc {W w' : World} {o : Obj} (h : Below W.heap.size W w') : Below W.heap.size W (w'.alloc o) := h.alloc h.size o
theorem below_set {W w' : World} {n i : Nat} (h : Below W.heap.size W w') (hn : W.heap.size ≤ n) (v : Value) : Below W.heap.size W (w'.setCell ⟨n, i, none⟩ v) := h.setCell (p := ⟨n, i, none⟩) hn v
theorem below_call {w1 W w2 : World} (h : Below w1.heap.size w1 W) (hb : Below W.heap.size W w2) : Below w1.heap.size w1 w2 := h.trans (hb.mono h.size)
theorem Lies.put4 {w : World} {n : Nat} {z : Nat → Nat} (h : Lies w n z) (N : Nat → Nat) : Lies ((((w.setCell ⟨n, 0, none⟩ (.int .u64 ((N 0 : Nat) : Int))).setCell ⟨n, 1, none⟩ (.int .u64 ((N 1 : Nat) : Int))).setCell ⟨n, 2, none⟩ (.int .u64 ((N 2 : Nat) : Int))).setCell ⟨n, 3, none⟩ (.int .u64 ((N 3 : Nat) : Int))) n N :=
  ((((h.put 0 _ (by decide)).put 1 _ (by decide)).put 2 _ (by decide)).put 3 _ (by decide)).congr fun j hj => by
    match j, hj with
    | 0, _ => rfl
    | 1, _ => rfl
    | 2, _ => rfl
    | 3, _ => rfl
theorem held_laws {W w' : World} {p q r : Nat} {U A B : Nat → Nat} (h : Lies W p U) (h2 : Lies W q A) (h3 : Lies W r B) (hb : Below W.heap.size W w') :
    Below W.heap.size W w' ∧ w'.cell? ⟨p, 0, none⟩ = some (.int .u64 ((U 0 : Nat) : Int)) ∧ w'.cell? ⟨p, 1, none⟩ = some (.int .u64 ((U 1 : Nat) : Int)) ∧ w'.cell? ⟨p, 2, none⟩ = some (.int .u64 ((U 2 : Nat) : Int)) ∧ w'.cell? ⟨p, 3, none⟩ = some (.int .u64 ((U 3 : Nat) : Int)) ∧ w'.cell? ⟨q, 0, none⟩ = some (.int .u64 ((A 0 : Nat) : Int)) ∧ w'.cell? ⟨q, 1, none⟩ = some (.int .u64 ((A 1 : Nat) : Int)) ∧ w'.cell? ⟨q, 2, none⟩ = some (.int .u64 ((A 2 : Nat) : Int)) ∧ w'.cell? ⟨q, 3, none⟩ = some (.int .u64 ((A 3 : Nat) : Int)) ∧ w'.cell? ⟨r, 0, none⟩ = some (.int .u64 ((B 0 : Nat) : Int)) ∧ w'.cell? ⟨r, 1, none⟩ = some (.int .u64 ((B 1 : Nat) : Int)) ∧ w'.cell? ⟨r, 2, none⟩ = some (.int .u64 ((B 2 : Nat) : Int)) ∧ w'.cell? ⟨r, 3, none⟩ = some (.int .u64 ((B 3 : Nat) : Int)) :=
  ⟨hb, (h.keep hb).1 0 (by decide), (h.keep hb).1 1 (by decide), (h.keep hb).1 2 (by decide), (h.keep hb).1 3 (by decide), (h2.keep hb).1 0 (by decide), (h2.keep hb).1 1 (by decide), (h2.keep hb).1 2 (by decide), (h2.keep hb).1 3 (by decide), (h3.keep hb).1 0 (by decide), (h3.keep hb).1 1 (by decide), (h3.keep hb).1 2 (by decide), (h3.keep hb).1 3 (by decide)⟩

set_option maxHeartbeats 4000000 in
set_option maxRecDepth 100000 in
theorem laws_core (A B C U : Nat → Nat) (okA : okB A) (okB' : okB B) (okC : okB C) (okU : okB U)
    (R1 : ∀ w, Calls Try.prog 9 #[.int .i64 0, .int .i64 255] w fun e w' => e = .returned (.tuple #[.agg #[.int .u64 ((U 0 : Nat) : Int), .int .u64 ((U 1 : Nat) : Int), .int .u64 ((U 2 : Nat) : Int), .int .u64 ((U 3 : Nat) : Int)], .int .i64 0]) ∧ Below w.heap.size w w')
    (C1 : ∀ w, Calls Try.prog 18 #[.agg #[.int .u64 ((U 0 : Nat) : Int), .int .u64 ((U 1 : Nat) : Int), .int .u64 ((U 2 : Nat) : Int), .int .u64 ((U 3 : Nat) : Int)]] w fun e w' => e = .returned (.int .i64 256) ∧ Below w.heap.size w w')
    (Q1 : ∀ w, (Op.equalIn 10000 24 (.agg #[.int .u64 ((minB U (orB A B) 0 : Nat) : Int), .int .u64 ((minB U (orB A B) 1 : Nat) : Int), .int .u64 ((minB U (orB A B) 2 : Nat) : Int), .int .u64 ((minB U (orB A B) 3 : Nat) : Int)]) (.agg #[.int .u64 ((andB (minB U A) (minB U B) 0 : Nat) : Int), .int .u64 ((andB (minB U A) (minB U B) 1 : Nat) : Int), .int .u64 ((andB (minB U A) (minB U B) 2 : Nat) : Int), .int .u64 ((andB (minB U A) (minB U B) 3 : Nat) : Int)])).run Try.prog w = .ok true w)
    (Q2 : ∀ w, (Op.equalIn 10000 24 (.agg #[.int .u64 ((andB A (orB B C) 0 : Nat) : Int), .int .u64 ((andB A (orB B C) 1 : Nat) : Int), .int .u64 ((andB A (orB B C) 2 : Nat) : Int), .int .u64 ((andB A (orB B C) 3 : Nat) : Int)]) (.agg #[.int .u64 ((orB (andB A B) (andB A C) 0 : Nat) : Int), .int .u64 ((orB (andB A B) (andB A C) 1 : Nat) : Int), .int .u64 ((orB (andB A B) (andB A C) 2 : Nat) : Int), .int .u64 ((orB (andB A B) (andB A C) 3 : Nat) : Int)])).run Try.prog w = .ok true w)
    (Q3 : ∀ w, (Op.equalIn 10000 24 (.agg #[.int .u64 ((orB A B 0 : Nat) : Int), .int .u64 ((orB A B 1 : Nat) : Int), .int .u64 ((orB A B 2 : Nat) : Int), .int .u64 ((orB A B 3 : Nat) : Int)]) (.agg #[.int .u64 ((orB B A 0 : Nat) : Int), .int .u64 ((orB B A 1 : Nat) : Int), .int .u64 ((orB B A 2 : Nat) : Int), .int .u64 ((orB B A 3 : Nat) : Int)])).run Try.prog w = .ok true w)
    (Q4 : ∀ w, (Op.equalIn 10000 24 (.agg #[.int .u64 ((orB (orB A B) C 0 : Nat) : Int), .int .u64 ((orB (orB A B) C 1 : Nat) : Int), .int .u64 ((orB (orB A B) C 2 : Nat) : Int), .int .u64 ((orB (orB A B) C 3 : Nat) : Int)]) (.agg #[.int .u64 ((orB A (orB B C) 0 : Nat) : Int), .int .u64 ((orB A (orB B C) 1 : Nat) : Int), .int .u64 ((orB A (orB B C) 2 : Nat) : Int), .int .u64 ((orB A (orB B C) 3 : Nat) : Int)])).run Try.prog w = .ok true w)
    (Q5 : ∀ w, (Op.equalIn 10000 24 (.agg #[.int .u64 ((minB A A 0 : Nat) : Int), .int .u64 ((minB A A 1 : Nat) : Int), .int .u64 ((minB A A 2 : Nat) : Int), .int .u64 ((minB A A 3 : Nat) : Int)]) (.agg #[.int .u64 0, .int .u64 0, .int .u64 0, .int .u64 0])).run Try.prog w = .ok true w)
    (Q6 : ∀ w, (Op.equalIn 10000 24 (.agg #[.int .u64 ((orB A A 0 : Nat) : Int), .int .u64 ((orB A A 1 : Nat) : Int), .int .u64 ((orB A A 2 : Nat) : Int), .int .u64 ((orB A A 3 : Nat) : Int)]) (.agg #[.int .u64 ((A 0 : Nat) : Int), .int .u64 ((A 1 : Nat) : Int), .int .u64 ((A 2 : Nat) : Int), .int .u64 ((A 3 : Nat) : Int)])).run Try.prog w = .ok true w) (w : World) :
    Calls Try.prog 6 #[.agg #[.int .u64 ((A 0 : Nat) : Int), .int .u64 ((A 1 : Nat) : Int), .int .u64 ((A 2 : Nat) : Int), .int .u64 ((A 3 : Nat) : Int)], .agg #[.int .u64 ((B 0 : Nat) : Int), .int .u64 ((B 1 : Nat) : Int), .int .u64 ((B 2 : Nat) : Int), .int .u64 ((B 3 : Nat) : Int)], .agg #[.int .u64 ((C 0 : Nat) : Int), .int .u64 ((C 1 : Nat) : Int), .int .u64 ((C 2 : Nat) : Int), .int .u64 ((C 3 : Nat) : Int)]] w
      fun e w' => e = .returned (.bool true) ∧ Below w.heap.size w w' := by
  have o1 := okB_or okA okB'
  have o2 := okB_min (b := A) okU
  have o3 := okB_min (b := B) okU
  have o4 := okB_or okB' okC
  have o5 := okB_and (b := B) okA
  have o6 := okB_and (b := C) okA
  go_enter Try.func6, Try.ntmps6
  go_wp2_with (go_at_call 23; refine (awake_any _).mono ?_; rintro e w1 ⟨rfl, hb1⟩)
  have hS := ((((Mem.none (below3 w (.cells #[.int .u64 ((A 0 : Nat) : Int), .int .u64 ((A 1 : Nat) : Int), .int .u64 ((A 2 : Nat) : Int), .int .u64 ((A 3 : Nat) : Int)] 24) (.cells #[.int .u64 ((B 0 : Nat) : Int), .int .u64 ((B 1 : Nat) : Int), .int .u64 ((B 2 : Nat) : Int), .int .u64 ((B 3 : Nat) : Int)] 24) (.cells #[.int .u64 ((C 0 : Nat) : Int), .int .u64 ((C 1 : Nat) : Int), .int .u64 ((C 2 : Nat) : Int), .int .u64 ((C 3 : Nat) : Int)] 24))).add (((Lies.new w A 24 _ rfl).alloc _).alloc _)).add ((Lies.new _ B 24 _ (sz1 _ _)).alloc _)).add (Lies.new _ C 24 _ (sz2 _ _ _))).keep hb1
  clear hb1
  refine (R1 _).mono ?_
  rintro e w2 ⟨rfl, hb2⟩
  replace hS := ((hS.keep hb2).alloc (.cells #[.int .u64 ((U 0 : Nat) : Int), .int .u64 ((U 1 : Nat) : Int), .int .u64 ((U 2 : Nat) : Int), .int .u64 ((U 3 : Nat) : Int)] 24)).add (Lies.new _ _ _ _ rfl)
  clear hb2 R1
  go_wp2
  generalize hW : w2.alloc _ = W at hS ⊢
  clear hW
  go_cut [9] from 10 (fun x9 wc => ∃ n9, x9 = .pointer (some ⟨n9, 0, none⟩) ∧ Below W.heap.size W wc ∧ Lies wc n9 (minB U (orB A B)))
  case first =>
    have hU := hS.at0
    have hA := hS.rest.rest.rest.at0
    have hB0 := hS.rest.rest.at0
    go_region_held3 (fun w' => Below W.heap.size W w' ∧ w'.cell? ⟨w2.heap.size, 0, none⟩ = some (.int .u64 ((U 0 : Nat) : Int)) ∧ w'.cell? ⟨w2.heap.size, 1, none⟩ = some (.int .u64 ((U 1 : Nat) : Int)) ∧ w'.cell? ⟨w2.heap.size, 2, none⟩ = some (.int .u64 ((U 2 : Nat) : Int)) ∧ w'.cell? ⟨w2.heap.size, 3, none⟩ = some (.int .u64 ((U 3 : Nat) : Int)) ∧ w'.cell? ⟨w.heap.size, 0, none⟩ = some (.int .u64 ((A 0 : Nat) : Int)) ∧ w'.cell? ⟨w.heap.size, 1, none⟩ = some (.int .u64 ((A 1 : Nat) : Int)) ∧ w'.cell? ⟨w.heap.size, 2, none⟩ = some (.int .u64 ((A 2 : Nat) : Int)) ∧ w'.cell? ⟨w.heap.size, 3, none⟩ = some (.int .u64 ((A 3 : Nat) : Int)) ∧ w'.cell? ⟨w.heap.size + 1, 0, none⟩ = some (.int .u64 ((B 0 : Nat) : Int)) ∧ w'.cell? ⟨w.heap.size + 1, 1, none⟩ = some (.int .u64 ((B 1 : Nat) : Int)) ∧ w'.cell? ⟨w.heap.size + 1, 2, none⟩ = some (.int .u64 ((B 2 : Nat) : Int)) ∧ w'.cell? ⟨w.heap.size + 1, 3, none⟩ = some (.int .u64 ((B 3 : Nat) : Int)))
      ((refine held_laws hU hA hB0 ?_; (repeat' (first | assumption | exact Below.refl _ _ | apply Below.drew | apply below_alloc | (refine below_set ?_ ?_ _))); all_goals omega))
      (first
        | (go_at_call 14; refine (or_any _ _ _ ?_ ?_).mono ?_; assumption; assumption; rintro e w9 ⟨rfl, hb2⟩; have hBl := below_call (w1 := W) (by (repeat' (first | assumption | exact Below.refl _ _ | apply Below.drew | apply below_alloc | (refine below_set ?_ ?_ _)))) hb2; have hs2 := hBl.size; (try (have p1 := Lies.keep (Lies.new0 _ _ _ rfl) hb2; have p1s := p1.lt; obtain ⟨⟨p10, p11, p12, p13⟩, p14, p15, p16, p17⟩ := p1.all)); (try (have p2 := Lies.keep (Lies.new0 _ _ _ rfl).drew hb2; have p2s := p2.lt; obtain ⟨⟨p20, p21, p22, p23⟩, p24, p25, p26, p27⟩ := p2.all)); clear hb2)
        | (go_at_call 17; refine (min_any _ _ _ ?_ ?_).mono ?_; assumption; assumption; rintro e w9 ⟨rfl, hb2⟩; have hBl := below_call (w1 := W) (by (repeat' (first | assumption | exact Below.refl _ _ | apply Below.drew | apply below_alloc | (refine below_set ?_ ?_ _)))) hb2; have hs2 := hBl.size; (try (have p3 := Lies.keep (Lies.new0 _ _ _ rfl) hb2; have p3s := p3.lt; obtain ⟨⟨p30, p31, p32, p33⟩, p34, p35, p36, p37⟩ := p3.all)); (try (replace p1 := p1.keep hb2; have p1s := p1.lt; obtain ⟨⟨p10, p11, p12, p13⟩, p14, p15, p16, p17⟩ := p1.all)); (try (replace p2 := p2.keep hb2; have p2s := p2.lt; obtain ⟨⟨p20, p21, p22, p23⟩, p24, p25, p26, p27⟩ := p2.all)); clear hb2))
    all_goals
      go_wp2
      go_meet
      case rel =>
        refine ⟨_, rfl, ?_, ?_⟩
        · (repeat' (first | assumption | exact Below.refl _ _ | apply Below.drew | apply below_alloc | (refine below_set ?_ ?_ _))) <;> omega
        · first | exact Lies.put4 p1 _ | exact Lies.put4 p2 _ | exact Lies.put4 p3 _ | exact Lies.new _ _ _ _ rfl
  case rest =>
    obtain ⟨n9, rfl, hBc, hN⟩ := hcut
    replace hS := (hS.keep hBc).add hN
    clear hBc hN
    go_wp2
    obtain ⟨ι, f, i0, hf0, hf, hcl⟩ := family (Mem w [(n9, minB U (orB A B)), (w2.heap.size, U), (w.heap.size + 1 + 1, C), (w.heap.size + 1, B), (w.heap.size, A)]) (fun _ _ h hb => h.keep hb) wc.drew hS.drew
    have hne : Nonempty ι := ⟨i0⟩
    have n0 := fun n => ((hf n).at0).1 0 (by decide)
    have n1 := fun n => ((hf n).at0).1 1 (by decide)
    have n2 := fun n => ((hf n).at0).1 2 (by decide)
    have n3 := fun n => ((hf n).at0).1 3 (by decide)
    have u0 := fun n => ((hf n).rest.at0).1 0 (by decide)
    have u1 := fun n => ((hf n).rest.at0).1 1 (by decide)
    have u2 := fun n => ((hf n).rest.at0).1 2 (by decide)
    have u3 := fun n => ((hf n).rest.at0).1 3 (by decide)
    have c0 := fun n => ((hf n).rest.rest.at0).1 0 (by decide)
    have c1 := fun n => ((hf n).rest.rest.at0).1 1 (by decide)
    have c2 := fun n => ((hf n).rest.rest.at0).1 2 (by decide)
    have c3 := fun n => ((hf n).rest.rest.at0).1 3 (by decide)
    have b0 := fun n => ((hf n).rest.rest.rest.at0).1 0 (by decide)
    have b1 := fun n => ((hf n).rest.rest.rest.at0).1 1 (by decide)
    have b2 := fun n => ((hf n).rest.rest.rest.at0).1 2 (by decide)
    have b3 := fun n => ((hf n).rest.rest.rest.at0).1 3 (by decide)
    have a0 := fun n => ((hf n).rest.rest.rest.rest.at0).1 0 (by decide)
    have a1 := fun n => ((hf n).rest.rest.rest.rest.at0).1 1 (by decide)
    have a2 := fun n => ((hf n).rest.rest.rest.rest.at0).1 2 (by decide)
    have a3 := fun n => ((hf n).rest.rest.rest.rest.at0).1 3 (by decide)
    refine region_class f (by kernel_rfl) (by kernel_rfl) ⟨i0, hf0⟩ ?_
    simp only [List.append]
    repeat (go_big_quiet_step ((first | (go_at_call 11; refine (num_any _ _).mono ?_; rintro e w' ⟨rfl, rfl⟩; exact ⟨rfl, ⟨_, rfl⟩⟩) | (go_at_call 18; refine (C1 _).mono ?_; rintro e w' ⟨rfl, hb⟩; exact ⟨rfl, hcl _ _ hb⟩) | (go_at_call 14; refine (or_any _ _ _ ?_ ?_).mono ?_; assumption; assumption; rintro e w' ⟨rfl, hb⟩; exact ⟨rfl, hcl _ _ hb⟩) | (go_at_call 16; refine (and_any _ _ _ ?_ ?_).mono ?_; assumption; assumption; rintro e w' ⟨rfl, hb⟩; exact ⟨rfl, hcl _ _ hb⟩) | (go_at_call 17; refine (min_any _ _ _ ?_ ?_).mono ?_; assumption; assumption; rintro e w' ⟨rfl, hb⟩; exact ⟨rfl, hcl _ _ hb⟩))))
    refine wpQuiet_nil ?_
    intro w5 hw5
    obtain ⟨m, rfl⟩ := hw5
    have hS5 := hf m
    generalize f m = w5 at hS5
    go_wp2
    go_ret
    exact ⟨rfl, hS5.2⟩

theorem setLaws_walk (A : Nat → Nat) (okA : okB A) (B : Nat → Nat) (okB' : okB B) (C : Nat → Nat) (okC : okB C) (w : World) :
    Calls Try.prog 6 #[.agg #[.int .u64 ((A 0 : Nat) : Int), .int .u64 ((A 1 : Nat) : Int), .int .u64 ((A 2 : Nat) : Int), .int .u64 ((A 3 : Nat) : Int)], .agg #[.int .u64 ((B 0 : Nat) : Int), .int .u64 ((B 1 : Nat) : Int), .int .u64 ((B 2 : Nat) : Int), .int .u64 ((B 3 : Nat) : Int)], .agg #[.int .u64 ((C 0 : Nat) : Int), .int .u64 ((C 1 : Nat) : Int), .int .u64 ((C 2 : Nat) : Int), .int .u64 ((C 3 : Nat) : Int)]] w fun e w' => e = .returned (.bool true) ∧ Below w.heap.size w w' := by
  have okU := okB_rng ((0 : Nat) : Int) ((255 : Nat) : Int)
  have hU : ∀ k, k < 256 → hasB (rngB ((0 : Nat) : Int) ((255 : Nat) : Int)) k = true := fun k hk => by
    rw [hasB_rng 0 255 k (by omega), btw_iff]; omega
  have hc : cntB (rngB ((0 : Nat) : Int) ((255 : Nat) : Int)) = 256 := cntB_rng 0 255 (by omega) (by omega)
  refine laws_core A B C (rngB ((0 : Nat) : Int) ((255 : Nat) : Int)) okA okB' okC okU (fun w => range_yes 0 255 w (by omega) (by omega) (by omega)) (fun w => ?_) (eq_true _ _ fun i hi => ?_) (eq_true _ _ fun i hi => ?_) (eq_true _ _ fun i hi => ?_) (eq_true _ _ fun i hi => ?_) (eq_true _ zB fun i hi => ?_) (eq_true _ _ fun i hi => ?_) w
  · have := count_any _ w okU
    rw [hc] at this
    exact this
  · refine word_ext (okB_min okU) (okB_and (okB_min okU)) (fun k hk => ?_) i hi
    rw [hasB_min, hasB_or, hasB_and, hasB_min, hasB_min, hU k hk]
    cases hasB A k <;> cases hasB B k <;> rfl
  · refine word_ext (okB_and okA) (okB_or (okB_and okA) (okB_and okA)) (fun k hk => ?_) i hi
    rw [hasB_and, hasB_or, hasB_or, hasB_and, hasB_and]
    cases hasB A k <;> cases hasB B k <;> cases hasB C k <;> rfl
  · refine word_ext (okB_or okA okB') (okB_or okB' okA) (fun k hk => ?_) i hi
    rw [hasB_or, hasB_or]
    cases hasB A k <;> cases hasB B k <;> rfl
  · refine word_ext (okB_or (okB_or okA okB') okC) (okB_or okA (okB_or okB' okC)) (fun k hk => ?_) i hi
    rw [hasB_or, hasB_or, hasB_or, hasB_or]
    cases hasB A k <;> cases hasB B k <;> cases hasB C k <;> rfl
  · show A i ^^^ (A i &&& A i) = 0
    rw [Nat.and_self, Nat.xor_self]
  · show A i ||| A i = A i
    exact Nat.or_self _

set_option linter.unusedVariables false
theorem setLaws_own : ownKnob Try.prog.godebug = none := by kernel_rfl
set_option maxRecDepth 100000 in
theorem setLaws_lifted (os : Os) (started : os.Started) (H : Type) (enc : TypeId × Value → H) :
    ReturnsInHanded {} Try.checked os 6 .any (Rows.setLawsSpec.pre6 enc Try.prog Try.f6 Rows.setLawsRow.domain false) (Rows.setLawsSpec.post enc Try.prog Try.f6 false true false false) := by
  refine returnsInHanded_of_change (C := Try.checked) setLaws_own started (by kernel_rfl) Try.func6
    (ChangeSpec.witness6 (enc := enc) (C := Try.checked) false ⟨#[], #[.agg #[.int .u64 0, .int .u64 0, .int .u64 0, .int .u64 0], .agg #[.int .u64 0, .int .u64 0, .int .u64 0, .int .u64 0], .agg #[.int .u64 0, .int .u64 0, .int .u64 0, .int .u64 0]], []⟩ 8 (by kernel_rfl) (by kernel_rfl) (by kernel_rfl) (by kernel_rfl)) ?_
  intro W base args ds gs before hval0 hW hcnd _
  have hval : ∀ (j : Nat) t v, Try.f6.params[j]? = some t → args[j]? = some v → Value.okWide Try.prog W .any base t v := hval0
  have hW' := hW
  obtain ⟨p, q, hA0, hV, rfl, hfz, hnd⟩ := hW
  have hA : DataW.TrodAll enc Try.prog W 0 (fun _ => true) true Try.f6.params.toList args.toList ds p := hA0
  rw [Try.params6] at hA hval
  obtain ⟨v0, vs0, d0, ds0, p0, q0, hargs, rfl, rfl, h0, r0⟩ := trodAll_cons hA
  obtain ⟨v1, vs1, d1, ds1, p1, q1, rfl, rfl, rfl, h1, r1⟩ := trodAll_cons r0
  obtain ⟨v2, vs2, d2, ds2, p2, q2, rfl, rfl, rfl, h2, r2⟩ := trodAll_cons r1
  obtain ⟨rfl, rfl, rfl⟩ := trodAll_nil r2
  obtain rfl : args = #[v0, v1, v2] := by cases args; simp_all
  obtain ⟨rfl, rfl⟩ := trodVars_none hV
  obtain ⟨a0, w0, rfl, rfl, s0⟩ := open_set (hval 0 24 v0 rfl rfl) h0
  obtain ⟨a1, w1, rfl, rfl, s1⟩ := open_set (hval 1 24 v1 rfl rfl) h1
  obtain ⟨a2, w2, rfl, rfl, s2⟩ := open_set (hval 2 24 v2 rfl rfl) h2
  clear hA0 hval0
  refine (setLaws_walk a0 w0 a1 w1 a2 w2 W).mono fun e W' ⟨he, bel⟩ => ?_
  subst he
  exact ⟨_, rfl, _, _, _, [], _, [], hW', trodAll_mk1 (shut_bool Try.underlying4 _), (trodAll_cons_mk (s0 _ _ _ _) (trodAll_cons_mk (s1 _ _ _ _) (trodAll_cons_mk (s2 _ _ _ _) trodAll_mk0))), rfl, bel.frame _, fun h => by cases h⟩

theorem setLaws_holds : Rows.SetLawsSaid :=
  OpenClaim.holds_of_wide 6 Try.f6 rfl rfl rfl rfl rfl rfl rfl ⟨rfl, rfl, rfl, rfl, rfl⟩ rfl rfl rfl rfl rfl (by kernel_rfl) Try.func6 (by kernel_rfl)
    (of_decide_eq_true (by kernel_rfl)) (by unfold Func.isWrapper; first | (rw [if_pos (by decide +kernel)]; kernel_rfl) | (rw [if_neg (by decide +kernel)]; exact ⟨rfl, rfl⟩))
    (fun os started H enc _ => setLaws_lifted os started H enc)
#print axioms setLaws_holds
end Go.Proofs.Ytinpmoojmmpaoaa
