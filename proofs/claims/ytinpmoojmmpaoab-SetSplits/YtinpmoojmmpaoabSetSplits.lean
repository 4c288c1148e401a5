/- SetSplits answers true for every three numbers, and leaves them as they were: a range parted at a byte is both parts, which have nothing in common. No condition. -/
import Derived.Test.YtinpmoojmmpaoabMem
import Derived.Test.YtinpmoojmmpaoabOpen
import Derived.Test.YtinpmoojmmpaoabRunFacts
import Derived.Deep.RegionHeld3
namespace Go.Proofs.Ytinpmoojmmpaoab
open Go.ChangeShapes Go.WideShapes Go.ChangeAt Go.RowKit

theorem held_three {w W w' : World} {p q r : Nat} {A B C : Nat → Nat} (h : Mem w [(p, A), (q, B), (r, C)] W) (hb : Below W.heap.size W w') :
    Below W.heap.size W w' ∧ w'.cell? ⟨p, 0, none⟩ = some (.int .u64 ((A 0 : Nat) : Int)) ∧ w'.cell? ⟨p, 1, none⟩ = some (.int .u64 ((A 1 : Nat) : Int)) ∧ w'.cell? ⟨p, 2, none⟩ = some (.int .u64 ((A 2 : Nat) : Int)) ∧ w'.cell? ⟨p, 3, none⟩ = some (.int .u64 ((A 3 : Nat) : Int)) ∧ w'.cell? ⟨q, 0, none⟩ = some (.int .u64 ((B 0 : Nat) : Int)) ∧ w'.cell? ⟨q, 1, none⟩ = some (.int .u64 ((B 1 : Nat) : Int)) ∧ w'.cell? ⟨q, 2, none⟩ = some (.int .u64 ((B 2 : Nat) : Int)) ∧ w'.cell? ⟨q, 3, none⟩ = some (.int .u64 ((B 3 : Nat) : Int)) ∧ w'.cell? ⟨r, 0, none⟩ = some (.int .u64 ((C 0 : Nat) : Int)) ∧ w'.cell? ⟨r, 1, none⟩ = some (.int .u64 ((C 1 : Nat) : Int)) ∧ w'.cell? ⟨r, 2, none⟩ = some (.int .u64 ((C 2 : Nat) : Int)) ∧ w'.cell? ⟨r, 3, none⟩ = some (.int .u64 ((C 3 : Nat) : Int)) := by
  have h' := h.keep hb
  exact ⟨hb, h'.at0.1 0 (by decide), h'.at0.1 1 (by decide), h'.at0.1 2 (by decide), h'.at0.1 3 (by decide), h'.rest.at0.1 0 (by decide), h'.rest.at0.1 1 (by decide), h'.rest.at0.1 2 (by decide), h'.rest.at0.1 3 (by decide), h'.rest.rest.at0.1 0 (by decide), h'.rest.rest.at0.1 1 (by decide), h'.rest.rest.at0.1 2 (by decide), h'.rest.rest.at0.1 3 (by decide)⟩
theorem below_alloc {W w' : World} {o : Obj} (h : Below W.heap.size W w') : Below W.heap.size W (w'.alloc o) := h.alloc h.size o
theorem below_call {w1 W w2 : World} (h : Below w1.heap.size w1 W) (hb : Below W.heap.size W w2) : Below w1.heap.size w1 w2 := h.trans (hb.mono h.size)

set_option maxHeartbeats 2000000 in
set_option maxRecDepth 100000 in
theorem splits_core (a b c : Nat) (hc : c < 256) (_hb : b < 256) (hac : a ≤ c) (hcb : c < b) (lo hi at' : Int) (ea : bits .and .i64 lo 255 = (a : Int)) (eb : bits .and .i64 hi 255 = (b : Int)) (ec : bits .and .i64 at' 255 = (c : Int))
    (X P Q : Nat → Nat) (okX : okB X) (okP : okB P) (okQ : okB Q)
    (R1 : ∀ w, Calls Try.prog 5 #[.int .i64 (a : Int), .int .i64 (b : Int)] w fun e w' => e = .returned (.tuple #[.agg #[.int .u64 ((X 0 : Nat) : Int), .int .u64 ((X 1 : Nat) : Int), .int .u64 ((X 2 : Nat) : Int), .int .u64 ((X 3 : Nat) : Int)], .int .i64 0]) ∧ Below w.heap.size w w')
    (R2 : ∀ w, Calls Try.prog 5 #[.int .i64 (a : Int), .int .i64 (c : Int)] w fun e w' => e = .returned (.tuple #[.agg #[.int .u64 ((P 0 : Nat) : Int), .int .u64 ((P 1 : Nat) : Int), .int .u64 ((P 2 : Nat) : Int), .int .u64 ((P 3 : Nat) : Int)], .int .i64 0]) ∧ Below w.heap.size w w')
    (R3 : ∀ w, Calls Try.prog 5 #[.int .i64 ((c : Int) + 1), .int .i64 (b : Int)] w fun e w' => e = .returned (.tuple #[.agg #[.int .u64 ((Q 0 : Nat) : Int), .int .u64 ((Q 1 : Nat) : Int), .int .u64 ((Q 2 : Nat) : Int), .int .u64 ((Q 3 : Nat) : Int)], .int .i64 0]) ∧ Below w.heap.size w w')
    (e0 : orB P Q 0 = X 0) (e1 : orB P Q 1 = X 1) (e2 : orB P Q 2 = X 2) (e3 : orB P Q 3 = X 3) (C1 : ∀ w, Calls Try.prog 8 #[.agg #[.int .u64 ((andB P Q 0 : Nat) : Int), .int .u64 ((andB P Q 1 : Nat) : Int), .int .u64 ((andB P Q 2 : Nat) : Int), .int .u64 ((andB P Q 3 : Nat) : Int)]] w fun e w' => e = .returned (.int .i64 0) ∧ Below w.heap.size w w')
    (m0 : minB X P 0 = Q 0) (m1 : minB X P 1 = Q 1) (m2 : minB X P 2 = Q 2) (m3 : minB X P 3 = Q 3) (HR : Hid (runsB (orB Q P) = [(a, b)])) (w : World) :
    Calls Try.prog 3 #[.int .i64 lo, .int .i64 hi, .int .i64 at'] w fun e w' => e = .returned (.bool true) ∧ Below w.heap.size w w' := by
  have heqB := Try.eqBytes
  have ok1 : okB (orB P Q) := okB_or okP okQ
  have ok3 : okB (orB Q P) := okB_or okQ okP
  go_enter Try.func3, Try.ntmps3
  go_wp2_with (go_at_call 4; refine (awake_any _).mono ?_; rintro e w1 ⟨rfl, hb1⟩)
  refine (R1 _).mono ?_
  rintro e w2 ⟨rfl, hb2⟩
  have hS := ((Mem.none (hb1.trans (hb2.mono hb1.size))).alloc (.cells #[.int .u64 ((X 0 : Nat) : Int), .int .u64 ((X 1 : Nat) : Int), .int .u64 ((X 2 : Nat) : Int), .int .u64 ((X 3 : Nat) : Int)] 25)).add (Lies.new _ _ _ _ rfl)
  clear hb1 hb2
  go_wp2_with fail
  refine (R2 _).mono ?_
  rintro e w3 ⟨rfl, hb3⟩
  replace hS := ((hS.keep hb3).alloc (.cells #[.int .u64 ((P 0 : Nat) : Int), .int .u64 ((P 1 : Nat) : Int), .int .u64 ((P 2 : Nat) : Int), .int .u64 ((P 3 : Nat) : Int)] 25)).add (Lies.new _ _ _ _ rfl)
  clear hb3
  go_wp2_with fail
  refine (R3 _).mono ?_
  rintro e w4 ⟨rfl, hb4⟩
  replace hS := ((hS.keep hb4).alloc (.cells #[.int .u64 ((Q 0 : Nat) : Int), .int .u64 ((Q 1 : Nat) : Int), .int .u64 ((Q 2 : Nat) : Int), .int .u64 ((Q 3 : Nat) : Int)] 25)).add (Lies.new _ _ _ _ rfl)
  clear hb4 R1 R2 R3
  go_wp2
  generalize hW : w4.alloc _ = W at hS ⊢
  clear hW
  go_region_held3 (fun w' => Below W.heap.size W w' ∧ w'.cell? ⟨w4.heap.size, 0, none⟩ = some (.int .u64 ((Q 0 : Nat) : Int)) ∧ w'.cell? ⟨w4.heap.size, 1, none⟩ = some (.int .u64 ((Q 1 : Nat) : Int)) ∧ w'.cell? ⟨w4.heap.size, 2, none⟩ = some (.int .u64 ((Q 2 : Nat) : Int)) ∧ w'.cell? ⟨w4.heap.size, 3, none⟩ = some (.int .u64 ((Q 3 : Nat) : Int)) ∧ w'.cell? ⟨w3.heap.size, 0, none⟩ = some (.int .u64 ((P 0 : Nat) : Int)) ∧ w'.cell? ⟨w3.heap.size, 1, none⟩ = some (.int .u64 ((P 1 : Nat) : Int)) ∧ w'.cell? ⟨w3.heap.size, 2, none⟩ = some (.int .u64 ((P 2 : Nat) : Int)) ∧ w'.cell? ⟨w3.heap.size, 3, none⟩ = some (.int .u64 ((P 3 : Nat) : Int)) ∧ w'.cell? ⟨w2.heap.size, 0, none⟩ = some (.int .u64 ((X 0 : Nat) : Int)) ∧ w'.cell? ⟨w2.heap.size, 1, none⟩ = some (.int .u64 ((X 1 : Nat) : Int)) ∧ w'.cell? ⟨w2.heap.size, 2, none⟩ = some (.int .u64 ((X 2 : Nat) : Int)) ∧ w'.cell? ⟨w2.heap.size, 3, none⟩ = some (.int .u64 ((X 3 : Nat) : Int)))
      ((refine held_three hS ?_; (repeat' (first | assumption | exact Below.refl _ _ | apply Below.drew | apply below_alloc))))
      (first
        | (go_at_call 6; refine (num_any _ _).mono ?_; rintro e w9 ⟨rfl, rfl⟩)
        | (go_at_call 8; refine (C1 _).mono ?_; rintro e w9 ⟨rfl, hb9⟩; have hB := below_call (w1 := W) (by (repeat' (first | assumption | exact Below.refl _ _ | apply Below.drew | apply below_alloc))) hb9; (try replace lit := owns_keep lit hb9); (try (have lit := owns_keep (World.ownsRow_lit (base := 0) (e := 35) (size := 2) _ #[.int .i64 (a : Int), .int .i64 (b : Int)] 1 (Nat.zero_le _) (by unfold maxLen; omega) rfl) hb9)); (try (have lit := owns_keep (owns_drew (World.ownsRow_lit (base := 0) (e := 35) (size := 2) _ #[.int .i64 (a : Int), .int .i64 (b : Int)] 1 (Nat.zero_le _) (by unfold maxLen; omega) rfl)) hb9)); (try replace hown := owns_keep hown hb9); clear hb9)
        | (go_at_call 7; refine (or_any _ _ _ ?_ ?_).mono ?_; assumption; assumption; rintro e w9 ⟨rfl, hb9⟩; have hB := below_call (w1 := W) (by (repeat' (first | assumption | exact Below.refl _ _ | apply Below.drew | apply below_alloc))) hb9; (try replace lit := owns_keep lit hb9); (try (have lit := owns_keep (World.ownsRow_lit (base := 0) (e := 35) (size := 2) _ #[.int .i64 (a : Int), .int .i64 (b : Int)] 1 (Nat.zero_le _) (by unfold maxLen; omega) rfl) hb9)); (try (have lit := owns_keep (owns_drew (World.ownsRow_lit (base := 0) (e := 35) (size := 2) _ #[.int .i64 (a : Int), .int .i64 (b : Int)] 1 (Nat.zero_le _) (by unfold maxLen; omega) rfl)) hb9)); (try replace hown := owns_keep hown hb9); clear hb9)
        | (go_at_call 9; refine (and_any _ _ _ ?_ ?_).mono ?_; assumption; assumption; rintro e w9 ⟨rfl, hb9⟩; have hB := below_call (w1 := W) (by (repeat' (first | assumption | exact Below.refl _ _ | apply Below.drew | apply below_alloc))) hb9; (try replace lit := owns_keep lit hb9); (try (have lit := owns_keep (World.ownsRow_lit (base := 0) (e := 35) (size := 2) _ #[.int .i64 (a : Int), .int .i64 (b : Int)] 1 (Nat.zero_le _) (by unfold maxLen; omega) rfl) hb9)); (try (have lit := owns_keep (owns_drew (World.ownsRow_lit (base := 0) (e := 35) (size := 2) _ #[.int .i64 (a : Int), .int .i64 (b : Int)] 1 (Nat.zero_le _) (by unfold maxLen; omega) rfl)) hb9)); (try replace hown := owns_keep hown hb9); clear hb9)
        | (go_at_call 10; refine (min_any _ _ _ ?_ ?_).mono ?_; assumption; assumption; rintro e w9 ⟨rfl, hb9⟩; have hB := below_call (w1 := W) (by (repeat' (first | assumption | exact Below.refl _ _ | apply Below.drew | apply below_alloc))) hb9; (try replace lit := owns_keep lit hb9); (try (have lit := owns_keep (World.ownsRow_lit (base := 0) (e := 35) (size := 2) _ #[.int .i64 (a : Int), .int .i64 (b : Int)] 1 (Nat.zero_le _) (by unfold maxLen; omega) rfl) hb9)); (try (have lit := owns_keep (owns_drew (World.ownsRow_lit (base := 0) (e := 35) (size := 2) _ #[.int .i64 (a : Int), .int .i64 (b : Int)] 1 (Nat.zero_le _) (by unfold maxLen; omega) rfl)) hb9)); (try replace hown := owns_keep hown hb9); clear hb9)
        | (go_at_call 12; refine (ranges_any _ _ ?_).mono ?_; assumption; rintro e w9 ⟨v, rfl, hown, hb9⟩; rw [HR.out] at hown; replace hown := owns_mono (base' := 0) hown (Nat.zero_le _); have hB := below_call (w1 := W) (by (repeat' (first | assumption | exact Below.refl _ _ | apply Below.drew | apply below_alloc))) hb9; (try replace lit := owns_keep lit hb9); (try (have lit := owns_keep (World.ownsRow_lit (base := 0) (e := 35) (size := 2) _ #[.int .i64 (a : Int), .int .i64 (b : Int)] 1 (Nat.zero_le _) (by unfold maxLen; omega) rfl) hb9)); (try (have lit := owns_keep (owns_drew (World.ownsRow_lit (base := 0) (e := 35) (size := 2) _ #[.int .i64 (a : Int), .int .i64 (b : Int)] 1 (Nat.zero_le _) (by unfold maxLen; omega) rfl)) hb9)); (try replace hown := owns_keep hown hb9); clear hb9)
        | (go_at_call 11; refine (same_any _ _ 1 1 0 0 [(a, b)] [(a, b)] _ (by decide) (by decide) ?_ ?_).mono ?_; (first | exact hown | exact hown.alloc _); (first | exact lit | exact (World.ownsRow_lit (base := 0) (e := 35) (size := 2) _ #[.int .i64 (a : Int), .int .i64 (b : Int)] 1 (Nat.zero_le _) (by unfold maxLen; omega) rfl)); rintro e w9 ⟨rfl, hb9⟩; have hB := below_call (w1 := W) (by (repeat' (first | assumption | exact Below.refl _ _ | apply Below.drew | apply below_alloc))) hb9; (try replace lit := owns_keep lit hb9); (try (have lit := owns_keep (World.ownsRow_lit (base := 0) (e := 35) (size := 2) _ #[.int .i64 (a : Int), .int .i64 (b : Int)] 1 (Nat.zero_le _) (by unfold maxLen; omega) rfl) hb9)); (try (have lit := owns_keep (owns_drew (World.ownsRow_lit (base := 0) (e := 35) (size := 2) _ #[.int .i64 (a : Int), .int .i64 (b : Int)] 1 (Nat.zero_le _) (by unfold maxLen; omega) rfl)) hb9)); (try replace hown := owns_keep hown hb9); clear hb9))
  all_goals
    go_wp2
    go_ret
    exact ⟨rfl, hS.2.trans (hB.mono hS.2.size)⟩

theorem cntTo_none (p : Nat → Bool) : ∀ k, (∀ j, j < k → p j = false) → cntTo p k = 0
  | 0, _ => rfl
  | k + 1, h => by rw [cntTo_succ, cntTo_none p k (fun j hj => h j (by omega)), h k (by omega)]; rfl

theorem setSplits_walk (lo : Int) (_wlo : (Lit.int .i64 lo).wf = true) (hi : Int) (_whi : (Lit.int .i64 hi).wf = true) (at' : Int) (_wat : (Lit.int .i64 at').wf = true) (w : World) :
    Calls Try.prog 3 #[.int .i64 lo, .int .i64 hi, .int .i64 at'] w fun e w' => e = .returned (.bool true) ∧ Below w.heap.size w w' := by
  obtain ⟨a, ha, ea⟩ := and255 lo
  obtain ⟨b, hb, eb⟩ := and255 hi
  obtain ⟨c, hc, ec⟩ := and255 at'
  by_cases h1 : c < a
  · go_enter Try.func3, Try.ntmps3
    go_wp2_with (go_at_call 4; refine (awake_any _).mono ?_; rintro e w1 ⟨rfl, hb1⟩)
    go_ret
    exact ⟨rfl, hb1⟩
  · by_cases h2 : b ≤ c
    · go_enter Try.func3, Try.ntmps3
      go_wp2_with (go_at_call 4; refine (awake_any _).mono ?_; rintro e w1 ⟨rfl, hb1⟩)
      go_ret
      exact ⟨rfl, hb1⟩
    · have hX : ∀ k, hasB (rngB a b) k = btw a b k := fun k => hasB_rng a b k hb
      have hP : ∀ k, hasB (rngB a c) k = btw a c k := fun k => hasB_rng a c k hc
      have hQ : ∀ k, hasB (rngB ((c : Int) + 1) b) k = btw ((c + 1 : Nat) : Int) b k := fun k => hasB_rng (c + 1) b k hb
      have okX := okB_rng (a : Int) (b : Int)
      have okP := okB_rng (a : Int) (c : Int)
      have okQ := okB_rng ((c : Int) + 1) (b : Int)
      have hor : ∀ k, hasB (orB (rngB a c) (rngB ((c : Int) + 1) b)) k = hasB (rngB a b) k := fun k => by
        rw [hasB_or, hX, hP, hQ, Bool.eq_iff_iff]
        simp only [Bool.or_eq_true, btw_iff]; omega
      have hmin : ∀ k, hasB (minB (rngB a b) (rngB a c)) k = hasB (rngB ((c : Int) + 1) b) k := fun k => by
        rw [hasB_min, hX, hP, hQ, Bool.eq_iff_iff]
        simp only [Bool.and_eq_true, Bool.not_eq_true', btw_iff, btw_false]; omega
      have E := fun i hi => word_ext (okB_or okP okQ) okX (fun k _ => hor k) i hi
      have M := fun i hi => word_ext (okB_min okX) okQ (fun k _ => hmin k) i hi
      have C0 : cntB (andB (rngB a c) (rngB ((c : Int) + 1) b)) = 0 := by
        rw [cntB_to]
        refine cntTo_none _ _ fun k _ => ?_
        rw [hasB_and, hP, hQ, Bool.eq_false_iff]
        simp only [ne_eq, Bool.and_eq_true, btw_iff]; omega
      have hR : runsB (orB (rngB ((c : Int) + 1) b) (rngB a c)) = [(a, b)] := by
        unfold runsB
        rw [runsTo_congr (q := btw a b) 256 (fun k _ => ?_), runsTo_btw a b (by omega), if_pos hb]
        rw [hasB_or, hP, hQ, Bool.eq_iff_iff]
        simp only [Bool.or_eq_true, btw_iff]; omega
      refine splits_core a b c hc hb (by omega) (by omega) lo hi at' ea eb ec _ _ _ okX okP okQ (fun w => range_yes _ _ w (by omega) (by omega) (by omega)) (fun w => range_yes _ _ w (by omega) (by omega) (by omega)) (fun w => range_yes _ _ w (by omega) (by omega) (by omega))
        (E 0 (by omega)) (E 1 (by omega)) (E 2 (by omega)) (E 3 (by omega)) (fun w => ?_) (M 0 (by omega)) (M 1 (by omega)) (M 2 (by omega)) (M 3 (by omega)) hR w
      have := count_any (andB (rngB a c) (rngB ((c : Int) + 1) b)) w (okB_and okP)
      rw [C0] at this
      exact this

set_option linter.unusedVariables false
theorem setSplits_own : ownKnob Try.prog.godebug = none := by kernel_rfl
set_option maxRecDepth 100000 in
theorem setSplits_lifted (os : Os) (started : os.Started) (H : Type) (enc : TypeId × Value → H) :
    ReturnsInHanded {} Try.checked os 3 .any (Rows.setSplitsSpec.pre6 enc Try.prog Try.f3 Rows.setSplitsRow.domain false) (Rows.setSplitsSpec.post enc Try.prog Try.f3 false true false false) := by
  refine returnsInHanded_of_change (C := Try.checked) setSplits_own started (by kernel_rfl) Try.func3
    (ChangeSpec.witness6 (enc := enc) (C := Try.checked) false ⟨#[], #[.int .i64 0, .int .i64 0, .int .i64 0], []⟩ 8 (by kernel_rfl) (by kernel_rfl) (by kernel_rfl) (by kernel_rfl)) ?_
  intro W base args ds gs before hval0 hW hcnd _
  have hval : ∀ (j : Nat) t v, Try.f3.params[j]? = some t → args[j]? = some v → Value.okWide Try.prog W .any base t v := hval0
  have hW' := hW
  obtain ⟨p, q, hA0, hV, rfl, hfz, hnd⟩ := hW
  have hA : DataW.TrodAll enc Try.prog W 0 (fun _ => true) true Try.f3.params.toList args.toList ds p := hA0
  rw [Try.params3] at hA hval
  obtain ⟨v0, vs0, d0, ds0, p0, q0, hargs, rfl, rfl, h0, r0⟩ := trodAll_cons hA
  obtain ⟨v1, vs1, d1, ds1, p1, q1, rfl, rfl, rfl, h1, r1⟩ := trodAll_cons r0
  obtain ⟨v2, vs2, d2, ds2, p2, q2, rfl, rfl, rfl, h2, r2⟩ := trodAll_cons r1
  obtain ⟨rfl, rfl, rfl⟩ := trodAll_nil r2
  obtain rfl : args = #[v0, v1, v2] := by cases args; simp_all
  obtain ⟨rfl, rfl⟩ := trodVars_none hV
  obtain ⟨a0, rfl, rfl, rfl, w0⟩ := open_int Try.underlying3 (hval 0 3 v0 rfl rfl) h0
  obtain ⟨a1, rfl, rfl, rfl, w1⟩ := open_int Try.underlying3 (hval 1 3 v1 rfl rfl) h1
  obtain ⟨a2, rfl, rfl, rfl, w2⟩ := open_int Try.underlying3 (hval 2 3 v2 rfl rfl) h2
  clear hA0 hval0
  refine (setSplits_walk a0 w0 a1 w1 a2 w2 W).mono fun e W' ⟨he, bel⟩ => ?_
  subst he
  exact ⟨_, rfl, _, _, _, [], _, [], hW', trodAll_mk1 (shut_bool Try.underlying4 _), (trodAll_cons_mk (shut_int Try.underlying3 w0) (trodAll_cons_mk (shut_int Try.underlying3 w1) (trodAll_cons_mk (shut_int Try.underlying3 w2) trodAll_mk0))), rfl, bel.frame _, fun h => by cases h⟩

theorem setSplits_holds : Rows.SetSplitsSaid :=
  OpenClaim.holds_of_wide 3 Try.f3 rfl rfl rfl rfl rfl rfl rfl ⟨rfl, rfl, rfl, rfl, rfl⟩ rfl rfl rfl rfl rfl (by kernel_rfl) Try.func3 (by kernel_rfl)
    (of_decide_eq_true (by kernel_rfl)) (by unfold Func.isWrapper; first | (rw [if_pos (by decide +kernel)]; kernel_rfl) | (rw [if_neg (by decide +kernel)]; exact ⟨rfl, rfl⟩))
    (fun os started H enc _ => setSplits_lifted os started H enc)
#print axioms setSplits_holds
end Go.Proofs.Ytinpmoojmmpaoab
