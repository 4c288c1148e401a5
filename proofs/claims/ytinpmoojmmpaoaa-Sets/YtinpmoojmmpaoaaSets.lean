/- Sets answers true for every two sets and every two numbers, and leaves them as they were: every call of byteset answers as the document does. No condition. -/
import Derived.Test.YtinpmoojmmpaoaaMem
import Derived.Test.YtinpmoojmmpaoaaOpen
import Derived.Test.YtinpmoojmmpaoaaRef3
import Derived.Deep.RegionHeld3
namespace Go.Proofs.Ytinpmoojmmpaoaa
open Go.ChangeShapes Go.WideShapes Go.ChangeAt Go.RowKit

theorem below_alloc {W w' : World} {o : Obj} (h : Below W.heap.size W w') : Below W.heap.size W (w'.alloc o) := h.alloc h.size o
theorem below_set {W w' : World} {n i : Nat} (h : Below W.heap.size W w') (hn : W.heap.size ≤ n) (v : Value) : Below W.heap.size W (w'.setCell ⟨n, i, none⟩ v) := h.setCell (p := ⟨n, i, none⟩) hn v
theorem below_call {w1 W w2 : World} (h : Below w1.heap.size w1 W) (hb : Below W.heap.size W w2) : Below w1.heap.size w1 w2 := h.trans (hb.mono h.size)
theorem held_sets {w W w' : World} {n9 n11 q r : Nat} {X A B : Nat → Nat} (h : Mem w [(n11, X), (n9, X), (r, B), (q, A)] W) (hb : Below W.heap.size W w') :
    Below W.heap.size W w' ∧ w'.cell? ⟨n9, 0, none⟩ = some (.int .u64 ((X 0 : Nat) : Int)) ∧ w'.cell? ⟨n9, 1, none⟩ = some (.int .u64 ((X 1 : Nat) : Int)) ∧ w'.cell? ⟨n9, 2, none⟩ = some (.int .u64 ((X 2 : Nat) : Int)) ∧ w'.cell? ⟨n9, 3, none⟩ = some (.int .u64 ((X 3 : Nat) : Int)) ∧ w'.cell? ⟨n11, 0, none⟩ = some (.int .u64 ((X 0 : Nat) : Int)) ∧ w'.cell? ⟨n11, 1, none⟩ = some (.int .u64 ((X 1 : Nat) : Int)) ∧ w'.cell? ⟨n11, 2, none⟩ = some (.int .u64 ((X 2 : Nat) : Int)) ∧ w'.cell? ⟨n11, 3, none⟩ = some (.int .u64 ((X 3 : Nat) : Int)) ∧ w'.cell? ⟨q, 0, none⟩ = some (.int .u64 ((A 0 : Nat) : Int)) ∧ w'.cell? ⟨q, 1, none⟩ = some (.int .u64 ((A 1 : Nat) : Int)) ∧ w'.cell? ⟨q, 2, none⟩ = some (.int .u64 ((A 2 : Nat) : Int)) ∧ w'.cell? ⟨q, 3, none⟩ = some (.int .u64 ((A 3 : Nat) : Int)) ∧ w'.cell? ⟨r, 0, none⟩ = some (.int .u64 ((B 0 : Nat) : Int)) ∧ w'.cell? ⟨r, 1, none⟩ = some (.int .u64 ((B 1 : Nat) : Int)) ∧ w'.cell? ⟨r, 2, none⟩ = some (.int .u64 ((B 2 : Nat) : Int)) ∧ w'.cell? ⟨r, 3, none⟩ = some (.int .u64 ((B 3 : Nat) : Int)) := by
  have h' := h.keep hb
  exact ⟨hb, h'.rest.at0.1 0 (by decide), h'.rest.at0.1 1 (by decide), h'.rest.at0.1 2 (by decide), h'.rest.at0.1 3 (by decide), h'.at0.1 0 (by decide), h'.at0.1 1 (by decide), h'.at0.1 2 (by decide), h'.at0.1 3 (by decide), h'.rest.rest.rest.at0.1 0 (by decide), h'.rest.rest.rest.at0.1 1 (by decide), h'.rest.rest.rest.at0.1 2 (by decide), h'.rest.rest.rest.at0.1 3 (by decide), h'.rest.rest.at0.1 0 (by decide), h'.rest.rest.at0.1 1 (by decide), h'.rest.rest.at0.1 2 (by decide), h'.rest.rest.at0.1 3 (by decide)⟩

set_option maxHeartbeats 8000000 in
set_option maxRecDepth 100000 in
theorem sets_core (A B X : Nat → Nat) (okA : okB A) (okB' : okB B) (lo hi E : Int) (n : Nat) (l : List (Nat × Nat)) (hl : l.length ≤ 256)
    (R1 : ∀ w, Calls Try.prog 9 #[.int .i64 lo, .int .i64 hi] w fun e w' => e = .returned (.tuple #[.agg #[.int .u64 ((X 0 : Nat) : Int), .int .u64 ((X 1 : Nat) : Int), .int .u64 ((X 2 : Nat) : Int), .int .u64 ((X 3 : Nat) : Int)], .int .i64 E]) ∧ Below w.heap.size w w')
    (R2 : ∀ w, Calls Try.prog 10 #[.int .i64 lo, .int .i64 hi] w fun e w' => e = .returned (.tuple #[.agg #[.int .u64 ((X 0 : Nat) : Int), .int .u64 ((X 1 : Nat) : Int), .int .u64 ((X 2 : Nat) : Int), .int .u64 ((X 3 : Nat) : Int)], .int .i64 E]) ∧ Below w.heap.size w w')
    (C1 : ∀ w, Calls Try.prog 18 #[.agg #[.int .u64 ((A 0 : Nat) : Int), .int .u64 ((A 1 : Nat) : Int), .int .u64 ((A 2 : Nat) : Int), .int .u64 ((A 3 : Nat) : Int)]] w fun e w' => e = .returned (.int .i64 ((n : Nat) : Int)) ∧ Below w.heap.size w w')
    (C2 : ∀ w, Calls Try.prog 19 #[.agg #[.int .u64 ((A 0 : Nat) : Int), .int .u64 ((A 1 : Nat) : Int), .int .u64 ((A 2 : Nat) : Int), .int .u64 ((A 3 : Nat) : Int)]] w fun e w' => e = .returned (.int .i64 ((n : Nat) : Int)) ∧ Below w.heap.size w w')
    (G1 : ∀ w, Calls Try.prog 21 #[.agg #[.int .u64 ((A 0 : Nat) : Int), .int .u64 ((A 1 : Nat) : Int), .int .u64 ((A 2 : Nat) : Int), .int .u64 ((A 3 : Nat) : Int)]] w fun e w' => ∃ v, e = .returned v ∧ w'.ownsRow w.heap.size 40 2 v l.length (flat l) ∧ Below w.heap.size w w')
    (G2 : ∀ w, Calls Try.prog 22 #[.agg #[.int .u64 ((A 0 : Nat) : Int), .int .u64 ((A 1 : Nat) : Int), .int .u64 ((A 2 : Nat) : Int), .int .u64 ((A 3 : Nat) : Int)]] w fun e w' => ∃ v, e = .returned v ∧ w'.ownsRow w.heap.size 40 2 v l.length (flat l) ∧ Below w.heap.size w w')
    (w : World) :
    Calls Try.prog 3 #[.agg #[.int .u64 ((A 0 : Nat) : Int), .int .u64 ((A 1 : Nat) : Int), .int .u64 ((A 2 : Nat) : Int), .int .u64 ((A 3 : Nat) : Int)], .agg #[.int .u64 ((B 0 : Nat) : Int), .int .u64 ((B 1 : Nat) : Int), .int .u64 ((B 2 : Nat) : Int), .int .u64 ((B 3 : Nat) : Int)], .int .i64 lo, .int .i64 hi] w
      fun e w' => e = .returned (.bool true) ∧ Below w.heap.size w w' := by
  have heqB := Try.eqBytes
  go_enter Try.func3, Try.ntmps3
  go_wp2_with fail
  refine (R1 _).mono ?_
  rintro e w1 ⟨rfl, hb1⟩
  have hS := ((((Mem.none (below2 w (.cells #[.int .u64 ((A 0 : Nat) : Int), .int .u64 ((A 1 : Nat) : Int), .int .u64 ((A 2 : Nat) : Int), .int .u64 ((A 3 : Nat) : Int)] 24) (.cells #[.int .u64 ((B 0 : Nat) : Int), .int .u64 ((B 1 : Nat) : Int), .int .u64 ((B 2 : Nat) : Int), .int .u64 ((B 3 : Nat) : Int)] 24))).add ((Lies.new w A 24 _ rfl).alloc _)).add (Lies.new _ B 24 _ (sz1 _ _))).keep hb1)
  replace hS := (hS.alloc (.cells #[.int .u64 ((X 0 : Nat) : Int), .int .u64 ((X 1 : Nat) : Int), .int .u64 ((X 2 : Nat) : Int), .int .u64 ((X 3 : Nat) : Int)] 24)).add (Lies.new _ _ _ _ rfl)
  clear hb1 R1
  go_wp2_with fail
  refine (R2 _).mono ?_
  rintro e w2 ⟨rfl, hb2⟩
  replace hS := ((hS.keep hb2).alloc (.cells #[.int .u64 ((X 0 : Nat) : Int), .int .u64 ((X 1 : Nat) : Int), .int .u64 ((X 2 : Nat) : Int), .int .u64 ((X 3 : Nat) : Int)] 24)).add (Lies.new _ _ _ _ rfl)
  clear hb2 R2
  go_wp2
  generalize hW : w2.alloc _ = W at hS ⊢
  clear hW
  generalize w1.heap.size = n9 at hS ⊢
  generalize w2.heap.size = n11 at hS ⊢
  simp only [List.append]
  go_region_held3 (fun w' => Below W.heap.size W w' ∧ w'.cell? ⟨n9, 0, none⟩ = some (.int .u64 ((X 0 : Nat) : Int)) ∧ w'.cell? ⟨n9, 1, none⟩ = some (.int .u64 ((X 1 : Nat) : Int)) ∧ w'.cell? ⟨n9, 2, none⟩ = some (.int .u64 ((X 2 : Nat) : Int)) ∧ w'.cell? ⟨n9, 3, none⟩ = some (.int .u64 ((X 3 : Nat) : Int)) ∧ w'.cell? ⟨n11, 0, none⟩ = some (.int .u64 ((X 0 : Nat) : Int)) ∧ w'.cell? ⟨n11, 1, none⟩ = some (.int .u64 ((X 1 : Nat) : Int)) ∧ w'.cell? ⟨n11, 2, none⟩ = some (.int .u64 ((X 2 : Nat) : Int)) ∧ w'.cell? ⟨n11, 3, none⟩ = some (.int .u64 ((X 3 : Nat) : Int)) ∧ w'.cell? ⟨w.heap.size, 0, none⟩ = some (.int .u64 ((A 0 : Nat) : Int)) ∧ w'.cell? ⟨w.heap.size, 1, none⟩ = some (.int .u64 ((A 1 : Nat) : Int)) ∧ w'.cell? ⟨w.heap.size, 2, none⟩ = some (.int .u64 ((A 2 : Nat) : Int)) ∧ w'.cell? ⟨w.heap.size, 3, none⟩ = some (.int .u64 ((A 3 : Nat) : Int)) ∧ w'.cell? ⟨w.heap.size + 1, 0, none⟩ = some (.int .u64 ((B 0 : Nat) : Int)) ∧ w'.cell? ⟨w.heap.size + 1, 1, none⟩ = some (.int .u64 ((B 1 : Nat) : Int)) ∧ w'.cell? ⟨w.heap.size + 1, 2, none⟩ = some (.int .u64 ((B 2 : Nat) : Int)) ∧ w'.cell? ⟨w.heap.size + 1, 3, none⟩ = some (.int .u64 ((B 3 : Nat) : Int)))
    ((refine held_sets hS ?_; (repeat' (first | with_reducible assumption | with_reducible exact Below.refl _ _ | with_reducible apply Below.drew | with_reducible apply below_alloc | with_reducible refine below_set ?_ ?_ _))))
    (first
      | (go_at_call 11; refine (num_any _ _).mono ?_; rintro e w9 ⟨rfl, rfl⟩)
      | (go_at_call 12; refine (has_any _ _ _ ?_).mono ?_; assumption; rintro e w9 ⟨rfl, hb9⟩; refine (fun (hBl : Below W.heap.size W w9) => ?_) ?_; rotate_left; (focus (refine below_call ?_ hb9; (repeat' (first | with_reducible assumption | with_reducible exact Below.refl _ _ | with_reducible apply Below.drew | with_reducible apply below_alloc | with_reducible refine below_set ?_ ?_ _)); done)); (try replace hown1 := owns_keep hown1 hb9); clear hb9)
      | (go_at_call 13; refine (rhas_any _ _ _ ?_).mono ?_; assumption; rintro e w9 ⟨rfl, hb9⟩; refine (fun (hBl : Below W.heap.size W w9) => ?_) ?_; rotate_left; (focus (refine below_call ?_ hb9; (repeat' (first | with_reducible assumption | with_reducible exact Below.refl _ _ | with_reducible apply Below.drew | with_reducible apply below_alloc | with_reducible refine below_set ?_ ?_ _)); done)); (try replace hown1 := owns_keep hown1 hb9); clear hb9)
      | (go_at_call 14; refine (or_any _ _ _ ?_ ?_).mono ?_; assumption; assumption; rintro e w9 ⟨rfl, hb9⟩; refine (fun (hBl : Below W.heap.size W w9) => ?_) ?_; rotate_left; (focus (refine below_call ?_ hb9; (repeat' (first | with_reducible assumption | with_reducible exact Below.refl _ _ | with_reducible apply Below.drew | with_reducible apply below_alloc | with_reducible refine below_set ?_ ?_ _)); done)); (try replace hown1 := owns_keep hown1 hb9); clear hb9)
      | (go_at_call 16; refine (and_any _ _ _ ?_ ?_).mono ?_; assumption; assumption; rintro e w9 ⟨rfl, hb9⟩; refine (fun (hBl : Below W.heap.size W w9) => ?_) ?_; rotate_left; (focus (refine below_call ?_ hb9; (repeat' (first | with_reducible assumption | with_reducible exact Below.refl _ _ | with_reducible apply Below.drew | with_reducible apply below_alloc | with_reducible refine below_set ?_ ?_ _)); done)); (try replace hown1 := owns_keep hown1 hb9); clear hb9)
      | (go_at_call 17; refine (min_any _ _ _ ?_ ?_).mono ?_; assumption; assumption; rintro e w9 ⟨rfl, hb9⟩; refine (fun (hBl : Below W.heap.size W w9) => ?_) ?_; rotate_left; (focus (refine below_call ?_ hb9; (repeat' (first | with_reducible assumption | with_reducible exact Below.refl _ _ | with_reducible apply Below.drew | with_reducible apply below_alloc | with_reducible refine below_set ?_ ?_ _)); done)); (try replace hown1 := owns_keep hown1 hb9); clear hb9)
      | (go_at_call_of 15 (Value.int IntKind.i64 0); refine (rmix_or _ _ _ ?_ ?_).mono ?_; assumption; assumption; rintro e w9 ⟨rfl, hb9⟩; refine (fun (hBl : Below W.heap.size W w9) => ?_) ?_; rotate_left; (focus (refine below_call ?_ hb9; (repeat' (first | with_reducible assumption | with_reducible exact Below.refl _ _ | with_reducible apply Below.drew | with_reducible apply below_alloc | with_reducible refine below_set ?_ ?_ _)); done)); (try replace hown1 := owns_keep hown1 hb9); clear hb9)
      | (go_at_call_of 15 (Value.int IntKind.i64 1); refine (rmix_and _ _ _ ?_ ?_).mono ?_; assumption; assumption; rintro e w9 ⟨rfl, hb9⟩; refine (fun (hBl : Below W.heap.size W w9) => ?_) ?_; rotate_left; (focus (refine below_call ?_ hb9; (repeat' (first | with_reducible assumption | with_reducible exact Below.refl _ _ | with_reducible apply Below.drew | with_reducible apply below_alloc | with_reducible refine below_set ?_ ?_ _)); done)); (try replace hown1 := owns_keep hown1 hb9); clear hb9)
      | (go_at_call_of 15 (Value.int IntKind.i64 2); refine (rmix_min _ _ _ ?_ ?_).mono ?_; assumption; assumption; rintro e w9 ⟨rfl, hb9⟩; refine (fun (hBl : Below W.heap.size W w9) => ?_) ?_; rotate_left; (focus (refine below_call ?_ hb9; (repeat' (first | with_reducible assumption | with_reducible exact Below.refl _ _ | with_reducible apply Below.drew | with_reducible apply below_alloc | with_reducible refine below_set ?_ ?_ _)); done)); (try replace hown1 := owns_keep hown1 hb9); clear hb9)
      | (go_at_call 18; refine (C1 _).mono ?_; rintro e w9 ⟨rfl, hb9⟩; refine (fun (hBl : Below W.heap.size W w9) => ?_) ?_; rotate_left; (focus (refine below_call ?_ hb9; (repeat' (first | with_reducible assumption | with_reducible exact Below.refl _ _ | with_reducible apply Below.drew | with_reducible apply below_alloc | with_reducible refine below_set ?_ ?_ _)); done)); (try replace hown1 := owns_keep hown1 hb9); clear hb9)
      | (go_at_call 19; refine (C2 _).mono ?_; rintro e w9 ⟨rfl, hb9⟩; refine (fun (hBl : Below W.heap.size W w9) => ?_) ?_; rotate_left; (focus (refine below_call ?_ hb9; (repeat' (first | with_reducible assumption | with_reducible exact Below.refl _ _ | with_reducible apply Below.drew | with_reducible apply below_alloc | with_reducible refine below_set ?_ ?_ _)); done)); (try replace hown1 := owns_keep hown1 hb9); clear hb9)
      | (go_at_call 21; refine (G1 _).mono ?_; rintro e w9 ⟨v1, rfl, hown1, hb9⟩; replace hown1 := owns_mono (base' := 0) hown1 (Nat.zero_le _); refine (fun (hBl : Below W.heap.size W w9) => ?_) ?_; rotate_left; (focus (refine below_call ?_ hb9; (repeat' (first | with_reducible assumption | with_reducible exact Below.refl _ _ | with_reducible apply Below.drew | with_reducible apply below_alloc | with_reducible refine below_set ?_ ?_ _)); done)); (try replace hown1 := owns_keep hown1 hb9); clear hb9)
      | (go_at_call 22; refine (G2 _).mono ?_; rintro e w9 ⟨v2, rfl, hown2, hb9⟩; replace hown2 := owns_mono (base' := 0) hown2 (Nat.zero_le _); refine (fun (hBl : Below W.heap.size W w9) => ?_) ?_; rotate_left; (focus (refine below_call ?_ hb9; (repeat' (first | with_reducible assumption | with_reducible exact Below.refl _ _ | with_reducible apply Below.drew | with_reducible apply below_alloc | with_reducible refine below_set ?_ ?_ _)); done)); (try replace hown1 := owns_keep hown1 hb9); clear hb9)
      | (go_at_call 20; refine (same_any _ _ l.length l.length 0 0 l l _ hl hl ?_ ?_).mono ?_; exact hown1; exact hown2; rintro e w9 ⟨rfl, hb9⟩; refine (fun (hBl : Below W.heap.size W w9) => ?_) ?_; rotate_left; (focus (refine below_call ?_ hb9; (repeat' (first | with_reducible assumption | with_reducible exact Below.refl _ _ | with_reducible apply Below.drew | with_reducible apply below_alloc | with_reducible refine below_set ?_ ?_ _)); done)); (try replace hown1 := owns_keep hown1 hb9); clear hb9)
      | (go_at_call 23; refine (awake_any _).mono ?_; rintro e w9 ⟨rfl, hb9⟩; refine (fun (hBl : Below W.heap.size W w9) => ?_) ?_; rotate_left; (focus (refine below_call ?_ hb9; (repeat' (first | with_reducible assumption | with_reducible exact Below.refl _ _ | with_reducible apply Below.drew | with_reducible apply below_alloc | with_reducible refine below_set ?_ ?_ _)); done)); (try replace hown1 := owns_keep hown1 hb9); clear hb9))
  all_goals
    go_wp2
    go_ret
    exact ⟨by first | rfl | exact ret_bool (by simp), hS.2.trans (hBl.mono hS.2.size)⟩

theorem sets_walk (A : Nat → Nat) (okA : okB A) (B : Nat → Nat) (okB' : okB B) (lo : Int) (_wlo : (Lit.int .i64 lo).wf = true) (hi : Int) (_whi : (Lit.int .i64 hi).wf = true) (w : World) :
    Calls Try.prog 3 #[.agg #[.int .u64 ((A 0 : Nat) : Int), .int .u64 ((A 1 : Nat) : Int), .int .u64 ((A 2 : Nat) : Int), .int .u64 ((A 3 : Nat) : Int)], .agg #[.int .u64 ((B 0 : Nat) : Int), .int .u64 ((B 1 : Nat) : Int), .int .u64 ((B 2 : Nat) : Int), .int .u64 ((B 3 : Nat) : Int)], .int .i64 lo, .int .i64 hi] w
      fun e w' => e = .returned (.bool true) ∧ Below w.heap.size w w' := by
  by_cases h : lo < 0 ∨ 255 < hi ∨ hi < lo
  · exact sets_core A B zB okA okB' lo hi 100 (cntB A) (runsB A) (runsB_len A) (fun w => range_no lo hi w h) (fun w => rrange_no lo hi w h) (fun w => count_any A w okA) (fun w => by rw [cntB_to]; exact rcount_any A w okA) (fun w => ranges_any A w okA) (fun w => rranges_any A w okA) w
  · obtain ⟨a, rfl⟩ : ∃ a : Nat, lo = (a : Int) := ⟨lo.toNat, by omega⟩
    obtain ⟨b, rfl⟩ : ∃ b : Nat, hi = (b : Int) := ⟨hi.toNat, by omega⟩
    exact sets_core A B (rngB a b) okA okB' a b 0 (cntB A) (runsB A) (runsB_len A) (fun w => range_yes _ _ w (by omega) (by omega) (by omega)) (fun w => rrange_yes a b w (by omega) (by omega)) (fun w => count_any A w okA) (fun w => by rw [cntB_to]; exact rcount_any A w okA) (fun w => ranges_any A w okA) (fun w => rranges_any A w okA) w

set_option linter.unusedVariables false
theorem sets_own : ownKnob Try.prog.godebug = none := by kernel_rfl
set_option maxRecDepth 100000 in
theorem sets_lifted (os : Os) (started : os.Started) (H : Type) (enc : TypeId × Value → H) :
    ReturnsInHanded {} Try.checked os 3 .any (Rows.setsSpec.pre6 enc Try.prog Try.f3 Rows.setsRow.domain false) (Rows.setsSpec.post enc Try.prog Try.f3 false true false false) := by
  refine returnsInHanded_of_change (C := Try.checked) sets_own started (by kernel_rfl) Try.func3
    (ChangeSpec.witness6 (enc := enc) (C := Try.checked) false ⟨#[], #[.agg #[.int .u64 0, .int .u64 0, .int .u64 0, .int .u64 0], .agg #[.int .u64 0, .int .u64 0, .int .u64 0, .int .u64 0], .int .i64 0, .int .i64 0], []⟩ 8 (by kernel_rfl) (by kernel_rfl) (by kernel_rfl) (by kernel_rfl)) ?_
  intro W base args ds gs before hval0 hW hcnd _
  have hval : ∀ (j : Nat) t v, Try.f3.params[j]? = some t → args[j]? = some v → Value.okWide Try.prog W .any base t v := hval0
  have hW' := hW
  obtain ⟨p, q, hA0, hV, rfl, hfz, hnd⟩ := hW
  have hA : DataW.TrodAll enc Try.prog W 0 (fun _ => true) true Try.f3.params.toList args.toList ds p := hA0
  rw [Try.params3] at hA hval
  obtain ⟨v0, vs0, d0, ds0, p0, q0, hargs, rfl, rfl, h0, r0⟩ := trodAll_cons hA
  obtain ⟨v1, vs1, d1, ds1, p1, q1, rfl, rfl, rfl, h1, r1⟩ := trodAll_cons r0
  obtain ⟨v2, vs2, d2, ds2, p2, q2, rfl, rfl, rfl, h2, r2⟩ := trodAll_cons r1
  obtain ⟨v3, vs3, d3, ds3, p3, q3, rfl, rfl, rfl, h3, r3⟩ := trodAll_cons r2
  obtain ⟨rfl, rfl, rfl⟩ := trodAll_nil r3
  obtain rfl : args = #[v0, v1, v2, v3] := by cases args; simp_all
  obtain ⟨rfl, rfl⟩ := trodVars_none hV
  obtain ⟨a0, w0, rfl, rfl, s0⟩ := open_set (hval 0 24 v0 rfl rfl) h0
  obtain ⟨a1, w1, rfl, rfl, s1⟩ := open_set (hval 1 24 v1 rfl rfl) h1
  obtain ⟨a2, rfl, rfl, rfl, w2⟩ := open_int Try.underlying3 (hval 2 3 v2 rfl rfl) h2
  obtain ⟨a3, rfl, rfl, rfl, w3⟩ := open_int Try.underlying3 (hval 3 3 v3 rfl rfl) h3
  clear hA0 hval0
  refine (sets_walk a0 w0 a1 w1 a2 w2 a3 w3 W).mono fun e W' ⟨he, bel⟩ => ?_
  subst he
  exact ⟨_, rfl, _, _, _, [], _, [], hW', trodAll_mk1 (shut_bool Try.underlying4 _), (trodAll_cons_mk (s0 _ _ _ _) (trodAll_cons_mk (s1 _ _ _ _) (trodAll_cons_mk (shut_int Try.underlying3 w2) (trodAll_cons_mk (shut_int Try.underlying3 w3) trodAll_mk0)))), rfl, bel.frame _, fun h => by cases h⟩

theorem sets_holds : Rows.SetsSaid :=
  OpenClaim.holds_of_wide 3 Try.f3 rfl rfl rfl rfl rfl rfl rfl ⟨rfl, rfl, rfl, rfl, rfl⟩ rfl rfl rfl rfl rfl (by kernel_rfl) Try.func3 (by kernel_rfl)
    (of_decide_eq_true (by kernel_rfl)) (by unfold Func.isWrapper; first | (rw [if_pos (by decide +kernel)]; kernel_rfl) | (rw [if_neg (by decide +kernel)]; exact ⟨rfl, rfl⟩))
    (fun os started H enc _ => sets_lifted os started H enc)
#print axioms sets_holds

end Go.Proofs.Ytinpmoojmmpaoaa
