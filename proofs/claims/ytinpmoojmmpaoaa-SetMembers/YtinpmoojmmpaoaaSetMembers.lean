/- SetMembers answers true for every lo, hi and c, and leaves them as they were: a range has its bytes and no other ones. No condition. -/
import Derived.Test.YtinpmoojmmpaoaaAwake
import Derived.Test.YtinpmoojmmpaoaaOpen
import Derived.Test.YtinpmoojmmpaoaaFacts
namespace Go.Proofs.Ytinpmoojmmpaoaa
open Go.ChangeShapes Go.WideShapes Go.ChangeAt Go.RowKit

/-- One set in memory; nothing old has turned. -/
def One (w : World) (p : Nat) (A : Nat → Nat) (wc : World) : Prop := Lies wc p A ∧ Below w.heap.size w wc
theorem One.keep {w wc w1 : World} {p : Nat} {A : Nat → Nat} (h : One w p A wc) (hb : Below wc.heap.size wc w1) : One w p A w1 :=
  ⟨h.1.keep hb, h.2.trans (hb.mono h.2.size)⟩

theorem One.alloc {w wc : World} {p : Nat} {A : Nat → Nat} (h : One w p A wc) (o : Obj) : One w p A (wc.alloc o) := h.keep (below1 _ _)

set_option maxHeartbeats 4000000 in
theorem members_core (a b : Nat) (ha : a < 256) (hb : b < 256) (hab : a ≤ b) (lo hi c : Int) (ea : bits .and .i64 lo 255 = (a : Int)) (eb : bits .and .i64 hi 255 = (b : Int)) (A : Nat → Nat) (okA : okB A) (w : World)
    (R1 : ∀ w, Calls Try.prog 9 #[.int .i64 (a : Int), .int .i64 (b : Int)] w fun e w' => e = .returned (.tuple #[.agg #[.int .u64 ((A 0 : Nat) : Int), .int .u64 ((A 1 : Nat) : Int), .int .u64 ((A 2 : Nat) : Int), .int .u64 ((A 3 : Nat) : Int)], .int .i64 0]) ∧ Below w.heap.size w w')
    (t : Bool) (hT : hasZ A c = t) (HT : Hid ((t = true ∧ (a : Int) ≤ c ∧ c ≤ (b : Int)) ∨ (t = false ∧ c < (a : Int)) ∨ (t = false ∧ (a : Int) ≤ c ∧ (b : Int) < c))) (hC : ((cntB A : Nat) : Int) = (b : Int) - (a : Int) + 1) (HR : Hid (runsB A = [(a, b)])) :
    Calls Try.prog 5 #[.int .i64 lo, .int .i64 hi, .int .i64 c] w fun e w' => e = .returned (.bool true) ∧ Below w.heap.size w w' := by
  have heqB := Try.eqBytes
  go_enter Try.func5, Try.ntmps5
  go_wp2_with (go_at_call 23; refine (awake_any _).mono ?_; rintro e w1 ⟨rfl, hb1⟩)
  refine (R1 _).mono ?_
  rintro e w2 ⟨rfl, hb2⟩
  have hS : One w w2.heap.size A (w2.alloc (.cells #[.int .u64 ((A 0 : Nat) : Int), .int .u64 ((A 1 : Nat) : Int), .int .u64 ((A 2 : Nat) : Int), .int .u64 ((A 3 : Nat) : Int)] 24)) :=
    ⟨Lies.new _ _ _ _ rfl, (hb1.trans (hb2.mono hb1.size)).alloc (Nat.le_trans hb1.size hb2.size) _⟩
  clear hb1 hb2
  go_wp2_with fail
  refine (range_no _ _ _ (Or.inl (by omega))).mono ?_
  rintro e w3 ⟨rfl, hb3⟩
  replace hS := (hS.keep hb3).alloc (.cells #[.int .u64 0, .int .u64 0, .int .u64 0, .int .u64 0] 24)
  clear hb3
  go_wp2_with fail
  refine (range_no _ _ _ (Or.inr (Or.inl (by omega)))).mono ?_
  rintro e w4 ⟨rfl, hb4⟩
  replace hS := (hS.keep hb4).alloc (.cells #[.int .u64 0, .int .u64 0, .int .u64 0, .int .u64 0] 24)
  clear hb4 R1
  obtain ⟨⟨a0, a1, a2, a3⟩, -⟩ := hS.1.all
  rcases HT.out with ⟨rfl, h1, h2⟩ | ⟨rfl, h1⟩ | ⟨rfl, h1, h2⟩
  all_goals
    clear HT
    go_wp2_with (first
      | (go_at_call 11; refine (num_any _ _).mono ?_; rintro e w9 ⟨rfl, rfl⟩)
      | (go_at_call 12; refine (has_any A _ _ okA).mono ?_; rintro e w9 ⟨rfl, hb9⟩; replace hS := hS.keep hb9; clear a0 a1 a2 a3; obtain ⟨⟨a0, a1, a2, a3⟩, -⟩ := hS.1.all; clear hb9)
      | (go_at_call 18; refine (count_any A _ okA).mono ?_; rintro e w9 ⟨rfl, hb9⟩; replace hS := hS.keep hb9; clear a0 a1 a2 a3; obtain ⟨⟨a0, a1, a2, a3⟩, -⟩ := hS.1.all; clear hb9))
    refine (ranges_any A _ okA).mono ?_
    rintro e w5 ⟨v, rfl, hown, hb5⟩
    rw [HR.out] at hown
    replace hS := hS.keep hb5
    obtain ⟨p, cap, rfl⟩ := owns_slice hown
    clear a0 a1 a2 a3 hb5
    go_wp2_with fail
    refine (same_any _ _ 1 1 _ 0 [(a, b)] [(a, b)] _ (by omega) (by omega) (hown.alloc _) (World.ownsRow_lit (base := 0) (e := 40) (size := 2) w5 #[.int .i64 (a : Int), .int .i64 (b : Int)] 1 (by omega) (by unfold maxLen; omega) rfl)).mono ?_
    rintro e w6 ⟨rfl, hb6⟩
    have hB : Below w.heap.size w w6 := (hS.alloc _).2.trans (hb6.mono (hS.alloc _).2.size)
    clear hS hown hb6
    go_wp2
    go_ret
    exact ⟨by first | rfl | exact ret_bool (by simp; omega), hB⟩

theorem setMembers_walk (lo : Int) (_wlo : (Lit.int .i64 lo).wf = true) (hi : Int) (_whi : (Lit.int .i64 hi).wf = true) (c : Int) (_wc : (Lit.int .i64 c).wf = true) (w : World) :
    Calls Try.prog 5 #[.int .i64 lo, .int .i64 hi, .int .i64 c] w fun e w' => e = .returned (.bool true) ∧ Below w.heap.size w w' := by
  obtain ⟨a, ha, ea⟩ := and255 lo
  obtain ⟨b, hb, eb⟩ := and255 hi
  have heqB := Try.eqBytes
  by_cases hab : b < a
  · go_enter Try.func5, Try.ntmps5
    go_wp2_with (first
      | (go_at_call 23; refine (awake_any _).mono ?_; rintro e w1 ⟨rfl, hb1⟩)
      | (go_at_call 9; refine (range_no _ _ _ ?_).mono ?_; (exact Or.inr (Or.inr (by omega))); rintro e w2 ⟨rfl, hb2⟩)
      | (go_at_call 11; refine (num_any _ _).mono ?_; rintro e w3 ⟨rfl, rfl⟩))
    go_ret
    exact ⟨rfl, (hb1.trans (hb2.mono hb1.size)).alloc (Nat.le_trans hb1.size hb2.size) _⟩
  · have hH := hasZ_rng a b c hb
    refine members_core a b ha hb (by omega) lo hi c ea eb (rngB a b) (okB_rng _ _) w (fun w => range_yes _ _ w (by omega) (by omega) (by omega)) _ rfl ?_ (by rw [cntB_rng a b (by omega) hb]; omega) (runsB_rng a b (by omega) hb)
    show _ ∨ _ ∨ _
    rw [hH]
    simp only [Bool.and_eq_true, decide_eq_true_eq, Bool.and_eq_false_iff, decide_eq_false_iff_not]
    omega

set_option linter.unusedVariables false
theorem setMembers_own : ownKnob Try.prog.godebug = none := by kernel_rfl
set_option maxRecDepth 100000 in
theorem setMembers_lifted (os : Os) (started : os.Started) (H : Type) (enc : TypeId × Value → H) :
    ReturnsInHanded {} Try.checked os 5 .any (Rows.setMembersSpec.pre6 enc Try.prog Try.f5 Rows.setMembersRow.domain false) (Rows.setMembersSpec.post enc Try.prog Try.f5 false true false false) := by
  refine returnsInHanded_of_change (C := Try.checked) setMembers_own started (by kernel_rfl) Try.func5
    (ChangeSpec.witness6 (enc := enc) (C := Try.checked) false ⟨#[], #[.int .i64 0, .int .i64 0, .int .i64 0], []⟩ 8 (by kernel_rfl) (by kernel_rfl) (by kernel_rfl) (by kernel_rfl)) ?_
  intro W base args ds gs before hval0 hW hcnd _
  have hval : ∀ (j : Nat) t v, Try.f5.params[j]? = some t → args[j]? = some v → Value.okWide Try.prog W .any base t v := hval0
  have hW' := hW
  obtain ⟨p, q, hA0, hV, rfl, hfz, hnd⟩ := hW
  have hA : DataW.TrodAll enc Try.prog W 0 (fun _ => true) true Try.f5.params.toList args.toList ds p := hA0
  rw [Try.params5] at hA hval
  obtain ⟨v0, vs0, d0, ds0, p0, q0, hargs, rfl, rfl, h0, r0⟩ := trodAll_cons hA
  obtain ⟨v1, vs1, d1, ds1, p1, q1, rfl, rfl, rfl, h1, r1⟩ := trodAll_cons r0
  obtain ⟨v2, vs2, d2, ds2, p2, q2, rfl, rfl, rfl, h2, r2⟩ := trodAll_cons r1
  obtain ⟨rfl, rfl, rfl⟩ := trodAll_nil r2
  obtain rfl : args = #[v0, v1, v2] := by cases args; simp_all
  obtain ⟨rfl, rfl⟩ := trodVars_none hV
  obtain ⟨a0, rfl, rfl, rfl, w0⟩ := open_int Try.underlying3 (hval 0 3 v0 rfl rfl) h0
  obtain ⟨a1, rfl, rfl, rfl, w1⟩ := open_int Try.underlying3 (hval 1 3 v1 rfl rfl) h1
  obtain ⟨a2, rfl, rfl, rfl, w2⟩ := open_int Try.underlying3 (hval 2 3 v2 rfl rfl) h2
  clear hA0 hval0
  refine (setMembers_walk a0 w0 a1 w1 a2 w2 W).mono fun e W' ⟨he, bel⟩ => ?_
  subst he
  exact ⟨_, rfl, _, _, _, [], _, [], hW', trodAll_mk1 (shut_bool Try.underlying4 _), (trodAll_cons_mk (shut_int Try.underlying3 w0) (trodAll_cons_mk (shut_int Try.underlying3 w1) (trodAll_cons_mk (shut_int Try.underlying3 w2) trodAll_mk0))), rfl, bel.frame _, fun h => by cases h⟩

theorem setMembers_holds : Rows.SetMembersSaid :=
  OpenClaim.holds_of_wide 5 Try.f5 rfl rfl rfl rfl rfl rfl rfl ⟨rfl, rfl, rfl, rfl, rfl⟩ rfl rfl rfl rfl rfl (by kernel_rfl) Try.func5 (by kernel_rfl)
    (of_decide_eq_true (by kernel_rfl)) (by unfold Func.isWrapper; first | (rw [if_pos (by decide +kernel)]; kernel_rfl) | (rw [if_neg (by decide +kernel)]; exact ⟨rfl, rfl⟩))
    (fun os started H enc _ => setMembers_lifted os started H enc)
#print axioms setMembers_holds
end Go.Proofs.Ytinpmoojmmpaoaa
