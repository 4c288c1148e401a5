/- SetBits answers true for every two sets and every number, and leaves them as they were: each byte is in what it must be. No condition. -/
import Derived.Test.YtinpmoojmmpaoaaClass
import Derived.Test.YtinpmoojmmpaoaaOpen
namespace Go.Proofs.Ytinpmoojmmpaoaa
open Go.ChangeShapes Go.WideShapes Go.ChangeAt Go.RowKit

set_option maxHeartbeats 4000000 in
theorem bits_core (A B : Nat → Nat) (okA : okB A) (okB' : okB B) (c : Int) (k : Nat) (hk : k < 256) (ek : bits .and .i64 c 255 = (k : Int)) (x y : Bool) (hx : hasZ A (k : Int) = x) (hy : hasZ B (k : Int) = y)
    (h1 : hasZ (orB A B) (k : Int) = (x || y)) (h2 : hasZ (andB A B) (k : Int) = (x && y)) (h3 : hasZ (minB A B) (k : Int) = (x && !y)) (h4 : (bits .and .u64 (((A (k / 64) : Nat) : Int) / 2 ^ (k % 64)) 1 == 1) = x)
    (h5 : hasZ A ((k : Int) + 256) = false) (h6 : hasZ A ((k : Int) - 256) = false) (w : World) :
    Calls Try.prog 7 #[.agg #[.int .u64 ((A 0 : Nat) : Int), .int .u64 ((A 1 : Nat) : Int), .int .u64 ((A 2 : Nat) : Int), .int .u64 ((A 3 : Nat) : Int)], .agg #[.int .u64 ((B 0 : Nat) : Int), .int .u64 ((B 1 : Nat) : Int), .int .u64 ((B 2 : Nat) : Int), .int .u64 ((B 3 : Nat) : Int)], .int .i64 c] w
      fun e w' => e = .returned (.bool true) ∧ Below w.heap.size w w' := by
  have ok1 : okB (orB A B) := okB_or okA okB'
  have ok2 : okB (andB A B) := okB_and okA
  have ok3 : okB (minB A B) := okB_min okA
  have hq : k / 64 < 4 := by omega
  go_enter Try.func7, Try.ntmps7
  go_wp2_with fail
  refine (awake_any _).mono ?_
  rintro e w1 ⟨rfl, hb1⟩
  have hS : Two w w.heap.size (w.heap.size + 1) A B w1 :=
    ⟨((Lies.new w A 24 _ rfl).alloc _).keep hb1, (Lies.new _ B 24 _ (sz1 _ _)).keep hb1, (below2 _ _ _).trans (hb1.mono (by simp; omega))⟩
  clear hb1
  go_wp2
  obtain ⟨ι, f, n0, hf0, hf, hcl⟩ := family (Two w w.heap.size (w.heap.size + 1) A B) (fun _ _ h hb => h.keep hb) w1.drew hS.drew
  have hne : Nonempty ι := ⟨n0⟩
  have a0 := fun n => (hf n).1.1 0 (by decide)
  have a1 := fun n => (hf n).1.1 1 (by decide)
  have a2 := fun n => (hf n).1.1 2 (by decide)
  have a3 := fun n => (hf n).1.1 3 (by decide)
  have b0 := fun n => (hf n).2.1.1 0 (by decide)
  have b1 := fun n => (hf n).2.1.1 1 (by decide)
  have b2 := fun n => (hf n).2.1.1 2 (by decide)
  have b3 := fun n => (hf n).2.1.1 3 (by decide)
  refine region_class f (by kernel_rfl) (by kernel_rfl) ⟨n0, hf0⟩ ?_
  clear hf0 hS
  repeat (go_big_quiet_step ((go_at_call 12; refine (has_any _ _ _ ?_).mono ?_; assumption; rintro e w' ⟨rfl, hb⟩; exact ⟨rfl, hcl _ _ hb⟩)))
  refine wpQuiet_nil ?_
  intro w2 hw2
  obtain ⟨m, rfl⟩ := hw2
  have hS := hf m
  generalize f m = w2 at hS
  clear a0 a1 a2 a3 b0 b1 b2 b3 hcl hf hne n0
  clear f
  obtain ⟨⟨a0, a1, a2, a3⟩, -⟩ := hS.1.all
  obtain ⟨⟨b0, b1, b2, b3⟩, -⟩ := hS.2.1.all
  have ak := hS.1.1 (k / 64) hq
  cases x <;> cases y
  all_goals
    go_wp2_with (first
      | (go_at_call 11; refine (num_any _ _).mono ?_; rintro e w9 ⟨rfl, rfl⟩)
      | (go_at_call 12; refine (has_any _ _ _ ?_).mono ?_; assumption; rintro e w9 ⟨rfl, hb9⟩; clear a0 a1 a2 a3 b0 b1 b2 b3 ak; replace hS := hS.keep hb9; obtain ⟨⟨a0, a1, a2, a3⟩, -⟩ := hS.1.all; obtain ⟨⟨b0, b1, b2, b3⟩, -⟩ := hS.2.1.all; have ak := hS.1.1 (k / 64) hq; clear hb9)
      | (go_at_call 14; refine (or_any _ _ _ ?_ ?_).mono ?_; assumption; assumption; rintro e w9 ⟨rfl, hb9⟩; clear a0 a1 a2 a3 b0 b1 b2 b3 ak; replace hS := hS.keep hb9; obtain ⟨⟨a0, a1, a2, a3⟩, -⟩ := hS.1.all; obtain ⟨⟨b0, b1, b2, b3⟩, -⟩ := hS.2.1.all; have ak := hS.1.1 (k / 64) hq; clear hb9)
      | (go_at_call 16; refine (and_any _ _ _ ?_ ?_).mono ?_; assumption; assumption; rintro e w9 ⟨rfl, hb9⟩; clear a0 a1 a2 a3 b0 b1 b2 b3 ak; replace hS := hS.keep hb9; obtain ⟨⟨a0, a1, a2, a3⟩, -⟩ := hS.1.all; obtain ⟨⟨b0, b1, b2, b3⟩, -⟩ := hS.2.1.all; have ak := hS.1.1 (k / 64) hq; clear hb9)
      | (go_at_call 17; refine (min_any _ _ _ ?_ ?_).mono ?_; assumption; assumption; rintro e w9 ⟨rfl, hb9⟩; clear a0 a1 a2 a3 b0 b1 b2 b3 ak; replace hS := hS.keep hb9; obtain ⟨⟨a0, a1, a2, a3⟩, -⟩ := hS.1.all; obtain ⟨⟨b0, b1, b2, b3⟩, -⟩ := hS.2.1.all; have ak := hS.1.1 (k / 64) hq; clear hb9))
    go_ret
    exact ⟨rfl, hS.2.2⟩

theorem hasZ_nat (A : Nat → Nat) (k : Nat) : hasZ A (k : Int) = hasB A k := by simp [hasZ]

theorem setBits_walk (A : Nat → Nat) (okA : okB A) (B : Nat → Nat) (okB' : okB B) (c : Int) (_wc : (Lit.int .i64 c).wf = true) (w : World) :
    Calls Try.prog 7 #[.agg #[.int .u64 ((A 0 : Nat) : Int), .int .u64 ((A 1 : Nat) : Int), .int .u64 ((A 2 : Nat) : Int), .int .u64 ((A 3 : Nat) : Int)], .agg #[.int .u64 ((B 0 : Nat) : Int), .int .u64 ((B 1 : Nat) : Int), .int .u64 ((B 2 : Nat) : Int), .int .u64 ((B 3 : Nat) : Int)], .int .i64 c] w
      fun e w' => e = .returned (.bool true) ∧ Below w.heap.size w w' := by
  obtain ⟨k, hk, ek⟩ := and255 c
  refine bits_core A B okA okB' c k hk ek _ _ rfl rfl ?_ ?_ ?_ ?_ ?_ ?_ w
  · rw [hasZ_nat, hasZ_nat, hasZ_nat, hasB_or]
  · rw [hasZ_nat, hasZ_nat, hasZ_nat, hasB_and]
  · rw [hasZ_nat, hasZ_nat, hasZ_nat, hasB_min]
  · rw [bit_test _ _ (okA _), hasZ_nat]
    unfold hasB
    rw [decide_eq_true hk]; rfl
  · unfold hasZ hasB
    rw [decide_eq_false (show ¬ ((k : Int) + 256).toNat < 256 by omega)]; simp
  · unfold hasZ
    rw [decide_eq_false (show ¬ 0 ≤ (k : Int) - 256 by omega)]; rfl

set_option linter.unusedVariables false
theorem setBits_own : ownKnob Try.prog.godebug = none := by kernel_rfl
set_option maxRecDepth 100000 in
theorem setBits_lifted (os : Os) (started : os.Started) (H : Type) (enc : TypeId × Value → H) :
    ReturnsInHanded {} Try.checked os 7 .any (Rows.setBitsSpec.pre6 enc Try.prog Try.f7 Rows.setBitsRow.domain false) (Rows.setBitsSpec.post enc Try.prog Try.f7 false true false false) := by
  refine returnsInHanded_of_change (C := Try.checked) setBits_own started (by kernel_rfl) Try.func7
    (ChangeSpec.witness6 (enc := enc) (C := Try.checked) false ⟨#[], #[.agg #[.int .u64 0, .int .u64 0, .int .u64 0, .int .u64 0], .agg #[.int .u64 0, .int .u64 0, .int .u64 0, .int .u64 0], .int .i64 0], []⟩ 8 (by kernel_rfl) (by kernel_rfl) (by kernel_rfl) (by kernel_rfl)) ?_
  intro W base args ds gs before hval0 hW hcnd _
  have hval : ∀ (j : Nat) t v, Try.f7.params[j]? = some t → args[j]? = some v → Value.okWide Try.prog W .any base t v := hval0
  have hW' := hW
  obtain ⟨p, q, hA0, hV, rfl, hfz, hnd⟩ := hW
  have hA : DataW.TrodAll enc Try.prog W 0 (fun _ => true) true Try.f7.params.toList args.toList ds p := hA0
  rw [Try.params7] at hA hval
  obtain ⟨v0, vs0, d0, ds0, p0, q0, hargs, rfl, rfl, h0, r0⟩ := trodAll_cons hA
  obtain ⟨v1, vs1, d1, ds1, p1, q1, rfl, rfl, rfl, h1, r1⟩ := trodAll_cons r0
  obtain ⟨v2, vs2, d2, ds2, p2, q2, rfl, rfl, rfl, h2, r2⟩ := trodAll_cons r1
  obtain ⟨rfl, rfl, rfl⟩ := trodAll_nil r2
  obtain rfl : args = #[v0, v1, v2] := by cases args; simp_all
  obtain ⟨rfl, rfl⟩ := trodVars_none hV
  obtain ⟨a0, w0, rfl, rfl, s0⟩ := open_set (hval 0 24 v0 rfl rfl) h0
  obtain ⟨a1, w1, rfl, rfl, s1⟩ := open_set (hval 1 24 v1 rfl rfl) h1
  obtain ⟨a2, rfl, rfl, rfl, w2⟩ := open_int Try.underlying3 (hval 2 3 v2 rfl rfl) h2
  clear hA0 hval0
  refine (setBits_walk a0 w0 a1 w1 a2 w2 W).mono fun e W' ⟨he, bel⟩ => ?_
  subst he
  exact ⟨_, rfl, _, _, _, [], _, [], hW', trodAll_mk1 (shut_bool Try.underlying4 _), (trodAll_cons_mk (s0 _ _ _ _) (trodAll_cons_mk (s1 _ _ _ _) (trodAll_cons_mk (shut_int Try.underlying3 w2) trodAll_mk0))), rfl, bel.frame _, fun h => by cases h⟩

theorem setBits_holds : Rows.SetBitsSaid :=
  OpenClaim.holds_of_wide 7 Try.f7 rfl rfl rfl rfl rfl rfl rfl ⟨rfl, rfl, rfl, rfl, rfl⟩ rfl rfl rfl rfl rfl (by kernel_rfl) Try.func7 (by kernel_rfl)
    (of_decide_eq_true (by kernel_rfl)) (by unfold Func.isWrapper; first | (rw [if_pos (by decide +kernel)]; kernel_rfl) | (rw [if_neg (by decide +kernel)]; exact ⟨rfl, rfl⟩))
    (fun os started H enc _ => setBits_lifted os started H enc)
#print axioms setBits_holds
end Go.Proofs.Ytinpmoojmmpaoaa
