/- SetRuns answers true for every set, and leaves it as it was: as many runs as bytes that are in whose byte ahead is not; their lengths are the count. No condition. -/
import Derived.Test.YtinpmoojmmpaoaaClass
import Derived.Test.YtinpmoojmmpaoaaOpen
import Derived.Test.YtinpmoojmmpaoaaRunFacts
import Derived.RegionTactic
namespace Go.Proofs.Ytinpmoojmmpaoaa
open Go.ChangeShapes Go.WideShapes Go.ChangeAt Go.RowKit

/-- A set and its runs in memory; nothing old has turned. -/
def Runs (w : World) (b : Nat) (A : Nat → Nat) (v : Value) (l : List (Nat × Nat)) (wc : World) : Prop := Lies wc b A ∧ wc.ownsRow 0 40 2 v l.length (flat l) ∧ Below w.heap.size w wc
theorem Runs.keep {w wc w1 : World} {b : Nat} {A : Nat → Nat} {v : Value} {l : List (Nat × Nat)} (h : Runs w b A v l wc) (hb : Below wc.heap.size wc w1) : Runs w b A v l w1 :=
  ⟨h.1.keep hb, owns_keep h.2.1 hb, h.2.2.trans (hb.mono h.2.2.size)⟩
theorem Runs.drew {w wc : World} {b : Nat} {A : Nat → Nat} {v : Value} {l : List (Nat × Nat)} (h : Runs w b A v l wc) : Runs w b A v l wc.drew := ⟨h.1.drew, owns_drew h.2.1, h.2.2.drew⟩

set_option maxHeartbeats 4000000 in
set_option maxRecDepth 100000 in
theorem setRuns_walk (A : Nat → Nat) (okA : okB A) (w : World) :
    Calls Try.prog 8 #[.agg #[.int .u64 ((A 0 : Nat) : Int), .int .u64 ((A 1 : Nat) : Int), .int .u64 ((A 2 : Nat) : Int), .int .u64 ((A 3 : Nat) : Int)]] w
      fun e w' => e = .returned (.bool true) ∧ Below w.heap.size w w' := by
  obtain ⟨l, hl⟩ : ∃ l, l = runsB A := ⟨_, rfl⟩
  have HN : Hid (l.length ≤ 256) := by rw [hl]; exact runsB_len A
  have HLEN : Hid (lens l = cntB A ∧ cntB A ≤ 256) := by rw [hl]; exact ⟨lensB A, cntB_le A⟩
  have HBD : Hid (∀ i, i < l.length → (l.getD i (0, 0)).1 ≤ (l.getD i (0, 0)).2 ∧ (l.getD i (0, 0)).2 < 256) := by rw [hl]; exact run_bound A
  have HAT : Hid (∀ k, k < 256 → (hasB A k && (decide (k = 0) || !hasB A (k - 1))) = true → (begs (hasB A) k).length < l.length ∧ (l.getD (begs (hasB A) k).length (0, 0)).1 = k ∧ (begs (hasB A) (k + 1)).length = (begs (hasB A) k).length + 1) := by rw [hl]; exact beg_at A
  have HEND : Hid ((begs (hasB A) 256).length = l.length) := by show _ = _; rw [begsB, hl]; simp
  have RG := fun w => ranges_any A w okA
  rw [← hl] at RG
  clear hl
  go_enter Try.func8, Try.ntmps8
  go_wp2_with fail
  refine (awake_any _).mono ?_
  rintro e w1 ⟨rfl, hb1⟩
  have hO : Lies w1 w.heap.size A := (Lies.new w A 24 _ rfl).keep hb1
  have hB : Below w.heap.size w w1 := (below1 _ _).trans (hb1.mono (by simp))
  obtain ⟨⟨a0, a1, a2, a3⟩, -⟩ := hO.all
  clear hb1
  go_wp2_with fail
  refine (RG _).mono ?_
  rintro e w2 ⟨v, rfl, hown, hb2⟩
  have hS : Runs w w.heap.size A v l w2 := ⟨hO.keep hb2, owns_mono hown (Nat.zero_le _), hB.trans (hb2.mono hB.size)⟩
  obtain ⟨p, cap, rfl⟩ := owns_slice hown
  clear hO hB hown hb2 a0 a1 a2 a3 RG
  go_wp2
  go_loopw [4, 6] (fun m c wr => ∃ k : Nat, k ≤ 256 ∧ c = .int .i64 k ∧ m = .int .i64 (((begs (hasB A) k).length : Nat) : Int) ∧ Runs w w.heap.size A (.slice p l.length cap) l wr) (fun _ c _ => 256 - (intOf c).toNat)
  case atStart => exact ⟨0, by omega, rfl, rfl, hS⟩
  case round =>
    clear hS
    obtain ⟨k, hk, rfl, rfl, hS⟩ := hrel
    obtain ⟨⟨a0, a1, a2, a3⟩, -⟩ := hS.1.all
    have hbl := begs_le (hasB A) k
    by_cases hlt : k < 256
    · have HB : Hid ((hasZ A (k : Int) && !hasZ A ((k : Int) - 1)) = (hasB A k && (decide (k = 0) || !hasB A (k - 1)))) := by
        show _ = _
        have e0 : hasZ A (k : Int) = hasB A k := by simp [hasZ]
        rw [e0]
        by_cases hk0 : k = 0
        · subst hk0; simp [hasZ]
        · unfold hasZ
          rw [decide_eq_true (show 0 ≤ (k : Int) - 1 by omega), show ((k : Int) - 1).toNat = k - 1 by omega, decide_eq_false hk0]; rfl
      obtain ⟨M, hM⟩ : ∃ M, M = (begs (hasB A) k).length := ⟨_, rfl⟩
      have HM : Hid (M = (begs (hasB A) k).length) := hM
      rw [← hM] at hbl ⊢
      clear hM
      by_cases h0 : hasZ A (k : Int) = true
      · by_cases h1 : hasZ A ((k : Int) - 1) = true
        · have HE : Hid (begs (hasB A) (k + 1) = begs (hasB A) k) := beg_not A k (by rw [← HB.out, h0, h1]; rfl)
          go_wp2_with (go_at_call 12; refine (has_any _ _ _ ?_).mono ?_; assumption; rintro e w9 ⟨rfl, hb9⟩; replace hS := hS.keep hb9; clear a0 a1 a2 a3; obtain ⟨⟨a0, a1, a2, a3⟩, -⟩ := hS.1.all; clear hb9)
          go_roundw
          case rel => exact ⟨k + 1, by omega, by go_num, by rw [HE.out, HM.out], hS⟩
          case measure => simp [intOf]; omega
        · have h1' : hasZ A ((k : Int) - 1) = false := Bool.eq_false_iff.2 h1
          clear h1
          obtain ⟨q1, q2, q3⟩ := HAT.out k hlt (by rw [← HB.out, h0, h1']; rfl)
          rw [← HM.out] at q1 q2 q3
          obtain ⟨g, rfl⟩ := owns_some hS.2.1 M q1
          have cM := (owns_cell_at hS.2.1 M q1).1
          rw [q2] at cM
          have HL : Hid (M < l.length) := q1
          have HV : Hid ((l.getD M (0, 0)).1 = k) := q2
          have HS1 : Hid ((begs (hasB A) (k + 1)).length = M + 1) := q3
          have hML : ¬ ((l.length : Nat) : Int) ≤ (M : Int) := by omega
          clear q2 q3
          go_wp2_with (go_at_call 12; refine (has_any _ _ _ ?_).mono ?_; assumption; rintro e w9 ⟨rfl, hb9⟩; replace hS := hS.keep hb9; clear a0 a1 a2 a3 cM; obtain ⟨⟨a0, a1, a2, a3⟩, -⟩ := hS.1.all; have cM := (owns_cell_at hS.2.1 M HL.out).1; rw [HV.out] at cM; clear hb9)
          go_roundw
          case rel => exact ⟨k + 1, by omega, by go_num, by rw [HS1.out]; go_num, hS⟩
          case measure => simp [intOf]; omega
      · have h0' : hasZ A (k : Int) = false := Bool.eq_false_iff.2 h0
        clear h0
        have HE : Hid (begs (hasB A) (k + 1) = begs (hasB A) k) := beg_not A k (by rw [← HB.out, h0']; rfl)
        go_wp2_with (go_at_call 12; refine (has_any _ _ _ ?_).mono ?_; assumption; rintro e w9 ⟨rfl, hb9⟩; replace hS := hS.keep hb9; clear a0 a1 a2 a3; obtain ⟨⟨a0, a1, a2, a3⟩, -⟩ := hS.1.all; clear hb9)
        go_roundw
        case rel => exact ⟨k + 1, by omega, by go_num, by rw [HE.out, HM.out], hS⟩
        case measure => simp [intOf]; omega
    · obtain rfl : k = 256 := by omega
      rw [HEND.out]
      clear hbl HAT a0 a1 a2 a3
      have hn : l.length ≤ 256 := HN.out
      go_wp2
      go_loopw [5, 7] (fun t i wr => ∃ k : Nat, k ≤ l.length ∧ i = .int .i64 k ∧ t = .int .i64 ((lens (l.take k) : Nat) : Int) ∧ Runs w w.heap.size A (.slice p l.length cap) l wr) (fun _ i _ => l.length - (intOf i).toNat)
      case atStart => exact ⟨0, by omega, rfl, rfl, hS⟩
      case round =>
        clear hS
        obtain ⟨k, hk, rfl, rfl, hS⟩ := hrel
        have ht : lens (l.take k) ≤ 256 := Nat.le_trans (lens_take_le l k) (by rw [HLEN.out.1]; exact HLEN.out.2)
        by_cases hlt : k < l.length
        · obtain ⟨g, rfl⟩ := owns_some hS.2.1 k hlt
          obtain ⟨c1, c2⟩ := owns_cell_at hS.2.1 k hlt
          obtain ⟨q1, q2⟩ := HBD.out k hlt
          have HT : Hid (lens (l.take (k + 1)) = lens (l.take k) + ((l.getD k (0, 0)).2 + 1 - (l.getD k (0, 0)).1)) := lens_take l k hlt
          generalize (l.getD k (0, 0)).1 = x at c1 q1 HT
          generalize (l.getD k (0, 0)).2 = y at c2 q1 q2 HT
          obtain ⟨T, hT⟩ : ∃ T, T = lens (l.take k) := ⟨_, rfl⟩
          have HT2 : Hid (T = lens (l.take k)) := hT
          rw [← hT] at ht ⊢
          clear hT
          go_wp2
          go_region
          all_goals go_wp2
          go_roundw
          case rel => exact ⟨k + 1, by omega, by go_num, by rw [HT.out, ← HT2.out]; go_num, hS.drew⟩
          case measure => simp [intOf]; omega
        · obtain rfl : k = l.length := by omega
          have hT : lens (l.take l.length) = cntB A := by rw [List.take_length]; exact HLEN.out.1
          rw [hT]
          obtain ⟨⟨a0, a1, a2, a3⟩, -⟩ := hS.1.all
          clear hT ht
          go_wp2_with (first
            | (go_at_call 11; refine (num_any _ _).mono ?_; rintro e w9 ⟨rfl, rfl⟩)
            | (go_at_call 18; refine (count_any _ _ ?_).mono ?_; assumption; rintro e w9 ⟨rfl, hb9⟩; replace hS := hS.keep hb9; clear a0 a1 a2 a3; obtain ⟨⟨a0, a1, a2, a3⟩, -⟩ := hS.1.all; clear hb9))
          go_ret
          exact ⟨rfl, hS.2.2⟩

set_option linter.unusedVariables false
theorem setRuns_own : ownKnob Try.prog.godebug = none := by kernel_rfl
set_option maxRecDepth 100000 in
theorem setRuns_lifted (os : Os) (started : os.Started) (H : Type) (enc : TypeId × Value → H) :
    ReturnsInHanded {} Try.checked os 8 .any (Rows.setRunsSpec.pre6 enc Try.prog Try.f8 Rows.setRunsRow.domain false) (Rows.setRunsSpec.post enc Try.prog Try.f8 false true false false) := by
  refine returnsInHanded_of_change (C := Try.checked) setRuns_own started (by kernel_rfl) Try.func8
    (ChangeSpec.witness6 (enc := enc) (C := Try.checked) false ⟨#[], #[.agg #[.int .u64 0, .int .u64 0, .int .u64 0, .int .u64 0]], []⟩ 8 (by kernel_rfl) (by kernel_rfl) (by kernel_rfl) (by kernel_rfl)) ?_
  intro W base args ds gs before hval0 hW hcnd _
  have hval : ∀ (j : Nat) t v, Try.f8.params[j]? = some t → args[j]? = some v → Value.okWide Try.prog W .any base t v := hval0
  have hW' := hW
  obtain ⟨p, q, hA0, hV, rfl, hfz, hnd⟩ := hW
  have hA : DataW.TrodAll enc Try.prog W 0 (fun _ => true) true Try.f8.params.toList args.toList ds p := hA0
  rw [Try.params8] at hA hval
  obtain ⟨v0, vs0, d0, ds0, p0, q0, hargs, rfl, rfl, h0, r0⟩ := trodAll_cons hA
  obtain ⟨rfl, rfl, rfl⟩ := trodAll_nil r0
  obtain rfl : args = #[v0] := by cases args; simp_all
  obtain ⟨rfl, rfl⟩ := trodVars_none hV
  obtain ⟨a0, w0, rfl, rfl, s0⟩ := open_set (hval 0 24 v0 rfl rfl) h0
  clear hA0 hval0
  refine (setRuns_walk a0 w0 W).mono fun e W' ⟨he, bel⟩ => ?_
  subst he
  exact ⟨_, rfl, _, _, _, [], _, [], hW', trodAll_mk1 (shut_bool Try.underlying4 _), (trodAll_cons_mk (s0 _ _ _ _) trodAll_mk0), rfl, bel.frame _, fun h => by cases h⟩

theorem setRuns_holds : Rows.SetRunsSaid :=
  OpenClaim.holds_of_wide 8 Try.f8 rfl rfl rfl rfl rfl rfl rfl ⟨rfl, rfl, rfl, rfl, rfl⟩ rfl rfl rfl rfl rfl (by kernel_rfl) Try.func8 (by kernel_rfl)
    (of_decide_eq_true (by kernel_rfl)) (by unfold Func.isWrapper; first | (rw [if_pos (by decide +kernel)]; kernel_rfl) | (rw [if_neg (by decide +kernel)]; exact ⟨rfl, rfl⟩))
    (fun os started H enc _ => setRuns_lifted os started H enc)
#print axioms setRuns_holds
end Go.Proofs.Ytinpmoojmmpaoaa
