/- What the document's own Has, Range, Mix, Count do. -/
import Derived.Test.YtopokicdgdjgkaaRows
import Derived.Test.YtopokicdgdjgkaaLies
import Derived.Test.YtopokicdgdjgkaaFacts
import Derived.RegionTactic
namespace Go.Proofs.Ytopokicdgdjgkaa
open Go.ChangeShapes Go.WideShapes Go.ChangeAt Go.RowKit

theorem rhas_any (a : Nat → Nat) (c : Int) (w : World) (ha : okB a) :
    Calls Try.prog 18 #[.agg #[.int .u64 ((a 0 : Nat) : Int), .int .u64 ((a 1 : Nat) : Int), .int .u64 ((a 2 : Nat) : Int), .int .u64 ((a 3 : Nat) : Int)], .int .i64 c] w fun e w' => e = .returned (.bool (hasZ a c)) ∧ Below w.heap.size w w' := by
  by_cases h0 : c < 0
  · have h1 : ¬ 0 ≤ c := by omega
    go_enter Try.func18, Try.ntmps18
    go_wp2
    go_ret
    exact ⟨ret_bool (by simp [hasZ]; omega), below1 _ _⟩
  · by_cases h1 : 255 < c
    · have h2 : 0 ≤ c := by omega
      have h3 : ¬ c ≤ 255 := by omega
      go_enter Try.func18, Try.ntmps18
      go_wp2
      go_ret
      exact ⟨ret_bool (by simp [hasZ, hasB]; omega), below1 _ _⟩
    · have hx := pick4 a (c / 64).toNat (by omega)
      have h2 : 0 ≤ c := by omega
      have h3 : c ≤ 255 := by omega
      have HX : Hid (0 ≤ c ∧ c ≤ 255) := ⟨h2, h3⟩
      go_enter Try.func18, Try.ntmps18
      go_wp2
      go_ret
      exact ⟨ret_bool (by first | exact (bit_test _ _ (ha _)).trans (hasZ_in a c HX.out.1 HX.out.2) | (rw [bit_test _ _ (ha _), hasZ_in a c HX.out.1 HX.out.2]; simp [HX.out.1, HX.out.2])), below1 _ _⟩

set_option maxHeartbeats 1000000 in
set_option maxRecDepth 100000 in
theorem rcount_any (a : Nat → Nat) (w : World) (ha : okB a) :
    Calls Try.prog 19 #[.agg #[.int .u64 ((a 0 : Nat) : Int), .int .u64 ((a 1 : Nat) : Int), .int .u64 ((a 2 : Nat) : Int), .int .u64 ((a 3 : Nat) : Int)]] w fun e w' => e = .returned (.int .i64 ((cntTo (hasB a) 256 : Nat) : Int)) ∧ Below w.heap.size w w' := by
  go_enter Try.func19, Try.ntmps19
  go_wp2
  go_loopw [3, 4] (fun n i wr => ∃ k : Nat, k ≤ 256 ∧ i = .int .i64 k ∧ n = .int .i64 ((cntTo (hasB a) k : Nat) : Int) ∧ Lies wr w.heap.size a ∧ Below w.heap.size w wr) (fun _ i _ => 256 - (intOf i).toNat)
  case atStart => exact ⟨0, by omega, rfl, rfl, Lies.new _ _ _ _ rfl, below1 _ _⟩
  case round =>
    obtain ⟨k, hk, rfl, rfl, hA, hW⟩ := hrel
    have hc := cntTo_le (hasB a) k
    obtain ⟨M, hM⟩ : ∃ M, M = cntTo (hasB a) k := ⟨_, rfl⟩
    have HM : Hid (M = cntTo (hasB a) k) := hM
    rw [← hM] at hc ⊢
    clear hM
    obtain ⟨⟨a0, a1, a2, a3⟩, -⟩ := hA.all
    by_cases hlt : k < 256
    · have HS : Hid (cntTo (hasB a) (k + 1) = M + if hasZ a (k : Int) then 1 else 0) := by
        show _ = _
        rw [cntTo_succ, HM.out]
        simp [hasZ]
      by_cases h0 : hasZ a (k : Int) = true
      · go_wp2_with (go_at_call 18; refine (rhas_any _ _ _ ?_).mono ?_; assumption; rintro e w9 ⟨rfl, hb9⟩)
        go_roundw
        case rel => exact ⟨k + 1, by omega, by go_num, by rw [HS.out, if_pos h0]; go_num, hA.keep hb9, hW.trans (hb9.mono hW.size)⟩
        case measure => simp [intOf]; omega
      · have h0' : hasZ a (k : Int) = false := Bool.eq_false_iff.2 h0
        go_wp2_with (go_at_call 18; refine (rhas_any _ _ _ ?_).mono ?_; assumption; rintro e w9 ⟨rfl, hb9⟩)
        go_roundw
        case rel => exact ⟨k + 1, by omega, by go_num, by rw [HS.out, if_neg (by rw [h0']; simp)]; go_num, hA.keep hb9, hW.trans (hb9.mono hW.size)⟩
        case measure => simp [intOf]; omega
    · obtain rfl : k = 256 := by omega
      go_wp2
      go_ret
      exact ⟨ret_int (by rw [HM.out]), hW⟩
end Go.Proofs.Ytopokicdgdjgkaa
