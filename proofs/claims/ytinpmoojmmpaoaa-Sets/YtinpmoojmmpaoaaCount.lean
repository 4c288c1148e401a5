/- What Count counts. -/
import Derived.Test.YtinpmoojmmpaoaaLies
import Derived.Test.YtinpmoojmmpaoaaRows
namespace Go.Proofs.Ytinpmoojmmpaoaa
open Go.ChangeShapes Go.WideShapes Go.ChangeAt Go.RowKit

/-- The bits of the first k words. -/
def cw (a : Nat → Nat) : Nat → Nat
  | 0 => 0
  | k + 1 => cw a k + popF 64 (a k)
theorem cw_le (a : Nat → Nat) : ∀ k, cw a k ≤ 64 * k
  | 0 => Nat.le_refl _
  | k + 1 => by have := cw_le a k; have := popF_le 64 (a k); unfold cw; omega
theorem cw_four (a : Nat → Nat) : cw a 4 = cntB a := by simp [cw, cntB]

theorem popF_step (f m : Nat) (hm : m < 2 ^ f) (h0 : m ≠ 0) : ∃ g, f = g + 1 ∧ m / 2 < 2 ^ g ∧ popF f m = m % 2 + popF g (m / 2) := by
  match f with
  | 0 => simp at hm; omega
  | g + 1 => exact ⟨g, rfl, by rw [Nat.pow_succ] at hm; omega, rfl⟩

theorem Try.index4_0 (x0 x1 x2 x3 : Int) (w : World) : (Instr.index 24 (.agg #[.int .u64 x0, .int .u64 x1, .int .u64 x2, .int .u64 x3]) (.int .i64 0)).run Try.prog w = .ok (.int .u64 x0) w := by kernel_rfl
theorem Try.index4_1 (x0 x1 x2 x3 : Int) (w : World) : (Instr.index 24 (.agg #[.int .u64 x0, .int .u64 x1, .int .u64 x2, .int .u64 x3]) (.int .i64 1)).run Try.prog w = .ok (.int .u64 x1) w := by kernel_rfl
theorem Try.index4_2 (x0 x1 x2 x3 : Int) (w : World) : (Instr.index 24 (.agg #[.int .u64 x0, .int .u64 x1, .int .u64 x2, .int .u64 x3]) (.int .i64 2)).run Try.prog w = .ok (.int .u64 x2) w := by kernel_rfl
theorem Try.index4_3 (x0 x1 x2 x3 : Int) (w : World) : (Instr.index 24 (.agg #[.int .u64 x0, .int .u64 x1, .int .u64 x2, .int .u64 x3]) (.int .i64 3)).run Try.prog w = .ok (.int .u64 x3) w := by kernel_rfl
theorem Try.index4 (a : Nat → Nat) (k : Nat) (hk : k < 4) (w : World) :
    (Instr.index 24 (.agg #[.int .u64 ((a 0 : Nat) : Int), .int .u64 ((a 1 : Nat) : Int), .int .u64 ((a 2 : Nat) : Int), .int .u64 ((a 3 : Nat) : Int)]) (.int .i64 (k : Int))).run Try.prog w = .ok (.int .u64 ((a k : Nat) : Int)) w := by
  match k, hk with
  | 0, _ => exact Try.index4_0 _ _ _ _ _
  | 1, _ => exact Try.index4_1 _ _ _ _ _
  | 2, _ => exact Try.index4_2 _ _ _ _ _
  | 3, _ => exact Try.index4_3 _ _ _ _ _

set_option maxHeartbeats 1000000 in
theorem count_core (a c : Nat → Nat) (F : Nat) (w : World) (HF : Hid (∀ j, a j < 2 ^ F)) (HF2 : Hid (F ≤ 64)) (HC0 : Hid (c 0 = 0)) (HC : Hid (∀ k, c (k + 1) = c k + popF F (a k))) (HL : Hid (∀ k, c k ≤ 64 * k)) :
    Calls Try.prog 18 #[.agg #[.int .u64 ((a 0 : Nat) : Int), .int .u64 ((a 1 : Nat) : Int), .int .u64 ((a 2 : Nat) : Int), .int .u64 ((a 3 : Nat) : Int)]] w
      fun e w' => e = .returned (.int .i64 ((c 4 : Nat) : Int)) ∧ Below w.heap.size w w' := by
  go_enter Try.func18, Try.ntmps18
  go_wp2
  go_loop [3, 7] (fun n i => ∃ k : Nat, k ≤ 4 ∧ i = .int .i64 k ∧ n = .int .i64 ((c k : Nat) : Int)) (fun _ i => 4 - (intOf i).toNat)
  case atStart => exact ⟨0, by omega, rfl, by rw [HC0.out]; rfl⟩
  case round =>
    obtain ⟨k, hk, rfl, rfl⟩ := hrel
    by_cases hlt : k < 4
    · have hix := Try.index4 a k hlt
      go_wp2
      go_loop [3, 5] (fun n m => ∃ f v t : Nat, f ≤ 64 ∧ v < 2 ^ f ∧ m = .int .u64 ((v : Nat) : Int) ∧ n = .int .i64 ((t : Nat) : Int) ∧ t + popF f v = c (k + 1)) (fun _ m => (intOf m).toNat)
      case atStart => exact ⟨F, _, _, HF2.out, HF.out k, rfl, rfl, (HC.out k).symm⟩
      case round =>
        obtain ⟨f, v, t, hf, hv, rfl, rfl, ht⟩ := hrel
        have htl : t ≤ 256 := by have := HL.out (k + 1); omega
        by_cases hz : v = 0
        · obtain rfl : t = c (k + 1) := by rw [hz, popF_zero] at ht; exact ht
          clear ht htl
          subst hz
          go_wp2
          go_round
          case rel => exact ⟨k + 1, by omega, by go_num, rfl⟩
          case measure => simp [intOf]; omega
        · have HT : Hid (t + popF f v = c (k + 1)) := ht
          have HV : Hid (v < 2 ^ f) := hv
          have hone : bits .and .u64 ((v : Nat) : Int) 1 = (v : Int) % 2 := by
            have := Nat.pow_le_pow_right (n := 2) (by decide) hf
            rw [p64] at this
            exact and_one_u64 _ (by omega) (by omega)
          clear ht hv
          go_wp2
          go_round
          case rel =>
            obtain ⟨g, rfl, h2, h3⟩ := popF_step f v HV.out hz
            have h4 := HT.out
            exact ⟨g, v / 2, t + v % 2, by omega, h2, by go_num, by go_num, by omega⟩
          case measure => simp [intOf]; omega
    · obtain rfl : k = 4 := by omega
      go_wp2
      go_ret
      exact ⟨rfl, below1 _ _⟩

theorem count_any (a : Nat → Nat) (w : World) (ha : okB a) :
    Calls Try.prog 18 #[.agg #[.int .u64 ((a 0 : Nat) : Int), .int .u64 ((a 1 : Nat) : Int), .int .u64 ((a 2 : Nat) : Int), .int .u64 ((a 3 : Nat) : Int)]] w
      fun e w' => e = .returned (.int .i64 ((cntB a : Nat) : Int)) ∧ Below w.heap.size w w' := by
  have h := count_core a (cw a) 64 w (fun j => by rw [p64]; exact ha j) (Nat.le_refl 64) rfl (fun _ => rfl) (cw_le a)
  rw [cw_four] at h
  exact h
end Go.Proofs.Ytinpmoojmmpaoaa
