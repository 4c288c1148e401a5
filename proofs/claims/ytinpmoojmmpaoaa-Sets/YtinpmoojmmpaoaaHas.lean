/- What Has, the three functions of words, Or, And, Minus do. -/
import Derived.Test.YtinpmoojmmpaoaaRows
import Derived.Test.YtinpmoojmmpaoaaBits
namespace Go.Proofs.Ytinpmoojmmpaoaa
open Go.ChangeShapes Go.WideShapes Go.ChangeAt Go.RowKit

theorem has_any (a : Nat → Nat) (c : Int) (w : World) (ha : okB a) :
    Calls Try.prog 12 #[.agg #[.int .u64 ((a 0 : Nat) : Int), .int .u64 ((a 1 : Nat) : Int), .int .u64 ((a 2 : Nat) : Int), .int .u64 ((a 3 : Nat) : Int)], .int .i64 c] w fun e w' => e = .returned (.bool (hasZ a c)) ∧ Below w.heap.size w w' := by
  by_cases h0 : c < 0
  · go_enter Try.func12, Try.ntmps12
    go_wp2
    go_ret
    exact ⟨ret_bool (by simp [hasZ]; omega), (Below.refl _ _).alloc (Nat.le_refl _) _⟩
  · by_cases h1 : 255 < c
    · go_enter Try.func12, Try.ntmps12
      go_wp2
      go_ret
      exact ⟨ret_bool (by simp [hasZ, hasB]; omega), (Below.refl _ _).alloc (Nat.le_refl _) _⟩
    · have hx := pick4 a (c / 64).toNat (by omega)
      have HX : Hid (0 ≤ c ∧ c ≤ 255) := by show _ ∧ _; omega
      go_enter Try.func12, Try.ntmps12
      go_wp2
      go_ret
      exact ⟨ret_bool ((bit_test _ _ (ha _)).trans (hasZ_in a c HX.out.1 HX.out.2)), (Below.refl _ _).alloc (Nat.le_refl _) _⟩

theorem or1 (x y : Int) (w : World) : Calls Try.prog 27 #[.int .u64 x, .int .u64 y] w fun e w' => e = .returned (.int .u64 (bits .or .u64 x y)) ∧ w' = w := by
  go_enter Try.func27, Try.ntmps27
  go_wp2
  go_ret
  exact ⟨rfl, rfl⟩
theorem and1 (x y : Int) (w : World) : Calls Try.prog 28 #[.int .u64 x, .int .u64 y] w fun e w' => e = .returned (.int .u64 (bits .and .u64 x y)) ∧ w' = w := by
  go_enter Try.func28, Try.ntmps28
  go_wp2
  go_ret
  exact ⟨rfl, rfl⟩
theorem min1 (x y : Int) (w : World) : Calls Try.prog 29 #[.int .u64 x, .int .u64 y] w fun e w' => e = .returned (.int .u64 (bits .andNot .u64 x y)) ∧ w' = w := by
  go_enter Try.func29, Try.ntmps29
  go_wp2
  go_ret
  exact ⟨rfl, rfl⟩
end Go.Proofs.Ytinpmoojmmpaoaa
