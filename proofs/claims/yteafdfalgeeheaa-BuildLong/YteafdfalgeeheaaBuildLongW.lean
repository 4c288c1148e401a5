/- BuildLong, walked. -/
import Derived.Test.YteafdfalgeeheaaBLong3x1
import Derived.Test.YteafdfalgeeheaaBLong3x2
import Derived.Test.YteafdfalgeeheaaBLong3x3
import Derived.Test.YteafdfalgeeheaaBLong3x4
namespace Go.Proofs.Yteafdfalgeeheaa
set_option linter.unusedVariables false
open Go.ChangeShapes Go.WideShapes Go.ChangeAt Go.RowKit

theorem andL (m : Nat) (hm : m < 4096) (x : Int) : ∃ n : Nat, n ≤ m ∧ bits .and .i64 x (m : Int) = (n : Int) := by
  have h : (BitVec.ofInt 64 x &&& BitVec.ofInt 64 (m : Int)).toNat ≤ m := by
    rw [BitVec.toNat_and]
    refine Nat.le_trans Nat.and_le_right ?_
    rw [BitVec.toNat_ofInt]
    omega
  refine ⟨_, h, ?_⟩
  show IntKind.i64.wrap ((BitVec.ofInt 64 x &&& BitVec.ofInt 64 (m : Int)).toNat : Int) = _
  generalize (BitVec.ofInt 64 x &&& BitVec.ofInt 64 (m : Int)).toNat = n at h
  rw [IntKind.wrap_i64]; omega
theorem buildLong_walk (w : World) (a0 : Int) (w0 : (Lit.int .i64 a0).wf = true) (a1 : Int) (w1 : (Lit.int .i64 a1).wf = true) :
    Calls Try.prog 5 #[.int .i64 a0, .int .i64 a1] w fun e w' => e = .returned (.bool true) ∧ Below w.heap.size w w' := by
  obtain ⟨k, hk, ek⟩ := andL 63 (by decide) a0
  obtain ⟨m, hm, em⟩ := andL 3 (by decide) a1
  have hc : m = 0 ∨ m = 1 ∨ m = 2 ∨ m = 3 := by omega
  rcases hc with rfl | rfl | rfl | rfl
  · exact long1 a0 a1 k hk ek em w
  · exact long2 a0 a1 k hk ek em w
  · exact long3 a0 a1 k hk ek em w
  · exact long4 a0 a1 k hk ek em w
end Go.Proofs.Yteafdfalgeeheaa
