import Derived.Test.YtgeajdfajfdjcaaRows
import Derived.Test.YtgeajdfajfdjcaaLexMem
import Derived.ProofKit
import Derived.OpenShut
import Derived.WalkLawsBesides
import Derived.Deep.QuietTactic
import Derived.BigQuiet
import Derived.OwnWalk
import Derived.Laws.Pointers
import Derived.Deep.RegionLaw
import Derived.Deep.AppendLies
/- What the program's small functions over bytes do. -/
namespace Go.Proofs.Ytgeajdfajfdjcaa
set_option linter.unusedVariables false
open Go.ChangeShapes Go.WideShapes Go.ChangeAt Go.RowKit

theorem rbool {a b : Bool} (h : a = b) : Ending.returned (.bool a) = .returned (.bool b) := by rw [h]
theorem rint {k : IntKind} {a b : Int} (h : a = b) : Ending.returned (.int k a) = .returned (.int k b) := by rw [h]

def blkB (c : Int) : Bool := decide (c = 9) || decide (c = 10) || decide (c = 13) || decide (c = 32)
theorem blkB_iff (c : Int) : blkB c = true ↔ (c = 9 ∨ c = 10 ∨ c = 13 ∨ c = 32) := by simp [blkB, or_assoc]

def hxB (c : Int) : Bool := decide (0 ≤ hexF c)
theorem hxB_digit {c : Int} (h : digB c = true) : hxB c = true := by
  unfold hxB hexF; rw [if_pos h]; simp [digB] at h; simp; omega
theorem hxB_other {c : Int} (h : digB c = false) : hxB c = (decide (97 ≤ c) && decide (c ≤ 102)) := by
  unfold hxB hexF
  rw [if_neg (by rw [h]; simp)]
  by_cases h2 : (decide (97 ≤ c) && decide (c ≤ 102)) = true
  · rw [if_pos h2, h2]; simp at h2; simp; omega
  · rw [if_neg h2, Bool.eq_false_iff.2 h2]; rfl

theorem rpair {k : IntKind} {a b : Int} {c d : Bool} (h : a = b) (h' : c = d) : Ending.returned (.tuple #[.int k a, .bool c]) = .returned (.tuple #[.int k b, .bool d]) := by rw [h, h']
/-- Does p stand at r's beginning? -/
def pfx (r p : ByteArray) : Bool := decide (p.size ≤ r.size) && ((r.extract 0 p.size).toList == p.toList)
theorem prefix_lite (r p : ByteArray) (w : World) (hr : r.size ≤ 65536) (hp : p.size ≤ 65536) : Calls Try.prog 61 #[.string r, .string p] w fun e w' => e = .returned (.bool (pfx r p)) ∧ w = w' := by
  by_cases a1 : p.size ≤ r.size
  · go_enter Try.func61, Try.ntmps61
    go_wp2
    all_goals go_ret
    all_goals exact ⟨rbool (by unfold pfx; rw [decide_eq_true a1]; simp), rfl⟩
  · go_enter Try.func61, Try.ntmps61
    go_wp2
    all_goals go_ret
    all_goals exact ⟨rbool (by unfold pfx; rw [decide_eq_false a1]; rfl), rfl⟩
def pk (s : ByteArray) (k : Nat) : Int := if k = s.size then -1 else PlainAid.bt s k
theorem pk_end {s : ByteArray} {k : Nat} (h : k = s.size) : pk s k = -1 := if_pos h
theorem pk_in {s : ByteArray} {k : Nat} (h : k < s.size) : pk s k = PlainAid.bt s k := if_neg (by omega)

end Go.Proofs.Ytgeajdfajfdjcaa
/- What the program's reader does to take a byte, and to end a token. -/
namespace Go.Proofs.Ytgeajdfajfdjcaa
set_option linter.unusedVariables false
open Go.ChangeShapes Go.WideShapes Go.ChangeAt Go.RowKit

theorem Try.infoByte : (Try.prog.info? 5).map (fun i => (i.zero, i.size, i.bytes)) = some (some (.int .u8 0), 1, 1) := by kernel_rfl
end Go.Proofs.Ytgeajdfajfdjcaa
