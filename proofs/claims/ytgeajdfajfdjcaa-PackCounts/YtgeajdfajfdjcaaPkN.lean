/- The program's numbers as bytes: put of each width. -/
import Derived.Test.YtgeajdfajfdjcaaPkM
import Derived.Test.YtgeajdfajfdjcaaPkW
namespace Go.Proofs.Ytgeajdfajfdjcaa
set_option linter.unusedVariables false
set_option linter.unusedSimpArgs false
open Go.ChangeShapes Go.WideShapes Go.ChangeAt Go.RowKit

def addB (acc : List UInt8) (c : UInt8) : List UInt8 := if acc.length ≤ 1048576 then acc ++ [c] else acc
def addsB (acc l : List UInt8) : List UInt8 := l.foldl addB acc
theorem addB_le {acc : List UInt8} (h : acc.length ≤ 1048577) (c : UInt8) : (addB acc c).length ≤ 1048577 := by
  unfold addB; split
  · simp; omega
  · exact h
theorem addsB_le : ∀ (l acc : List UInt8), acc.length ≤ 1048577 → (addsB acc l).length ≤ 1048577
  | [], _, h => h
  | c :: l, acc, h => addsB_le l (addB acc c) (addB_le h c)
theorem addsB_app (acc l m : List UInt8) : addsB acc (l ++ m) = addsB (addsB acc l) m := by unfold addsB; rw [List.foldl_append]
theorem addsB_eq : ∀ (l acc : List UInt8), acc.length ≤ 1048577 → addsB acc l = (acc ++ l).take 1048577
  | [], acc, h => by unfold addsB; rw [List.foldl_nil, List.append_nil, List.take_of_length_le h]
  | c :: l, acc, h => by
    show addsB (addB acc c) l = _
    rw [addsB_eq l _ (addB_le h c)]
    unfold addB
    split
    · simp
    · rename_i h2
      have e : acc.length = 1048577 := by omega
      rw [List.take_append_of_le_length (by omega), List.take_append_of_le_length (by omega)]
set_option maxHeartbeats 1000000 in
set_option maxRecDepth 100000 in
theorem wLen_any {B b : Nat} {acc : List UInt8} {w : World} (h : Wr B b acc w) :
    Calls Try.prog 21 #[.pointer (some ⟨b, 0, none⟩)] w fun e w' => e = .returned (.int .i64 (acc.length : Int)) ∧ w' = w := by
  obtain ⟨hB, p, v, hp, hb, ho, hne⟩ := h
  obtain ⟨pv, cv, hv⟩ := row_slice ho
  subst hv
  have c1 : w.cell? ⟨b, 1, none⟩ = some (.slice pv acc.length cv) := by rw [Lib.cell_of_heap hb]; rfl
  go_enter Try.func21, Try.ntmps21
  go_wp2
  go_ret
  exact ⟨rfl, rfl⟩
set_option maxHeartbeats 1000000 in
set_option maxRecDepth 100000 in
theorem wadd_any {B b : Nat} {acc : List UInt8} {w : World} (h : Wr B b acc w) (hl : acc.length ≤ 1048577) (c : UInt8) (z : Int) (hz : z = (c.toNat : Int)) :
    Calls Try.prog 44 #[.pointer (some ⟨b, 0, none⟩), .int .u8 z] w fun e w' => e = .returned (.tuple #[]) ∧ Hid (Wr B b (addB acc c) w' ∧ Wk b w w') := by
  have H : Hid (Wr B b acc w) := h
  clear h
  have HZ : Hid (z = (c.toNat : Int)) := hz
  clear hz
  go_enter Try.func44, Try.ntmps44
  by_cases hc : acc.length ≤ 1048576
  · have hcI : ((acc.length : Nat) : Int) ≤ 1048576 := by omega
    go_wp2_with (first | (go_at_call 21; refine (wLen_any H.out).mono ?_; rintro e w1 ⟨rfl, rfl⟩) | (go_at_call 57; refine (wByte_any H.out c z HZ.out (by omega)).mono ?_; rintro e w2 ⟨rfl, HW, HK⟩; have HE : Hid (Wr B b (addB acc c) w2 ∧ Wk b w1 w2) := ⟨by unfold addB; rw [if_pos hc]; exact HW, HK⟩; clear HW HK))
    go_end0
    exact ⟨rfl, HE⟩
  · have hcI : ¬ ((acc.length : Nat) : Int) ≤ 1048576 := by omega
    go_wp2_with (go_at_call 21; refine (wLen_any H.out).mono ?_; rintro e w1 ⟨rfl, rfl⟩)
    go_end0
    refine ⟨rfl, ?_, Wk.refl _ _⟩
    unfold addB; rw [if_neg hc]; exact H.out
set_option maxHeartbeats 1000000 in
set_option maxRecDepth 1000000 in
theorem len64_8 (w : World) : Calls Try.prog 56 #[.int .u64 255] w fun e w' => e = .returned (.int .i64 8) ∧ w' = w := by
  go_enter Try.func56, Try.ntmps56
  go_wp2
  go_ret
  exact ⟨by kernel_rfl, rfl⟩
set_option maxHeartbeats 1000000 in
set_option maxRecDepth 1000000 in
theorem width_u8 (w : World) : Calls Try.prog 58 #[] w fun e w' => e = .returned (.int .i64 1) ∧ w' = w := by
  go_enter Try.func58, Try.ntmps58
  go_wp2_with (go_at_call 56; refine (len64_8 w).mono ?_; rintro e w1 ⟨rfl, rfl⟩)
  go_ret
  exact ⟨by kernel_rfl, rfl⟩
set_option maxHeartbeats 1000000 in
set_option maxRecDepth 1000000 in
theorem len64_16 (w : World) : Calls Try.prog 56 #[.int .u64 65535] w fun e w' => e = .returned (.int .i64 16) ∧ w' = w := by
  go_enter Try.func56, Try.ntmps56
  go_wp2
  go_ret
  exact ⟨by kernel_rfl, rfl⟩
set_option maxHeartbeats 1000000 in
set_option maxRecDepth 1000000 in
theorem width_u16 (w : World) : Calls Try.prog 59 #[] w fun e w' => e = .returned (.int .i64 2) ∧ w' = w := by
  go_enter Try.func59, Try.ntmps59
  go_wp2_with (go_at_call 56; refine (len64_16 w).mono ?_; rintro e w1 ⟨rfl, rfl⟩)
  go_ret
  exact ⟨by kernel_rfl, rfl⟩
set_option maxHeartbeats 1000000 in
set_option maxRecDepth 1000000 in
theorem len64_32 (w : World) : Calls Try.prog 56 #[.int .u64 4294967295] w fun e w' => e = .returned (.int .i64 32) ∧ w' = w := by
  go_enter Try.func56, Try.ntmps56
  go_wp2
  go_ret
  exact ⟨by kernel_rfl, rfl⟩
set_option maxHeartbeats 1000000 in
set_option maxRecDepth 1000000 in
theorem width_u32 (w : World) : Calls Try.prog 43 #[] w fun e w' => e = .returned (.int .i64 4) ∧ w' = w := by
  go_enter Try.func43, Try.ntmps43
  go_wp2_with (go_at_call 56; refine (len64_32 w).mono ?_; rintro e w1 ⟨rfl, rfl⟩)
  go_ret
  exact ⟨by kernel_rfl, rfl⟩
end Go.Proofs.Ytgeajdfajfdjcaa
