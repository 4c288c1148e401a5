/- ParseJoins, all but the case where both texts are well: and what an append of a row that may be empty does. -/
import Derived.Test.YtbpkpfnjgljilaaNoteJoin
import Derived.Test.YtbpkpfnjgljilaaNoteAwake
import Derived.Laws.OwnMore
namespace Go.Proofs.Ytbpkpfnjgljilaa
set_option linter.unusedVariables false
open Go.ChangeShapes Go.WideShapes Go.ChangeAt Go.RowKit

theorem parse_some (s : ByteArray) (hs : s.size ≤ maxLen) (w : World) :
    Calls Try.prog 5 #[.string s] w fun e w' => ∃ (p1 : Option Addr) (n1 c1 : Nat) (p2 : Option Addr) (n2 c2 q x : Nat), e = .returned (.tuple #[.agg #[.slice p1 n1 c1, .slice p2 n2 c2], .int .i64 (q : Int), .int .i64 (x : Int)]) ∧ Below w.heap.size w w' := by
  refine (parse_any s w hs).mono ?_
  rintro e w1 ⟨v1, v2, F, rfl, hF, hR, hb⟩
  obtain ⟨p1, c1, e1, _⟩ := id hR.1
  obtain ⟨vs, ⟨p2, c2, e2, _⟩, _⟩ := id hR.2
  subst e1 e2
  exact ⟨_, _, _, _, _, _, _, _, rfl, hb⟩

set_option maxHeartbeats 4000000 in
set_option maxRecDepth 100000 in
theorem pjoins_long (w : World) (s : ByteArray) (hs : s.size ≤ 140737488351232) (t : ByteArray) (ht : t.size ≤ 140737488351232) (hz : (65536 : Int) - (t.size : Int) ≤ (s.size : Int)) :
    Calls Try.prog 3 #[.string s, .string t] w fun e w' => e = .returned (.bool true) ∧ Below w.heap.size w w' := by
  have P1 := fun w => parse_some s (by unfold maxLen; omega) w
  have P2 := fun w => parse_some t (by unfold maxLen; omega) w
  go_enter Try.func3, Try.ntmps3
  go_wp2_with (first | (go_at_call 4; refine (awake3_any _).mono ?_; rintro e wa ⟨rfl, ha⟩; have B0 : Hid (Below w.heap.size w wa) := ha; clear ha) | (go_at_call 5; first | (have hh := B1; clear hh; refine (P2 _).mono ?_; rintro e w2 ⟨p3, n3, c3, p4, n4, c4, q2, x2, rfl, b2⟩; have B2 : Hid (Below w.heap.size w w2) := (B1.out.alloc B1.out.size _).trans (b2.mono (Nat.le_trans B1.out.size (le_alloc _ _))); clear b2) | (refine (P1 _).mono ?_; rintro e w1 ⟨p1, n1, c1, p2, n2, c2, q1, x1, rfl, b1⟩; have B1 : Hid (Below w.heap.size w w1) := B0.out.trans (b1.mono B0.out.size); clear b1)))
  all_goals go_ret
  all_goals exact ⟨rfl, B2.out.alloc B2.out.size _⟩

set_option maxHeartbeats 4000000 in
set_option maxRecDepth 100000 in
theorem pjoins_a (w : World) (s t : ByteArray) (hz : s.size + t.size < 65536) (p x : Nat) (hA : parseT s = .error (p, x)) :
    Calls Try.prog 3 #[.string s, .string t] w fun e w' => e = .returned (.bool true) ∧ Below w.heap.size w w' := by
  obtain ⟨rfl, hp⟩ := parse_bad (by omega) hA
  have hp' : (p : Int) ≤ (s.size : Int) := by omega
  have P1 := fun w => parse_err hA (by unfold maxLen; omega) w
  have P2 := fun w => parse_some t (by unfold maxLen; omega) w
  have P3 := fun w => parse_some ((s ++ ⟨#[10]⟩) ++ t) (by unfold maxLen; simp only [ByteArray.size_append]; show s.size + 1 + t.size ≤ _; omega) w
  clear hA
  go_enter Try.func3, Try.ntmps3
  go_wp2_with (first | (go_at_call 4; refine (awake3_any _).mono ?_; rintro e wa ⟨rfl, ha⟩; have B0 : Hid (Below w.heap.size w wa) := ha; clear ha) | (go_at_call 5; first | (have hh := B2; clear hh; refine (P3 _).mono ?_; rintro e w3 ⟨p5, n5, c5, p6, n6, c6, q3, x3, rfl, b3⟩; have B3 : Hid (Below w.heap.size w w3) := (B2.out.alloc B2.out.size _).trans (b3.mono (Nat.le_trans B2.out.size (le_alloc _ _))); have y1 := old2 b3 hv1 x1; have hv2 : w1.heap.size < w3.heap.size := Nat.lt_of_lt_of_le hv1 (Nat.le_trans (le_alloc _ _) b3.size); clear b3) | (have hh := B1; clear hh; refine (P2 _).mono ?_; rintro e w2 ⟨p3, n3, c3, p4, n4, c4, q2, x2, rfl, b2⟩; have B2 : Hid (Below w.heap.size w w2) := (B1.out.alloc B1.out.size _).trans (b2.mono (Nat.le_trans B1.out.size (le_alloc _ _))); obtain ⟨x0, x1, hv1⟩ := var2 b2; clear b2) | (refine (P1 _).mono ?_; rintro e w1 ⟨p1, c1, p2, c2, rfl, b1⟩; have B1 : Hid (Below w.heap.size w w1) := B0.out.trans (b1.mono B0.out.size); clear b1)) | (go_at_call 6; refine (num_any _ _).mono ?_; rintro e wn ⟨rfl, rfl⟩))
  all_goals go_ret
  all_goals exact ⟨rfl, B3.out.alloc B3.out.size _⟩

set_option maxHeartbeats 4000000 in
set_option maxRecDepth 100000 in
theorem pjoins_c (w : World) (s t : ByteArray) (hz : s.size + t.size < 65536) (ra : Rw) (hA : parseT s = .ok ra) (p x : Nat) (hB : parseT t = .error (p, x)) :
    Calls Try.prog 3 #[.string s, .string t] w fun e w' => e = .returned (.bool true) ∧ Below w.heap.size w w' := by
  obtain ⟨rfl, hp⟩ := parse_bad (by omega) hB
  have hp' : (p : Int) ≤ (t.size : Int) := by omega
  have hj : parseT ((s ++ ⟨#[10]⟩) ++ t) = .error (p + (s.size + 1), 300) := by rw [parse_join hA (by omega), hB]; rfl
  have P1 := fun w => parse_some s (by unfold maxLen; omega) w
  have P1 : ∀ w, Calls Try.prog 5 #[.string s] w fun e w' => ∃ (p1 : Option Addr) (n1 c1 : Nat) (p2 : Option Addr) (n2 c2 : Nat), e = .returned (.tuple #[.agg #[.slice p1 n1 c1, .slice p2 n2 c2], .int .i64 0, .int .i64 0]) ∧ Below w.heap.size w w' := fun w => (parse_ok hA (by unfold maxLen; omega) w).mono (by rintro e w' ⟨p1, c1, p2, c2, F, h1, -, h3, h4⟩; exact ⟨p1, _, c1, p2, _, c2, h1, h4⟩)
  have P2 := fun w => parse_err hB (by unfold maxLen; omega) w
  have P3 : ∀ w, Calls Try.prog 5 #[.string ((s ++ ⟨#[10]⟩) ++ t)] w fun e w' => ∃ p1 c1 p2 c2, e = .returned (.tuple #[.agg #[.slice p1 0 c1, .slice p2 0 c2], .int .i64 ((p : Int) + (s.size : Int) + 1), .int .i64 300]) ∧ Below w.heap.size w w' := fun w => by
    have h := parse_err hj (by unfold maxLen; simp only [ByteArray.size_append]; show s.size + 1 + t.size ≤ _; omega) w
    rw [show ((p + (s.size + 1) : Nat) : Int) = (p : Int) + (s.size : Int) + 1 by omega] at h
    exact h
  clear hA hB hj
  go_enter Try.func3, Try.ntmps3
  go_wp2_with (first | (go_at_call 4; refine (awake3_any _).mono ?_; rintro e wa ⟨rfl, ha⟩; have B0 : Hid (Below w.heap.size w wa) := ha; clear ha) | (go_at_call 5; first | (have hh := B2; clear hh; refine (P3 _).mono ?_; rintro e w3 ⟨p5, c5, p6, c6, rfl, b3⟩; have B3 : Hid (Below w.heap.size w w3) := (B2.out.alloc B2.out.size _).trans (b3.mono (Nat.le_trans B2.out.size (le_alloc _ _))); clear b3) | (have hh := B1; clear hh; refine (P2 _).mono ?_; rintro e w2 ⟨p3, c3, p4, c4, rfl, b2⟩; have B2 : Hid (Below w.heap.size w w2) := (B1.out.alloc B1.out.size _).trans (b2.mono (Nat.le_trans B1.out.size (le_alloc _ _))); clear b2) | (refine (P1 _).mono ?_; rintro e w1 ⟨p1, n1, c1, p2, n2, c2, rfl, b1⟩; have B1 : Hid (Below w.heap.size w w1) := B0.out.trans (b1.mono B0.out.size); clear b1)) | (go_at_call 6; refine (num_any _ _).mono ?_; rintro e wn ⟨rfl, rfl⟩))
  all_goals go_ret
  all_goals exact ⟨rfl, B3.out.alloc B3.out.size _⟩
end Go.Proofs.Ytbpkpfnjgljilaa
