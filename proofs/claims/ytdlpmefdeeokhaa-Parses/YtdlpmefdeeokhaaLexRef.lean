/- What the document's own letter, digit, hex, mark do. -/
import Derived.Test.YtdlpmefdeeokhaaRows
import Derived.Test.YtdlpmefdeeokhaaLexPlain
import Derived.ProofKit
import Derived.OpenShut
import Derived.WalkLawsBesides
import Derived.Deep.QuietTactic
import Derived.BigQuiet
namespace Go.Proofs.Ytdlpmefdeeokhaa
open Go.ChangeShapes Go.WideShapes Go.ChangeAt Go.RowKit

theorem rb {a b : Bool} (h : a = b) : Ending.returned (.bool a) = .returned (.bool b) := by rw [h]
theorem ri {k : IntKind} {a b : Int} (h : a = b) : Ending.returned (.int k a) = .returned (.int k b) := by rw [h]

theorem letter_any (c : Int) (w : World) (h0 : 0 ≤ c) (h1 : c ≤ 255) : Calls Try.prog 28 #[.int .u8 c] w fun e w' => e = .returned (.bool (letB c)) ∧ w = w' := by
  by_cases a1 : 97 ≤ c
  · by_cases a2 : c ≤ 122
    · go_enter Try.func28, Try.ntmps28
      go_wp2
      go_ret
      exact ⟨rb (by rw [Bool.eq_iff_iff]; simp [letB]; omega), rfl⟩
    · by_cases a5 : c = 95
      · omega
      · go_enter Try.func28, Try.ntmps28
        go_wp2
        all_goals go_ret
        all_goals exact ⟨rb (by rw [Bool.eq_iff_iff]; simp [letB]; omega), rfl⟩
  · go_enter Try.func28, Try.ntmps28
    go_wp2
    all_goals go_ret
    all_goals exact ⟨rb (by rw [Bool.eq_iff_iff]; simp [letB]; omega), rfl⟩

theorem digit_any (c : Int) (w : World) : Calls Try.prog 47 #[.int .u8 c] w fun e w' => e = .returned (.bool (digB c)) ∧ w = w' := by
  by_cases a1 : 48 ≤ c
  · go_enter Try.func47, Try.ntmps47
    go_wp2
    all_goals go_ret
    all_goals exact ⟨rb (by rw [Bool.eq_iff_iff]; simp [digB]; omega), rfl⟩
  · go_enter Try.func47, Try.ntmps47
    go_wp2
    all_goals go_ret
    all_goals exact ⟨rb (by rw [Bool.eq_iff_iff]; simp [digB]; omega), rfl⟩

theorem mark_any (c : Int) (w : World) : Calls Try.prog 32 #[.int .u8 c] w fun e w' => e = .returned (.int .i64 (markF c)) ∧ w = w' := by
  go_enter Try.func32, Try.ntmps32
  go_wp2
  all_goals go_ret
  all_goals exact ⟨ri (by simp_all [markF]), rfl⟩

theorem hex_any (c : Int) (w : World) (h0 : 0 ≤ c) (h1 : c ≤ 255) : Calls Try.prog 63 #[.int .u8 c] w fun e w' => e = .returned (.int .i64 (hexF c)) ∧ w = w' := by
  by_cases a1 : digB c = true
  · have b1 : 48 ≤ c ∧ c ≤ 57 := by simpa [digB] using a1
    obtain ⟨b2, b3⟩ := b1
    go_enter Try.func63, Try.ntmps63
    go_wp2_with (go_at_call 47; refine (digit_any _ _).mono ?_; rintro e w1 ⟨rfl, rfl⟩)
    all_goals go_ret
    all_goals exact ⟨ri (by rw [hexF, if_pos a1]), rfl⟩
  · have a2 : digB c = false := Bool.eq_false_iff.2 a1
    go_enter Try.func63, Try.ntmps63
    go_wp2_with (go_at_call 47; refine (digit_any _ _).mono ?_; rintro e w1 ⟨rfl, rfl⟩)
    all_goals go_ret
    all_goals exact ⟨ri (by rw [hexF, if_neg a1]; simp_all; omega), rfl⟩

set_option maxHeartbeats 4000000 in
theorem sign_any (s : ByteArray) (k : Nat) (q : Int) (w : World) (_hs : s.size ≤ 65536) (_hk : k ≤ 65540) :
    Calls Try.prog 48 #[.string s, .int .i64 (k : Int), .int .u8 q] w fun e w' => e = .returned (.tuple #[.int .i64 (signV (signF (PlainAid.bt s) s.size k q)).1, .int .i64 (signV (signF (PlainAid.bt s) s.size k q)).2]) ∧ Below w.heap.size w w' := by
  have hb := PlainAid.get_bt s
  have h0 := PlainAid.bt_nonneg s
  have h1 := PlainAid.bt_le s
  have u0 := h0 k
  have u1 := h1 k
  have v0 := h0 (k + 1)
  have v1 := h1 (k + 1)
  by_cases a1 : k < s.size
  · by_cases a2 : PlainAid.bt s k < 32
    · go_enter Try.func48, Try.ntmps48
      go_wp2
      all_goals go_ret2
      all_goals exact ⟨by rw [signF, if_pos (by omega)]; rfl, Below.refl _ _⟩
    · by_cases a3 : 126 < PlainAid.bt s k
      · go_enter Try.func48, Try.ntmps48
        go_wp2
        all_goals go_ret2
        all_goals exact ⟨by rw [signF, if_pos (by omega)]; rfl, Below.refl _ _⟩
      · by_cases a4 : PlainAid.bt s k = q
        · have a4' : (PlainAid.bt s k == q) = true := by simpa using a4
          have A4 : Hid (PlainAid.bt s k = q) := a4
          clear a4
          go_enter Try.func48, Try.ntmps48
          go_wp2
          all_goals go_ret2
          all_goals exact ⟨by rw [signF, if_pos (by have := A4.out; omega)]; rfl, Below.refl _ _⟩
        · have a4' : (PlainAid.bt s k == q) = false := by simpa using a4
          have N1 : Hid (¬ (s.size ≤ k ∨ PlainAid.bt s k < 32 ∨ 126 < PlainAid.bt s k ∨ PlainAid.bt s k = q)) := by show ¬ _; omega
          clear a4
          by_cases a5 : PlainAid.bt s k = 92
          · have a5' : (PlainAid.bt s k != 92) = false := by simp [a5]
            have A5 : Hid (¬ PlainAid.bt s k ≠ 92) := by show ¬ _; omega
            clear a5
            by_cases a6 : k + 1 < s.size
            · by_cases a7 : PlainAid.bt s (k + 1) = 92 ∨ PlainAid.bt s (k + 1) = 34 ∨ PlainAid.bt s (k + 1) = 39
              · have A7 : Hid (PlainAid.bt s (k + 1) = 92 ∨ PlainAid.bt s (k + 1) = 34 ∨ PlainAid.bt s (k + 1) = 39) := a7
                clear a7
                by_cases b1 : (PlainAid.bt s (k + 1) == 92) = true
                · go_enter Try.func48, Try.ntmps48
                  go_wp2
                  all_goals go_ret2
                  all_goals exact ⟨by rw [signF, if_neg N1.out, if_neg A5.out, if_neg (by omega), if_pos A7.out]; rfl, Below.refl _ _⟩
                · have b1' : (PlainAid.bt s (k + 1) == 92) = false := by simpa using b1
                  clear b1
                  by_cases b2 : (PlainAid.bt s (k + 1) == 34) = true
                  · go_enter Try.func48, Try.ntmps48
                    go_wp2
                    all_goals go_ret2
                    all_goals exact ⟨by rw [signF, if_neg N1.out, if_neg A5.out, if_neg (by omega), if_pos A7.out]; rfl, Below.refl _ _⟩
                  · have b2' : (PlainAid.bt s (k + 1) == 34) = false := by simpa using b2
                    have b3' : (PlainAid.bt s (k + 1) == 39) = true := by have := A7.out; simp at b1' b2' ⊢; omega
                    clear b2
                    go_enter Try.func48, Try.ntmps48
                    go_wp2
                    all_goals go_ret2
                    all_goals exact ⟨by rw [signF, if_neg N1.out, if_neg A5.out, if_neg (by omega), if_pos A7.out]; rfl, Below.refl _ _⟩
              · have A7 : Hid (¬ (PlainAid.bt s (k + 1) = 92 ∨ PlainAid.bt s (k + 1) = 34 ∨ PlainAid.bt s (k + 1) = 39)) := a7
                have b1' : (PlainAid.bt s (k + 1) == 92) = false := by simp; omega
                have b2' : (PlainAid.bt s (k + 1) == 34) = false := by simp; omega
                have b3' : (PlainAid.bt s (k + 1) == 39) = false := by simp; omega
                clear a7
                have hh1 := hexF_le (PlainAid.bt s (k + 2))
                have hh2 := hexF_le (PlainAid.bt s (k + 3))
                by_cases a8 : PlainAid.bt s (k + 1) = 120
                · have a8' : (PlainAid.bt s (k + 1) != 120) = false := by simp [a8]
                  have A8 : Hid (PlainAid.bt s (k + 1) = 120) := a8
                  clear a8
                  by_cases a9 : k + 3 < s.size
                  · by_cases c1 : hexF (PlainAid.bt s (k + 2)) < 0
                    · go_enter Try.func48, Try.ntmps48
                      go_wp2_with (go_at_call 63; refine (hex_any _ _ ?_ ?_).mono ?_; exact h0 _; exact h1 _; rintro e w1 ⟨rfl, rfl⟩)
                      all_goals go_ret2
                      all_goals exact ⟨by rw [signF, if_neg N1.out, if_neg A5.out, if_neg (by omega), if_neg A7.out, if_pos (by omega)]; rfl, Below.refl _ _⟩
                    · by_cases c2 : hexF (PlainAid.bt s (k + 3)) < 0
                      · go_enter Try.func48, Try.ntmps48
                        go_wp2_with (go_at_call 63; refine (hex_any _ _ ?_ ?_).mono ?_; exact h0 _; exact h1 _; rintro e w1 ⟨rfl, rfl⟩)
                        all_goals go_ret2
                        all_goals exact ⟨by rw [signF, if_neg N1.out, if_neg A5.out, if_neg (by omega), if_neg A7.out, if_pos (by omega)]; rfl, Below.refl _ _⟩
                      · go_enter Try.func48, Try.ntmps48
                        go_wp2_with (go_at_call 63; refine (hex_any _ _ ?_ ?_).mono ?_; exact h0 _; exact h1 _; rintro e w1 ⟨rfl, rfl⟩)
                        go_quiet ((go_at_call 63; refine (hex_any _ _ ?_ ?_).mono ?_; exact h0 _; exact h1 _; rintro e w' ⟨rfl, hw⟩; exact ⟨rfl, ⟨_, hw.symm⟩⟩))
                        go_wp2
                        go_ret2
                        exact ⟨by rw [signF, if_neg N1.out, if_neg A5.out, if_neg (by omega), if_neg A7.out, if_neg (by have := A8.out; omega)]; rfl, ⟨rfl, rfl, rfl, Nat.le_refl _, fun _ _ => rfl⟩⟩
                  · go_enter Try.func48, Try.ntmps48
                    go_wp2_with (go_at_call 63; refine (hex_any _ _ ?_ ?_).mono ?_; exact h0 _; exact h1 _; rintro e w1 ⟨rfl, rfl⟩)
                    all_goals go_ret2
                    all_goals exact ⟨by rw [signF, if_neg N1.out, if_neg A5.out, if_neg (by omega), if_neg A7.out, if_pos (by omega)]; rfl, Below.refl _ _⟩
                · have a8' : (PlainAid.bt s (k + 1) != 120) = true := by simpa using a8
                  have A8 : Hid (¬ PlainAid.bt s (k + 1) = 120) := a8
                  clear a8
                  go_enter Try.func48, Try.ntmps48
                  go_wp2_with (go_at_call 63; refine (hex_any _ _ ?_ ?_).mono ?_; exact h0 _; exact h1 _; rintro e w1 ⟨rfl, rfl⟩)
                  all_goals go_ret2
                  all_goals exact ⟨by rw [signF, if_neg N1.out, if_neg A5.out, if_neg (by omega), if_neg A7.out, if_pos (by have := A8.out; omega)]; rfl, Below.refl _ _⟩
            · go_enter Try.func48, Try.ntmps48
              go_wp2
              all_goals go_ret2
              all_goals exact ⟨by rw [signF, if_neg N1.out, if_neg A5.out, if_pos (by omega)]; rfl, Below.refl _ _⟩
          · have a5' : (PlainAid.bt s k != 92) = true := by simpa using a5
            have A5 : Hid (PlainAid.bt s k ≠ 92) := a5
            clear a5
            go_enter Try.func48, Try.ntmps48
            go_wp2
            all_goals go_ret2
            all_goals exact ⟨by rw [signF, if_neg N1.out, if_pos A5.out]; rfl, Below.refl _ _⟩
  · go_enter Try.func48, Try.ntmps48
    go_wp2
    all_goals go_ret2
    all_goals exact ⟨by rw [signF, if_pos (by omega)]; rfl, Below.refl _ _⟩
end Go.Proofs.Ytdlpmefdeeokhaa
