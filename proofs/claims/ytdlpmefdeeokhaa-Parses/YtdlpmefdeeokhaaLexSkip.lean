/- What the document's own skip does. -/
import Derived.Test.YtdlpmefdeeokhaaLexRef
namespace Go.Proofs.Ytdlpmefdeeokhaa
open Go.ChangeShapes Go.WideShapes Go.ChangeAt Go.RowKit

set_option maxHeartbeats 4000000 in
theorem skip_any (s : ByteArray) (k : Nat) (w : World) (_hs : s.size ≤ 65536) (hk : k ≤ s.size) :
    Calls Try.prog 27 #[.string s, .int .i64 (k : Int)] w fun e w' => e = .returned (.int .i64 ((skp (PlainAid.bt s) s.size false k : Nat) : Int)) ∧ w = w' := by
  have hb := PlainAid.get_bt s
  obtain ⟨R, hR⟩ : ∃ R, R = skp (PlainAid.bt s) s.size false k := ⟨_, rfl⟩
  rw [← hR]
  have HR : Hid (R = skp (PlainAid.bt s) s.size false k) := hR
  clear hR
  go_enter Try.func27, Try.ntmps27
  go_wp2
  go_loop [1] (fun i => ∃ j : Nat, j ≤ s.size ∧ i = .int .i64 j ∧ R = skp (PlainAid.bt s) s.size false j) (fun i => s.size - (intOf i).toNat)
  case atStart => exact ⟨k, hk, rfl, HR.out⟩
  case round =>
    obtain ⟨j, hj, rfl, hrj⟩ := hrel
    have HJ : Hid (R = skp (PlainAid.bt s) s.size false j) := hrj
    clear hrj
    have u0 := PlainAid.bt_nonneg s j
    have u1 := PlainAid.bt_le s j
    by_cases a1 : j < s.size
    · by_cases a2 : PlainAid.bt s j = 35
      · have a2' : (PlainAid.bt s j == 35) = true := by simp [a2]
        have A2 : Hid (PlainAid.bt s j = 35) := a2
        clear a2
        go_wp2
        go_loop [1] (fun i => ∃ m : Nat, m ≤ s.size ∧ j ≤ m ∧ i = .int .i64 m ∧ R = skp (PlainAid.bt s) s.size true m) (fun i => s.size - (intOf i).toNat)
        case atStart => exact ⟨j, hj, Nat.le_refl _, rfl, by rw [HJ.out, skp_false _ _ _ a1, if_pos A2.out, skp_true _ _ _ a1, if_neg (by rw [A2.out]; decide)]⟩
        case round =>
          obtain ⟨m, hm, hjm, rfl, hrm⟩ := hrel
          have HM : Hid (R = skp (PlainAid.bt s) s.size true m) := hrm
          clear hrm
          have v0 := PlainAid.bt_nonneg s m
          have v1 := PlainAid.bt_le s m
          by_cases b1 : m < s.size
          · by_cases b2 : PlainAid.bt s m = 10
            · have b2' : (PlainAid.bt s m != 10) = false := by simp [b2]
              have B2 : Hid (PlainAid.bt s m = 10) := b2
              clear b2
              have hne : j < m := by
                rcases Nat.lt_or_ge j m with h | h
                · exact h
                · exfalso
                  obtain rfl : j = m := by omega
                  have h1 := A2.out
                  have h2 := B2.out
                  omega
              go_wp2
              go_round
              case rel => exact ⟨m, by omega, rfl, by rw [HM.out, skp_true _ _ _ b1, if_pos B2.out, skp_false _ _ _ b1, if_neg (by rw [B2.out]; decide), if_pos (by rw [B2.out]; simp)]⟩
              case measure => simp [intOf]; omega
            · have b2' : (PlainAid.bt s m != 10) = true := by simpa using b2
              have B2 : Hid (¬ PlainAid.bt s m = 10) := b2
              clear b2
              go_wp2
              go_round
              case rel => exact ⟨m + 1, by omega, by omega, by go_num, by rw [HM.out, skp_true _ _ _ b1, if_neg B2.out]⟩
              case measure => simp [intOf]; omega
          · obtain rfl : m = s.size := by omega
            go_wp2
            go_round
            case rel => exact ⟨s.size, by omega, rfl, by rw [HM.out, skp_end _ _ _ _ (Nat.le_refl _), skp_end _ _ _ _ (Nat.le_refl _)]⟩
            case measure => simp [intOf]; omega
      · have a2' : (PlainAid.bt s j == 35) = false := by simpa using a2
        have A2 : Hid (¬ PlainAid.bt s j = 35) := a2
        clear a2
        by_cases a3 : PlainAid.bt s j = 9 ∨ PlainAid.bt s j = 10 ∨ PlainAid.bt s j = 13 ∨ PlainAid.bt s j = 32
        · have HE : Hid (R = skp (PlainAid.bt s) s.size false (j + 1)) := by show _ = _; rw [HJ.out, skp_false _ _ _ a1, if_neg A2.out, if_pos a3]
          rcases a3 with a3 | a3 | a3 | a3
          · have c1 : (PlainAid.bt s j == 9) = true := by simp [a3]
            clear a3
            go_wp2
            go_round
            case rel => exact ⟨j + 1, by omega, by go_num, HE.out⟩
            case measure => simp [intOf]; omega
          · have c1 : (PlainAid.bt s j == 9) = false := by simp [a3]
            have c2 : (PlainAid.bt s j == 10) = true := by simp [a3]
            clear a3
            go_wp2
            go_round
            case rel => exact ⟨j + 1, by omega, by go_num, HE.out⟩
            case measure => simp [intOf]; omega
          · have c1 : (PlainAid.bt s j == 9) = false := by simp [a3]
            have c2 : (PlainAid.bt s j == 10) = false := by simp [a3]
            have c3 : (PlainAid.bt s j == 13) = true := by simp [a3]
            clear a3
            go_wp2
            go_round
            case rel => exact ⟨j + 1, by omega, by go_num, HE.out⟩
            case measure => simp [intOf]; omega
          · have c1 : (PlainAid.bt s j == 9) = false := by simp [a3]
            have c2 : (PlainAid.bt s j == 10) = false := by simp [a3]
            have c3 : (PlainAid.bt s j == 13) = false := by simp [a3]
            have c4 : (PlainAid.bt s j == 32) = true := by simp [a3]
            clear a3
            go_wp2
            go_round
            case rel => exact ⟨j + 1, by omega, by go_num, HE.out⟩
            case measure => simp [intOf]; omega
        · have HE : Hid (R = j) := by show _ = _; rw [HJ.out, skp_false _ _ _ a1, if_neg A2.out, if_neg a3]
          have c1 : (PlainAid.bt s j == 9) = false := by simp; omega
          have c2 : (PlainAid.bt s j == 10) = false := by simp; omega
          have c3 : (PlainAid.bt s j == 13) = false := by simp; omega
          have c4 : (PlainAid.bt s j == 32) = false := by simp; omega
          clear a3
          go_wp2
          go_ret
          exact ⟨ri (by rw [HE.out]), rfl⟩
    · obtain rfl : j = s.size := by omega
      go_wp2
      go_ret
      exact ⟨ri (by rw [HJ.out, skp_end _ _ _ _ (Nat.le_refl _)]), rfl⟩
end Go.Proofs.Ytdlpmefdeeokhaa
