/- What the document's own named, ranged and quoted hand back. -/
import Derived.Test.YtdlpmefdeeokhaaLexOne
import Derived.Test.YtdlpmefdeeokhaaLexAwake
namespace Go.Proofs.Ytdlpmefdeeokhaa
set_option linter.unusedVariables false
open Go.ChangeShapes Go.WideShapes Go.ChangeAt Go.RowKit

theorem strOf_cut (s : ByteArray) (k e : Nat) (he : e ≤ s.size) : strOf (cut (PlainAid.bt s) k e) = s.extract k e := by
  apply ByteArray.ext
  apply Array.ext
  · simp [strOf, cut]
    have : s.data.size = s.size := rfl
    omega
  · intro i h1 h2
    simp [strOf, cut] at h1
    simp only [strOf, cut, List.getElem_toArray, List.getElem_map, List.getElem_range, ByteArray.data_extract, Array.getElem_extract]
    unfold PlainAid.bt
    rw [dif_pos (by omega)]
    simp
    rfl

def gotT : Got → Tok
  | .ok (t, _) => t
  | _ => ⟨0, 0, ⟨#[]⟩, 0, 0⟩
def gotP : Got → Int
  | .ok (_, to) => (to : Int)
  | _ => -1
/-- What is said of a call that reads one token. -/
def GotEnd (w : World) (g : Got) (e : Ending) (w' : World) : Prop := e = .returned (.tuple #[tokV (gotT g), .int .i64 (gotP g)]) ∧ Below w.heap.size w w'

set_option maxHeartbeats 4000000 in
theorem named_any (s : ByteArray) (k : Nat) (w : World) (hs : s.size ≤ 65536) (hk : k < s.size) :
    Calls Try.prog 29 #[.string s, .int .i64 (k : Int)] w (GotEnd w (nameG (PlainAid.bt s) s.size k)) := by
  have hb := PlainAid.get_bt s
  obtain ⟨R, hR⟩ : ∃ R, R = nameE (PlainAid.bt s) s.size k := ⟨_, rfl⟩
  have HR : Hid (R = nameE (PlainAid.bt s) s.size k) := hR
  have hge := nameE_ge (PlainAid.bt s) s.size k
  have hle := nameE_le (PlainAid.bt s) s.size k (by omega)
  rw [← hR] at hge hle
  clear hR
  go_enter Try.func29, Try.ntmps29
  go_wp2
  go_loop [6] (fun i => ∃ j : Nat, j ≤ s.size ∧ k ≤ j ∧ i = .int .i64 j ∧ R = nameE (PlainAid.bt s) s.size j) (fun i => s.size - (intOf i).toNat)
  case atStart => exact ⟨k, by omega, Nat.le_refl _, rfl, HR.out⟩
  case round =>
    obtain ⟨j, hj, hkj, rfl, hrj⟩ := hrel
    have HJ : Hid (R = nameE (PlainAid.bt s) s.size j) := hrj
    clear hrj
    have u0 := PlainAid.bt_nonneg s j
    have u1 := PlainAid.bt_le s j
    by_cases a0 : j < s.size ∧ (letB (PlainAid.bt s j) || digB (PlainAid.bt s j)) = true
    · obtain ⟨hlt, a1⟩ := a0
      have A1 : Hid ((letB (PlainAid.bt s j) || digB (PlainAid.bt s j)) = true) := a1
      by_cases c1 : letB (PlainAid.bt s j) = true
      all_goals
        first
          | have c1' : letB (PlainAid.bt s j) = true := c1
          | (have c1' : letB (PlainAid.bt s j) = false := Bool.eq_false_iff.2 c1
             have c2' : digB (PlainAid.bt s j) = true := by rw [c1'] at a1; simpa using a1)
        clear a1 c1
        go_wp2_with (first | (go_at_call 28; refine (letter_any _ _ u0 u1).mono ?_; rintro e w1 ⟨rfl, rfl⟩) | (go_at_call 47; refine (digit_any _ _).mono ?_; rintro e w1 ⟨rfl, rfl⟩))
        go_round
        case rel => exact ⟨j + 1, by omega, by omega, by go_num, by rw [HJ.out, nameE_in _ _ _ hlt A1.out]⟩
        case measure => simp [intOf]; omega
    · have EJ : Hid (R = j) := by
        show _ = _
        rw [HJ.out]
        by_cases e : j = s.size
        · exact nameE_end _ _ _ (by omega)
        · exact nameE_out _ _ _ (by omega) (Bool.eq_false_iff.2 fun h => a0 ⟨by omega, h⟩)
      have hlet : letB (PlainAid.bt s j) = false ∧ digB (PlainAid.bt s j) = false := by
        by_cases h : j < s.size
        · have := Bool.eq_false_iff.2 fun h' => a0 ⟨h, h'⟩
          simpa using this
        · rw [PlainAid.bt_end s (by omega)]; exact ⟨rfl, rfl⟩
      obtain ⟨l1, l2⟩ := hlet
      have EC : Hid (strOf (cut (PlainAid.bt s) k j) = s.extract k j) := strOf_cut s k j hj
      have HG : Hid (nameG (PlainAid.bt s) s.size k = if 32 < j - k then .noText else .tok (nameT k (cut (PlainAid.bt s) k j)) j) := by
        show _ = _
        unfold nameG
        rw [← HR.out, EJ.out]
      clear a0 hge hle
      by_cases b1 : 32 < j - k
      · have GG : Hid (nameG (PlainAid.bt s) s.size k = .noText) := by show _ = _; rw [HG.out, if_pos b1]
        by_cases hlt : j < s.size
        all_goals
          go_wp2_with (first | (go_at_call 28; refine (letter_any _ _ u0 u1).mono ?_; rintro e w1 ⟨rfl, rfl⟩) | (go_at_call 47; refine (digit_any _ _).mono ?_; rintro e w1 ⟨rfl, rfl⟩))
          refine bodyPost_ret (v := .tuple #[.agg #[.int .i64 0, .int .i64 0, .string ⟨#[]⟩, .int .i64 0, .int .i64 0], .int .i64 (-1)]) (by simp [results, Try.results29, go_sem]) rfl ?_
          rw [GG.out]
          exact ⟨rfl, bel1 _ _⟩
      · by_cases b2 : isStart (cut (PlainAid.bt s) k j) = true
        · have b2' : ((s.extract k j).toList == [115, 116, 97, 114, 116]) = true := by rw [← startB_list, ← EC.out]; exact b2
          have GG : Hid (nameG (PlainAid.bt s) s.size k = .tok ⟨3, k, ⟨#[]⟩, 0, 0⟩ j) := by show _ = _; rw [HG.out, if_neg b1, nameT, if_pos b2]
          clear b2
          by_cases hlt : j < s.size
          all_goals
            go_wp2_with (first | (go_at_call 28; refine (letter_any _ _ u0 u1).mono ?_; rintro e w1 ⟨rfl, rfl⟩) | (go_at_call 47; refine (digit_any _ _).mono ?_; rintro e w1 ⟨rfl, rfl⟩))
            refine bodyPost_ret (v := .tuple #[.agg #[.int .i64 3, .int .i64 (k : Int), .string ⟨#[]⟩, .int .i64 0, .int .i64 0], .int .i64 (j : Int)]) (by simp [results, Try.results29, go_sem]) rfl ?_
            rw [GG.out]
            exact ⟨rfl, bel1 _ _⟩
        · have b2' : ((s.extract k j).toList == [115, 116, 97, 114, 116]) = false := by rw [← startB_list, ← EC.out]; exact Bool.eq_false_iff.2 b2
          have GG : Hid (nameG (PlainAid.bt s) s.size k = .tok ⟨0, k, s.extract k j, 0, 0⟩ j) := by show _ = _; rw [HG.out, if_neg b1, nameT, if_neg b2, EC.out]
          clear b2
          by_cases hlt : j < s.size
          all_goals
            go_wp2_with (first | (go_at_call 28; refine (letter_any _ _ u0 u1).mono ?_; rintro e w1 ⟨rfl, rfl⟩) | (go_at_call 47; refine (digit_any _ _).mono ?_; rintro e w1 ⟨rfl, rfl⟩))
            refine bodyPost_ret (v := .tuple #[.agg #[.int .i64 0, .int .i64 (k : Int), .string (s.extract k j), .int .i64 0, .int .i64 0], .int .i64 (j : Int)]) (by simp [results, Try.results29, go_sem]) rfl ?_
            rw [GG.out]
            exact ⟨rfl, bel1 _ _⟩
end Go.Proofs.Ytdlpmefdeeokhaa
