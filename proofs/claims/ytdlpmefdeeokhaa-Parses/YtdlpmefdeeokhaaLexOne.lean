/- What the document's own one does. -/
import Derived.Test.YtdlpmefdeeokhaaLexSkip
namespace Go.Proofs.Ytdlpmefdeeokhaa
open Go.ChangeShapes Go.WideShapes Go.ChangeAt Go.RowKit

set_option maxHeartbeats 4000000 in
theorem one_any (s : ByteArray) (k : Nat) (w : World) (hs : s.size ≤ 65536) (hk : k ≤ 65539) :
    Calls Try.prog 49 #[.string s, .int .i64 (k : Int)] w fun e w' => e = .returned (.tuple #[.int .i64 (oneV (oneF (PlainAid.bt s) s.size k)).1, .int .i64 (oneV (oneF (PlainAid.bt s) s.size k)).2]) ∧ Below w.heap.size w w' := by
  have hb := PlainAid.get_bt s
  have u0 := PlainAid.bt_nonneg s k
  have u1 := PlainAid.bt_le s k
  by_cases a1 : k < s.size
  · by_cases a2 : PlainAid.bt s k = 39
    · have a2' : (PlainAid.bt s k != 39) = false := by simp [a2]
      have N1 : Hid (¬ (s.size ≤ k ∨ PlainAid.bt s k ≠ 39)) := by show ¬ _; omega
      clear a2
      have SG : ∀ w, Calls Try.prog 48 #[.string s, .int .i64 ((k : Int) + 1), .int .u8 39] w fun e w' => e = .returned (.tuple #[.int .i64 (signV (signF (PlainAid.bt s) s.size (k + 1) 39)).1, .int .i64 (signV (signF (PlainAid.bt s) s.size (k + 1) 39)).2]) ∧ Below w.heap.size w w' := fun w => sign_any s (k + 1) 39 w hs (by omega)
      cases hsf : signF (PlainAid.bt s) s.size (k + 1) 39 with
      | none =>
        rw [hsf] at SG
        simp only [signV] at SG
        have HE : Hid (oneF (PlainAid.bt s) s.size k = none) := by show _ = _; rw [oneF, if_neg N1.out, hsf]
        rw [HE.out]
        clear hsf
        go_enter Try.func49, Try.ntmps49
        go_wp2_with (go_at_call 48; refine (SG _).mono ?_; rintro e w1 ⟨rfl, hb1⟩)
        all_goals go_ret2
        all_goals exact ⟨rfl, hb1⟩
      | some x =>
        obtain ⟨c, to⟩ := x
        obtain ⟨q1, q2, q3, q4⟩ := signF_some (fun j => ⟨PlainAid.bt_nonneg s j, PlainAid.bt_le s j⟩) hsf
        rw [hsf] at SG
        simp only [signV] at SG
        have v0 := PlainAid.bt_nonneg s to
        have v1 := PlainAid.bt_le s to
        by_cases b1 : to < s.size
        · by_cases b2 : PlainAid.bt s to = 39
          · have b2' : (PlainAid.bt s to != 39) = false := by simp [b2]
            have HE : Hid (oneF (PlainAid.bt s) s.size k = some (c, to + 1)) := by show _ = _; rw [oneF, if_neg N1.out, hsf]; exact if_neg (by omega)
            rw [HE.out]
            clear hsf b2
            go_enter Try.func49, Try.ntmps49
            go_wp2_with (go_at_call 48; refine (SG _).mono ?_; rintro e w1 ⟨rfl, hb1⟩)
            all_goals go_ret2
            all_goals exact ⟨rfl, hb1⟩
          · have b2' : (PlainAid.bt s to != 39) = true := by simpa using b2
            have HE : Hid (oneF (PlainAid.bt s) s.size k = none) := by show _ = _; rw [oneF, if_neg N1.out, hsf]; exact if_pos (by omega)
            rw [HE.out]
            clear hsf b2
            go_enter Try.func49, Try.ntmps49
            go_wp2_with (go_at_call 48; refine (SG _).mono ?_; rintro e w1 ⟨rfl, hb1⟩)
            all_goals go_ret2
            all_goals exact ⟨rfl, hb1⟩
        · have HE : Hid (oneF (PlainAid.bt s) s.size k = none) := by show _ = _; rw [oneF, if_neg N1.out, hsf]; exact if_pos (by omega)
          rw [HE.out]
          clear hsf
          go_enter Try.func49, Try.ntmps49
          go_wp2_with (go_at_call 48; refine (SG _).mono ?_; rintro e w1 ⟨rfl, hb1⟩)
          all_goals go_ret2
          all_goals exact ⟨rfl, hb1⟩
    · have a2' : (PlainAid.bt s k != 39) = true := by simpa using a2
      have HE : Hid (oneF (PlainAid.bt s) s.size k = none) := by show _ = _; rw [oneF, if_pos (by omega)]
      rw [HE.out]
      clear a2
      go_enter Try.func49, Try.ntmps49
      go_wp2
      go_ret2
      exact ⟨rfl, Below.refl _ _⟩
  · have HE : Hid (oneF (PlainAid.bt s) s.size k = none) := by show _ = _; rw [oneF, if_pos (by omega)]
    rw [HE.out]
    go_enter Try.func49, Try.ntmps49
    go_wp2
    go_ret2
    exact ⟨rfl, Below.refl _ _⟩
end Go.Proofs.Ytdlpmefdeeokhaa
