/- What the program's reader does in a name, in a text, in a range; a step of it. -/
import Derived.Test.YtbpkpfnjgljilaaLexOpen
namespace Go.Proofs.Ytbpkpfnjgljilaa
set_option linter.unusedVariables false
open Go.ChangeShapes Go.WideShapes Go.ChangeAt Go.RowKit

section
variable {W : World} {B : Nat} {s : ByteArray} {st nx bg : Nat} {rd : List Int} {ps : List Pc} {ft : Nat} {w : World}

theorem Rd.row4 (h : Rd W B s ⟨st, nx, bg, rd, ps, ft⟩ w) : ∃ p cap, w.cell? ⟨B, 4, none⟩ = some (.slice p rd.length cap) ∧ (convert 52 9 (.slice p rd.length cap)).run Try.prog w = .ok (.string (strOf rd)) w := by
  obtain ⟨v, h4, o4⟩ := h.c4
  obtain ⟨p, cap, hv⟩ := row_slice o4
  subst hv
  exact ⟨p, cap, h4, conv_row o4⟩
theorem startB_list : startB.toList = [115, 116, 97, 114, 116] := ByteArray.toList_mk _

set_option maxHeartbeats 4000000 in
theorem name_any (hR : Rd W B s ⟨2, nx, bg, rd, ps, ft⟩ w) (g : Good (PlainAid.bt s) s.size ⟨2, nx, bg, rd, ps, ft⟩) (hs : s.size ≤ 65536) :
    Calls Try.prog 24 #[.pointer (some ⟨B, 0, none⟩)] w (Done W B s ⟨2, nx, bg, rd, ps, ft⟩) := by
  have hn : nx ≤ s.size := g.nx
  have hps : ps.length ≤ 65536 := Nat.le_trans g.pl (Nat.le_trans hn hs)
  have hrd : rd.length ≤ 65536 := Nat.le_trans g.rd (Nat.le_trans hn hs)
  have HR : Hid (Rd W B s ⟨2, nx, bg, rd, ps, ft⟩ w) := hR
  have G : Hid (Good (PlainAid.bt s) s.size ⟨2, nx, bg, rd, ps, ft⟩) := g
  have u0 := PlainAid.bt_nonneg s nx
  have u1 := PlainAid.bt_le s nx
  have L1 : letB (-1) = false := rfl
  have D1 : digB (-1) = false := rfl
  clear g hR
  by_cases a0 : nx < s.size ∧ (letB (PlainAid.bt s nx) || digB (PlainAid.bt s nx)) = true
  · obtain ⟨hlt, a1⟩ := a0
    have hp := pk_in hlt
    have A1 : Hid ((letB (PlainAid.bt s nx) || digB (PlainAid.bt s nx)) = true) := a1
    by_cases a2 : rd.length = 32
    · have A2 : Hid (rd.length = 32) := a2
      have a2' : ((rd.length : Int) == 32) = true := by simp; omega
      clear a2
      by_cases c1 : letB (PlainAid.bt s nx) = true
      all_goals
        first
          | have c1' : letB (PlainAid.bt s nx) = true := c1
          | (have c1' : letB (PlainAid.bt s nx) = false := Bool.eq_false_iff.2 c1
             have c2' : digB (PlainAid.bt s nx) = true := by rw [c1'] at a1; simpa using a1)
        clear a1 c1
        go_enter Try.func24, Try.ntmps24
        go_wp2_with (first | (go_at_call 33; refine (peek_any HR.out hs hn).mono ?_; rintro e w1 ⟨rfl, hb1⟩; have hR2 := HR.out.keep hb1; obtain ⟨p, cap, s4, cv⟩ := hR2.row4; clear hb1) | (go_at_call 35; refine (letter_dev _ _).mono ?_; rintro e w2 ⟨rfl, rfl⟩) | (go_at_call 37; refine (digit_dev _ _).mono ?_; rintro e w2 ⟨rfl, rfl⟩) | (go_at_call 38; refine (fail_any hR2 201 (by decide)).mono ?_; rintro e w3 ⟨rfl, hR3⟩))
        refine bodyPost_ret (v := .tuple #[]) (results_none rfl _ _ _) rfl ?_
        exact ⟨rfl, _, hR3, adv_long G.out hlt A1.out A2.out⟩
    · have A2 : Hid (rd.length ≠ 32) := a2
      have a2' : ((rd.length : Int) == 32) = false := by simp; omega
      clear a2
      by_cases c1 : letB (PlainAid.bt s nx) = true
      all_goals
        first
          | have c1' : letB (PlainAid.bt s nx) = true := c1
          | (have c1' : letB (PlainAid.bt s nx) = false := Bool.eq_false_iff.2 c1
             have c2' : digB (PlainAid.bt s nx) = true := by rw [c1'] at a1; simpa using a1)
        clear a1 c1
        go_enter Try.func24, Try.ntmps24
        go_wp2_with (first | (go_at_call 33; refine (peek_any HR.out hs hn).mono ?_; rintro e w1 ⟨rfl, hb1⟩; have hR2 := HR.out.keep hb1; obtain ⟨p, cap, s4, cv⟩ := hR2.row4; clear hb1) | (go_at_call 35; refine (letter_dev _ _).mono ?_; rintro e w2 ⟨rfl, rfl⟩) | (go_at_call 37; refine (digit_dev _ _).mono ?_; rintro e w2 ⟨rfl, rfl⟩) | (go_at_call 39; refine (add_any hR2 _ 1 _ rfl hrd (Nat.le_trans hn hs) (by decide)).mono ?_; rintro e w3 ⟨rfl, hR3⟩))
        all_goals go_end0
        all_goals exact ⟨rfl, _, hR3, adv_in G.out hlt A1.out A2.out⟩
  · have A0 : Hid (nx = s.size ∨ (letB (PlainAid.bt s nx) || digB (PlainAid.bt s nx)) = false) := by
      show _ ∨ _
      by_cases e : nx = s.size
      · exact Or.inl e
      · exact Or.inr (Bool.eq_false_iff.2 fun h => a0 ⟨by omega, h⟩)
    have hpl : letB (pk s nx) = false ∧ digB (pk s nx) = false := by
      rcases A0.out with h | h
      · rw [pk_end h]; exact ⟨rfl, rfl⟩
      · by_cases e : nx = s.size
        · rw [pk_end e]; exact ⟨rfl, rfl⟩
        · rw [pk_in (by omega)]; simpa using h
    obtain ⟨c1, c2⟩ := hpl
    clear a0 L1 D1
    by_cases a3 : isStart rd = true
    · have a3' : ((strOf rd).toList == [115, 116, 97, 114, 116]) = true := by rw [← startB_list]; exact a3
      have A3 : Hid (isStart rd = true) := a3
      clear a3
      go_enter Try.func24, Try.ntmps24
      go_wp2_with (first | (go_at_call 33; refine (peek_any HR.out hs hn).mono ?_; rintro e w1 ⟨rfl, hb1⟩; have hR2 := HR.out.keep hb1; obtain ⟨p, cap, s4, cv⟩ := hR2.row4; clear hb1) | (go_at_call 35; refine (letter_dev _ _).mono ?_; rintro e w2 ⟨rfl, rfl⟩) | (go_at_call 37; refine (digit_dev _ _).mono ?_; rintro e w2 ⟨rfl, rfl⟩) | (go_at_call 40; refine (shut_no hR2 3 _ rfl hps).mono ?_; rintro e w3 ⟨rfl, hR3⟩))
      all_goals go_end0
      all_goals exact ⟨rfl, _, hR3, adv_shut G.out A0.out _ (if_pos A3.out).symm⟩
    · have a3' : ((strOf rd).toList == [115, 116, 97, 114, 116]) = false := by rw [← startB_list]; exact Bool.eq_false_iff.2 a3
      have A3 : Hid (¬ isStart rd = true) := a3
      clear a3
      go_enter Try.func24, Try.ntmps24
      go_wp2_with (first | (go_at_call 33; refine (peek_any HR.out hs hn).mono ?_; rintro e w1 ⟨rfl, hb1⟩; have hR2 := HR.out.keep hb1; obtain ⟨p, cap, s4, cv⟩ := hR2.row4; clear hb1) | (go_at_call 35; refine (letter_dev _ _).mono ?_; rintro e w2 ⟨rfl, rfl⟩) | (go_at_call 37; refine (digit_dev _ _).mono ?_; rintro e w2 ⟨rfl, rfl⟩) | (go_at_call 40; refine (shut_str hR2 0 _ _ rfl hps).mono ?_; rintro e w3 ⟨rfl, hR3⟩))
      all_goals go_end0
      all_goals exact ⟨rfl, _, hR3, adv_shut G.out A0.out _ (if_neg A3.out).symm⟩
end
end Go.Proofs.Ytbpkpfnjgljilaa
