/- What the program's reader does in a range; a step of it. -/
import Derived.Test.YtopnhbgialbicaaLexStep
namespace Go.Proofs.Ytopnhbgialbicaa
set_option linter.unusedVariables false
open Go.ChangeShapes Go.WideShapes Go.ChangeAt Go.RowKit

section
variable {W : World} {B : Nat} {s : ByteArray} {st nx bg : Nat} {rd : List Int} {ps : List Pc} {ft : Nat} {w : World}

theorem Rd.head {a : Int} {l : List Int} (h : Rd W B s ⟨st, nx, bg, a :: l, ps, ft⟩ w) : ∃ gb cap, w.cell? ⟨B, 4, none⟩ = some (.slice (some ⟨gb, 0, none⟩) (l.length + 1) cap) ∧ w.cell? ⟨gb, 0, none⟩ = some (.int .u8 a) := by
  obtain ⟨v, h4, o4⟩ := h.c4
  obtain ⟨h0, ⟨h1, h2⟩ | ⟨g, cap, cur, h1, h2, h3⟩⟩ := id o4
  · simp at h2
  · subst h1
    exact ⟨g, cap, h4, o4.cells (g := g) rfl 0 _ rfl⟩
theorem half_none {b : Nat → Int} {n nx : Nat} (h : signF b n nx 39 = none) : half b n nx = none := by unfold half; rw [h]
theorem half_no {b : Nat → Int} {n nx : Nat} {c : Int} {to : Nat} (h : signF b n nx 39 = some (c, to)) (h2 : n ≤ to ∨ b to ≠ 39) : half b n nx = none := by unfold half; rw [h]; exact if_pos h2
theorem half_yes {b : Nat → Int} {n nx : Nat} {c : Int} {to : Nat} (h : signF b n nx 39 = some (c, to)) (h2 : ¬ (n ≤ to ∨ b to ≠ 39)) : half b n nx = some (c, to + 1) := by unfold half; rw [h]; exact if_neg h2

set_option maxHeartbeats 4000000 in
theorem side_any (hR : Rd W B s ⟨4, nx, bg, rd, ps, ft⟩ w) (g : Good (PlainAid.bt s) s.size ⟨4, nx, bg, rd, ps, ft⟩) (hs : s.size ≤ 65536) :
    Calls Try.prog 46 #[.pointer (some ⟨B, 0, none⟩)] w (Done W B s ⟨4, nx, bg, rd, ps, ft⟩) := by
  have hn : nx ≤ s.size := g.nx
  have hps : ps.length ≤ 65536 := Nat.le_trans g.pl (Nat.le_trans hn hs)
  have hrd : rd.length ≤ 65536 := Nat.le_trans g.rd (Nat.le_trans hn hs)
  have HR : Hid (Rd W B s ⟨4, nx, bg, rd, ps, ft⟩ w) := hR
  have G : Hid (Good (PlainAid.bt s) s.size ⟨4, nx, bg, rd, ps, ft⟩) := g
  have hbb := fun j => (⟨PlainAid.bt_nonneg s j, PlainAid.bt_le s j⟩ : 0 ≤ PlainAid.bt s j ∧ PlainAid.bt s j ≤ 255)
  obtain ⟨hrl, -, hrb⟩ := g.s4 rfl
  clear hR g
  cases hsf : signF (PlainAid.bt s) s.size nx 39 with
  | none =>
    have WN := writ_none s nx 39 hs hn hsf
    have HN : Hid (half (PlainAid.bt s) s.size nx = none) := half_none hsf
    clear hsf hbb hrl hrb
    go_enter Try.func46, Try.ntmps46
    go_wp2_with (first | (go_at_call 57; refine (rest_any HR.out hs hn).mono ?_; rintro e w2 ⟨rfl, hb2⟩; have hR3 := HR.out.keep hb2; clear hb2) | (go_at_call 56; refine (WN _).mono ?_; rintro e w3 ⟨rfl, hb3⟩; have hR4 := hR3.keep hb3; clear hb3) | (go_at_call 53; refine (fail_any hR4 201 (by decide)).mono ?_; rintro e w4 ⟨rfl, hR5⟩))
    refine bodyPost_ret (v := .tuple #[]) (results_none rfl _ _ _) rfl ?_
    exact ⟨rfl, _, hR5, adv_sideBad G.out HN.out⟩
  | some x =>
    obtain ⟨c, to⟩ := x
    have WS := writ_some s nx 39 hs hn c to hsf
    obtain ⟨q1, q2⟩ := signF_to hsf
    obtain ⟨qc0, qc1, -, -⟩ := signF_some hbb hsf
    obtain ⟨k, hk⟩ : ∃ k, k = to - nx := ⟨_, rfl⟩
    rw [← hk] at WS
    have K0 : ((k : Int) == 0) = false := by simp; omega
    have k1 : k ≤ 65536 := by omega
    have kz : (k : Int) ≤ ((s.extract nx s.size).size : Int) := by rw [size_extract]; omega
    have z1 : (s.extract to s.size).size ≤ 65536 := by rw [size_extract]; omega
    have PX : ∀ w, Calls Try.prog 58 #[.string ((s.extract nx s.size).extract k (s.size - nx)), .string ⟨#[39]⟩] w fun e w' => e = .returned (.bool (decide (to < s.size) && decide (PlainAid.bt s to = 39))) ∧ w = w' := fun w => by
      have h := prefix_any (s.extract to s.size) ⟨#[39]⟩ w z1 (by decide)
      rw [rest1 s to q2] at h
      rw [← size_extract s nx, extract_extract s nx k (by omega), show nx + k = to by omega]
      exact h
    by_cases a1 : s.size ≤ to ∨ PlainAid.bt s to ≠ 39
    · have HN : Hid (half (PlainAid.bt s) s.size nx = none) := half_no hsf a1
      have e1' : (decide (to < s.size) && decide (PlainAid.bt s to = 39)) = false := by
        by_cases h : to < s.size
        · have : PlainAid.bt s to ≠ 39 := by omega
          simp [this]
        · simp [h]
      rw [e1'] at PX
      clear hsf hbb hrl hrb a1 hk q1 e1' z1
      go_enter Try.func46, Try.ntmps46
      go_wp2_with (first | (go_at_call 57; first | (refine (rest_any hR4 hs hn).mono ?_; rintro e w5 ⟨rfl, hb5⟩; have hR5 := hR4.keep hb5; clear hb5) | (refine (rest_any HR.out hs hn).mono ?_; rintro e w2 ⟨rfl, hb2⟩; have hR3 := HR.out.keep hb2; clear hb2)) | (go_at_call 56; refine (WS _).mono ?_; rintro e w3 ⟨rfl, hb3⟩; have hR4 := hR3.keep hb3; clear hb3) | (go_at_call 58; refine (PX _).mono ?_; rintro e w6 ⟨rfl, rfl⟩) | (go_at_call 53; refine (fail_any hR5 201 (by decide)).mono ?_; rintro e w7 ⟨rfl, hR6⟩))
      refine bodyPost_ret (v := .tuple #[]) (results_none rfl _ _ _) rfl ?_
      exact ⟨rfl, _, hR6, adv_sideBad G.out HN.out⟩
    · have HY := half_yes hsf a1
      have HH : Hid (half (PlainAid.bt s) s.size nx = some (c, to + 1)) := HY
      have e1' : (decide (to < s.size) && decide (PlainAid.bt s to = 39)) = true := by simp; omega
      rw [e1'] at PX
      obtain ⟨t2, ht2⟩ : ∃ t2, t2 = to + 1 := ⟨_, rfl⟩
      have T2 : Hid (nx + (k + 1) = t2) := by show _ = _; omega
      have tn : t2 ≤ s.size := by omega
      rw [← ht2] at HH
      have kk : (k : Int) + 1 = ((k + 1 : Nat) : Int) := by omega
      have KK : Hid ((k : Int) + 1 = ((k + 1 : Nat) : Int)) := kk
      have k2 : k + 1 ≤ 65536 := by omega
      have z2 : (s.extract t2 s.size).size ≤ 65536 := by rw [size_extract]; omega
      match rd, hrl, hrb, HR, G, hrd with
      | [a], _, hrb, HR, G, hrd =>
        obtain ⟨ra0, ra1⟩ := hrb a (by simp)
        clear hsf hbb a1 hk q1 e1' z1 ht2 kk hrb HY
        go_enter Try.func46, Try.ntmps46
        go_wp2_with (first | (go_at_call 57; first | (refine (rest_any hR4 hs hn).mono ?_; rintro e w5 ⟨rfl, hb5⟩; have hR5 := hR4.keep hb5; clear hb5) | (refine (rest_any HR.out hs hn).mono ?_; rintro e w2 ⟨rfl, hb2⟩; have hR3 := HR.out.keep hb2; clear hb2)) | (go_at_call 56; refine (WS _).mono ?_; rintro e w3 ⟨rfl, hb3⟩; have hR4 := hR3.keep hb3; clear hb3) | (go_at_call 58; refine (PX _).mono ?_; rintro e w6 ⟨rfl, rfl⟩) | (go_at_call 54; refine (add_any hR5 _ (k + 1) _ KK.out hrd (Nat.le_trans hn hs) k2).mono ?_; rintro e w7 ⟨rfl, hR6⟩; rw [T2.out] at hR6; obtain ⟨gb, cap, y4, y0⟩ := Rd.head (l := [c]) hR6) | (go_at_call 55; refine (shut_ends hR6 2 _ _ _ rfl hps).mono ?_; rintro e w8 ⟨rfl, hR7⟩))
        refine bodyPost_ret (v := .tuple #[]) (results_none rfl _ _ _) rfl ?_
        exact ⟨rfl, _, hR7, adv_sideTwo G.out HH.out⟩
      | [], _, _, HR, G, hrd =>
        have PY : ∀ w, Calls Try.prog 58 #[.string (s.extract t2 s.size), .string ⟨#[46, 46]⟩] w fun e w' => e = .returned (.bool (dotsB (PlainAid.bt s) s.size t2)) ∧ w = w' := fun w => by
          have h := prefix_any (s.extract t2 s.size) ⟨#[46, 46]⟩ w z2 (by decide)
          rw [rest2 s t2 tn] at h
          exact h
        by_cases d1 : dotsB (PlainAid.bt s) s.size t2 = true
        · have D1 : Hid (dots (PlainAid.bt s) s.size t2) := d1
          rw [d1] at PY
          have PZ : ∀ w, Calls Try.prog 58 #[.string (s.extract t2 s.size), .string ⟨#[46, 46, 39]⟩] w fun e w' => e = .returned (.bool (!decide (s.size ≤ t2 + 2 ∨ PlainAid.bt s (t2 + 2) ≠ 39))) ∧ w = w' := fun w => by
            have h := prefix_any (s.extract t2 s.size) ⟨#[46, 46, 39]⟩ w z2 (by decide)
            rw [rest3 s t2 tn d1] at h
            exact h
          by_cases d2 : s.size ≤ t2 + 2 ∨ PlainAid.bt s (t2 + 2) ≠ 39
          · have D2 : Hid (s.size ≤ t2 + 2 ∨ PlainAid.bt s (t2 + 2) ≠ 39) := d2
            rw [decide_eq_true d2] at PZ
            simp only [Bool.not_true] at PZ
            clear hsf hbb a1 hk q1 e1' z1 ht2 kk d1 d2 HY
            go_enter Try.func46, Try.ntmps46
            go_wp2_with (first | (go_at_call 57; first | (refine (rest_any hR7 hs tn).mono ?_; rintro e w9 ⟨rfl, hb9⟩; have hR8 := hR7.keep hb9; clear hb9) | (refine (rest_any hR6 hs tn).mono ?_; rintro e w8 ⟨rfl, hb8⟩; have hR7 := hR6.keep hb8; clear hb8) | (refine (rest_any hR4 hs hn).mono ?_; rintro e w5 ⟨rfl, hb5⟩; have hR5 := hR4.keep hb5; clear hb5) | (refine (rest_any HR.out hs hn).mono ?_; rintro e w2 ⟨rfl, hb2⟩; have hR3 := HR.out.keep hb2; clear hb2)) | (go_at_call 56; refine (WS _).mono ?_; rintro e w3 ⟨rfl, hb3⟩; have hR4 := hR3.keep hb3; clear hb3) | (go_at_call 58; first | (have hh8 := hR8; clear hh8; refine (PZ _).mono ?_; rintro e w6 ⟨rfl, rfl⟩) | (have hh7 := hR7; clear hh7; refine (PY _).mono ?_; rintro e w6 ⟨rfl, rfl⟩) | (refine (PX _).mono ?_; rintro e w6 ⟨rfl, rfl⟩)) | (go_at_call 54; refine (add_any hR5 _ (k + 1) _ KK.out hrd (Nat.le_trans hn hs) k2).mono ?_; rintro e w7 ⟨rfl, hR6⟩; rw [T2.out] at hR6; obtain ⟨gb, cap, y4, y0⟩ := Rd.head (l := []) hR6) | (go_at_call 53; refine (fail_any hR8 201 (by decide)).mono ?_; rintro e wa ⟨rfl, hR9⟩))
            refine bodyPost_ret (v := .tuple #[]) (results_none rfl _ _ _) rfl ?_
            exact ⟨rfl, _, hR9, adv_sideNo G.out HH.out D1.out D2.out⟩
          · have D2 : Hid (¬ (s.size ≤ t2 + 2 ∨ PlainAid.bt s (t2 + 2) ≠ 39)) := d2
            rw [decide_eq_false d2] at PZ
            simp only [Bool.not_false] at PZ
            clear hsf hbb a1 hk q1 e1' z1 ht2 kk d1 d2 HY
            go_enter Try.func46, Try.ntmps46
            go_wp2_with (first | (go_at_call 57; first | (refine (rest_any hR7 hs tn).mono ?_; rintro e w9 ⟨rfl, hb9⟩; have hR8 := hR7.keep hb9; obtain ⟨s0, s1, s2, s3, s6⟩ := hR8.all; have t2' := hR8.fz 2; clear hb9) | (refine (rest_any hR6 hs tn).mono ?_; rintro e w8 ⟨rfl, hb8⟩; have hR7 := hR6.keep hb8; clear hb8) | (refine (rest_any hR4 hs hn).mono ?_; rintro e w5 ⟨rfl, hb5⟩; have hR5 := hR4.keep hb5; clear hb5) | (refine (rest_any HR.out hs hn).mono ?_; rintro e w2 ⟨rfl, hb2⟩; have hR3 := HR.out.keep hb2; clear hb2)) | (go_at_call 56; refine (WS _).mono ?_; rintro e w3 ⟨rfl, hb3⟩; have hR4 := hR3.keep hb3; clear hb3) | (go_at_call 58; first | (have hh8 := hR8; clear hh8; refine (PZ _).mono ?_; rintro e w6 ⟨rfl, rfl⟩) | (have hh7 := hR7; clear hh7; refine (PY _).mono ?_; rintro e w6 ⟨rfl, rfl⟩) | (refine (PX _).mono ?_; rintro e w6 ⟨rfl, rfl⟩)) | (go_at_call 54; refine (add_any hR5 _ (k + 1) _ KK.out hrd (Nat.le_trans hn hs) k2).mono ?_; rintro e w7 ⟨rfl, hR6⟩; rw [T2.out] at hR6; obtain ⟨gb, cap, y4, y0⟩ := Rd.head (l := []) hR6))
            all_goals go_end0
            all_goals exact ⟨rfl, _, hR8.put2 (t2 + 3) _ (by omega), adv_side G.out HH.out D1.out D2.out ⟨qc0, qc1⟩⟩
        · have D1 : Hid (¬ dots (PlainAid.bt s) s.size t2) := d1
          rw [Bool.eq_false_iff.2 d1] at PY
          clear hsf hbb a1 hk q1 e1' z1 ht2 kk d1 HY
          go_enter Try.func46, Try.ntmps46
          go_wp2_with (first | (go_at_call 57; first | (refine (rest_any hR6 hs tn).mono ?_; rintro e w8 ⟨rfl, hb8⟩; have hR7 := hR6.keep hb8; obtain ⟨gb', cap', x4, x0⟩ := Rd.head (l := []) hR7; clear hb8) | (refine (rest_any hR4 hs hn).mono ?_; rintro e w5 ⟨rfl, hb5⟩; have hR5 := hR4.keep hb5; clear hb5) | (refine (rest_any HR.out hs hn).mono ?_; rintro e w2 ⟨rfl, hb2⟩; have hR3 := HR.out.keep hb2; clear hb2)) | (go_at_call 56; refine (WS _).mono ?_; rintro e w3 ⟨rfl, hb3⟩; have hR4 := hR3.keep hb3; clear hb3) | (go_at_call 58; first | (have hh7 := hR7; clear hh7; refine (PY _).mono ?_; rintro e w6 ⟨rfl, rfl⟩) | (refine (PX _).mono ?_; rintro e w6 ⟨rfl, rfl⟩)) | (go_at_call 54; refine (add_any hR5 _ (k + 1) _ KK.out hrd (Nat.le_trans hn hs) k2).mono ?_; rintro e w7 ⟨rfl, hR6⟩; rw [T2.out] at hR6; obtain ⟨gb, cap, y4, y0⟩ := Rd.head (l := []) hR6) | (go_at_call 55; refine (shut_ends hR7 2 _ _ _ rfl hps).mono ?_; rintro e wa ⟨rfl, hR8⟩))
          refine bodyPost_ret (v := .tuple #[]) (results_none rfl _ _ _) rfl ?_
          exact ⟨rfl, _, hR8, adv_sideOne G.out HH.out D1.out⟩
end
end Go.Proofs.Ytopnhbgialbicaa
