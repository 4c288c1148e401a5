import Derived.Test.YtopokicdgdjgkaaGe
import Derived.RegionTactic
import Derived.Laws.StructEq
/- What the program's reader does in a range; a step of it. -/
namespace Go.Proofs.Ytopokicdgdjgkaa
set_option linter.unusedVariables false
open Go.ChangeShapes Go.WideShapes Go.ChangeAt Go.RowKit

section
variable {W : World} {B : Nat} {s : ByteArray} {st nx bg : Nat} {rd : List Int} {ps : List Pc} {ft : Nat} {w : World}

theorem Rd.head {a : Int} {l : List Int} (h : Rd W B s ⟨st, nx, bg, a :: l, ps, ft⟩ w) : ∃ gb cap, w.cell? ⟨B, 4, none⟩ = some (.slice (some ⟨gb, 0, none⟩) (l.length + 1) cap) ∧ w.cell? ⟨gb, 0, none⟩ = some (.int .u8 a) := by
  obtain ⟨v, h4, o4⟩ := h.c4
  obtain ⟨h0, ⟨h1, h2⟩ | ⟨g, cap, cur, h1, h2, h3⟩⟩ := id o4
  · simp at h2
  · subst h1
    exact ⟨g, cap, h4, o4.cells (g := g) rfl 0 _ rfl⟩
theorem half_none {b : Nat → Int} {n nx : Nat} (h : signF b n nx 39 = none) : half b n nx = none := by unfold half; rw [h]
theorem half_no {b : Nat → Int} {n nx : Nat} {c : Int} {to : Nat} (h : signF b n nx 39 = some (c, to)) (h2 : n ≤ to ∨ b to ≠ 39) : half b n nx = none := by unfold half; rw [h]; exact if_pos h2
theorem half_yes {b : Nat → Int} {n nx : Nat} {c : Int} {to : Nat} (h : signF b n nx 39 = some (c, to)) (h2 : ¬ (n ≤ to ∨ b to ≠ 39)) : half b n nx = some (c, to + 1) := by unfold half; rw [h]; exact if_neg h2

set_option maxHeartbeats 4000000 in
theorem side_any (hR : Rd W B s ⟨4, nx, bg, rd, ps, ft⟩ w) (g : Good (PlainAid.bt s) s.size ⟨4, nx, bg, rd, ps, ft⟩) (hs : s.size ≤ 65536) :
    Calls Try.prog 60 #[.pointer (some ⟨B, 0, none⟩)] w (Done W B s ⟨4, nx, bg, rd, ps, ft⟩) := by
  have hn : nx ≤ s.size := g.nx
  have hps : ps.length ≤ 65536 := Nat.le_trans g.pl (Nat.le_trans hn hs)
  have hrd : rd.length ≤ 65536 := Nat.le_trans g.rd (Nat.le_trans hn hs)
  have HR : Hid (Rd W B s ⟨4, nx, bg, rd, ps, ft⟩ w) := hR
  have G : Hid (Good (PlainAid.bt s) s.size ⟨4, nx, bg, rd, ps, ft⟩) := g
  have hbb := fun j => (⟨PlainAid.bt_nonneg s j, PlainAid.bt_le s j⟩ : 0 ≤ PlainAid.bt s j ∧ PlainAid.bt s j ≤ 255)
  obtain ⟨hrl, -, hrb⟩ := g.s4 rfl
  clear hR g
  cases hsf : signF (PlainAid.bt s) s.size nx 39 with
  | none =>
    have WN := writ_none s nx 39 hs hn hsf
    have HN : Hid (half (PlainAid.bt s) s.size nx = none) := half_none hsf
    clear hsf hbb hrl hrb
    go_enter Try.func60, Try.ntmps60
    go_wp2_with (first | (go_at_call 71; refine (rest_any HR.out hs hn).mono ?_; rintro e w2 ⟨rfl, hb2⟩; have hR3 := HR.out.keep hb2; clear hb2) | (go_at_call 70; refine (WN _).mono ?_; rintro e w3 ⟨rfl, hb3⟩; have hR4 := hR3.keep hb3; clear hb3) | (go_at_call 67; refine (fail_any hR4 201 (by decide)).mono ?_; rintro e w4 ⟨rfl, hR5⟩))
    refine bodyPost_ret (v := .tuple #[]) (results_none rfl _ _ _) rfl ?_
    exact ⟨rfl, _, hR5, adv_sideBad G.out HN.out⟩
  | some x =>
    obtain ⟨c, to⟩ := x
    have WS := writ_some s nx 39 hs hn c to hsf
    obtain ⟨q1, q2⟩ := signF_to hsf
    obtain ⟨qc0, qc1, -, -⟩ := signF_some hbb hsf
    obtain ⟨k, hk⟩ : ∃ k, k = to - nx := ⟨_, rfl⟩
    rw [← hk] at WS
    have K0 : ((k : Int) == 0) = false := by simp; omega
    have k1 : k ≤ 65536 := by omega
    have kz : (k : Int) ≤ ((s.extract nx s.size).size : Int) := by rw [size_extract]; omega
    have z1 : (s.extract to s.size).size ≤ 65536 := by rw [size_extract]; omega
    have PX : ∀ w, Calls Try.prog 72 #[.string ((s.extract nx s.size).extract k (s.size - nx)), .string ⟨#[39]⟩] w fun e w' => e = .returned (.bool (decide (to < s.size) && decide (PlainAid.bt s to = 39))) ∧ w = w' := fun w => by
      have h := prefix_any (s.extract to s.size) ⟨#[39]⟩ w z1 (by decide)
      rw [rest1 s to q2] at h
      rw [← size_extract s nx, extract_extract s nx k (by omega), show nx + k = to by omega]
      exact h
    by_cases a1 : s.size ≤ to ∨ PlainAid.bt s to ≠ 39
    · have HN : Hid (half (PlainAid.bt s) s.size nx = none) := half_no hsf a1
      have e1' : (decide (to < s.size) && decide (PlainAid.bt s to = 39)) = false := by
        by_cases h : to < s.size
        · have : PlainAid.bt s to ≠ 39 := by omega
          simp [this]
        · simp [h]
      rw [e1'] at PX
      clear hsf hbb hrl hrb a1 hk q1 e1' z1
      go_enter Try.func60, Try.ntmps60
      go_wp2_with (first | (go_at_call 71; first | (refine (rest_any hR4 hs hn).mono ?_; rintro e w5 ⟨rfl, hb5⟩; have hR5 := hR4.keep hb5; clear hb5) | (refine (rest_any HR.out hs hn).mono ?_; rintro e w2 ⟨rfl, hb2⟩; have hR3 := HR.out.keep hb2; clear hb2)) | (go_at_call 70; refine (WS _).mono ?_; rintro e w3 ⟨rfl, hb3⟩; have hR4 := hR3.keep hb3; clear hb3) | (go_at_call 72; refine (PX _).mono ?_; rintro e w6 ⟨rfl, rfl⟩) | (go_at_call 67; refine (fail_any hR5 201 (by decide)).mono ?_; rintro e w7 ⟨rfl, hR6⟩))
      refine bodyPost_ret (v := .tuple #[]) (results_none rfl _ _ _) rfl ?_
      exact ⟨rfl, _, hR6, adv_sideBad G.out HN.out⟩
    · have HY := half_yes hsf a1
      have HH : Hid (half (PlainAid.bt s) s.size nx = some (c, to + 1)) := HY
      have e1' : (decide (to < s.size) && decide (PlainAid.bt s to = 39)) = true := by simp; omega
      rw [e1'] at PX
      obtain ⟨t2, ht2⟩ : ∃ t2, t2 = to + 1 := ⟨_, rfl⟩
      have T2 : Hid (nx + (k + 1) = t2) := by show _ = _; omega
      have tn : t2 ≤ s.size := by omega
      rw [← ht2] at HH
      have kk : (k : Int) + 1 = ((k + 1 : Nat) : Int) := by omega
      have KK : Hid ((k : Int) + 1 = ((k + 1 : Nat) : Int)) := kk
      have k2 : k + 1 ≤ 65536 := by omega
      have z2 : (s.extract t2 s.size).size ≤ 65536 := by rw [size_extract]; omega
      match rd, hrl, hrb, HR, G, hrd with
      | [a], _, hrb, HR, G, hrd =>
        obtain ⟨ra0, ra1⟩ := hrb a (by simp)
        clear hsf hbb a1 hk q1 e1' z1 ht2 kk hrb HY
        go_enter Try.func60, Try.ntmps60
        go_wp2_with (first | (go_at_call 71; first | (refine (rest_any hR4 hs hn).mono ?_; rintro e w5 ⟨rfl, hb5⟩; have hR5 := hR4.keep hb5; clear hb5) | (refine (rest_any HR.out hs hn).mono ?_; rintro e w2 ⟨rfl, hb2⟩; have hR3 := HR.out.keep hb2; clear hb2)) | (go_at_call 70; refine (WS _).mono ?_; rintro e w3 ⟨rfl, hb3⟩; have hR4 := hR3.keep hb3; clear hb3) | (go_at_call 72; refine (PX _).mono ?_; rintro e w6 ⟨rfl, rfl⟩) | (go_at_call 68; refine (add_any hR5 _ (k + 1) _ KK.out hrd (Nat.le_trans hn hs) k2).mono ?_; rintro e w7 ⟨rfl, hR6⟩; rw [T2.out] at hR6; obtain ⟨gb, cap, y4, y0⟩ := Rd.head (l := [c]) hR6) | (go_at_call 69; refine (shut_ends hR6 2 _ _ _ rfl hps).mono ?_; rintro e w8 ⟨rfl, hR7⟩))
        refine bodyPost_ret (v := .tuple #[]) (results_none rfl _ _ _) rfl ?_
        exact ⟨rfl, _, hR7, adv_sideTwo G.out HH.out⟩
      | [], _, _, HR, G, hrd =>
        have PY : ∀ w, Calls Try.prog 72 #[.string (s.extract t2 s.size), .string ⟨#[46, 46]⟩] w fun e w' => e = .returned (.bool (dotsB (PlainAid.bt s) s.size t2)) ∧ w = w' := fun w => by
          have h := prefix_any (s.extract t2 s.size) ⟨#[46, 46]⟩ w z2 (by decide)
          rw [rest2 s t2 tn] at h
          exact h
        by_cases d1 : dotsB (PlainAid.bt s) s.size t2 = true
        · have D1 : Hid (dots (PlainAid.bt s) s.size t2) := d1
          rw [d1] at PY
          have PZ : ∀ w, Calls Try.prog 72 #[.string (s.extract t2 s.size), .string ⟨#[46, 46, 39]⟩] w fun e w' => e = .returned (.bool (!decide (s.size ≤ t2 + 2 ∨ PlainAid.bt s (t2 + 2) ≠ 39))) ∧ w = w' := fun w => by
            have h := prefix_any (s.extract t2 s.size) ⟨#[46, 46, 39]⟩ w z2 (by decide)
            rw [rest3 s t2 tn d1] at h
            exact h
          by_cases d2 : s.size ≤ t2 + 2 ∨ PlainAid.bt s (t2 + 2) ≠ 39
          · have D2 : Hid (s.size ≤ t2 + 2 ∨ PlainAid.bt s (t2 + 2) ≠ 39) := d2
            rw [decide_eq_true d2] at PZ
            simp only [Bool.not_true] at PZ
            clear hsf hbb a1 hk q1 e1' z1 ht2 kk d1 d2 HY
            go_enter Try.func60, Try.ntmps60
            go_wp2_with (first | (go_at_call 71; first | (refine (rest_any hR7 hs tn).mono ?_; rintro e w9 ⟨rfl, hb9⟩; have hR8 := hR7.keep hb9; clear hb9) | (refine (rest_any hR6 hs tn).mono ?_; rintro e w8 ⟨rfl, hb8⟩; have hR7 := hR6.keep hb8; clear hb8) | (refine (rest_any hR4 hs hn).mono ?_; rintro e w5 ⟨rfl, hb5⟩; have hR5 := hR4.keep hb5; clear hb5) | (refine (rest_any HR.out hs hn).mono ?_; rintro e w2 ⟨rfl, hb2⟩; have hR3 := HR.out.keep hb2; clear hb2)) | (go_at_call 70; refine (WS _).mono ?_; rintro e w3 ⟨rfl, hb3⟩; have hR4 := hR3.keep hb3; clear hb3) | (go_at_call 72; first | (have hh8 := hR8; clear hh8; refine (PZ _).mono ?_; rintro e w6 ⟨rfl, rfl⟩) | (have hh7 := hR7; clear hh7; refine (PY _).mono ?_; rintro e w6 ⟨rfl, rfl⟩) | (refine (PX _).mono ?_; rintro e w6 ⟨rfl, rfl⟩)) | (go_at_call 68; refine (add_any hR5 _ (k + 1) _ KK.out hrd (Nat.le_trans hn hs) k2).mono ?_; rintro e w7 ⟨rfl, hR6⟩; rw [T2.out] at hR6; obtain ⟨gb, cap, y4, y0⟩ := Rd.head (l := []) hR6) | (go_at_call 67; refine (fail_any hR8 201 (by decide)).mono ?_; rintro e wa ⟨rfl, hR9⟩))
            refine bodyPost_ret (v := .tuple #[]) (results_none rfl _ _ _) rfl ?_
            exact ⟨rfl, _, hR9, adv_sideNo G.out HH.out D1.out D2.out⟩
          · have D2 : Hid (¬ (s.size ≤ t2 + 2 ∨ PlainAid.bt s (t2 + 2) ≠ 39)) := d2
            rw [decide_eq_false d2] at PZ
            simp only [Bool.not_false] at PZ
            clear hsf hbb a1 hk q1 e1' z1 ht2 kk d1 d2 HY
            go_enter Try.func60, Try.ntmps60
            go_wp2_with (first | (go_at_call 71; first | (refine (rest_any hR7 hs tn).mono ?_; rintro e w9 ⟨rfl, hb9⟩; have hR8 := hR7.keep hb9; obtain ⟨s0, s1, s2, s3, s6⟩ := hR8.all; have t2' := hR8.fz 2; clear hb9) | (refine (rest_any hR6 hs tn).mono ?_; rintro e w8 ⟨rfl, hb8⟩; have hR7 := hR6.keep hb8; clear hb8) | (refine (rest_any hR4 hs hn).mono ?_; rintro e w5 ⟨rfl, hb5⟩; have hR5 := hR4.keep hb5; clear hb5) | (refine (rest_any HR.out hs hn).mono ?_; rintro e w2 ⟨rfl, hb2⟩; have hR3 := HR.out.keep hb2; clear hb2)) | (go_at_call 70; refine (WS _).mono ?_; rintro e w3 ⟨rfl, hb3⟩; have hR4 := hR3.keep hb3; clear hb3) | (go_at_call 72; first | (have hh8 := hR8; clear hh8; refine (PZ _).mono ?_; rintro e w6 ⟨rfl, rfl⟩) | (have hh7 := hR7; clear hh7; refine (PY _).mono ?_; rintro e w6 ⟨rfl, rfl⟩) | (refine (PX _).mono ?_; rintro e w6 ⟨rfl, rfl⟩)) | (go_at_call 68; refine (add_any hR5 _ (k + 1) _ KK.out hrd (Nat.le_trans hn hs) k2).mono ?_; rintro e w7 ⟨rfl, hR6⟩; rw [T2.out] at hR6; obtain ⟨gb, cap, y4, y0⟩ := Rd.head (l := []) hR6))
            all_goals go_end0
            all_goals exact ⟨rfl, _, hR8.put2 (t2 + 3) _ (by omega), adv_side G.out HH.out D1.out D2.out ⟨qc0, qc1⟩⟩
        · have D1 : Hid (¬ dots (PlainAid.bt s) s.size t2) := d1
          rw [Bool.eq_false_iff.2 d1] at PY
          clear hsf hbb a1 hk q1 e1' z1 ht2 kk d1 HY
          go_enter Try.func60, Try.ntmps60
          go_wp2_with (first | (go_at_call 71; first | (refine (rest_any hR6 hs tn).mono ?_; rintro e w8 ⟨rfl, hb8⟩; have hR7 := hR6.keep hb8; obtain ⟨gb', cap', x4, x0⟩ := Rd.head (l := []) hR7; clear hb8) | (refine (rest_any hR4 hs hn).mono ?_; rintro e w5 ⟨rfl, hb5⟩; have hR5 := hR4.keep hb5; clear hb5) | (refine (rest_any HR.out hs hn).mono ?_; rintro e w2 ⟨rfl, hb2⟩; have hR3 := HR.out.keep hb2; clear hb2)) | (go_at_call 70; refine (WS _).mono ?_; rintro e w3 ⟨rfl, hb3⟩; have hR4 := hR3.keep hb3; clear hb3) | (go_at_call 72; first | (have hh7 := hR7; clear hh7; refine (PY _).mono ?_; rintro e w6 ⟨rfl, rfl⟩) | (refine (PX _).mono ?_; rintro e w6 ⟨rfl, rfl⟩)) | (go_at_call 68; refine (add_any hR5 _ (k + 1) _ KK.out hrd (Nat.le_trans hn hs) k2).mono ?_; rintro e w7 ⟨rfl, hR6⟩; rw [T2.out] at hR6; obtain ⟨gb, cap, y4, y0⟩ := Rd.head (l := []) hR6) | (go_at_call 69; refine (shut_ends hR7 2 _ _ _ rfl hps).mono ?_; rintro e wa ⟨rfl, hR8⟩))
          refine bodyPost_ret (v := .tuple #[]) (results_none rfl _ _ _) rfl ?_
          exact ⟨rfl, _, hR8, adv_sideOne G.out HH.out D1.out⟩
end
end Go.Proofs.Ytopokicdgdjgkaa
/- What a step of the program's reader does; how its pieces become tokens. -/
namespace Go.Proofs.Ytopokicdgdjgkaa
set_option linter.unusedVariables false
open Go.ChangeShapes Go.WideShapes Go.ChangeAt Go.RowKit

set_option maxHeartbeats 2000000 in
theorem step0 {W : World} {B : Nat} {s : ByteArray} {nx bg : Nat} {rd : List Int} {ps : List Pc} {ft : Nat} {w : World} (hR : Rd W B s ⟨0, nx, bg, rd, ps, ft⟩ w) (g : Good (PlainAid.bt s) s.size ⟨0, nx, bg, rd, ps, ft⟩) (hs : s.size ≤ 65536) :
    Calls Try.prog 54 #[.pointer (some ⟨B, 0, none⟩)] w (Done W B s ⟨0, nx, bg, rd, ps, ft⟩) := by
  have O := open_any hR g hs
  have q1 : w.cell? ⟨B, 1, none⟩ = some (.int .i64 0) := hR.c1
  clear hR g
  go_enter Try.func54, Try.ntmps54
  go_wp2_with (go_at_call 56; refine O.mono ?_; rintro e w1 ⟨rfl, hD⟩)
  all_goals go_end0
  all_goals exact ⟨rfl, hD⟩
set_option maxHeartbeats 2000000 in
theorem step1 {W : World} {B : Nat} {s : ByteArray} {nx bg : Nat} {rd : List Int} {ps : List Pc} {ft : Nat} {w : World} (hR : Rd W B s ⟨1, nx, bg, rd, ps, ft⟩ w) (g : Good (PlainAid.bt s) s.size ⟨1, nx, bg, rd, ps, ft⟩) (hs : s.size ≤ 65536) :
    Calls Try.prog 54 #[.pointer (some ⟨B, 0, none⟩)] w (Done W B s ⟨1, nx, bg, rd, ps, ft⟩) := by
  have O := comment_any hR g hs
  have q1 : w.cell? ⟨B, 1, none⟩ = some (.int .i64 1) := hR.c1
  clear hR g
  go_enter Try.func54, Try.ntmps54
  go_wp2_with (go_at_call 57; refine O.mono ?_; rintro e w1 ⟨rfl, hD⟩)
  all_goals go_end0
  all_goals exact ⟨rfl, hD⟩
set_option maxHeartbeats 2000000 in
theorem step2 {W : World} {B : Nat} {s : ByteArray} {nx bg : Nat} {rd : List Int} {ps : List Pc} {ft : Nat} {w : World} (hR : Rd W B s ⟨2, nx, bg, rd, ps, ft⟩ w) (g : Good (PlainAid.bt s) s.size ⟨2, nx, bg, rd, ps, ft⟩) (hs : s.size ≤ 65536) :
    Calls Try.prog 54 #[.pointer (some ⟨B, 0, none⟩)] w (Done W B s ⟨2, nx, bg, rd, ps, ft⟩) := by
  have O := name_any hR g hs
  have q1 : w.cell? ⟨B, 1, none⟩ = some (.int .i64 2) := hR.c1
  clear hR g
  go_enter Try.func54, Try.ntmps54
  go_wp2_with (go_at_call 58; refine O.mono ?_; rintro e w1 ⟨rfl, hD⟩)
  all_goals go_end0
  all_goals exact ⟨rfl, hD⟩
set_option maxHeartbeats 2000000 in
theorem step3 {W : World} {B : Nat} {s : ByteArray} {nx bg : Nat} {rd : List Int} {ps : List Pc} {ft : Nat} {w : World} (hR : Rd W B s ⟨3, nx, bg, rd, ps, ft⟩ w) (g : Good (PlainAid.bt s) s.size ⟨3, nx, bg, rd, ps, ft⟩) (hs : s.size ≤ 65536) :
    Calls Try.prog 54 #[.pointer (some ⟨B, 0, none⟩)] w (Done W B s ⟨3, nx, bg, rd, ps, ft⟩) := by
  have O := text_any hR g hs
  have q1 : w.cell? ⟨B, 1, none⟩ = some (.int .i64 3) := hR.c1
  clear hR g
  go_enter Try.func54, Try.ntmps54
  go_wp2_with (go_at_call 59; refine O.mono ?_; rintro e w1 ⟨rfl, hD⟩)
  all_goals go_end0
  all_goals exact ⟨rfl, hD⟩
set_option maxHeartbeats 2000000 in
theorem step4 {W : World} {B : Nat} {s : ByteArray} {nx bg : Nat} {rd : List Int} {ps : List Pc} {ft : Nat} {w : World} (hR : Rd W B s ⟨4, nx, bg, rd, ps, ft⟩ w) (g : Good (PlainAid.bt s) s.size ⟨4, nx, bg, rd, ps, ft⟩) (hs : s.size ≤ 65536) :
    Calls Try.prog 54 #[.pointer (some ⟨B, 0, none⟩)] w (Done W B s ⟨4, nx, bg, rd, ps, ft⟩) := by
  have O := side_any hR g hs
  have q1 : w.cell? ⟨B, 1, none⟩ = some (.int .i64 4) := hR.c1
  clear hR g
  go_enter Try.func54, Try.ntmps54
  go_wp2_with (go_at_call 60; refine O.mono ?_; rintro e w1 ⟨rfl, hD⟩)
  all_goals go_end0
  all_goals exact ⟨rfl, hD⟩
theorem step_any {W : World} {B : Nat} {s : ByteArray} {m : Mc} {w : World} (hR : Rd W B s m w) (g : Good (PlainAid.bt s) s.size m) (h5 : m.st ≠ 5) (hs : s.size ≤ 65536) :
    Calls Try.prog 54 #[.pointer (some ⟨B, 0, none⟩)] w (Done W B s m) := by
  have hst := g.st
  obtain ⟨st, nx, bg, rd, ps, ft⟩ := m
  match st, hst, h5, hR, g with
  | 0, _, _, hR, g => exact step0 hR g hs
  | 1, _, _, hR, g => exact step1 hR g hs
  | 2, _, _, hR, g => exact step2 hR g hs
  | 3, _, _, hR, g => exact step3 hR g hs
  | 4, _, _, hR, g => exact step4 hR g hs
  | 5, _, h5, _, _ => exact absurd rfl h5

/-- A token as a value, as cells. -/
def tokC (t : Tok) : List Value := [.int .i64 (t.kind : Int), .int .i64 (t.pl : Int), .string t.text, .int .i64 t.lo, .int .i64 t.hi]
def tokV (t : Tok) : Value := .agg #[.int .i64 (t.kind : Int), .int .i64 (t.pl : Int), .string t.text, .int .i64 t.lo, .int .i64 t.hi]
def toksV : List Tok → List Value
  | [] => []
  | t :: l => tokC t ++ toksV l
theorem toksV_append : ∀ l m : List Tok, toksV (l ++ m) = toksV l ++ toksV m
  | [], _ => rfl
  | t :: l, m => by simp [toksV, toksV_append l m]
theorem toksV_length : ∀ l : List Tok, (toksV l).length = l.length * 5
  | [] => rfl
  | t :: l => by simp [toksV, tokC, toksV_length l]; omega

theorem bel1 (w : World) (o : Obj) : Below w.heap.size w (w.alloc o) := (Below.refl _ _).alloc (Nat.le_refl _) o
theorem bel2 (w : World) (o o' : Obj) : Below w.heap.size w ((w.alloc o).alloc o') := (bel1 w o).alloc (by simp) o'
theorem bel3 (w : World) (o o' o'' : Obj) : Below w.heap.size w (((w.alloc o).alloc o').alloc o'') := (bel2 w o o').alloc (by simp; omega) o''
theorem bel4 (w : World) (o o' o'' o3 : Obj) : Below w.heap.size w ((((w.alloc o).alloc o').alloc o'').alloc o3) := (bel3 w o o' o'').alloc (by simp; omega) o3

theorem assert_str (t : ByteArray) (w : World) : (Instr.typeAssert (.iface 9 (.string t)) 20 9 false).run Try.prog w = .ok (.string t) w := by kernel_rfl
theorem assert_ends (a c : Int) (w : World) : (Instr.typeAssert (.iface 123 (.agg #[.int .i64 a, .int .i64 c])) 20 123 false).run Try.prog w = .ok (.agg #[.int .i64 a, .int .i64 c]) w := by kernel_rfl

set_option maxHeartbeats 2000000 in
theorem token_any (p : Pc) (hf : p.fit) (w : World) :
    Calls Try.prog 61 #[.agg #[.int .i64 (p.kind : Int), .int .i64 (p.pl : Int), payV p.pay]] w fun e w' => e = .returned (tokV p.tok) ∧ Below w.heap.size w w' := by
  obtain ⟨kind, pl, pay⟩ := p
  rcases pay with _ | t | ⟨lo, hi⟩
  · obtain ⟨k1, k2⟩ : 3 ≤ kind ∧ kind ≤ 8 := hf
    have b0 : ((kind : Int) == 0) = false := by simp; omega
    have b1 : ((kind : Int) == 1) = false := by simp; omega
    have b2 : ((kind : Int) == 2) = false := by simp; omega
    show Calls Try.prog 61 #[.agg #[.int .i64 (kind : Int), .int .i64 (pl : Int), .nilIface]] w fun e w' => e = .returned (.agg #[.int .i64 (kind : Int), .int .i64 (pl : Int), .string ⟨#[]⟩, .int .i64 0, .int .i64 0]) ∧ Below w.heap.size w w'
    go_enter Try.func61, Try.ntmps61
    go_wp2
    exact bodyPost_ret (v := .agg #[.int .i64 (kind : Int), .int .i64 (pl : Int), .string ⟨#[]⟩, .int .i64 0, .int .i64 0]) (by simp [results, Try.results61, go_sem]) rfl ⟨rfl, bel3 _ _ _ _⟩
  · have k1 : kind ≤ 1 := hf
    by_cases e0 : kind = 0
    · subst e0
      show Calls Try.prog 61 #[.agg #[.int .i64 0, .int .i64 (pl : Int), .iface 9 (.string t)]] w fun e w' => e = .returned (.agg #[.int .i64 0, .int .i64 (pl : Int), .string t, .int .i64 0, .int .i64 0]) ∧ Below w.heap.size w w'
      have ta := assert_str t
      go_enter Try.func61, Try.ntmps61
      go_wp2
      exact bodyPost_ret (v := .agg #[.int .i64 0, .int .i64 (pl : Int), .string t, .int .i64 0, .int .i64 0]) (by simp [results, Try.results61, go_sem]) rfl ⟨rfl, bel3 _ _ _ _⟩
    · obtain rfl : kind = 1 := by omega
      show Calls Try.prog 61 #[.agg #[.int .i64 1, .int .i64 (pl : Int), .iface 9 (.string t)]] w fun e w' => e = .returned (.agg #[.int .i64 1, .int .i64 (pl : Int), .string t, .int .i64 0, .int .i64 0]) ∧ Below w.heap.size w w'
      have ta := assert_str t
      go_enter Try.func61, Try.ntmps61
      go_wp2
      exact bodyPost_ret (v := .agg #[.int .i64 1, .int .i64 (pl : Int), .string t, .int .i64 0, .int .i64 0]) (by simp [results, Try.results61, go_sem]) rfl ⟨rfl, bel3 _ _ _ _⟩
  · obtain rfl : kind = 2 := hf
    show Calls Try.prog 61 #[.agg #[.int .i64 2, .int .i64 (pl : Int), .iface 123 (.agg #[.int .i64 lo, .int .i64 hi])]] w fun e w' => e = .returned (.agg #[.int .i64 2, .int .i64 (pl : Int), .string ⟨#[]⟩, .int .i64 lo, .int .i64 hi]) ∧ Below w.heap.size w w'
    have ta := assert_ends lo hi
    go_enter Try.func61, Try.ntmps61
    go_wp2
    go_region
    all_goals go_wp2
    all_goals refine bodyPost_ret (v := .agg #[.int .i64 2, .int .i64 (pl : Int), .string ⟨#[]⟩, .int .i64 lo, .int .i64 hi]) (by simp [results, Try.results61, go_sem]) rfl ⟨rfl, ?_⟩
    all_goals exact (bel4 _ _ _ _ _).drew
end Go.Proofs.Ytopokicdgdjgkaa
/- What the program's Lex hands back. -/
namespace Go.Proofs.Ytopokicdgdjgkaa
set_option linter.unusedVariables false
open Go.ChangeShapes Go.WideShapes Go.ChangeAt Go.RowKit

theorem Try.infoTok : (Try.prog.info? 102).map (fun i => (i.zero, i.size, i.bytes)) = some (some (.agg #[.int .i64 0, .int .i64 0, .string ⟨#[]⟩, .int .i64 0, .int .i64 0]), 5, 48) := by kernel_rfl

theorem le_alloc (w : World) (o : Obj) : w.heap.size ≤ (w.alloc o).heap.size := by simp
theorem pcsV_at : ∀ (l : List Pc) (k : Nat) (p : Pc), l[k]? = some p → (pcsV l)[k * 3]? = some (.int .i64 (p.kind : Int)) ∧ (pcsV l)[k * 3 + 1]? = some (.int .i64 (p.pl : Int)) ∧ (pcsV l)[k * 3 + 2]? = some (payV p.pay)
  | [], k, p, h => by simp at h
  | q :: l, 0, p, h => by
    obtain rfl : q = p := by simpa using h
    exact ⟨rfl, rfl, rfl⟩
  | q :: l, k + 1, p, h => by
    have := pcsV_at l k p (by simpa using h)
    rw [show (k + 1) * 3 = k * 3 + 1 + 1 + 1 by omega]
    simpa [pcsV, pcV] using this
theorem take_map (l : List Pc) (k : Nat) (p : Pc) (h : l[k]? = some p) : (l.take (k + 1)).map Pc.tok = (l.take k).map Pc.tok ++ [p.tok] := by
  rw [List.take_add_one, h]; simp

set_option maxHeartbeats 4000000 in
theorem tokens_any (l : List Pc) (v : Value) (base : Nat) (w : World) (hv : w.ownsRow base 111 3 v l.length (pcsV l)) (hl : l.length ≤ 65536) (hf : ∀ p, p ∈ l → p.fit) :
    Calls Try.prog 55 #[v] w fun e w' => ∃ v', e = .returned v' ∧ w'.ownsRow w.heap.size 102 5 v' l.length (toksV (l.map Pc.tok)) ∧ Below w.heap.size w w' := by
  obtain ⟨i, hi0, hz0, hz1, hz2⟩ := info_parts Try.infoTok
  obtain ⟨pp, cap, hv0⟩ := row_slice hv
  subst hv0
  have HV : Hid (w.ownsRow base 111 3 (.slice pp l.length cap) l.length (pcsV l)) := hv
  have HI : Hid (Try.prog.info? 102 = some i ∧ i.zero = some (.agg #[.int .i64 0, .int .i64 0, .string ⟨#[]⟩, .int .i64 0, .int .i64 0]) ∧ i.size = 5 ∧ i.bytes = 48) := ⟨hi0, hz0, hz1, hz2⟩
  clear hv hi0 hz0 hz1 hz2
  go_enter Try.func55, Try.ntmps55
  go_wp2
  go_loopw [3, 8] (fun o j wr => ∃ k : Nat, k ≤ l.length ∧ j = .int .i64 k ∧ (∃ po co, o = .slice po k co) ∧ wr.ownsRow w.heap.size 102 5 o k (toksV ((l.take k).map Pc.tok)) ∧ Below w.heap.size w wr) (fun _ j _ => l.length - (intOf j).toNat)
  case atStart => exact ⟨0, Nat.zero_le _, rfl, ⟨none, 0, rfl⟩, World.ownsRow_nil _ _ _ _, Below.refl _ _⟩
  case round =>
    obtain ⟨k, hk, rfl, ⟨po, co, rfl⟩, hown, hB⟩ := hrel
    have HO := hown
    have OW : Hid (wr.ownsRow w.heap.size 102 5 (.slice po k co) k (toksV ((l.take k).map Pc.tok))) := hown
    have BB : Hid (Below w.heap.size w wr) := hB
    have hsz : w.heap.size ≤ wr.heap.size := hB.size
    clear HO hown
    by_cases hlt : k < l.length
    · obtain ⟨p, hp⟩ : ∃ p, l[k]? = some p := ⟨_, List.getElem?_eq_getElem hlt⟩
      have hfit := hf p (List.mem_of_getElem? hp)
      have TM := take_map l k p hp
      have HT : Hid ((l.take (k + 1)).map Pc.tok = (l.take k).map Pc.tok ++ [p.tok]) := TM
      obtain ⟨q0, q1, q2⟩ := pcsV_at l k p hp
      obtain ⟨g, hg⟩ : ∃ g, pp = some ⟨g, 0, none⟩ := by
        obtain ⟨_, ⟨_, h2⟩ | ⟨g, c', cur, h1, h2, h3⟩⟩ := id HV.out
        · omega
        · injection h1 with e1; exact ⟨g, e1⟩
      subst hg
      have hlen : (pcsV l).length = l.length * 3 := pcsV_length l
      have hgl : g < w.heap.size := (HV.out.lt g rfl).2
      have c0 : wr.cell? ⟨g, k * 3, none⟩ = some (.int .i64 (p.kind : Int)) := (hB.cell (p := ⟨g, _, none⟩) hgl).trans ((HV.out.cellAt (k * 3) (by omega)).trans q0)
      have c1 : wr.cell? ⟨g, k * 3 + 1, none⟩ = some (.int .i64 (p.pl : Int)) := (hB.cell (p := ⟨g, _, none⟩) hgl).trans ((HV.out.cellAt (k * 3 + 1) (by omega)).trans q1)
      have c2 : wr.cell? ⟨g, k * 3 + 2, none⟩ = some (payV p.pay) := (hB.cell (p := ⟨g, _, none⟩) hgl).trans ((HV.out.cellAt (k * 3 + 2) (by omega)).trans q2)
      clear q0 q1 q2 hlen hgl TM hp hB hf
      have TK := token_any p hfit
      obtain ⟨t, ht⟩ : ∃ t, t = p.tok := ⟨_, rfl⟩
      rw [← ht] at TK
      have HT' : Hid ((l.take (k + 1)).map Pc.tok = (l.take k).map Pc.tok ++ [t]) := by rw [ht]; exact HT.out
      clear ht HT hfit
      simp only [tokV] at TK
      have ONE : Hid (∀ u, u ∈ [Value.int .i64 (t.kind : Int), .int .i64 (t.pl : Int), .string t.text, .int .i64 t.lo, .int .i64 t.hi] → u.oneCell' = true) := by show ∀ u, _ → _; simp [Value.oneCell']
      have MX : Hid (k + 1 ≤ maxLen) := by show _ ≤ _; unfold maxLen; omega
      have BY : Hid ((k + 1) * 48 ≤ 140737488355328) := by show _ ≤ _; omega
      obtain ⟨kind, pl, pay⟩ := p
      rcases pay with _ | _ | ⟨_, _⟩
      all_goals
        simp only [payV] at c2 TK
        go_wp2_with (first | (go_at_call 61; refine (TK _).mono ?_; rintro e w1 ⟨rfl, hb1⟩; have ow1 := row_keep (OW.out.alloc _) hb1; have OW1 : Hid (w1.ownsRow w.heap.size 102 5 (.slice po k co) k (toksV ((l.take k).map Pc.tok))) := ow1; have bb1 := (BB.out.alloc hsz _).trans (hb1.mono (Nat.le_trans hsz (le_alloc _ _))); have BB1 : Hid (Below w.heap.size w w1) := bb1; have hsz1 : w.heap.size ≤ w1.heap.size := bb1.size; clear hb1 ow1 bb1) | (at_builtin; refine wpList_append_own _ rfl _ _ 98 rfl w.heap.size 102 i (.agg #[.int .i64 0, .int .i64 0, .string ⟨#[]⟩, .int .i64 0, .int .i64 0]) 5 48 Try.underlying98 HI.out.1 HI.out.2.1 HI.out.2.2.1 HI.out.2.2.2 rfl (by decide) _ _ _ rfl (OW1.out.alloc _) ⟨w1.heap.size, 0, none⟩ 1 1 [.int .i64 (t.kind : Int), .int .i64 (t.pl : Int), .string t.text, .int .i64 t.lo, .int .i64 t.hi] rfl rfl (World.news_of_block (cs := #[.int .i64 (t.kind : Int), .int .i64 (t.pl : Int), .string t.text, .int .i64 t.lo, .int .i64 t.hi]) (t := 102) (fr := (0, 0)) (heap_alloc_new w1 _)) ONE.out MX.out BY.out (Nat.le_trans hsz1 (le_alloc _ _)) ?_))
        intro v' w2 hown' hgrow hnil
        clear hnil
        obtain ⟨po', co', hv'⟩ := row_slice hown'
        subst hv'
        have ow2 : w2.ownsRow w.heap.size 102 5 (.slice po' (k + 1) co') (k + 1) (toksV ((l.take (k + 1)).map Pc.tok)) := by
          rw [HT'.out, toksV_append, List.map_take]; exact hown'
        have OW2 : Hid (w2.ownsRow w.heap.size 102 5 (.slice po' (k + 1) co') (k + 1) (toksV ((l.take (k + 1)).map Pc.tok))) := ow2
        have BB2 : Hid (Below w.heap.size w w2) := (BB1.out.alloc hsz1 _).grown hgrow (Nat.le_trans hsz1 (le_alloc _ _)) (fun x hx => ((OW1.out.alloc (.cells #[] 0)).lt x hx).1)
        clear hown' hgrow ow2
        go_wp2
        go_roundw
        case rel => exact ⟨k + 1, by omega, by go_num, ⟨_, _, rfl⟩, OW2.out, BB2.out⟩
        case measure => simp [intOf]; omega
    · obtain rfl : k = l.length := by omega
      go_wp2
      go_ret
      have ho := OW.out
      rw [List.take_length] at ho
      exact ⟨_, rfl, ho, BB.out⟩

def cInt (w : World) (b j : Nat) : Nat := match w.cell? ⟨b, j, none⟩ with
  | some (.int _ z) => z.toNat
  | _ => 0
theorem cInt_of {w : World} {b j k : Nat} (h : w.cell? ⟨b, j, none⟩ = some (.int .i64 (k : Int))) : cInt w b j = k := by unfold cInt; rw [h]; rfl

/-- What Lex hands back: the tokens in a row, a place, an error's number. -/
def lexAns : Res → List Tok × Nat × Nat
  | .ok l => (l, 0, 0)
  | .error (p, e) => ([], p, e)
theorem resume5 {b : Nat → Int} {n nx bg ft : Nat} {rd : List Int} {ps : List Pc} : resume b n ⟨5, nx, bg, rd, ps, ft⟩ = if ft = 0 then .ok (ps.map Pc.tok) else .error (bg, ft) := by
  show Res.pre _ (if ft = 0 then _ else _) = _
  by_cases h : ft = 0
  · rw [if_pos h, if_pos h, Res.pre_ok]
  · rw [if_neg h, if_neg h]; rfl

theorem Rd.new (w : World) (s : ByteArray) (t : TypeId) : Rd w w.heap.size s ⟨0, 0, 0, [], [], 0⟩ (w.alloc (.cells #[.string s, .int .i64 0, .int .i64 0, .int .i64 0, .slice none 0 0, .slice none 0 0, .int .i64 0] t)) := by
  have hc : ∀ j, (w.alloc (.cells #[.string s, .int .i64 0, .int .i64 0, .int .i64 0, .slice none 0 0, .slice none 0 0, .int .i64 0] t)).cell? ⟨w.heap.size, j, none⟩ = _ := fun j => World.cell?_alloc_at _ _ _ _ rfl
  exact ⟨hc 0, hc 1, hc 2, hc 3, ⟨_, hc 4, World.ownsRow_nil _ _ _ _⟩, ⟨_, hc 5, World.ownsRow_nil _ _ _ _⟩, hc 6, fun j => World.frozen?_alloc_at _ _ _ _ rfl, bel1 _ _⟩

theorem rlex {v v' : Value} {a b c d : Int} (h0 : v = v') (h : a = b) (h' : c = d) : Ending.returned (.tuple #[v, .int .i64 a, .int .i64 c]) = .returned (.tuple #[v', .int .i64 b, .int .i64 d]) := by rw [h0, h, h']

/-- What is said of a call of Lex. -/
def LexEnd (w : World) (r : Res) (e : Ending) (w' : World) : Prop :=
  ∃ v, e = .returned (.tuple #[v, .int .i64 ((lexAns r).2.1 : Int), .int .i64 ((lexAns r).2.2 : Int)]) ∧ w'.ownsRow w.heap.size 102 5 v (lexAns r).1.length (toksV (lexAns r).1) ∧ Below w.heap.size w w'

set_option maxHeartbeats 4000000 in
theorem lex_any (s : ByteArray) (w : World) (hs0 : s.size ≤ maxLen) : Calls Try.prog 50 #[.string s] w (LexEnd w (lexT s)) := by
  unfold maxLen at hs0
  by_cases hs : s.size ≤ 65536
  · have E : lexT s = lexK (PlainAid.bt s) s.size 0 := if_neg (by omega)
    rw [E]
    obtain ⟨R, hR0⟩ : ∃ R, R = lexK (PlainAid.bt s) s.size 0 := ⟨_, rfl⟩
    rw [← hR0]
    have HR0 : Hid (R = lexK (PlainAid.bt s) s.size 0) := hR0
    clear hR0 E
    go_enter Try.func50, Try.ntmps50
    go_wp2
    go_loopw [14] (fun _ wr => ∃ m, Rd w w.heap.size s m wr ∧ Good (PlainAid.bt s) s.size m ∧ resume (PlainAid.bt s) s.size m = R) (fun _ wr => mu (PlainAid.bt s) s.size (cInt wr w.heap.size 1) (cInt wr w.heap.size 2))
    case atStart => exact ⟨_, Rd.new w s _, good0 _ _, (resume0 _ _).trans HR0.out.symm⟩
    case round =>
      obtain ⟨m, hR, hG, hres⟩ := hrel
      have HRES : Hid (resume (PlainAid.bt s) s.size m = R) := hres
      have HG : Hid (Good (PlainAid.bt s) s.size m) := hG
      have HRD : Hid (Rd w w.heap.size s m wr) := hR
      have q1 := hR.c1
      by_cases h5 : m.st = 5
      · obtain ⟨st, nx, bg, rd, ps, ft⟩ := m
        obtain rfl : st = 5 := h5
        have q1' : wr.cell? ⟨w.heap.size, 1, none⟩ = some (.int .i64 5) := q1
        obtain ⟨r0, r1, r2, r3, r6⟩ := hR.all
        obtain ⟨v5, r5, o5⟩ := hR.c5
        have O5 : Hid (wr.ownsRow (w.heap.size + 1) 111 3 v5 ps.length (pcsV ps)) := o5
        have hB : Hid (Below w.heap.size w wr) := hR.bl
        have hsz : w.heap.size ≤ wr.heap.size := hR.bl.size
        by_cases hf : ft = 0
        · subst hf
          have r6' : wr.cell? ⟨w.heap.size, 6, none⟩ = some (.int .i64 0) := r6
          have hres2 : Hid (R = .ok (ps.map Pc.tok)) := by rw [← HRES.out, resume5]; exact if_pos rfl
          have TK := tokens_any ps v5 (w.heap.size + 1) wr o5 (Nat.le_trans hG.pl (Nat.le_trans hG.nx hs)) hG.ps
          clear hR hG hres o5 q1 r0 r1 r2 r3 r6
          go_wp2_with (go_at_call 55; refine TK.mono ?_; rintro e w1 ⟨v', rfl, ow, hb⟩; obtain ⟨p', c', hv'⟩ := row_slice ow; subst hv')
          refine bodyPost_ret (v := .tuple #[.slice p' ps.length c', .int .i64 0, .int .i64 0]) (by simp [results, Try.results50, go_sem]) rfl ?_
          rw [hres2.out]
          exact ⟨_, rfl, by show w1.ownsRow _ _ _ _ (ps.map Pc.tok).length _; rw [List.length_map]; exact row_mono ow hsz, hB.out.trans (hb.mono hsz)⟩
        · have hres2 : Hid (R = .error (bg, ft)) := by rw [← HRES.out, resume5]; exact if_neg hf
          have hf' : ((ft : Int) != 0) = true := by simp; omega
          clear hR hG hres o5 q1 r0 r1 r2
          go_wp2
          go_quiet (fail)
          go_wp2
          refine bodyPost_ret (v := .tuple #[.slice none 0 0, .int .i64 (bg : Int), .int .i64 (ft : Int)]) (by simp [results, Try.results50, go_sem]) rfl ?_
          rw [hres2.out]
          exact ⟨_, rfl, World.ownsRow_nil _ _ _ _, ⟨hB.out.os, hB.out.tape, hB.out.output, hB.out.size, hB.out.block⟩⟩
      · have h5' : ((m.st : Int) != 5) = true := by simp; omega
        have ST := step_any hR hG h5 hs
        clear hR hG hres
        go_wp2_with (go_at_call 54; refine ST.mono ?_; rintro e w1 ⟨rfl, m', hR', hA⟩)
        go_roundw
        case rel => exact ⟨m', hR', hA.2.2, hA.1.trans HRES.out⟩
        case measure =>
          rw [cInt_of HRD.out.c1, cInt_of HRD.out.c2, cInt_of hR'.c1, cInt_of hR'.c2]
          exact hA.2.1
  · have E : lexT s = .error (0, 201) := if_pos (by omega)
    rw [E]
    go_enter Try.func50, Try.ntmps50
    go_wp2
    refine bodyPost_ret (v := .tuple #[.slice none 0 0, .int .i64 0, .int .i64 201]) (by simp [results, Try.results50, go_sem]) rfl ?_
    exact ⟨_, rfl, World.ownsRow_nil _ _ _ _, Below.refl _ _⟩
end Go.Proofs.Ytopokicdgdjgkaa
/- Two rows of the same tokens are held against one another; a number of an error. -/
namespace Go.Proofs.Ytopokicdgdjgkaa
set_option linter.unusedVariables false
open Go.ChangeShapes Go.WideShapes Go.ChangeAt Go.RowKit

theorem num_any (n : Int) (w : World) : Calls Try.prog 14 #[.int .i64 n] w fun e w' => e = .returned (.int .i64 n) ∧ w = w' := by
  go_enter Try.func14, Try.ntmps14
  go_wp2
  go_ret
  exact ⟨rfl, rfl⟩

theorem Try.eqTok (a b : Int) (s : ByteArray) (c d : Int) (w : World) : (Op.equalIn 10000 102 (.agg #[.int .i64 a, .int .i64 b, .string s, .int .i64 c, .int .i64 d]) (.agg #[.int .i64 a, .int .i64 b, .string s, .int .i64 c, .int .i64 d])).run Try.prog w = .ok true w := by
  have u3 := Try.underlying3
  have a3 := Try.isAgg3
  have z3 := Try.sizeOf3
  have u9 := Try.underlying9
  have a9 := Try.isAgg9
  have z9 := Try.sizeOf9
  have F : (Try.prog.fieldsOf 102).toList.map (fun f => (f.name, f.type, f.offset)) = [("Kind", 3, 0), ("At", 3, 1), ("Text", 9, 2), ("Lo", 3, 3), ("Hi", 3, 4)] := by kernel_rfl
  rw [show (10000 : Nat) = 9999 + 1 from rfl, run_equalIn_agg w 9999 _ _ _ (by kernel_rfl) (by kernel_rfl)]
  generalize (Try.prog.fieldsOf 102).toList = fs at F
  have hl : fs.length = 5 := by simpa using congrArg List.length F
  match fs, hl, F with
  | [f0, f1, f2, f3, f4], _, F =>
    simp at F
    obtain ⟨⟨n0, t0, o0⟩, ⟨n1, t1, o1⟩, ⟨n2, t2, o2⟩, ⟨n3, t3, o3⟩, ⟨n4, t4, o4⟩⟩ := F
    simp only [Op.eqFields, n0, t0, o0, n1, t1, o1, n2, t2, o2, n3, t3, o3, n4, t4, o4]
    go_simp

theorem toksV_at : ∀ (l : List Tok) (k : Nat) (t : Tok), l[k]? = some t → (toksV l)[k * 5]? = some (.int .i64 (t.kind : Int)) ∧ (toksV l)[k * 5 + 1]? = some (.int .i64 (t.pl : Int)) ∧ (toksV l)[k * 5 + 2]? = some (.string t.text) ∧ (toksV l)[k * 5 + 3]? = some (.int .i64 t.lo) ∧ (toksV l)[k * 5 + 4]? = some (.int .i64 t.hi)
  | [], k, t, h => by simp at h
  | q :: l, 0, t, h => by
    obtain rfl : q = t := by simpa using h
    exact ⟨rfl, rfl, rfl, rfl, rfl⟩
  | q :: l, k + 1, t, h => by
    have := toksV_at l k t (by simpa using h)
    rw [show (k + 1) * 5 = k * 5 + 1 + 1 + 1 + 1 + 1 by omega]
    simpa [toksV, tokC] using this

/-- Slice v of w holds the tokens l. -/
def TRow (w : World) (v : Value) (l : List Tok) : Prop :=
  ∃ p cap, v = .slice p l.length cap ∧ ∀ k t, l[k]? = some t → ∃ g, p = some ⟨g, 0, none⟩ ∧ g < w.heap.size ∧
    w.cell? ⟨g, k * 5, none⟩ = some (.int .i64 (t.kind : Int)) ∧ w.cell? ⟨g, k * 5 + 1, none⟩ = some (.int .i64 (t.pl : Int)) ∧ w.cell? ⟨g, k * 5 + 2, none⟩ = some (.string t.text) ∧ w.cell? ⟨g, k * 5 + 3, none⟩ = some (.int .i64 t.lo) ∧ w.cell? ⟨g, k * 5 + 4, none⟩ = some (.int .i64 t.hi)
theorem TRow.of {w : World} {base n : Nat} {v : Value} {l : List Tok} (h : w.ownsRow base 102 5 v n (toksV l)) : TRow w v l := by
  have hn : n = l.length := by have := h.1; rw [toksV_length] at this; omega
  subst hn
  obtain ⟨p, cap, hv⟩ := row_slice h
  subst hv
  refine ⟨p, cap, rfl, fun k t hk => ?_⟩
  have hlt : k < l.length := (List.getElem?_eq_some_iff.1 hk).1
  obtain ⟨_, ⟨_, h2⟩ | ⟨g, c', cur, h1, h2, h3⟩⟩ := id h
  · omega
  · injection h1 with e1
    subst e1
    obtain ⟨q0, q1, q2, q3, q4⟩ := toksV_at l k t hk
    have hlen : (toksV l).length = l.length * 5 := toksV_length l
    exact ⟨g, rfl, (h.lt g rfl).2, (h.cellAt _ (by omega)).trans q0, (h.cellAt _ (by omega)).trans q1, (h.cellAt _ (by omega)).trans q2, (h.cellAt _ (by omega)).trans q3, (h.cellAt _ (by omega)).trans q4⟩
theorem TRow.keep {w w' : World} {v : Value} {l : List Tok} (h : TRow w v l) (hb : Below w.heap.size w w') : TRow w' v l := by
  obtain ⟨p, cap, hv, hc⟩ := h
  refine ⟨p, cap, hv, fun k t hk => ?_⟩
  obtain ⟨g, hp, hg, c0, c1, c2, c3, c4⟩ := hc k t hk
  exact ⟨g, hp, Nat.lt_of_lt_of_le hg hb.size, (hb.cell (p := ⟨g, _, none⟩) hg).trans c0, (hb.cell (p := ⟨g, _, none⟩) hg).trans c1, (hb.cell (p := ⟨g, _, none⟩) hg).trans c2, (hb.cell (p := ⟨g, _, none⟩) hg).trans c3, (hb.cell (p := ⟨g, _, none⟩) hg).trans c4⟩
/-- A row just laid. -/
theorem TRow.laid (w : World) (l : List Tok) (t : TypeId) (cs : Array Value) (hcs : cs = (toksV l).toArray) (n : Nat) (hn : n = w.heap.size) (m c : Nat) (hm : m = l.length) : TRow (w.alloc (.cells cs t)) (.slice (some ⟨n, 0, none⟩) m c) l := by
  subst hn hcs hm
  refine ⟨_, _, rfl, fun k t' hk => ?_⟩
  obtain ⟨q0, q1, q2, q3, q4⟩ := toksV_at l k t' hk
  have hc : ∀ j, (w.alloc (.cells (toksV l).toArray t)).cell? ⟨w.heap.size, j, none⟩ = (toksV l)[j]? := fun j => (World.cell?_alloc_at _ _ _ _ rfl).trans (by simp)
  exact ⟨_, rfl, by simp, (hc _).trans q0, (hc _).trans q1, (hc _).trans q2, (hc _).trans q3, (hc _).trans q4⟩

end Go.Proofs.Ytopokicdgdjgkaa
