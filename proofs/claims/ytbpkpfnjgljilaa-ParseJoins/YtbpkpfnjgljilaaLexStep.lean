/- What the program's reader does in a text and in a range; a step of it. -/
import Derived.Test.YtbpkpfnjgljilaaLexPfx
namespace Go.Proofs.Ytbpkpfnjgljilaa
set_option linter.unusedVariables false
open Go.ChangeShapes Go.WideShapes Go.ChangeAt Go.RowKit

section
variable {W : World} {B : Nat} {s : ByteArray} {st nx bg : Nat} {rd : List Int} {ps : List Pc} {ft : Nat} {w : World}

theorem writ_none (s : ByteArray) (nx : Nat) (q : Int) (hs : s.size ≤ 65536) (hn : nx ≤ s.size) (h : signF (PlainAid.bt s) s.size nx q = none) (w : World) :
    Calls Try.prog 41 #[.string (s.extract nx s.size), .int .u8 q] w fun e w' => e = .returned (.tuple #[.int .u8 0, .int .i64 0]) ∧ Below w.heap.size w w' := by
  rw [signF_rest s nx q hn] at h
  have h2 : signF (PlainAid.bt (s.extract nx s.size)) (s.extract nx s.size).size 0 q = none := by
    cases hh : signF (PlainAid.bt (s.extract nx s.size)) (s.extract nx s.size).size 0 q with
    | none => rfl
    | some x => rw [hh] at h; cases h
  have := written_any (s.extract nx s.size) q w (by rw [size_extract]; omega)
  rw [h2] at this
  exact this
theorem writ_some (s : ByteArray) (nx : Nat) (q : Int) (hs : s.size ≤ 65536) (hn : nx ≤ s.size) (c : Int) (to : Nat) (h : signF (PlainAid.bt s) s.size nx q = some (c, to)) (w : World) :
    Calls Try.prog 41 #[.string (s.extract nx s.size), .int .u8 q] w fun e w' => e = .returned (.tuple #[.int .u8 c, .int .i64 ((to - nx : Nat) : Int)]) ∧ Below w.heap.size w w' := by
  rw [signF_rest s nx q hn] at h
  have := written_any (s.extract nx s.size) q w (by rw [size_extract]; omega)
  cases hh : signF (PlainAid.bt (s.extract nx s.size)) (s.extract nx s.size).size 0 q with
  | none => rw [hh] at h; cases h
  | some x =>
    obtain ⟨c', k⟩ := x
    rw [hh] at h this
    injection h with h
    injection h with e1 e2
    subst e1 e2
    rw [show k + nx - nx = k by omega]
    exact this

set_option maxHeartbeats 4000000 in
theorem text_any (hR : Rd W B s ⟨3, nx, bg, rd, ps, ft⟩ w) (g : Good (PlainAid.bt s) s.size ⟨3, nx, bg, rd, ps, ft⟩) (hs : s.size ≤ 65536) :
    Calls Try.prog 25 #[.pointer (some ⟨B, 0, none⟩)] w (Done W B s ⟨3, nx, bg, rd, ps, ft⟩) := by
  have hn : nx ≤ s.size := g.nx
  have hps : ps.length ≤ 65536 := Nat.le_trans g.pl (Nat.le_trans hn hs)
  have hrd : rd.length ≤ 65536 := Nat.le_trans g.rd (Nat.le_trans hn hs)
  have HR : Hid (Rd W B s ⟨3, nx, bg, rd, ps, ft⟩ w) := hR
  have G : Hid (Good (PlainAid.bt s) s.size ⟨3, nx, bg, rd, ps, ft⟩) := g
  have u0 := PlainAid.bt_nonneg s nx
  have u1 := PlainAid.bt_le s nx
  clear g hR
  by_cases a0 : nx < s.size ∧ PlainAid.bt s nx = 34
  · obtain ⟨hlt, a1⟩ := a0
    have hp := pk_in hlt
    have a1' : (PlainAid.bt s nx == 34) = true := by simpa using a1
    have A1 : Hid (PlainAid.bt s nx = 34) := a1
    clear a1
    go_enter Try.func25, Try.ntmps25
    go_wp2_with (first | (go_at_call 33; refine (peek_any HR.out hs hn).mono ?_; rintro e w1 ⟨rfl, hb1⟩; have hR2 := HR.out.keep hb1; have hR3 := hR2.put2 (nx + 1) ((nx : Int) + 1) (by omega); obtain ⟨s0, s1, s2, s3, s6⟩ := hR2.all; have t2 := hR2.fz 2; obtain ⟨p, cap, s4, cv⟩ := hR3.row4; clear hb1) | (go_at_call 40; refine (shut_str hR3 1 _ _ rfl hps).mono ?_; rintro e w3 ⟨rfl, hR4⟩))
    refine bodyPost_ret (v := .tuple #[]) (results_none rfl _ _ _) rfl ?_
    exact ⟨rfl, _, hR4, adv_textEnd G.out hlt A1.out⟩
  · have A0 : Hid (¬ (nx < s.size ∧ PlainAid.bt s nx = 34)) := a0
    have hpq : (pk s nx == 34) = false := by
      by_cases e : nx = s.size
      · rw [pk_end e]; rfl
      · rw [pk_in (by omega)]; simp; omega
    clear a0
    cases hsf : signF (PlainAid.bt s) s.size nx 34 with
    | none =>
      have WN := writ_none s nx 34 hs hn hsf
      have SF : Hid (signF (PlainAid.bt s) s.size nx 34 = none) := hsf
      clear hsf
      go_enter Try.func25, Try.ntmps25
      go_wp2_with (first | (go_at_call 33; refine (peek_any HR.out hs hn).mono ?_; rintro e w1 ⟨rfl, hb1⟩; have hR2 := HR.out.keep hb1; clear hb1) | (go_at_call 42; refine (rest_any hR2 hs hn).mono ?_; rintro e w2 ⟨rfl, hb2⟩; have hR3 := hR2.keep hb2; clear hb2) | (go_at_call 41; refine (WN _).mono ?_; rintro e w3 ⟨rfl, hb3⟩; have hR4 := hR3.keep hb3; clear hb3) | (go_at_call 38; refine (fail_any hR4 201 (by decide)).mono ?_; rintro e w4 ⟨rfl, hR5⟩))
      refine bodyPost_ret (v := .tuple #[]) (results_none rfl _ _ _) rfl ?_
      exact ⟨rfl, _, hR5, adv_textBad G.out A0.out SF.out⟩
    | some x =>
      obtain ⟨c, to⟩ := x
      have WS := writ_some s nx 34 hs hn c to hsf
      obtain ⟨q1, q2⟩ := signF_to hsf
      obtain ⟨k, hk⟩ : ∃ k, k = to - nx := ⟨_, rfl⟩
      rw [← hk] at WS
      have K0 : ((k : Int) == 0) = false := by simp; omega
      have KT : Hid (nx + k = to) := by show _ = _; omega
      have k1 : k ≤ 65536 := by omega
      have SF : Hid (signF (PlainAid.bt s) s.size nx 34 = some (c, to)) := hsf
      clear hsf hk q1 q2
      go_enter Try.func25, Try.ntmps25
      go_wp2_with (first | (go_at_call 33; refine (peek_any HR.out hs hn).mono ?_; rintro e w1 ⟨rfl, hb1⟩; have hR2 := HR.out.keep hb1; clear hb1) | (go_at_call 42; refine (rest_any hR2 hs hn).mono ?_; rintro e w2 ⟨rfl, hb2⟩; have hR3 := hR2.keep hb2; clear hb2) | (go_at_call 41; refine (WS _).mono ?_; rintro e w3 ⟨rfl, hb3⟩; have hR4 := hR3.keep hb3; clear hb3) | (go_at_call 39; refine (add_any hR4 _ k _ rfl hrd (Nat.le_trans hn hs) k1).mono ?_; rintro e w4 ⟨rfl, hR5⟩))
      all_goals go_end0
      all_goals (rw [KT.out] at hR5; exact ⟨rfl, _, hR5, adv_text G.out A0.out SF.out⟩)
end
end Go.Proofs.Ytbpkpfnjgljilaa
