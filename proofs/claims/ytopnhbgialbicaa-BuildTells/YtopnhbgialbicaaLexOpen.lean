/- What the program's reader does between tokens and in a comment. -/
import Derived.Test.YtopnhbgialbicaaLexWrt2
namespace Go.Proofs.Ytopnhbgialbicaa
set_option linter.unusedVariables false
open Go.ChangeShapes Go.WideShapes Go.ChangeAt Go.RowKit

/-- Behind a step: nothing is returned; the reader stands further on, what is yet to be told is as it was. -/
def Done (W : World) (B : Nat) (s : ByteArray) (m : Mc) (e : Ending) (w' : World) : Prop := e = .returned (.tuple #[]) ∧ ∃ m', Rd W B s m' w' ∧ Adv (PlainAid.bt s) s.size m m'

section
variable {W : World} {B : Nat} {s : ByteArray} {st nx bg : Nat} {rd : List Int} {ps : List Pc} {ft : Nat} {w : World}

theorem kind_yes (c : Int) (k : Nat) (hk : markF c = (k : Int)) (h0 : 0 < k) (w : World) : Calls Try.prog 59 #[.int .i64 c] w fun e w' => e = .returned (.tuple #[.int .i64 (k : Int), .bool true]) ∧ w = w' := by
  refine (kind_dev c w).mono ?_
  rintro e w1 ⟨rfl, rfl⟩
  exact ⟨rpair hk (by rw [hk]; simp; omega), rfl⟩
theorem kind_no (c : Int) (hk : markF c = 0) (w : World) : Calls Try.prog 59 #[.int .i64 c] w fun e w' => e = .returned (.tuple #[.int .i64 0, .bool false]) ∧ w = w' := by
  refine (kind_dev c w).mono ?_
  rintro e w1 ⟨rfl, rfl⟩
  exact ⟨rpair hk (by rw [hk]; rfl), rfl⟩

theorem sign_yes (hR : Rd W B s ⟨st, nx, bg, rd, ps, ft⟩ w) (c : Int) (k : Nat) (hk : markF c = (k : Int)) (h0 : 0 < k) (hn : nx ≤ 65536) (hps : ps.length ≤ 65536) :
    Calls Try.prog 51 #[.pointer (some ⟨B, 0, none⟩), .int .i64 c] w fun e w' => e = .returned (.tuple #[]) ∧ Rd W B s ⟨0, nx + 1, bg, rd, ps ++ [⟨k, bg, .no⟩], ft⟩ w' := by
  obtain ⟨r0, r1, r2, r3, r6⟩ := hR.all
  have f2 := hR.fz 2
  have HR : Hid (Rd W B s ⟨st, nx + 1, bg, rd, ps, ft⟩ (w.setCell ⟨B, 2, none⟩ (.int .i64 ((nx : Int) + 1)))) := hR.put2 (nx + 1) _ (by omega)
  have KY := kind_yes c k hk h0
  clear hR hk
  go_enter Try.func51, Try.ntmps51
  go_wp2_with (first | (go_at_call 59; refine (KY _).mono ?_; rintro e w1 ⟨rfl, rfl⟩) | (go_at_call 55; refine (shut_no HR.out k _ rfl hps).mono ?_; rintro e w1 ⟨rfl, hR1⟩))
  all_goals go_end0
  all_goals exact ⟨rfl, hR1⟩

theorem sign_no (hR : Rd W B s ⟨st, nx, bg, rd, ps, ft⟩ w) (c : Int) (hk : markF c = 0) :
    Calls Try.prog 51 #[.pointer (some ⟨B, 0, none⟩), .int .i64 c] w fun e w' => e = .returned (.tuple #[]) ∧ Rd W B s ⟨5, nx, bg, rd, ps, 200⟩ w' := by
  have KN := kind_no c hk
  clear hk
  go_enter Try.func51, Try.ntmps51
  go_wp2_with (first | (go_at_call 59; refine (KN _).mono ?_; rintro e w1 ⟨rfl, rfl⟩) | (go_at_call 53; refine (fail_any hR 200 (by decide)).mono ?_; rintro e w1 ⟨rfl, hR1⟩))
  exact bodyPost_ret (v := .tuple #[]) (results_none rfl _ _ _) rfl ⟨rfl, hR1⟩

set_option maxHeartbeats 4000000 in
theorem open_any (hR : Rd W B s ⟨0, nx, bg, rd, ps, ft⟩ w) (g : Good (PlainAid.bt s) s.size ⟨0, nx, bg, rd, ps, ft⟩) (hs : s.size ≤ 65536) :
    Calls Try.prog 42 #[.pointer (some ⟨B, 0, none⟩)] w (Done W B s ⟨0, nx, bg, rd, ps, ft⟩) := by
  have hn : nx ≤ s.size := g.nx
  have hps : ps.length ≤ 65536 := Nat.le_trans g.pl (Nat.le_trans hn hs)
  obtain ⟨r0, r1, r2, r3, r6⟩ := hR.all
  obtain ⟨v4, r4, o4⟩ := hR.c4
  have f3 := hR.fz 3
  have f4 := hR.fz 4
  have HR : Hid (Rd W B s ⟨0, nx, nx, [], ps, ft⟩ ((w.setCell ⟨B, 3, none⟩ (.int .i64 (nx : Int))).setCell ⟨B, 4, none⟩ (.slice none 0 0))) := (hR.put3 nx).put4 [] _ (World.ownsRow_nil _ _ _ _)
  have G : Hid (Good (PlainAid.bt s) s.size ⟨0, nx, bg, rd, ps, ft⟩) := g
  have u0 := PlainAid.bt_nonneg s nx
  have u1 := PlainAid.bt_le s nx
  clear g hR o4
  by_cases a0 : nx = s.size
  · have hp := pk_end a0
    have A0 : Hid (nx = s.size) := a0
    clear a0
    go_enter Try.func42, Try.ntmps42
    go_wp2_with (go_at_call 48; refine (peek_any HR.out hs hn).mono ?_; rintro e w1 ⟨rfl, hb1⟩; have hR2 := HR.out.keep hb1; obtain ⟨s0, s1, s2, s3, s6⟩ := hR2.all; have t1 := hR2.fz 1; clear hb1)
    all_goals go_end0
    all_goals exact ⟨rfl, _, hR2.put1 5, adv_end G.out A0.out⟩
  · have hlt : nx < s.size := by omega
    have hp := pk_in hlt
    have z0 : (PlainAid.bt s nx == -1) = false := by simp; omega
    clear a0
    by_cases a1 : blkB (PlainAid.bt s nx) = true
    · have A1 := (blkB_iff _).1 a1
      have A1' : Hid (PlainAid.bt s nx = 9 ∨ PlainAid.bt s nx = 10 ∨ PlainAid.bt s nx = 13 ∨ PlainAid.bt s nx = 32) := A1
      clear A1
      go_enter Try.func42, Try.ntmps42
      go_wp2_with (first | (go_at_call 48; refine (peek_any HR.out hs hn).mono ?_; rintro e w1 ⟨rfl, hb1⟩; have hR2 := HR.out.keep hb1; obtain ⟨s0, s1, s2, s3, s6⟩ := hR2.all; have t2 := hR2.fz 2; clear hb1) | (go_at_call 49; refine (blank_dev _ _).mono ?_; rintro e w2 ⟨rfl, rfl⟩))
      all_goals go_end0
      all_goals exact ⟨rfl, _, hR2.put2 (nx + 1) _ (by omega), adv_blank G.out hlt A1'.out⟩
    · have a1' : blkB (PlainAid.bt s nx) = false := Bool.eq_false_iff.2 a1
      have A1 : Hid (¬ (PlainAid.bt s nx = 9 ∨ PlainAid.bt s nx = 10 ∨ PlainAid.bt s nx = 13 ∨ PlainAid.bt s nx = 32)) := fun h => a1 ((blkB_iff _).2 h)
      clear a1
      by_cases a2 : PlainAid.bt s nx = 35
      · have a2' : (PlainAid.bt s nx == 35) = true := by simpa using a2
        have A2 : Hid (PlainAid.bt s nx = 35) := a2
        clear a2
        go_enter Try.func42, Try.ntmps42
        go_wp2_with (first | (go_at_call 48; refine (peek_any HR.out hs hn).mono ?_; rintro e w1 ⟨rfl, hb1⟩; have hR2 := HR.out.keep hb1; obtain ⟨s0, s1, s2, s3, s6⟩ := hR2.all; have t1 := hR2.fz 1; clear hb1) | (go_at_call 49; refine (blank_dev _ _).mono ?_; rintro e w2 ⟨rfl, rfl⟩))
        all_goals go_end0
        all_goals exact ⟨rfl, _, hR2.put1 1, adv_hash G.out hlt A2.out⟩
      · have a2' : (PlainAid.bt s nx == 35) = false := by simpa using a2
        have A2 : Hid (PlainAid.bt s nx ≠ 35) := a2
        clear a2
        by_cases a3 : letB (PlainAid.bt s nx) = true
        · have A3 : Hid (letB (PlainAid.bt s nx) = true) := a3
          go_enter Try.func42, Try.ntmps42
          go_wp2_with (first | (go_at_call 48; refine (peek_any HR.out hs hn).mono ?_; rintro e w1 ⟨rfl, hb1⟩; have hR2 := HR.out.keep hb1; obtain ⟨s0, s1, s2, s3, s6⟩ := hR2.all; have t1 := hR2.fz 1; clear hb1) | (go_at_call 49; refine (blank_dev _ _).mono ?_; rintro e w2 ⟨rfl, rfl⟩) | (go_at_call 50; refine (letter_dev _ _).mono ?_; rintro e w2 ⟨rfl, rfl⟩))
          all_goals go_end0
          all_goals exact ⟨rfl, _, hR2.put1 2, adv_letter G.out hlt A3.out⟩
        · have a3' : letB (PlainAid.bt s nx) = false := Bool.eq_false_iff.2 a3
          have A3 : Hid (letB (PlainAid.bt s nx) = false) := a3'
          clear a3
          by_cases a4 : PlainAid.bt s nx = 34
          · have a4' : (PlainAid.bt s nx == 34) = true := by simpa using a4
            have A4 : Hid (PlainAid.bt s nx = 34) := a4
            clear a4
            go_enter Try.func42, Try.ntmps42
            go_wp2_with (first | (go_at_call 48; refine (peek_any HR.out hs hn).mono ?_; rintro e w1 ⟨rfl, hb1⟩; have hR2 := HR.out.keep hb1; obtain ⟨s0, s1, s2, s3, s6⟩ := hR2.all; have t1 := hR2.fz 1; have t2 := hR2.fz 2; clear hb1) | (go_at_call 49; refine (blank_dev _ _).mono ?_; rintro e w2 ⟨rfl, rfl⟩) | (go_at_call 50; refine (letter_dev _ _).mono ?_; rintro e w2 ⟨rfl, rfl⟩))
            all_goals go_end0
            all_goals exact ⟨rfl, _, (hR2.put2 (nx + 1) _ (by omega)).put1 3, adv_quote G.out hlt A4.out⟩
          · have a4' : (PlainAid.bt s nx == 34) = false := by simpa using a4
            have A4 : Hid (PlainAid.bt s nx ≠ 34) := a4
            clear a4
            by_cases a5 : PlainAid.bt s nx = 39
            · have a5' : (PlainAid.bt s nx == 39) = true := by simpa using a5
              have A5 : Hid (PlainAid.bt s nx = 39) := a5
              clear a5
              go_enter Try.func42, Try.ntmps42
              go_wp2_with (first | (go_at_call 48; refine (peek_any HR.out hs hn).mono ?_; rintro e w1 ⟨rfl, hb1⟩; have hR2 := HR.out.keep hb1; obtain ⟨s0, s1, s2, s3, s6⟩ := hR2.all; have t1 := hR2.fz 1; have t2 := hR2.fz 2; clear hb1) | (go_at_call 49; refine (blank_dev _ _).mono ?_; rintro e w2 ⟨rfl, rfl⟩) | (go_at_call 50; refine (letter_dev _ _).mono ?_; rintro e w2 ⟨rfl, rfl⟩))
              all_goals go_end0
              all_goals exact ⟨rfl, _, (hR2.put2 (nx + 1) _ (by omega)).put1 4, adv_apos G.out hlt A5.out⟩
            · have a5' : (PlainAid.bt s nx == 39) = false := by simpa using a5
              have A5 : Hid (PlainAid.bt s nx ≠ 39) := a5
              clear a5
              by_cases a6 : markF (PlainAid.bt s nx) = 0
              · have A6 : Hid (markF (PlainAid.bt s nx) = 0) := a6
                clear a6
                go_enter Try.func42, Try.ntmps42
                go_wp2_with (first | (go_at_call 48; refine (peek_any HR.out hs hn).mono ?_; rintro e w1 ⟨rfl, hb1⟩; have hR2 := HR.out.keep hb1; clear hb1) | (go_at_call 49; refine (blank_dev _ _).mono ?_; rintro e w2 ⟨rfl, rfl⟩) | (go_at_call 50; refine (letter_dev _ _).mono ?_; rintro e w2 ⟨rfl, rfl⟩) | (go_at_call 51; refine (sign_no hR2 _ A6.out).mono ?_; rintro e w3 ⟨rfl, hR3⟩))
                all_goals go_end0
                all_goals exact ⟨rfl, _, hR3, adv_byte G.out hlt A1.out A2.out A3.out A4.out A5.out A6.out⟩
              · have hm : 0 < markF (PlainAid.bt s nx) := by
                  have : 0 ≤ markF (PlainAid.bt s nx) := by unfold markF; repeat' split
                                                            all_goals omega
                  omega
                obtain ⟨k, hk⟩ : ∃ k : Nat, markF (PlainAid.bt s nx) = (k : Int) := ⟨(markF (PlainAid.bt s nx)).toNat, by omega⟩
                have HK : Hid (markF (PlainAid.bt s nx) = (k : Int)) := hk
                have hk0 : 0 < k := by omega
                clear a6 hm hk
                go_enter Try.func42, Try.ntmps42
                go_wp2_with (first | (go_at_call 48; refine (peek_any HR.out hs hn).mono ?_; rintro e w1 ⟨rfl, hb1⟩; have hR2 := HR.out.keep hb1; clear hb1) | (go_at_call 49; refine (blank_dev _ _).mono ?_; rintro e w2 ⟨rfl, rfl⟩) | (go_at_call 50; refine (letter_dev _ _).mono ?_; rintro e w2 ⟨rfl, rfl⟩) | (go_at_call 51; refine (sign_yes hR2 _ k HK.out hk0 (Nat.le_trans hn hs) hps).mono ?_; rintro e w3 ⟨rfl, hR3⟩))
                all_goals go_end0
                all_goals exact ⟨rfl, _, hR3, adv_mark G.out hlt A1.out A2.out A3.out A4.out A5.out k HK.out hk0⟩

set_option maxHeartbeats 2000000 in
theorem comment_any (hR : Rd W B s ⟨1, nx, bg, rd, ps, ft⟩ w) (g : Good (PlainAid.bt s) s.size ⟨1, nx, bg, rd, ps, ft⟩) (hs : s.size ≤ 65536) :
    Calls Try.prog 43 #[.pointer (some ⟨B, 0, none⟩)] w (Done W B s ⟨1, nx, bg, rd, ps, ft⟩) := by
  have hn : nx ≤ s.size := g.nx
  have HR : Hid (Rd W B s ⟨1, nx, bg, rd, ps, ft⟩ w) := hR
  have G : Hid (Good (PlainAid.bt s) s.size ⟨1, nx, bg, rd, ps, ft⟩) := g
  have u0 := PlainAid.bt_nonneg s nx
  clear g hR
  by_cases a0 : nx = s.size
  · have hp := pk_end a0
    have A0 : Hid (nx = s.size) := a0
    clear a0
    go_enter Try.func43, Try.ntmps43
    go_wp2_with (go_at_call 48; refine (peek_any HR.out hs hn).mono ?_; rintro e w1 ⟨rfl, hb1⟩; have hR2 := HR.out.keep hb1; obtain ⟨s0, s1, s2, s3, s6⟩ := hR2.all; have t1 := hR2.fz 1; clear hb1)
    all_goals go_end0
    all_goals exact ⟨rfl, _, hR2.put1 0, adv_line G.out (Or.inl A0.out)⟩
  · have hlt : nx < s.size := by omega
    have hp := pk_in hlt
    have z0 : (PlainAid.bt s nx == -1) = false := by simp; omega
    clear a0
    by_cases a1 : PlainAid.bt s nx = 10
    · have a1' : (PlainAid.bt s nx == 10) = true := by simpa using a1
      have A1 : Hid (PlainAid.bt s nx = 10) := a1
      clear a1
      go_enter Try.func43, Try.ntmps43
      go_wp2_with (go_at_call 48; refine (peek_any HR.out hs hn).mono ?_; rintro e w1 ⟨rfl, hb1⟩; have hR2 := HR.out.keep hb1; obtain ⟨s0, s1, s2, s3, s6⟩ := hR2.all; have t1 := hR2.fz 1; clear hb1)
      all_goals go_end0
      all_goals exact ⟨rfl, _, hR2.put1 0, adv_line G.out (Or.inr A1.out)⟩
    · have a1' : (PlainAid.bt s nx == 10) = false := by simpa using a1
      have A1 : Hid (PlainAid.bt s nx ≠ 10) := a1
      clear a1
      go_enter Try.func43, Try.ntmps43
      go_wp2_with (go_at_call 48; refine (peek_any HR.out hs hn).mono ?_; rintro e w1 ⟨rfl, hb1⟩; have hR2 := HR.out.keep hb1; obtain ⟨s0, s1, s2, s3, s6⟩ := hR2.all; have t2 := hR2.fz 2; clear hb1)
      all_goals go_end0
      all_goals exact ⟨rfl, _, hR2.put2 (nx + 1) _ (by omega), adv_comment G.out hlt A1.out⟩
end
end Go.Proofs.Ytopnhbgialbicaa
