import Derived.Test.YtopnhbgialbicaaLexOpen
/- What the program's reader does in a name, in a text, in a range; a step of it. -/
namespace Go.Proofs.Ytopnhbgialbicaa
set_option linter.unusedVariables false
open Go.ChangeShapes Go.WideShapes Go.ChangeAt Go.RowKit

section
variable {W : World} {B : Nat} {s : ByteArray} {st nx bg : Nat} {rd : List Int} {ps : List Pc} {ft : Nat} {w : World}

theorem Rd.row4 (h : Rd W B s ⟨st, nx, bg, rd, ps, ft⟩ w) : ∃ p cap, w.cell? ⟨B, 4, none⟩ = some (.slice p rd.length cap) ∧ (convert 86 9 (.slice p rd.length cap)).run Try.prog w = .ok (.string (strOf rd)) w := by
  obtain ⟨v, h4, o4⟩ := h.c4
  obtain ⟨p, cap, hv⟩ := row_slice o4
  subst hv
  exact ⟨p, cap, h4, conv_row o4⟩
theorem startB_list : startB.toList = [115, 116, 97, 114, 116] := ByteArray.toList_mk _

set_option maxHeartbeats 4000000 in
theorem name_any (hR : Rd W B s ⟨2, nx, bg, rd, ps, ft⟩ w) (g : Good (PlainAid.bt s) s.size ⟨2, nx, bg, rd, ps, ft⟩) (hs : s.size ≤ 65536) :
    Calls Try.prog 44 #[.pointer (some ⟨B, 0, none⟩)] w (Done W B s ⟨2, nx, bg, rd, ps, ft⟩) := by
  have hn : nx ≤ s.size := g.nx
  have hps : ps.length ≤ 65536 := Nat.le_trans g.pl (Nat.le_trans hn hs)
  have hrd : rd.length ≤ 65536 := Nat.le_trans g.rd (Nat.le_trans hn hs)
  have HR : Hid (Rd W B s ⟨2, nx, bg, rd, ps, ft⟩ w) := hR
  have G : Hid (Good (PlainAid.bt s) s.size ⟨2, nx, bg, rd, ps, ft⟩) := g
  have u0 := PlainAid.bt_nonneg s nx
  have u1 := PlainAid.bt_le s nx
  have L1 : letB (-1) = false := rfl
  have D1 : digB (-1) = false := rfl
  clear g hR
  by_cases a0 : nx < s.size ∧ (letB (PlainAid.bt s nx) || digB (PlainAid.bt s nx)) = true
  · obtain ⟨hlt, a1⟩ := a0
    have hp := pk_in hlt
    have A1 : Hid ((letB (PlainAid.bt s nx) || digB (PlainAid.bt s nx)) = true) := a1
    by_cases a2 : rd.length = 32
    · have A2 : Hid (rd.length = 32) := a2
      have a2' : ((rd.length : Int) == 32) = true := by simp; omega
      clear a2
      by_cases c1 : letB (PlainAid.bt s nx) = true
      all_goals
        first
          | have c1' : letB (PlainAid.bt s nx) = true := c1
          | (have c1' : letB (PlainAid.bt s nx) = false := Bool.eq_false_iff.2 c1
             have c2' : digB (PlainAid.bt s nx) = true := by rw [c1'] at a1; simpa using a1)
        clear a1 c1
        go_enter Try.func44, Try.ntmps44
        go_wp2_with (first | (go_at_call 48; refine (peek_any HR.out hs hn).mono ?_; rintro e w1 ⟨rfl, hb1⟩; have hR2 := HR.out.keep hb1; obtain ⟨p, cap, s4, cv⟩ := hR2.row4; clear hb1) | (go_at_call 50; refine (letter_dev _ _).mono ?_; rintro e w2 ⟨rfl, rfl⟩) | (go_at_call 52; refine (digit_dev _ _).mono ?_; rintro e w2 ⟨rfl, rfl⟩) | (go_at_call 53; refine (fail_any hR2 201 (by decide)).mono ?_; rintro e w3 ⟨rfl, hR3⟩))
        refine bodyPost_ret (v := .tuple #[]) (results_none rfl _ _ _) rfl ?_
        exact ⟨rfl, _, hR3, adv_long G.out hlt A1.out A2.out⟩
    · have A2 : Hid (rd.length ≠ 32) := a2
      have a2' : ((rd.length : Int) == 32) = false := by simp; omega
      clear a2
      by_cases c1 : letB (PlainAid.bt s nx) = true
      all_goals
        first
          | have c1' : letB (PlainAid.bt s nx) = true := c1
          | (have c1' : letB (PlainAid.bt s nx) = false := Bool.eq_false_iff.2 c1
             have c2' : digB (PlainAid.bt s nx) = true := by rw [c1'] at a1; simpa using a1)
        clear a1 c1
        go_enter Try.func44, Try.ntmps44
        go_wp2_with (first | (go_at_call 48; refine (peek_any HR.out hs hn).mono ?_; rintro e w1 ⟨rfl, hb1⟩; have hR2 := HR.out.keep hb1; obtain ⟨p, cap, s4, cv⟩ := hR2.row4; clear hb1) | (go_at_call 50; refine (letter_dev _ _).mono ?_; rintro e w2 ⟨rfl, rfl⟩) | (go_at_call 52; refine (digit_dev _ _).mono ?_; rintro e w2 ⟨rfl, rfl⟩) | (go_at_call 54; refine (add_any hR2 _ 1 _ rfl hrd (Nat.le_trans hn hs) (by decide)).mono ?_; rintro e w3 ⟨rfl, hR3⟩))
        all_goals go_end0
        all_goals exact ⟨rfl, _, hR3, adv_in G.out hlt A1.out A2.out⟩
  · have A0 : Hid (nx = s.size ∨ (letB (PlainAid.bt s nx) || digB (PlainAid.bt s nx)) = false) := by
      show _ ∨ _
      by_cases e : nx = s.size
      · exact Or.inl e
      · exact Or.inr (Bool.eq_false_iff.2 fun h => a0 ⟨by omega, h⟩)
    have hpl : letB (pk s nx) = false ∧ digB (pk s nx) = false := by
      rcases A0.out with h | h
      · rw [pk_end h]; exact ⟨rfl, rfl⟩
      · by_cases e : nx = s.size
        · rw [pk_end e]; exact ⟨rfl, rfl⟩
        · rw [pk_in (by omega)]; simpa using h
    obtain ⟨c1, c2⟩ := hpl
    clear a0 L1 D1
    by_cases a3 : isStart rd = true
    · have a3' : ((strOf rd).toList == [115, 116, 97, 114, 116]) = true := by rw [← startB_list]; exact a3
      have A3 : Hid (isStart rd = true) := a3
      clear a3
      go_enter Try.func44, Try.ntmps44
      go_wp2_with (first | (go_at_call 48; refine (peek_any HR.out hs hn).mono ?_; rintro e w1 ⟨rfl, hb1⟩; have hR2 := HR.out.keep hb1; obtain ⟨p, cap, s4, cv⟩ := hR2.row4; clear hb1) | (go_at_call 50; refine (letter_dev _ _).mono ?_; rintro e w2 ⟨rfl, rfl⟩) | (go_at_call 52; refine (digit_dev _ _).mono ?_; rintro e w2 ⟨rfl, rfl⟩) | (go_at_call 55; refine (shut_no hR2 3 _ rfl hps).mono ?_; rintro e w3 ⟨rfl, hR3⟩))
      all_goals go_end0
      all_goals exact ⟨rfl, _, hR3, adv_shut G.out A0.out _ (if_pos A3.out).symm⟩
    · have a3' : ((strOf rd).toList == [115, 116, 97, 114, 116]) = false := by rw [← startB_list]; exact Bool.eq_false_iff.2 a3
      have A3 : Hid (¬ isStart rd = true) := a3
      clear a3
      go_enter Try.func44, Try.ntmps44
      go_wp2_with (first | (go_at_call 48; refine (peek_any HR.out hs hn).mono ?_; rintro e w1 ⟨rfl, hb1⟩; have hR2 := HR.out.keep hb1; obtain ⟨p, cap, s4, cv⟩ := hR2.row4; clear hb1) | (go_at_call 50; refine (letter_dev _ _).mono ?_; rintro e w2 ⟨rfl, rfl⟩) | (go_at_call 52; refine (digit_dev _ _).mono ?_; rintro e w2 ⟨rfl, rfl⟩) | (go_at_call 55; refine (shut_str hR2 0 _ _ rfl hps).mono ?_; rintro e w3 ⟨rfl, hR3⟩))
      all_goals go_end0
      all_goals exact ⟨rfl, _, hR3, adv_shut G.out A0.out _ (if_neg A3.out).symm⟩
end
end Go.Proofs.Ytopnhbgialbicaa
/- What stands at a string's beginning, byte by byte. -/
namespace Go.Proofs.Ytopnhbgialbicaa
set_option linter.unusedVariables false
open Go.RowKit

theorem bt_list (xs : List UInt8) (k : Nat) : PlainAid.bt ⟨xs.toArray⟩ k = ((xs[k]?).map fun c => (c.toNat : Int)).getD 0 := by
  unfold PlainAid.bt
  by_cases h : k < xs.length
  · rw [dif_pos (show k < (⟨xs.toArray⟩ : ByteArray).size from h), List.getElem?_eq_getElem h]; rfl
  · rw [dif_neg (show ¬ k < (⟨xs.toArray⟩ : ByteArray).size from h), List.getElem?_eq_none (by omega)]; rfl
theorem pfx_list (xs l : List UInt8) : pfx ⟨xs.toArray⟩ ⟨l.toArray⟩ = (decide (l.length ≤ xs.length) && (xs.take l.length == l)) := by
  unfold pfx
  rw [ByteArray.toList_mk, show (⟨l.toArray⟩ : ByteArray).size = l.length from rfl, ByteArray.extract_mk, ByteArray.toList_mk]
  simp only [List.drop_zero, Nat.sub_zero]
  rfl
theorem u8_beq (a : UInt8) (n : Nat) (hn : n < 256) : (a == UInt8.ofNat n) = decide ((a.toNat : Int) = (n : Int)) := by
  rw [Bool.eq_iff_iff]
  simp only [beq_iff_eq, decide_eq_true_eq]
  constructor
  · intro h; subst h; simp; omega
  · intro h
    apply UInt8.toNat_inj.1
    rw [UInt8.toNat_ofNat']
    omega
theorem pfx1 (r : ByteArray) : pfx r ⟨#[39]⟩ = (decide (0 < r.size) && decide (PlainAid.bt r 0 = 39)) := by
  obtain ⟨⟨xs⟩⟩ := r
  rw [show (⟨#[39]⟩ : ByteArray) = ⟨([39] : List UInt8).toArray⟩ from rfl, pfx_list, bt_list]
  match xs with
  | [] => rfl
  | a :: t =>
    have := u8_beq a 39 (by decide)
    rw [Bool.eq_iff_iff]
    simp only [List.take, List.length_cons, List.length_nil, List.getElem?_cons_zero, Option.map_some, Option.getD_some]
    simp at this ⊢
    simp [ByteArray.size]
    rw [Bool.eq_iff_iff] at this
    simpa using this
theorem pfx2 (r : ByteArray) : pfx r ⟨#[46, 46]⟩ = (decide (1 < r.size) && (decide (PlainAid.bt r 0 = 46) && decide (PlainAid.bt r 1 = 46))) := by
  obtain ⟨⟨xs⟩⟩ := r
  rw [show (⟨#[46, 46]⟩ : ByteArray) = ⟨([46, 46] : List UInt8).toArray⟩ from rfl, pfx_list, bt_list, bt_list]
  match xs with
  | [] => rfl
  | [a] => rfl
  | a :: b :: t =>
    have ha := u8_beq a 46 (by decide)
    have hb := u8_beq b 46 (by decide)
    rw [Bool.eq_iff_iff] at ha hb ⊢
    simp [ByteArray.size] at ha hb ⊢
    rw [ha, hb]
theorem pfx3 (r : ByteArray) : pfx r ⟨#[46, 46, 39]⟩ = (decide (2 < r.size) && (decide (PlainAid.bt r 0 = 46) && (decide (PlainAid.bt r 1 = 46) && decide (PlainAid.bt r 2 = 39)))) := by
  obtain ⟨⟨xs⟩⟩ := r
  rw [show (⟨#[46, 46, 39]⟩ : ByteArray) = ⟨([46, 46, 39] : List UInt8).toArray⟩ from rfl, pfx_list, bt_list, bt_list, bt_list]
  match xs with
  | [] => rfl
  | [a] => rfl
  | [a, b] => simp [ByteArray.size]
  | a :: b :: c :: t =>
    have ha := u8_beq a 46 (by decide)
    have hb := u8_beq b 46 (by decide)
    have hc := u8_beq c 39 (by decide)
    rw [Bool.eq_iff_iff] at ha hb hc ⊢
    simp [ByteArray.size] at ha hb hc ⊢
    rw [ha, hb, hc]
/-- The same, of what is left of s from k on. -/
theorem rest1 (s : ByteArray) (k : Nat) (hk : k ≤ s.size) : pfx (s.extract k s.size) ⟨#[39]⟩ = (decide (k < s.size) && decide (PlainAid.bt s k = 39)) := by
  rw [pfx1, bt_extract, size_extract, Nat.add_zero]; congr 1; rw [decide_eq_decide]; omega
theorem rest2 (s : ByteArray) (k : Nat) (hk : k ≤ s.size) : pfx (s.extract k s.size) ⟨#[46, 46]⟩ = dotsB (PlainAid.bt s) s.size k := by
  rw [pfx2, bt_extract, bt_extract, size_extract, Nat.add_zero, Bool.eq_iff_iff]
  constructor
  · intro h
    simp only [Bool.and_eq_true, decide_eq_true_eq] at h
    exact dots_mk ⟨by omega, h.2.1, h.2.2⟩
  · intro h
    obtain ⟨a, b, c⟩ := dots_parts h
    simp only [Bool.and_eq_true, decide_eq_true_eq]
    exact ⟨by omega, b, c⟩
theorem rest3 (s : ByteArray) (k : Nat) (hk : k ≤ s.size) (hd : dots (PlainAid.bt s) s.size k) : pfx (s.extract k s.size) ⟨#[46, 46, 39]⟩ = !decide (s.size ≤ k + 2 ∨ PlainAid.bt s (k + 2) ≠ 39) := by
  obtain ⟨h1, h2, h3⟩ := dots_parts hd
  rw [pfx3, bt_extract, bt_extract, bt_extract, size_extract, Nat.add_zero, Bool.eq_iff_iff]
  simp [h2, h3]; omega
theorem extract_extract (s : ByteArray) (k j : Nat) (h : k + j ≤ s.size) : (s.extract k s.size).extract j (s.extract k s.size).size = s.extract (k + j) s.size := by
  rw [size_extract]
  apply ByteArray.ext
  simp only [ByteArray.data_extract, Array.extract_extract]
  congr 1
  have : s.data.size = s.size := rfl
  omega
end Go.Proofs.Ytopnhbgialbicaa
/- What the program's reader does in a text and in a range; a step of it. -/
namespace Go.Proofs.Ytopnhbgialbicaa
set_option linter.unusedVariables false
open Go.ChangeShapes Go.WideShapes Go.ChangeAt Go.RowKit

section
variable {W : World} {B : Nat} {s : ByteArray} {st nx bg : Nat} {rd : List Int} {ps : List Pc} {ft : Nat} {w : World}

theorem writ_none (s : ByteArray) (nx : Nat) (q : Int) (hs : s.size ≤ 65536) (hn : nx ≤ s.size) (h : signF (PlainAid.bt s) s.size nx q = none) (w : World) :
    Calls Try.prog 56 #[.string (s.extract nx s.size), .int .u8 q] w fun e w' => e = .returned (.tuple #[.int .u8 0, .int .i64 0]) ∧ Below w.heap.size w w' := by
  rw [signF_rest s nx q hn] at h
  have h2 : signF (PlainAid.bt (s.extract nx s.size)) (s.extract nx s.size).size 0 q = none := by
    cases hh : signF (PlainAid.bt (s.extract nx s.size)) (s.extract nx s.size).size 0 q with
    | none => rfl
    | some x => rw [hh] at h; cases h
  have := written_any (s.extract nx s.size) q w (by rw [size_extract]; omega)
  rw [h2] at this
  exact this
theorem writ_some (s : ByteArray) (nx : Nat) (q : Int) (hs : s.size ≤ 65536) (hn : nx ≤ s.size) (c : Int) (to : Nat) (h : signF (PlainAid.bt s) s.size nx q = some (c, to)) (w : World) :
    Calls Try.prog 56 #[.string (s.extract nx s.size), .int .u8 q] w fun e w' => e = .returned (.tuple #[.int .u8 c, .int .i64 ((to - nx : Nat) : Int)]) ∧ Below w.heap.size w w' := by
  rw [signF_rest s nx q hn] at h
  have := written_any (s.extract nx s.size) q w (by rw [size_extract]; omega)
  cases hh : signF (PlainAid.bt (s.extract nx s.size)) (s.extract nx s.size).size 0 q with
  | none => rw [hh] at h; cases h
  | some x =>
    obtain ⟨c', k⟩ := x
    rw [hh] at h this
    injection h with h
    injection h with e1 e2
    subst e1 e2
    rw [show k + nx - nx = k by omega]
    exact this

set_option maxHeartbeats 4000000 in
theorem text_any (hR : Rd W B s ⟨3, nx, bg, rd, ps, ft⟩ w) (g : Good (PlainAid.bt s) s.size ⟨3, nx, bg, rd, ps, ft⟩) (hs : s.size ≤ 65536) :
    Calls Try.prog 45 #[.pointer (some ⟨B, 0, none⟩)] w (Done W B s ⟨3, nx, bg, rd, ps, ft⟩) := by
  have hn : nx ≤ s.size := g.nx
  have hps : ps.length ≤ 65536 := Nat.le_trans g.pl (Nat.le_trans hn hs)
  have hrd : rd.length ≤ 65536 := Nat.le_trans g.rd (Nat.le_trans hn hs)
  have HR : Hid (Rd W B s ⟨3, nx, bg, rd, ps, ft⟩ w) := hR
  have G : Hid (Good (PlainAid.bt s) s.size ⟨3, nx, bg, rd, ps, ft⟩) := g
  have u0 := PlainAid.bt_nonneg s nx
  have u1 := PlainAid.bt_le s nx
  clear g hR
  by_cases a0 : nx < s.size ∧ PlainAid.bt s nx = 34
  · obtain ⟨hlt, a1⟩ := a0
    have hp := pk_in hlt
    have a1' : (PlainAid.bt s nx == 34) = true := by simpa using a1
    have A1 : Hid (PlainAid.bt s nx = 34) := a1
    clear a1
    go_enter Try.func45, Try.ntmps45
    go_wp2_with (first | (go_at_call 48; refine (peek_any HR.out hs hn).mono ?_; rintro e w1 ⟨rfl, hb1⟩; have hR2 := HR.out.keep hb1; have hR3 := hR2.put2 (nx + 1) ((nx : Int) + 1) (by omega); obtain ⟨s0, s1, s2, s3, s6⟩ := hR2.all; have t2 := hR2.fz 2; obtain ⟨p, cap, s4, cv⟩ := hR3.row4; clear hb1) | (go_at_call 55; refine (shut_str hR3 1 _ _ rfl hps).mono ?_; rintro e w3 ⟨rfl, hR4⟩))
    refine bodyPost_ret (v := .tuple #[]) (results_none rfl _ _ _) rfl ?_
    exact ⟨rfl, _, hR4, adv_textEnd G.out hlt A1.out⟩
  · have A0 : Hid (¬ (nx < s.size ∧ PlainAid.bt s nx = 34)) := a0
    have hpq : (pk s nx == 34) = false := by
      by_cases e : nx = s.size
      · rw [pk_end e]; rfl
      · rw [pk_in (by omega)]; simp; omega
    clear a0
    cases hsf : signF (PlainAid.bt s) s.size nx 34 with
    | none =>
      have WN := writ_none s nx 34 hs hn hsf
      have SF : Hid (signF (PlainAid.bt s) s.size nx 34 = none) := hsf
      clear hsf
      go_enter Try.func45, Try.ntmps45
      go_wp2_with (first | (go_at_call 48; refine (peek_any HR.out hs hn).mono ?_; rintro e w1 ⟨rfl, hb1⟩; have hR2 := HR.out.keep hb1; clear hb1) | (go_at_call 57; refine (rest_any hR2 hs hn).mono ?_; rintro e w2 ⟨rfl, hb2⟩; have hR3 := hR2.keep hb2; clear hb2) | (go_at_call 56; refine (WN _).mono ?_; rintro e w3 ⟨rfl, hb3⟩; have hR4 := hR3.keep hb3; clear hb3) | (go_at_call 53; refine (fail_any hR4 201 (by decide)).mono ?_; rintro e w4 ⟨rfl, hR5⟩))
      refine bodyPost_ret (v := .tuple #[]) (results_none rfl _ _ _) rfl ?_
      exact ⟨rfl, _, hR5, adv_textBad G.out A0.out SF.out⟩
    | some x =>
      obtain ⟨c, to⟩ := x
      have WS := writ_some s nx 34 hs hn c to hsf
      obtain ⟨q1, q2⟩ := signF_to hsf
      obtain ⟨k, hk⟩ : ∃ k, k = to - nx := ⟨_, rfl⟩
      rw [← hk] at WS
      have K0 : ((k : Int) == 0) = false := by simp; omega
      have KT : Hid (nx + k = to) := by show _ = _; omega
      have k1 : k ≤ 65536 := by omega
      have SF : Hid (signF (PlainAid.bt s) s.size nx 34 = some (c, to)) := hsf
      clear hsf hk q1 q2
      go_enter Try.func45, Try.ntmps45
      go_wp2_with (first | (go_at_call 48; refine (peek_any HR.out hs hn).mono ?_; rintro e w1 ⟨rfl, hb1⟩; have hR2 := HR.out.keep hb1; clear hb1) | (go_at_call 57; refine (rest_any hR2 hs hn).mono ?_; rintro e w2 ⟨rfl, hb2⟩; have hR3 := hR2.keep hb2; clear hb2) | (go_at_call 56; refine (WS _).mono ?_; rintro e w3 ⟨rfl, hb3⟩; have hR4 := hR3.keep hb3; clear hb3) | (go_at_call 54; refine (add_any hR4 _ k _ rfl hrd (Nat.le_trans hn hs) k1).mono ?_; rintro e w4 ⟨rfl, hR5⟩))
      all_goals go_end0
      all_goals (rw [KT.out] at hR5; exact ⟨rfl, _, hR5, adv_text G.out A0.out SF.out⟩)
end
end Go.Proofs.Ytopnhbgialbicaa
