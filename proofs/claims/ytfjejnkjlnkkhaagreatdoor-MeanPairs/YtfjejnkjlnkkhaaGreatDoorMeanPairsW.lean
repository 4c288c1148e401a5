/- MeanPairs, walked. -/
import Derived.Test.YtfjejnkjlnkkhaaGreatDoorGg
import Derived.Test.YtfjejnkjlnkkhaaGreatDoorGf
import Derived.Test.YtfjejnkjlnkkhaaGreatDoorMzR
import Derived.BigQuiet
import Derived.Deep.Cut
import Derived.Deep.RegionHeld3
namespace Go.Proofs.YtfjejnkjlnkkhaaGreatDoor
set_option linter.unusedVariables false
set_option linter.unusedSimpArgs false
open Go.ChangeShapes Go.WideShapes Go.ChangeAt Go.RowKit Go.Maps

/-- A text of a and b. -/
def AbT (T : ByteArray) : Prop := T.size ≤ 12 ∧ ∀ k, k < T.size → PlainAid.bt T k = 97 ∨ PlainAid.bt T k = 98
def btP (T : ByteArray) : Nat → Nat := fun k => (PlainAid.bt T k).toNat
theorem andP (x : Int) : bits .and .i64 x 1 = 0 ∨ bits .and .i64 x 1 = 1 := by
  have h : (BitVec.ofInt 64 x &&& BitVec.ofInt 64 1).toNat ≤ 1 := by
    rw [BitVec.toNat_and]
    refine Nat.le_trans Nat.and_le_right ?_
    rw [BitVec.toNat_ofInt]
    omega
  have e : bits .and .i64 x 1 = IntKind.i64.wrap ((BitVec.ofInt 64 x &&& BitVec.ofInt 64 1).toNat : Int) := rfl
  rw [e]
  generalize (BitVec.ofInt 64 x &&& BitVec.ofInt 64 1).toNat = n at h
  rw [IntKind.wrap_i64]
  omega
set_option maxHeartbeats 8000000 in
set_option maxRecDepth 100000 in
theorem meanPairs_core (W : World) (s : ByteArray) (hs : s.size ≤ 140737488351232) (G : World → Option Addr → Nat → Option Addr → Nat → Prop) (Tb : ByteArray → Nat → World → Prop)
    (KA : ∀ w, Below W.heap.size W w → Calls Tryz.prog 13 #[] w fun e w' => e = .returned (.bool true) ∧ Hid (Below w.heap.size w w'))
    (KP : ∀ w, Below W.heap.size W w → Calls Tryz.prog 22 #[] w fun e w' => ∃ p1 c1 p2 c2, e = .returned (.agg #[.int .i64 0, .slice p1 2 c1, .slice p2 4 c2]) ∧ Hid (G w' p1 c1 p2 c2) ∧ Hid (Below w.heap.size w w'))
    (KN : ∀ (T : ByteArray) w p1 c1 p2 c2, Below W.heap.size W w → G w p1 c1 p2 c2 → AbT T → Calls Tryz.prog 14 #[.agg #[.int .i64 0, .slice p1 2 c1, .slice p2 4 c2], .string T] w fun e w' => ∃ tb, e = .returned (.tuple #[.pointer (some ⟨tb, 0, none⟩), .int .i64 0]) ∧ Hid (Tb T tb w') ∧ Hid (Below w.heap.size w w'))
    (KH0 : ∀ (T : ByteArray) tb w (i j : Nat), Tb T tb w → AbT T → i ≤ j → j ≤ T.size → Calls Tryz.prog 16 #[.pointer (some ⟨tb, 0, none⟩), .int .i64 0, .int .i64 (i : Int), .int .i64 (j : Int)] w fun e w'' => e = .returned (.bool (decide ((j - i) % 2 = 0) && prB (btP T) i ((j - i) / 2) j)) ∧ w = w'')
    (KH1 : ∀ (T : ByteArray) tb w (i j : Nat), Tb T tb w → AbT T → i ≤ j → j ≤ T.size → Calls Tryz.prog 16 #[.pointer (some ⟨tb, 0, none⟩), .int .i64 1, .int .i64 (i : Int), .int .i64 (j : Int)] w fun e w'' => e = .returned (.bool (decide (i < j) && prA (btP T) i j)) ∧ w = w'') :
    Calls Tryz.prog 6 #[.string s] W fun e W' => e = .returned (.bool true) ∧ Below W.heap.size W W' := by
  have HA : Hid (∀ w, Below W.heap.size W w → Calls Tryz.prog 13 #[] w fun e w' => e = .returned (.bool true) ∧ Hid (Below w.heap.size w w')) := KA
  have HP := (show Hid _ from KP)
  have HN := (show Hid _ from KN)
  have HH0 := (show Hid _ from KH0)
  have HH1 := (show Hid _ from KH1)
  have HS : Hid (s.size ≤ 140737488351232) := hs
  obtain ⟨n, hn⟩ : ∃ n, n = min s.size 12 := ⟨_, rfl⟩
  have HNS : Hid (n ≤ s.size ∧ n ≤ 12 ∧ (n = s.size ∨ n = 12)) := by show _ ∧ _; omega
  have hn12 : n ≤ 12 := by omega
  obtain ⟨P, hP⟩ : ∃ P : Nat → Bool, P = fun k => decide (bits .and .i64 (PlainAid.bt s k) 1 = 0) := ⟨_, rfl⟩
  have HPP : Hid (∀ k, P k = decide (bits .and .i64 (PlainAid.bt s k) 1 = 0)) := fun k => by rw [hP]
  clear KA KP KN KH0 KH1 hs hn hP
  go_enter Tryz.func6, Tryz.ntmps6
  go_upto_region 4 with (go_at_call 13; refine (HA.out _ (Below.refl _ _)).mono ?_; rintro e wa ⟨rfl, ba⟩)
  go_wp2
  go_loopw [3, 4] (fun t x wr => ∃ k : Nat, k ≤ n ∧ x = .int .i64 (k : Int) ∧ t = .string (abT P k) ∧ Hid (Below W.heap.size W wr)) (fun _ x _ => n - (intOf x).toNat)
  case atStart => exact ⟨0, Nat.zero_le _, rfl, rfl, ba.out⟩
  case round =>
    obtain ⟨k, hk, rfl, rfl, HB⟩ := hrel
    by_cases hlt : k < n
    · have d1 : decide ((k : Int) < (s.size : Int)) = true := decide_eq_true (by have := HNS.out; omega)
      have d1' : (k : Int) < (s.size : Int) := by have := HNS.out; omega
      have d2 : decide ((k : Int) < 12) = true := decide_eq_true (by omega)
      have hks : k < s.size := by have := HNS.out; omega
      have b1 := PlainAid.bt_nonneg s k
      have b2 := PlainAid.bt_le s k
      have hA := PlainAid.get_bt s
      have hz := abT_size P k
      obtain ⟨A, hAk⟩ : ∃ A, A = abT P k := ⟨_, rfl⟩
      rw [← hAk] at hz ⊢
      have HAK : Hid (A = abT P k) := hAk
      clear hAk
      rcases andP (PlainAid.bt s k) with ha | ha
      · have HPK : Hid (P k = true) := by show _ = _; rw [HPP.out k, ha]; rfl
        have hadd := fun (w : World) => run_string_add_sum (P := Tryz.prog) (w := w) A ⟨#[97]⟩ (by rw [hz]; show k + 1 ≤ 9223372036854775807; omega)
        go_wp2
        go_roundw
        case rel => exact ⟨k + 1, by omega, by go_num, by rw [HAK.out]; show _ = Value.string (abT P k ++ abC P k); unfold abC; rw [if_pos HPK.out], HB.out.trans ((bel1 _ _).mono HB.out.size)⟩
        case measure => simp [intOf]; omega
      · have HPK : Hid (P k = false) := by show _ = _; rw [HPP.out k, ha]; rfl
        have hadd := fun (w : World) => run_string_add_sum (P := Tryz.prog) (w := w) A ⟨#[98]⟩ (by rw [hz]; show k + 1 ≤ 9223372036854775807; omega)
        go_wp2
        go_roundw
        case rel => exact ⟨k + 1, by omega, by go_num, by rw [HAK.out]; show _ = Value.string (abT P k ++ abC P k); unfold abC; rw [if_neg (by rw [HPK.out]; simp)], HB.out.trans ((bel1 _ _).mono HB.out.size)⟩
        case measure => simp [intOf]; omega
    · obtain rfl : k = n := by omega
      have HT : Hid (AbT (abT P k)) := ⟨by rw [abT_size]; omega, fun q hq => abT_is P k q (by rw [abT_size] at hq; exact hq)⟩
      obtain ⟨T, hT⟩ : ∃ T, T = abT P k := ⟨_, rfl⟩
      have hts : T.size = k := by rw [hT]; exact abT_size P k
      rw [← hT] at HT ⊢
      clear hT HPP
      obtain ⟨b, hb⟩ : ∃ b, b = btP T := ⟨_, rfl⟩
      have HBT : Hid (∀ q, q < k → (PlainAid.bt T q == 97) = decide (b q = 97)) := fun q hq => by
        have h1 := HT.out.2 q (by rw [hts]; exact hq)
        rw [hb]
        unfold btP
        rcases h1 with h1 | h1 <;> rw [h1] <;> rfl
      have K0 : Hid (∀ tb w (i j : Nat), Tb T tb w → i ≤ j → j ≤ k → Calls Tryz.prog 16 #[.pointer (some ⟨tb, 0, none⟩), .int .i64 0, .int .i64 (i : Int), .int .i64 (j : Int)] w fun e w'' => e = .returned (.bool (decide ((j - i) % 2 = 0) && prB b i ((j - i) / 2) j)) ∧ w = w'') := fun tb w i j h1 h2 h3 => by rw [hb]; exact HH0.out T tb w i j h1 HT.out h2 (by rw [hts]; exact h3)
      have K1 : Hid (∀ tb w (i j : Nat), Tb T tb w → i ≤ j → j ≤ k → Calls Tryz.prog 16 #[.pointer (some ⟨tb, 0, none⟩), .int .i64 1, .int .i64 (i : Int), .int .i64 (j : Int)] w fun e w'' => e = .returned (.bool (decide (i < j) && prA b i j)) ∧ w = w'') := fun tb w i j h1 h2 h3 => by rw [hb]; exact HH1.out T tb w i j h1 HT.out h2 (by rw [hts]; exact h3)
      clear HH0 HH1 hb
      obtain ⟨t, ht⟩ : ∃ t, t = k := ⟨_, rfl⟩
      have ht12 : t ≤ 12 := by omega
      have HTS : Hid (T.size = t) := by rw [ht]; exact hts
      rw [← ht] at HBT K0 K1
      have KX : Hid (k = s.size ∨ k = 12) := HNS.out.2.2
      have KY : Hid (k ≤ s.size) := HNS.out.1
      clear HNS hn12 hk hts hlt ht
      rcases (show k = s.size ∨ k = 12 ∧ k < s.size by have := KX.out; have := KY.out; omega) with hx | ⟨hx, hy⟩
      · have d1 : decide ((k : Int) < (s.size : Int)) = false := decide_eq_false (by omega)
        have d1' : ¬ (k : Int) < (s.size : Int) := by omega
        clear hx KX KY
        go_upto_region 8 with fail
        clear d1 d1'
        go_upto_region 12 with (first
          | (go_at_call 22; refine (HP.out _ HB.out).mono ?_; rintro e wp ⟨p1, c1, p2, c2, rfl, hG, bp⟩; have HBP : Hid (Below W.heap.size W wp) := HB.out.trans (bp.out.mono HB.out.size))
          | (go_at_call 14; refine (HN.out _ _ _ _ _ _ HBP.out hG.out HT.out).mono ?_; rintro e w7 ⟨tb, rfl, HTB, b7⟩; have HB7 : Hid (Below W.heap.size W w7) := HBP.out.trans (b7.out.mono HBP.out.size))
          | (go_at_call 15; refine (num_any _ _).mono ?_; rintro e wn ⟨rfl, rfl⟩))
        have KH0 : Hid (∀ (i j : Nat), i ≤ j → j ≤ t → Calls Tryz.prog 16 #[.pointer (some ⟨tb, 0, none⟩), .int .i64 0, .int .i64 (i : Int), .int .i64 (j : Int)] w7 fun e w'' => e = .returned (.bool (decide ((j - i) % 2 = 0) && prB b i ((j - i) / 2) j)) ∧ w7 = w'') := fun i j h1 h2 => K0.out tb w7 i j HTB.out h1 h2
        have KH1 : Hid (∀ (i j : Nat), i ≤ j → j ≤ t → Calls Tryz.prog 16 #[.pointer (some ⟨tb, 0, none⟩), .int .i64 1, .int .i64 (i : Int), .int .i64 (j : Int)] w7 fun e w'' => e = .returned (.bool (decide (i < j) && prA b i j)) ∧ w7 = w'') := fun i j h1 h2 => K1.out tb w7 i j HTB.out h1 h2
        clear K0 K1 HTB hG bp b7 HBP HB HP HN HA ba HT HS
        go_wp2
        go_loopw [7] (fun x' wr => ∃ i : Nat, i ≤ t + 1 ∧ x' = .int .i64 (i : Int) ∧ Hid (wr = w7)) (fun x' _ => t + 1 - (intOf x').toNat)
        case atStart => exact ⟨0, Nat.zero_le _, rfl, rfl⟩
        case round =>
          obtain ⟨i, hi, rfl, HWX⟩ := hrel
          obtain rfl : wr = w7 := HWX.out
          clear HWX
          by_cases hlt : i ≤ t
          · have e1 : decide ((i : Int) ≤ (T.size : Int)) = true := decide_eq_true (by have := HTS.out; omega)
            have e1' : (i : Int) ≤ (T.size : Int) := by have := HTS.out; omega
            go_wp2
            clear e1 e1'
            obtain ⟨wq, hwq⟩ : ∃ wq, wq = wr := ⟨_, rfl⟩
            subst hwq
            go_loopw [8] (fun x' wr => ∃ j : Nat, i ≤ j ∧ j ≤ t + 1 ∧ x' = .int .i64 (j : Int) ∧ Hid (wr = wq)) (fun x' _ => t + 1 - (intOf x').toNat)
            case atStart => exact ⟨i, Nat.le_refl _, hi, rfl, rfl⟩
            case round =>
              obtain ⟨j, hij, hj, rfl, HWX⟩ := hrel
              obtain rfl : wr = wq := HWX.out
              clear HWX
              by_cases hltj : j ≤ t
              · have e1 : decide ((j : Int) ≤ (T.size : Int)) = true := decide_eq_true (by have := HTS.out; omega)
                have e1' : (j : Int) ≤ (T.size : Int) := by have := HTS.out; omega
                obtain ⟨d, hd⟩ : ∃ d, d = j - i := ⟨_, rfl⟩
                obtain ⟨h, hh⟩ : ∃ h, h = d / 2 := ⟨_, rfl⟩
                obtain ⟨r, hr⟩ : ∃ r, r = d % 2 := ⟨_, rfl⟩
                have hdi : (j : Int) - (i : Int) = (d : Int) := by omega
                have hhi : Int.tdiv (d : Int) 2 = (h : Int) := by rw [Int.tdiv_eq_ediv_of_nonneg (by omega)]; omega
                have hri : Int.tmod (d : Int) 2 = (r : Int) := by rw [Int.tmod_eq_emod_of_nonneg (by omega)]; omega
                have hd12 : d ≤ 12 := by omega
                have hh12 : h ≤ 12 := by omega
                have hr2 : r ≤ 1 := by omega
                obtain ⟨E, hE⟩ : ∃ E, E = decide ((j - i) % 2 = 0) := ⟨_, rfl⟩
                obtain ⟨L, hL⟩ : ∃ L, L = decide (i < j) := ⟨_, rfl⟩
                have rE : ((r : Int) == 0) = E := by
                  rw [hE, Bool.eq_iff_iff, beq_iff_eq, decide_eq_true_eq]; omega
                have rL : decide ((j : Int) > (i : Int)) = L := by
                  rw [hL, Bool.eq_iff_iff, decide_eq_true_eq, decide_eq_true_eq]; omega
                have rL' : decide ((i : Int) < (j : Int)) = L := rL
                have H0 : Hid (Calls Tryz.prog 16 #[.pointer (some ⟨tb, 0, none⟩), .int .i64 0, .int .i64 (i : Int), .int .i64 (j : Int)] wr fun e w'' => e = .returned (.bool (E && prB b i h j)) ∧ wr = w'') := by
                  have := KH0.out i j hij hltj
                  rw [← hE, ← hd, ← hh] at this
                  exact this
                have H1 : Hid (Calls Tryz.prog 16 #[.pointer (some ⟨tb, 0, none⟩), .int .i64 1, .int .i64 (i : Int), .int .i64 (j : Int)] wr fun e w'' => e = .returned (.bool (L && prA b i j)) ∧ wr = w'') := by
                  have := KH1.out i j hij hltj
                  rw [← hL] at this
                  exact this
                have HLL : Hid (L = decide (i < j)) := hL
                clear hE hL hd hh hr
                go_upto_region 18 with fail
                clear e1 e1' rE rL rL' hdi hhi hri hr2 hd12
                go_wp2
                obtain ⟨wq, hwq⟩ : ∃ wq, wq = wr := ⟨_, rfl⟩
                subst hwq
                go_loopw [10, 11, 12] (fun y' z' x' wr => ∃ k : Nat, i ≤ k ∧ k ≤ j ∧ x' = .int .i64 (k : Int) ∧ y' = .bool (E && prB b i h k) ∧ z' = .bool (L && prA b i k) ∧ Hid (wr = wq)) (fun _ _ x' _ => j - (intOf x').toNat)
                case atStart => exact ⟨i, Nat.le_refl _, hij, rfl, by rw [prB_low (Nat.le_refl _), Bool.and_true], by rw [prA_low (Nat.le_refl _), Bool.and_true, HLL.out], rfl⟩
                case round =>
                  obtain ⟨q, hq1, hq2, rfl, rfl, rfl, HWX⟩ := hrel
                  obtain rfl : wr = wq := HWX.out
                  clear HWX
                  by_cases hqj : q < j
                  · have hps := prB_next (b := b) (h := h) hq1
                    have hpa := prA_next (b := b) hq1
                    have hbq := HBT.out q (by omega)
                    have hqs : q < T.size := by have := HTS.out; omega
                    have b1 := PlainAid.bt_nonneg T q
                    have b2 := PlainAid.bt_le T q
                    have hA := PlainAid.get_bt T
                    obtain ⟨m1, hm1⟩ : ∃ m1, m1 = decide (b q = 97) := ⟨_, rfl⟩
                    obtain ⟨m2, hm2⟩ : ∃ m2, m2 = decide (q < i + h) := ⟨_, rfl⟩
                    have g2 : decide ((q : Int) < (i : Int) + (h : Int)) = m2 := by rw [hm2, Bool.eq_iff_iff, decide_eq_true_eq, decide_eq_true_eq]; omega
                    rw [← hm1] at hbq hps hpa
                    rw [← hm2] at hps
                    obtain ⟨A, hA9⟩ : ∃ A, A = (E && prB b i h q) := ⟨_, rfl⟩
                    obtain ⟨B, hB9⟩ : ∃ B, B = (L && prA b i q) := ⟨_, rfl⟩
                    have HPK : Hid ((E && prB b i h (q + 1)) = (A && (m1 == m2))) := by show _ = _; rw [hps, hA9, Bool.and_assoc]
                    have HPL : Hid ((L && prA b i (q + 1)) = (B && m1)) := by show _ = _; rw [hpa, hB9, Bool.and_assoc]
                    rw [← hA9, ← hB9]
                    have e1 : (q : Int) < (j : Int) := by omega
                    have e1' : decide ((q : Int) < (j : Int)) = true := decide_eq_true e1
                    clear hps hpa hA9 hB9 hm1 hm2
                    cases A <;> cases B <;> cases m1 <;> cases m2
                    all_goals
                      go_wp2
                      go_roundw
                      case rel => exact ⟨q + 1, by omega, by omega, by go_num, by rw [HPK.out]; rfl, by rw [HPL.out]; rfl, by trivial⟩
                      case measure => simp [intOf]; omega
                  · obtain rfl : q = j := by omega
                    obtain ⟨A, hA9⟩ : ∃ A, A = (E && prB b i h q) := ⟨_, rfl⟩
                    obtain ⟨B, hB9⟩ : ∃ B, B = (L && prA b i q) := ⟨_, rfl⟩
                    rw [← hA9] at H0 ⊢
                    rw [← hB9] at H1 ⊢
                    have bq : (!(A == A)) = false := by cases A <;> rfl
                    have bq2 : (A != A) = false := by cases A <;> rfl
                    have br : (!(B == B)) = false := by cases B <;> rfl
                    have br2 : (B != B) = false := by cases B <;> rfl
                    have n9 : ¬ ((q : Int) < (q : Int)) := by omega
                    have d9 : decide ((q : Int) < (q : Int)) = false := decide_eq_false n9
                    clear hA9 hB9
                    go_wp2_with (go_at_call 16; first | (have hh := Fl1; clear hh; refine H1.out.mono ?_; rintro e wn ⟨rfl, rfl⟩) | (refine H0.out.mono ?_; rintro e wn ⟨rfl, rfl⟩; have Fl1 : True := trivial))
                    go_roundw
                    case rel => exact ⟨q + 1, by omega, by omega, by go_num, by trivial⟩
                    case measure => simp [intOf]; omega
              · obtain rfl : j = t + 1 := by omega
                have e1 : decide (((t + 1 : Nat) : Int) ≤ (T.size : Int)) = false := decide_eq_false (by have := HTS.out; omega)
                have e1' : ¬ ((t + 1 : Nat) : Int) ≤ (T.size : Int) := by have := HTS.out; omega
                go_wp2
                go_roundw
                case rel => exact ⟨i + 1, by omega, by go_num, by trivial⟩
                case measure => simp [intOf]; omega
          · obtain rfl : i = t + 1 := by omega
            have e1 : decide (((t + 1 : Nat) : Int) ≤ (T.size : Int)) = false := decide_eq_false (by have := HTS.out; omega)
            have e1' : ¬ ((t + 1 : Nat) : Int) ≤ (T.size : Int) := by have := HTS.out; omega
            go_wp2
            go_ret
            exact ⟨rfl, HB7.out⟩
      · have d2 : decide ((k : Int) < 12) = false := decide_eq_false (by omega)
        have d2' : ¬ (k : Int) < 12 := by omega
        · have d1 : decide ((k : Int) < (s.size : Int)) = true := decide_eq_true (by omega)
          have d1' : (k : Int) < (s.size : Int) := by omega
          clear hx hy KX KY
          go_upto_region 8 with fail
          clear d1 d1' d2 d2'
          go_upto_region 12 with (first
            | (go_at_call 22; refine (HP.out _ HB.out).mono ?_; rintro e wp ⟨p1, c1, p2, c2, rfl, hG, bp⟩; have HBP : Hid (Below W.heap.size W wp) := HB.out.trans (bp.out.mono HB.out.size))
            | (go_at_call 14; refine (HN.out _ _ _ _ _ _ HBP.out hG.out HT.out).mono ?_; rintro e w7 ⟨tb, rfl, HTB, b7⟩; have HB7 : Hid (Below W.heap.size W w7) := HBP.out.trans (b7.out.mono HBP.out.size))
            | (go_at_call 15; refine (num_any _ _).mono ?_; rintro e wn ⟨rfl, rfl⟩))
          have KH0 : Hid (∀ (i j : Nat), i ≤ j → j ≤ t → Calls Tryz.prog 16 #[.pointer (some ⟨tb, 0, none⟩), .int .i64 0, .int .i64 (i : Int), .int .i64 (j : Int)] w7 fun e w'' => e = .returned (.bool (decide ((j - i) % 2 = 0) && prB b i ((j - i) / 2) j)) ∧ w7 = w'') := fun i j h1 h2 => K0.out tb w7 i j HTB.out h1 h2
          have KH1 : Hid (∀ (i j : Nat), i ≤ j → j ≤ t → Calls Tryz.prog 16 #[.pointer (some ⟨tb, 0, none⟩), .int .i64 1, .int .i64 (i : Int), .int .i64 (j : Int)] w7 fun e w'' => e = .returned (.bool (decide (i < j) && prA b i j)) ∧ w7 = w'') := fun i j h1 h2 => K1.out tb w7 i j HTB.out h1 h2
          clear K0 K1 HTB hG bp b7 HBP HB HP HN HA ba HT HS
          go_wp2
          go_loopw [7] (fun x' wr => ∃ i : Nat, i ≤ t + 1 ∧ x' = .int .i64 (i : Int) ∧ Hid (wr = w7)) (fun x' _ => t + 1 - (intOf x').toNat)
          case atStart => exact ⟨0, Nat.zero_le _, rfl, rfl⟩
          case round =>
            obtain ⟨i, hi, rfl, HWX⟩ := hrel
            obtain rfl : wr = w7 := HWX.out
            clear HWX
            by_cases hlt : i ≤ t
            · have e1 : decide ((i : Int) ≤ (T.size : Int)) = true := decide_eq_true (by have := HTS.out; omega)
              have e1' : (i : Int) ≤ (T.size : Int) := by have := HTS.out; omega
              go_wp2
              clear e1 e1'
              obtain ⟨wq, hwq⟩ : ∃ wq, wq = wr := ⟨_, rfl⟩
              subst hwq
              go_loopw [8] (fun x' wr => ∃ j : Nat, i ≤ j ∧ j ≤ t + 1 ∧ x' = .int .i64 (j : Int) ∧ Hid (wr = wq)) (fun x' _ => t + 1 - (intOf x').toNat)
              case atStart => exact ⟨i, Nat.le_refl _, hi, rfl, rfl⟩
              case round =>
                obtain ⟨j, hij, hj, rfl, HWX⟩ := hrel
                obtain rfl : wr = wq := HWX.out
                clear HWX
                by_cases hltj : j ≤ t
                · have e1 : decide ((j : Int) ≤ (T.size : Int)) = true := decide_eq_true (by have := HTS.out; omega)
                  have e1' : (j : Int) ≤ (T.size : Int) := by have := HTS.out; omega
                  obtain ⟨d, hd⟩ : ∃ d, d = j - i := ⟨_, rfl⟩
                  obtain ⟨h, hh⟩ : ∃ h, h = d / 2 := ⟨_, rfl⟩
                  obtain ⟨r, hr⟩ : ∃ r, r = d % 2 := ⟨_, rfl⟩
                  have hdi : (j : Int) - (i : Int) = (d : Int) := by omega
                  have hhi : Int.tdiv (d : Int) 2 = (h : Int) := by rw [Int.tdiv_eq_ediv_of_nonneg (by omega)]; omega
                  have hri : Int.tmod (d : Int) 2 = (r : Int) := by rw [Int.tmod_eq_emod_of_nonneg (by omega)]; omega
                  have hd12 : d ≤ 12 := by omega
                  have hh12 : h ≤ 12 := by omega
                  have hr2 : r ≤ 1 := by omega
                  obtain ⟨E, hE⟩ : ∃ E, E = decide ((j - i) % 2 = 0) := ⟨_, rfl⟩
                  obtain ⟨L, hL⟩ : ∃ L, L = decide (i < j) := ⟨_, rfl⟩
                  have rE : ((r : Int) == 0) = E := by
                    rw [hE, Bool.eq_iff_iff, beq_iff_eq, decide_eq_true_eq]; omega
                  have rL : decide ((j : Int) > (i : Int)) = L := by
                    rw [hL, Bool.eq_iff_iff, decide_eq_true_eq, decide_eq_true_eq]; omega
                  have rL' : decide ((i : Int) < (j : Int)) = L := rL
                  have H0 : Hid (Calls Tryz.prog 16 #[.pointer (some ⟨tb, 0, none⟩), .int .i64 0, .int .i64 (i : Int), .int .i64 (j : Int)] wr fun e w'' => e = .returned (.bool (E && prB b i h j)) ∧ wr = w'') := by
                    have := KH0.out i j hij hltj
                    rw [← hE, ← hd, ← hh] at this
                    exact this
                  have H1 : Hid (Calls Tryz.prog 16 #[.pointer (some ⟨tb, 0, none⟩), .int .i64 1, .int .i64 (i : Int), .int .i64 (j : Int)] wr fun e w'' => e = .returned (.bool (L && prA b i j)) ∧ wr = w'') := by
                    have := KH1.out i j hij hltj
                    rw [← hL] at this
                    exact this
                  have HLL : Hid (L = decide (i < j)) := hL
                  clear hE hL hd hh hr
                  go_upto_region 18 with fail
                  clear e1 e1' rE rL rL' hdi hhi hri hr2 hd12
                  go_wp2
                  obtain ⟨wq, hwq⟩ : ∃ wq, wq = wr := ⟨_, rfl⟩
                  subst hwq
                  go_loopw [10, 11, 12] (fun y' z' x' wr => ∃ k : Nat, i ≤ k ∧ k ≤ j ∧ x' = .int .i64 (k : Int) ∧ y' = .bool (E && prB b i h k) ∧ z' = .bool (L && prA b i k) ∧ Hid (wr = wq)) (fun _ _ x' _ => j - (intOf x').toNat)
                  case atStart => exact ⟨i, Nat.le_refl _, hij, rfl, by rw [prB_low (Nat.le_refl _), Bool.and_true], by rw [prA_low (Nat.le_refl _), Bool.and_true, HLL.out], rfl⟩
                  case round =>
                    obtain ⟨q, hq1, hq2, rfl, rfl, rfl, HWX⟩ := hrel
                    obtain rfl : wr = wq := HWX.out
                    clear HWX
                    by_cases hqj : q < j
                    · have hps := prB_next (b := b) (h := h) hq1
                      have hpa := prA_next (b := b) hq1
                      have hbq := HBT.out q (by omega)
                      have hqs : q < T.size := by have := HTS.out; omega
                      have b1 := PlainAid.bt_nonneg T q
                      have b2 := PlainAid.bt_le T q
                      have hA := PlainAid.get_bt T
                      obtain ⟨m1, hm1⟩ : ∃ m1, m1 = decide (b q = 97) := ⟨_, rfl⟩
                      obtain ⟨m2, hm2⟩ : ∃ m2, m2 = decide (q < i + h) := ⟨_, rfl⟩
                      have g2 : decide ((q : Int) < (i : Int) + (h : Int)) = m2 := by rw [hm2, Bool.eq_iff_iff, decide_eq_true_eq, decide_eq_true_eq]; omega
                      rw [← hm1] at hbq hps hpa
                      rw [← hm2] at hps
                      obtain ⟨A, hA9⟩ : ∃ A, A = (E && prB b i h q) := ⟨_, rfl⟩
                      obtain ⟨B, hB9⟩ : ∃ B, B = (L && prA b i q) := ⟨_, rfl⟩
                      have HPK : Hid ((E && prB b i h (q + 1)) = (A && (m1 == m2))) := by show _ = _; rw [hps, hA9, Bool.and_assoc]
                      have HPL : Hid ((L && prA b i (q + 1)) = (B && m1)) := by show _ = _; rw [hpa, hB9, Bool.and_assoc]
                      rw [← hA9, ← hB9]
                      have e1 : (q : Int) < (j : Int) := by omega
                      have e1' : decide ((q : Int) < (j : Int)) = true := decide_eq_true e1
                      clear hps hpa hA9 hB9 hm1 hm2
                      cases A <;> cases B <;> cases m1 <;> cases m2
                      all_goals
                        go_wp2
                        go_roundw
                        case rel => exact ⟨q + 1, by omega, by omega, by go_num, by rw [HPK.out]; rfl, by rw [HPL.out]; rfl, by trivial⟩
                        case measure => simp [intOf]; omega
                    · obtain rfl : q = j := by omega
                      obtain ⟨A, hA9⟩ : ∃ A, A = (E && prB b i h q) := ⟨_, rfl⟩
                      obtain ⟨B, hB9⟩ : ∃ B, B = (L && prA b i q) := ⟨_, rfl⟩
                      rw [← hA9] at H0 ⊢
                      rw [← hB9] at H1 ⊢
                      have bq : (!(A == A)) = false := by cases A <;> rfl
                      have bq2 : (A != A) = false := by cases A <;> rfl
                      have br : (!(B == B)) = false := by cases B <;> rfl
                      have br2 : (B != B) = false := by cases B <;> rfl
                      have n9 : ¬ ((q : Int) < (q : Int)) := by omega
                      have d9 : decide ((q : Int) < (q : Int)) = false := decide_eq_false n9
                      clear hA9 hB9
                      go_wp2_with (go_at_call 16; first | (have hh := Fl1; clear hh; refine H1.out.mono ?_; rintro e wn ⟨rfl, rfl⟩) | (refine H0.out.mono ?_; rintro e wn ⟨rfl, rfl⟩; have Fl1 : True := trivial))
                      go_roundw
                      case rel => exact ⟨q + 1, by omega, by omega, by go_num, by trivial⟩
                      case measure => simp [intOf]; omega
                · obtain rfl : j = t + 1 := by omega
                  have e1 : decide (((t + 1 : Nat) : Int) ≤ (T.size : Int)) = false := decide_eq_false (by have := HTS.out; omega)
                  have e1' : ¬ ((t + 1 : Nat) : Int) ≤ (T.size : Int) := by have := HTS.out; omega
                  go_wp2
                  go_roundw
                  case rel => exact ⟨i + 1, by omega, by go_num, by trivial⟩
                  case measure => simp [intOf]; omega
            · obtain rfl : i = t + 1 := by omega
              have e1 : decide (((t + 1 : Nat) : Int) ≤ (T.size : Int)) = false := decide_eq_false (by have := HTS.out; omega)
              have e1' : ¬ ((t + 1 : Nat) : Int) ≤ (T.size : Int) := by have := HTS.out; omega
              go_wp2
              go_ret
              exact ⟨rfl, HB7.out⟩
end Go.Proofs.YtfjejnkjlnkkhaaGreatDoor
