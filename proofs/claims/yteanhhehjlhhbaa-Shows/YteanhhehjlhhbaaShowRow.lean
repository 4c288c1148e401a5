/- What a writer writes: things in a row, by each of three closures. -/
import Derived.Test.YteanhhehjlhhbaaShowPart
namespace Go.Proofs.Yteanhhehjlhhbaa
set_option linter.unusedVariables false
open Go.ChangeShapes Go.WideShapes Go.ChangeAt Go.RowKit

set_option maxHeartbeats 4000000 in
set_option maxRecDepth 100000 in
theorem rowRules {B b : Nat} {nv : Value} (tx : Nat → List UInt8) (sep : ByteArray) (n x y : Nat) (Inv : World → Prop) (L : Nat)
    (hC : ∀ (i : Nat) (w : World) (acc : List UInt8), i < n → Inv w → Wr B b nv acc w → acc.length + (tx i).length ≤ L → Calls Try.prog 25 #[.int .i64 (i : Int), .pointer (some ⟨x, 0, none⟩), .pointer (some ⟨y, 0, none⟩)] w fun e w' => e = .returned (.tuple #[]) ∧ Wr B b nv (acc ++ tx i) w' ∧ Wk b w w')
    (hI : ∀ w w', Inv w → Wk b w w' → Inv w') {w : World} {acc : List UInt8} (h : Wr B b nv acc w) (h0 : Inv w) (hL : acc.length + (joinN sep.data.toList tx n).length ≤ L) (hL2 : L ≤ 1000000000) (hn : n ≤ 1099511627776) :
    Calls Try.prog 24 #[.pointer (some ⟨b, 0, none⟩), .int .i64 (n : Int), .string sep, .func (.func 25) #[] #[.pointer (some ⟨x, 0, none⟩), .pointer (some ⟨y, 0, none⟩)]] w fun e w' => e = .returned (.tuple #[]) ∧ Wr B b nv (acc ++ joinN sep.data.toList tx n) w' ∧ Wk b w w' := by
  have HC : Hid (∀ (i : Nat) (w : World) (acc : List UInt8), i < n → Inv w → Wr B b nv acc w → acc.length + (tx i).length ≤ L → Calls Try.prog 25 #[.int .i64 (i : Int), .pointer (some ⟨x, 0, none⟩), .pointer (some ⟨y, 0, none⟩)] w fun e w' => e = .returned (.tuple #[]) ∧ Wr B b nv (acc ++ tx i) w' ∧ Wk b w w') := hC
  have HI : Hid (∀ w w', Inv w → Wk b w w' → Inv w') := hI
  have H0 : Hid (Wr B b nv acc w ∧ Inv w) := ⟨h, h0⟩
  have HL : Hid (acc.length + (joinN sep.data.toList tx n).length ≤ L ∧ L ≤ 1000000000) := ⟨hL, hL2⟩
  clear hC hI h h0 hL hL2
  go_enter Try.func24, Try.ntmps24
  go_wp2
  go_loopw [10] (fun i wr => ∃ k : Nat, k ≤ n ∧ i = .int .i64 k ∧ Hid (Wr B b nv (acc ++ joinN sep.data.toList tx k) wr ∧ Wk b w wr ∧ Inv wr)) (fun i _ => n - (intOf i).toNat)
  case atStart => exact ⟨0, Nat.zero_le _, rfl, by show _ ∧ _ ∧ _; exact ⟨by simpa [joinN] using H0.out.1, Wk.refl _ _, H0.out.2⟩⟩
  case round =>
    obtain ⟨k, hk, rfl, KK⟩ := hrel
    by_cases hlt : k < n
    · have hm := joinN_mono sep.data.toList tx n (k + 1) (by omega)
      have hz : sep.data.toList.length = sep.size := Array.length_toList ..
      by_cases hk0 : 0 < k
      · have E : Hid (joinN sep.data.toList tx (k + 1) = joinN sep.data.toList tx k ++ sep.data.toList ++ tx k) := by show _ = _; rw [joinN, if_pos hk0]
        have L1 : Hid ((acc ++ joinN sep.data.toList tx k).length + sep.size ≤ 1099511627776) := by
          have h1 := HL.out
          show _ ≤ _
          rw [E.out] at hm
          simp only [List.length_append] at hm ⊢
          omega
        have L2 : Hid ((acc ++ joinN sep.data.toList tx k ++ sep.data.toList).length + (tx k).length ≤ L) := by
          have h1 := HL.out
          show _ ≤ _
          rw [E.out] at hm
          simp only [List.length_append] at hm ⊢
          omega
        clear hm hz
        go_wp2_with (first
          | (go_at_call 11; refine (wStr_any KK.out.1 sep L1.out).mono ?_; rintro e w1 ⟨rfl, k1, b1⟩; have K1 : Hid (Wr B b nv (acc ++ joinN sep.data.toList tx k ++ sep.data.toList) w1 ∧ Wk b w w1 ∧ Inv w1) := ⟨k1, KK.out.2.1.trans b1, HI.out _ _ KK.out.2.2 b1⟩; clear k1 b1)
          | (go_at_call 25; refine (HC.out k _ _ hlt K1.out.2.2 K1.out.1 L2.out).mono ?_; rintro e w2 ⟨rfl, k2, b2⟩; have K2 : Hid (Wr B b nv (acc ++ joinN sep.data.toList tx (k + 1)) w2 ∧ Wk b w w2 ∧ Inv w2) := (⟨(by rw [E.out]; simpa using k2), K1.out.2.1.trans b2, HI.out _ _ K1.out.2.2 b2⟩ : _ ∧ _ ∧ _); clear k2 b2))
        go_roundw
        case rel => exact ⟨k + 1, by omega, by go_num, K2⟩
        case measure => simp [intOf]; omega
      · obtain rfl : k = 0 := by omega
        have E : Hid (joinN sep.data.toList tx (0 + 1) = joinN sep.data.toList tx 0 ++ tx 0) := by show _ = _; simp [joinN]
        have L2 : Hid ((acc ++ joinN sep.data.toList tx 0).length + (tx 0).length ≤ L) := by
          have h1 := HL.out
          show _ ≤ _
          rw [E.out] at hm
          simp only [List.length_append] at hm ⊢
          omega
        have C0 : Calls Try.prog 25 #[.int .i64 0, .pointer (some ⟨x, 0, none⟩), .pointer (some ⟨y, 0, none⟩)] wr fun e w' => e = .returned (.tuple #[]) ∧ Wr B b nv (acc ++ joinN sep.data.toList tx 0 ++ tx 0) w' ∧ Wk b wr w' := HC.out 0 wr _ hlt KK.out.2.2 KK.out.1 L2.out
        clear hm hz
        go_wp2_with (go_at_call 25; refine C0.mono ?_; rintro e w2 ⟨rfl, k2, b2⟩; have K2 : Hid (Wr B b nv (acc ++ joinN sep.data.toList tx (0 + 1)) w2 ∧ Wk b w w2 ∧ Inv w2) := (⟨(by rw [E.out, ← List.append_assoc]; exact k2), KK.out.2.1.trans b2, HI.out _ _ KK.out.2.2 b2⟩ : _ ∧ _ ∧ _); clear k2 b2)
        go_roundw
        case rel => exact ⟨0 + 1, by omega, by go_num, K2⟩
        case measure => simp [intOf]; omega
    · obtain rfl : k = n := by omega
      go_wp2
      go_end0
      exact ⟨rfl, KK.out.1, KK.out.2.1⟩
set_option maxHeartbeats 4000000 in
set_option maxRecDepth 100000 in
theorem rowConjs {B b : Nat} {nv : Value} (tx : Nat → List UInt8) (sep : ByteArray) (n x y : Nat) (Inv : World → Prop) (L : Nat)
    (hC : ∀ (i : Nat) (w : World) (acc : List UInt8), i < n → Inv w → Wr B b nv acc w → acc.length + (tx i).length ≤ L → Calls Try.prog 36 #[.int .i64 (i : Int), .pointer (some ⟨x, 0, none⟩), .pointer (some ⟨y, 0, none⟩)] w fun e w' => e = .returned (.tuple #[]) ∧ Wr B b nv (acc ++ tx i) w' ∧ Wk b w w')
    (hI : ∀ w w', Inv w → Wk b w w' → Inv w') {w : World} {acc : List UInt8} (h : Wr B b nv acc w) (h0 : Inv w) (hL : acc.length + (joinN sep.data.toList tx n).length ≤ L) (hL2 : L ≤ 1000000000) (hn : n ≤ 1099511627776) :
    Calls Try.prog 24 #[.pointer (some ⟨b, 0, none⟩), .int .i64 (n : Int), .string sep, .func (.func 36) #[] #[.pointer (some ⟨x, 0, none⟩), .pointer (some ⟨y, 0, none⟩)]] w fun e w' => e = .returned (.tuple #[]) ∧ Wr B b nv (acc ++ joinN sep.data.toList tx n) w' ∧ Wk b w w' := by
  have HC : Hid (∀ (i : Nat) (w : World) (acc : List UInt8), i < n → Inv w → Wr B b nv acc w → acc.length + (tx i).length ≤ L → Calls Try.prog 36 #[.int .i64 (i : Int), .pointer (some ⟨x, 0, none⟩), .pointer (some ⟨y, 0, none⟩)] w fun e w' => e = .returned (.tuple #[]) ∧ Wr B b nv (acc ++ tx i) w' ∧ Wk b w w') := hC
  have HI : Hid (∀ w w', Inv w → Wk b w w' → Inv w') := hI
  have H0 : Hid (Wr B b nv acc w ∧ Inv w) := ⟨h, h0⟩
  have HL : Hid (acc.length + (joinN sep.data.toList tx n).length ≤ L ∧ L ≤ 1000000000) := ⟨hL, hL2⟩
  clear hC hI h h0 hL hL2
  go_enter Try.func24, Try.ntmps24
  go_wp2
  go_loopw [10] (fun i wr => ∃ k : Nat, k ≤ n ∧ i = .int .i64 k ∧ Hid (Wr B b nv (acc ++ joinN sep.data.toList tx k) wr ∧ Wk b w wr ∧ Inv wr)) (fun i _ => n - (intOf i).toNat)
  case atStart => exact ⟨0, Nat.zero_le _, rfl, by show _ ∧ _ ∧ _; exact ⟨by simpa [joinN] using H0.out.1, Wk.refl _ _, H0.out.2⟩⟩
  case round =>
    obtain ⟨k, hk, rfl, KK⟩ := hrel
    by_cases hlt : k < n
    · have hm := joinN_mono sep.data.toList tx n (k + 1) (by omega)
      have hz : sep.data.toList.length = sep.size := Array.length_toList ..
      by_cases hk0 : 0 < k
      · have E : Hid (joinN sep.data.toList tx (k + 1) = joinN sep.data.toList tx k ++ sep.data.toList ++ tx k) := by show _ = _; rw [joinN, if_pos hk0]
        have L1 : Hid ((acc ++ joinN sep.data.toList tx k).length + sep.size ≤ 1099511627776) := by
          have h1 := HL.out
          show _ ≤ _
          rw [E.out] at hm
          simp only [List.length_append] at hm ⊢
          omega
        have L2 : Hid ((acc ++ joinN sep.data.toList tx k ++ sep.data.toList).length + (tx k).length ≤ L) := by
          have h1 := HL.out
          show _ ≤ _
          rw [E.out] at hm
          simp only [List.length_append] at hm ⊢
          omega
        clear hm hz
        go_wp2_with (first
          | (go_at_call 11; refine (wStr_any KK.out.1 sep L1.out).mono ?_; rintro e w1 ⟨rfl, k1, b1⟩; have K1 : Hid (Wr B b nv (acc ++ joinN sep.data.toList tx k ++ sep.data.toList) w1 ∧ Wk b w w1 ∧ Inv w1) := ⟨k1, KK.out.2.1.trans b1, HI.out _ _ KK.out.2.2 b1⟩; clear k1 b1)
          | (go_at_call 36; refine (HC.out k _ _ hlt K1.out.2.2 K1.out.1 L2.out).mono ?_; rintro e w2 ⟨rfl, k2, b2⟩; have K2 : Hid (Wr B b nv (acc ++ joinN sep.data.toList tx (k + 1)) w2 ∧ Wk b w w2 ∧ Inv w2) := (⟨(by rw [E.out]; simpa using k2), K1.out.2.1.trans b2, HI.out _ _ K1.out.2.2 b2⟩ : _ ∧ _ ∧ _); clear k2 b2))
        go_roundw
        case rel => exact ⟨k + 1, by omega, by go_num, K2⟩
        case measure => simp [intOf]; omega
      · obtain rfl : k = 0 := by omega
        have E : Hid (joinN sep.data.toList tx (0 + 1) = joinN sep.data.toList tx 0 ++ tx 0) := by show _ = _; simp [joinN]
        have L2 : Hid ((acc ++ joinN sep.data.toList tx 0).length + (tx 0).length ≤ L) := by
          have h1 := HL.out
          show _ ≤ _
          rw [E.out] at hm
          simp only [List.length_append] at hm ⊢
          omega
        have C0 : Calls Try.prog 36 #[.int .i64 0, .pointer (some ⟨x, 0, none⟩), .pointer (some ⟨y, 0, none⟩)] wr fun e w' => e = .returned (.tuple #[]) ∧ Wr B b nv (acc ++ joinN sep.data.toList tx 0 ++ tx 0) w' ∧ Wk b wr w' := HC.out 0 wr _ hlt KK.out.2.2 KK.out.1 L2.out
        clear hm hz
        go_wp2_with (go_at_call 36; refine C0.mono ?_; rintro e w2 ⟨rfl, k2, b2⟩; have K2 : Hid (Wr B b nv (acc ++ joinN sep.data.toList tx (0 + 1)) w2 ∧ Wk b w w2 ∧ Inv w2) := (⟨(by rw [E.out, ← List.append_assoc]; exact k2), KK.out.2.1.trans b2, HI.out _ _ KK.out.2.2 b2⟩ : _ ∧ _ ∧ _); clear k2 b2)
        go_roundw
        case rel => exact ⟨0 + 1, by omega, by go_num, K2⟩
        case measure => simp [intOf]; omega
    · obtain rfl : k = n := by omega
      go_wp2
      go_end0
      exact ⟨rfl, KK.out.1, KK.out.2.1⟩
set_option maxHeartbeats 4000000 in
set_option maxRecDepth 100000 in
theorem rowParts {B b : Nat} {nv : Value} (tx : Nat → List UInt8) (sep : ByteArray) (n x y : Nat) (Inv : World → Prop) (L : Nat)
    (hC : ∀ (i : Nat) (w : World) (acc : List UInt8), i < n → Inv w → Wr B b nv acc w → acc.length + (tx i).length ≤ L → Calls Try.prog 46 #[.int .i64 (i : Int), .pointer (some ⟨x, 0, none⟩), .pointer (some ⟨y, 0, none⟩)] w fun e w' => e = .returned (.tuple #[]) ∧ Wr B b nv (acc ++ tx i) w' ∧ Wk b w w')
    (hI : ∀ w w', Inv w → Wk b w w' → Inv w') {w : World} {acc : List UInt8} (h : Wr B b nv acc w) (h0 : Inv w) (hL : acc.length + (joinN sep.data.toList tx n).length ≤ L) (hL2 : L ≤ 1000000000) (hn : n ≤ 1099511627776) :
    Calls Try.prog 24 #[.pointer (some ⟨b, 0, none⟩), .int .i64 (n : Int), .string sep, .func (.func 46) #[] #[.pointer (some ⟨x, 0, none⟩), .pointer (some ⟨y, 0, none⟩)]] w fun e w' => e = .returned (.tuple #[]) ∧ Wr B b nv (acc ++ joinN sep.data.toList tx n) w' ∧ Wk b w w' := by
  have HC : Hid (∀ (i : Nat) (w : World) (acc : List UInt8), i < n → Inv w → Wr B b nv acc w → acc.length + (tx i).length ≤ L → Calls Try.prog 46 #[.int .i64 (i : Int), .pointer (some ⟨x, 0, none⟩), .pointer (some ⟨y, 0, none⟩)] w fun e w' => e = .returned (.tuple #[]) ∧ Wr B b nv (acc ++ tx i) w' ∧ Wk b w w') := hC
  have HI : Hid (∀ w w', Inv w → Wk b w w' → Inv w') := hI
  have H0 : Hid (Wr B b nv acc w ∧ Inv w) := ⟨h, h0⟩
  have HL : Hid (acc.length + (joinN sep.data.toList tx n).length ≤ L ∧ L ≤ 1000000000) := ⟨hL, hL2⟩
  clear hC hI h h0 hL hL2
  go_enter Try.func24, Try.ntmps24
  go_wp2
  go_loopw [10] (fun i wr => ∃ k : Nat, k ≤ n ∧ i = .int .i64 k ∧ Hid (Wr B b nv (acc ++ joinN sep.data.toList tx k) wr ∧ Wk b w wr ∧ Inv wr)) (fun i _ => n - (intOf i).toNat)
  case atStart => exact ⟨0, Nat.zero_le _, rfl, by show _ ∧ _ ∧ _; exact ⟨by simpa [joinN] using H0.out.1, Wk.refl _ _, H0.out.2⟩⟩
  case round =>
    obtain ⟨k, hk, rfl, KK⟩ := hrel
    by_cases hlt : k < n
    · have hm := joinN_mono sep.data.toList tx n (k + 1) (by omega)
      have hz : sep.data.toList.length = sep.size := Array.length_toList ..
      by_cases hk0 : 0 < k
      · have E : Hid (joinN sep.data.toList tx (k + 1) = joinN sep.data.toList tx k ++ sep.data.toList ++ tx k) := by show _ = _; rw [joinN, if_pos hk0]
        have L1 : Hid ((acc ++ joinN sep.data.toList tx k).length + sep.size ≤ 1099511627776) := by
          have h1 := HL.out
          show _ ≤ _
          rw [E.out] at hm
          simp only [List.length_append] at hm ⊢
          omega
        have L2 : Hid ((acc ++ joinN sep.data.toList tx k ++ sep.data.toList).length + (tx k).length ≤ L) := by
          have h1 := HL.out
          show _ ≤ _
          rw [E.out] at hm
          simp only [List.length_append] at hm ⊢
          omega
        clear hm hz
        go_wp2_with (first
          | (go_at_call 11; refine (wStr_any KK.out.1 sep L1.out).mono ?_; rintro e w1 ⟨rfl, k1, b1⟩; have K1 : Hid (Wr B b nv (acc ++ joinN sep.data.toList tx k ++ sep.data.toList) w1 ∧ Wk b w w1 ∧ Inv w1) := ⟨k1, KK.out.2.1.trans b1, HI.out _ _ KK.out.2.2 b1⟩; clear k1 b1)
          | (go_at_call 46; refine (HC.out k _ _ hlt K1.out.2.2 K1.out.1 L2.out).mono ?_; rintro e w2 ⟨rfl, k2, b2⟩; have K2 : Hid (Wr B b nv (acc ++ joinN sep.data.toList tx (k + 1)) w2 ∧ Wk b w w2 ∧ Inv w2) := (⟨(by rw [E.out]; simpa using k2), K1.out.2.1.trans b2, HI.out _ _ K1.out.2.2 b2⟩ : _ ∧ _ ∧ _); clear k2 b2))
        go_roundw
        case rel => exact ⟨k + 1, by omega, by go_num, K2⟩
        case measure => simp [intOf]; omega
      · obtain rfl : k = 0 := by omega
        have E : Hid (joinN sep.data.toList tx (0 + 1) = joinN sep.data.toList tx 0 ++ tx 0) := by show _ = _; simp [joinN]
        have L2 : Hid ((acc ++ joinN sep.data.toList tx 0).length + (tx 0).length ≤ L) := by
          have h1 := HL.out
          show _ ≤ _
          rw [E.out] at hm
          simp only [List.length_append] at hm ⊢
          omega
        have C0 : Calls Try.prog 46 #[.int .i64 0, .pointer (some ⟨x, 0, none⟩), .pointer (some ⟨y, 0, none⟩)] wr fun e w' => e = .returned (.tuple #[]) ∧ Wr B b nv (acc ++ joinN sep.data.toList tx 0 ++ tx 0) w' ∧ Wk b wr w' := HC.out 0 wr _ hlt KK.out.2.2 KK.out.1 L2.out
        clear hm hz
        go_wp2_with (go_at_call 46; refine C0.mono ?_; rintro e w2 ⟨rfl, k2, b2⟩; have K2 : Hid (Wr B b nv (acc ++ joinN sep.data.toList tx (0 + 1)) w2 ∧ Wk b w w2 ∧ Inv w2) := (⟨(by rw [E.out, ← List.append_assoc]; exact k2), KK.out.2.1.trans b2, HI.out _ _ KK.out.2.2 b2⟩ : _ ∧ _ ∧ _); clear k2 b2)
        go_roundw
        case rel => exact ⟨0 + 1, by omega, by go_num, K2⟩
        case measure => simp [intOf]; omega
    · obtain rfl : k = n := by omega
      go_wp2
      go_end0
      exact ⟨rfl, KK.out.1, KK.out.2.1⟩
end Go.Proofs.Yteanhhehjlhhbaa
