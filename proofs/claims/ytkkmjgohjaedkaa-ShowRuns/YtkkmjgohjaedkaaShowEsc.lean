/- What a writer writes: a byte within quotes, some bytes between quotes. -/
import Derived.Test.YtkkmjgohjaedkaaShowBld
import Derived.Deep.RegionHeld3
namespace Go.Proofs.Ytkkmjgohjaedkaa
set_option linter.unusedVariables false
open Go.ChangeShapes Go.WideShapes Go.ChangeAt Go.RowKit

theorem hexA (k : Nat) (h : k < (⟨#[48, 49, 50, 51, 52, 53, 54, 55, 56, 57, 97, 98, 99, 100, 101, 102]⟩ : ByteArray).size) (n : Nat) (hk : k = n) : ((((⟨#[48, 49, 50, 51, 52, 53, 54, 55, 56, 57, 97, 98, 99, 100, 101, 102]⟩ : ByteArray)[k]'h).toNat : Nat) : Int) = ((hexT n).toNat : Int) := by
  subst hk
  have key : ∀ k : Fin 16, (((⟨#[48, 49, 50, 51, 52, 53, 54, 55, 56, 57, 97, 98, 99, 100, 101, 102]⟩ : ByteArray)[k.val]'k.isLt).toNat) = (hexT k.val).toNat := by decide
  exact congrArg Int.ofNat (key ⟨k, h⟩)
theorem and15 (c : UInt8) : bits .and .u8 (c.toNat : Int) 15 = ((c.toNat % 16 : Nat) : Int) := by
  have key : ∀ c : Fin 256, bits .and .u8 (c.val : Int) 15 = ((c.val % 16 : Nat) : Int) := by decide +kernel
  exact key ⟨c.toNat, c.toNat_lt⟩
theorem Wr.drew {B b : Nat} {nv : Value} {acc : List UInt8} {w : World} (h : Wr B b nv acc w) : Wr B b nv acc w.drew := h.keep (Below.refl _ _).drew
theorem Wk.drew {b : Nat} {w w' : World} (h : Wk b w w') : Wk b w w'.drew := ⟨h.os, h.tape, h.output, h.size, h.block, h.buf⟩
set_option maxHeartbeats 2000000 in
set_option maxRecDepth 100000 in
theorem esc_any {B b : Nat} {nv : Value} {acc : List UInt8} {w : World} (h : Wr B b nv acc w) (q c : UInt8) (hs : acc.length + 4 ≤ 1099511627776) :
    Calls Try.prog 162 #[.pointer (some ⟨b, 0, none⟩), .int .u8 (c.toNat : Int), .int .u8 (q.toNat : Int)] w fun e w' => e = .returned (.tuple #[]) ∧ Wr B b nv (acc ++ escT q c) w' ∧ Wk b w w' := by
  have hc := c.toNat_lt
  by_cases h1 : c.toNat < 32 ∨ 126 < c.toNat
  · have E : escT q c = [92, 120] ++ [hexT (c.toNat / 16)] ++ [hexT (c.toNat % 16)] := by unfold escT; rw [if_pos h1]; rfl
    rw [E]
    have hk1 : ((c.toNat : Int) / 16).toNat = c.toNat / 16 := by omega
    have hk2 : (((c.toNat % 16 : Nat) : Int)).toNat = c.toNat % 16 := by omega
    have e15 := and15 c
    have hm : c.toNat % 16 < 16 := by omega
    generalize hmd : c.toNat % 16 = md at *
    have L1 : acc.length + (⟨#[92, 120]⟩ : ByteArray).size ≤ 1099511627776 := by show acc.length + 2 ≤ _; omega
    have L2 : (acc ++ (⟨#[92, 120]⟩ : ByteArray).data.toList).length + 1 ≤ 1099511627776 := by simp; omega
    have L3 : ((acc ++ (⟨#[92, 120]⟩ : ByteArray).data.toList) ++ [hexT (c.toNat / 16)]).length + 1 ≤ 1099511627776 := by simp; omega
    have HH : Hid (((c.toNat : Int) / 16).toNat = c.toNat / 16 ∧ ((md : Nat) : Int).toNat = md) := ⟨hk1, hk2⟩
    have HL : Hid (acc.length + (⟨#[92, 120]⟩ : ByteArray).size ≤ 1099511627776 ∧ (acc ++ (⟨#[92, 120]⟩ : ByteArray).data.toList).length + 1 ≤ 1099511627776 ∧ ((acc ++ (⟨#[92, 120]⟩ : ByteArray).data.toList) ++ [hexT (c.toNat / 16)]).length + 1 ≤ 1099511627776) := ⟨L1, L2, L3⟩
    clear hk1 hk2 L1 L2 L3 E hmd
    by_cases h2 : c.toNat < 32
    all_goals
      go_enter Try.func162, Try.ntmps162
      go_wp2_with (go_at_call 86; refine (wStr_any h _ HL.out.1).mono ?_; rintro e w1 ⟨rfl, k1, b1⟩; have K1 : Hid (Wr B b nv (acc ++ (⟨#[92, 120]⟩ : ByteArray).data.toList) w1 ∧ Wk b w w1) := ⟨k1, b1⟩; clear k1 b1)
      go_region_with (go_at_call 155; refine (wByte_any K1.out.1.drew (hexT (c.toNat / 16)) _ (hexA _ _ _ HH.out.1) HL.out.2.1).mono ?_; rintro e w2 ⟨rfl, k2, b2⟩)
      have K2 : Hid (Wr B b nv ((acc ++ (⟨#[92, 120]⟩ : ByteArray).data.toList) ++ [hexT (c.toNat / 16)]) w2 ∧ Wk b w w2) := ⟨k2, K1.out.2.drew.trans b2⟩
      clear k2 b2
      go_wp2
      go_region_with (go_at_call 155; refine (wByte_any K2.out.1.drew (hexT md) _ (hexA _ _ _ HH.out.2) HL.out.2.2).mono ?_; rintro e w3 ⟨rfl, k3, b3⟩)
      go_wp2
      go_end0
      exact ⟨rfl, by simpa using k3, K2.out.2.drew.trans b3⟩
  · have hlo : ¬ c.toNat < 32 := fun e => h1 (Or.inl e)
    have hhi : ¬ 126 < c.toNat := fun e => h1 (Or.inr e)
    by_cases h2 : c = q ∨ c = 92
    · have E : escT q c = [92] ++ [c] := by unfold escT; rw [if_neg h1, if_pos h2]; rfl
      rw [E]
      have L1 : acc.length + 1 ≤ 1099511627776 := by omega
      have L2 : (acc ++ [92]).length + 1 ≤ 1099511627776 := by simp; omega
      by_cases h3 : c = q
      · subst h3
        have e1 : ((c.toNat : Int) == (c.toNat : Int)) = true := by simp
        go_enter Try.func162, Try.ntmps162
        go_wp2_with (go_at_call 155; first | (have hh := K1; clear hh; refine (wByte_any K1.out.1 c _ rfl L2).mono ?_; rintro e w2 ⟨rfl, k2, b2⟩) | (refine (wByte_any h 92 92 rfl L1).mono ?_; rintro e w1 ⟨rfl, k1, b1⟩; have K1 : Hid (Wr B b nv (acc ++ [92]) w1 ∧ Wk b w w1) := ⟨k1, b1⟩; clear k1 b1))
        go_end0
        exact ⟨rfl, by simpa using k2, K1.out.2.trans b2⟩
      · obtain rfl : c = 92 := h2.resolve_left h3
        have e1 : (((92 : UInt8).toNat : Int) == (q.toNat : Int)) = false := by
          rw [beq_eq_false_iff_ne]; intro e; exact h3 (UInt8.toNat_inj.1 (by omega))
        have e1' : ((92 : Int) == (q.toNat : Int)) = false := e1
        show Calls Try.prog _ #[_, .int .u8 92, _] w _
        go_enter Try.func162, Try.ntmps162
        go_wp2_with (go_at_call 155; first | (have hh := K1; clear hh; refine (wByte_any K1.out.1 92 92 rfl L2).mono ?_; rintro e w2 ⟨rfl, k2, b2⟩) | (refine (wByte_any h 92 92 rfl L1).mono ?_; rintro e w1 ⟨rfl, k1, b1⟩; have K1 : Hid (Wr B b nv (acc ++ [92]) w1 ∧ Wk b w w1) := ⟨k1, b1⟩; clear k1 b1))
        go_end0
        exact ⟨rfl, by simpa using k2, K1.out.2.trans b2⟩
    · have E : escT q c = [c] := by unfold escT; rw [if_neg h1, if_neg h2]
      rw [E]
      have L1 : acc.length + 1 ≤ 1099511627776 := by omega
      have e1 : ((c.toNat : Int) == (q.toNat : Int)) = false := by
        rw [beq_eq_false_iff_ne]; intro e; exact h2 (Or.inl (UInt8.toNat_inj.1 (by omega)))
      have e2 : ((c.toNat : Int) == 92) = false := by
        rw [beq_eq_false_iff_ne]; intro e; exact h2 (Or.inr (UInt8.toNat_inj.1 (by show c.toNat = 92; omega)))
      go_enter Try.func162, Try.ntmps162
      go_wp2_with (go_at_call 155; refine (wByte_any h c _ rfl L1).mono ?_; rintro e w1 ⟨rfl, k1, b1⟩)
      go_end0
      exact ⟨rfl, k1, b1⟩
end Go.Proofs.Ytkkmjgohjaedkaa
