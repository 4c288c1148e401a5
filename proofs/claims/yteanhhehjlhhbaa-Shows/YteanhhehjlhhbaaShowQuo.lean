import Derived.Test.YteanhhehjlhhbaaShowBld
import Derived.Deep.RegionHeld3
/- What a writer writes: a byte within quotes, some bytes between quotes. -/
namespace Go.Proofs.Yteanhhehjlhhbaa
set_option linter.unusedVariables false
open Go.ChangeShapes Go.WideShapes Go.ChangeAt Go.RowKit

theorem hexA (k : Nat) (h : k < (⟨#[48, 49, 50, 51, 52, 53, 54, 55, 56, 57, 97, 98, 99, 100, 101, 102]⟩ : ByteArray).size) (n : Nat) (hk : k = n) : ((((⟨#[48, 49, 50, 51, 52, 53, 54, 55, 56, 57, 97, 98, 99, 100, 101, 102]⟩ : ByteArray)[k]'h).toNat : Nat) : Int) = ((hexT n).toNat : Int) := by
  subst hk
  have key : ∀ k : Fin 16, (((⟨#[48, 49, 50, 51, 52, 53, 54, 55, 56, 57, 97, 98, 99, 100, 101, 102]⟩ : ByteArray)[k.val]'k.isLt).toNat) = (hexT k.val).toNat := by decide
  exact congrArg Int.ofNat (key ⟨k, h⟩)
theorem and15 (c : UInt8) : bits .and .u8 (c.toNat : Int) 15 = ((c.toNat % 16 : Nat) : Int) := by
  have key : ∀ c : Fin 256, bits .and .u8 (c.val : Int) 15 = ((c.val % 16 : Nat) : Int) := by decide +kernel
  exact key ⟨c.toNat, c.toNat_lt⟩
theorem Wr.drew {B b : Nat} {nv : Value} {acc : List UInt8} {w : World} (h : Wr B b nv acc w) : Wr B b nv acc w.drew := h.keep (Below.refl _ _).drew
theorem Wk.drew {b : Nat} {w w' : World} (h : Wk b w w') : Wk b w w'.drew := ⟨h.os, h.tape, h.output, h.size, h.block, h.buf⟩
set_option maxHeartbeats 2000000 in
set_option maxRecDepth 100000 in
theorem esc_any {B b : Nat} {nv : Value} {acc : List UInt8} {w : World} (h : Wr B b nv acc w) (q c : UInt8) (hs : acc.length + 4 ≤ 1099511627776) :
    Calls Try.prog 58 #[.pointer (some ⟨b, 0, none⟩), .int .u8 (c.toNat : Int), .int .u8 (q.toNat : Int)] w fun e w' => e = .returned (.tuple #[]) ∧ Wr B b nv (acc ++ escT q c) w' ∧ Wk b w w' := by
  have hc := c.toNat_lt
  by_cases h1 : c.toNat < 32 ∨ 126 < c.toNat
  · have E : escT q c = [92, 120] ++ [hexT (c.toNat / 16)] ++ [hexT (c.toNat % 16)] := by unfold escT; rw [if_pos h1]; rfl
    rw [E]
    have hk1 : ((c.toNat : Int) / 16).toNat = c.toNat / 16 := by omega
    have hk2 : (((c.toNat % 16 : Nat) : Int)).toNat = c.toNat % 16 := by omega
    have e15 := and15 c
    have hm : c.toNat % 16 < 16 := by omega
    generalize hmd : c.toNat % 16 = md at *
    have L1 : acc.length + (⟨#[92, 120]⟩ : ByteArray).size ≤ 1099511627776 := by show acc.length + 2 ≤ _; omega
    have L2 : (acc ++ (⟨#[92, 120]⟩ : ByteArray).data.toList).length + 1 ≤ 1099511627776 := by simp; omega
    have L3 : ((acc ++ (⟨#[92, 120]⟩ : ByteArray).data.toList) ++ [hexT (c.toNat / 16)]).length + 1 ≤ 1099511627776 := by simp; omega
    have HH : Hid (((c.toNat : Int) / 16).toNat = c.toNat / 16 ∧ ((md : Nat) : Int).toNat = md) := ⟨hk1, hk2⟩
    have HL : Hid (acc.length + (⟨#[92, 120]⟩ : ByteArray).size ≤ 1099511627776 ∧ (acc ++ (⟨#[92, 120]⟩ : ByteArray).data.toList).length + 1 ≤ 1099511627776 ∧ ((acc ++ (⟨#[92, 120]⟩ : ByteArray).data.toList) ++ [hexT (c.toNat / 16)]).length + 1 ≤ 1099511627776) := ⟨L1, L2, L3⟩
    clear hk1 hk2 L1 L2 L3 E hmd
    by_cases h2 : c.toNat < 32
    all_goals
      go_enter Try.func58, Try.ntmps58
      go_wp2_with (go_at_call 11; refine (wStr_any h _ HL.out.1).mono ?_; rintro e w1 ⟨rfl, k1, b1⟩; have K1 : Hid (Wr B b nv (acc ++ (⟨#[92, 120]⟩ : ByteArray).data.toList) w1 ∧ Wk b w w1) := ⟨k1, b1⟩; clear k1 b1)
      go_region_with (go_at_call 44; refine (wByte_any K1.out.1.drew (hexT (c.toNat / 16)) _ (hexA _ _ _ HH.out.1) HL.out.2.1).mono ?_; rintro e w2 ⟨rfl, k2, b2⟩)
      have K2 : Hid (Wr B b nv ((acc ++ (⟨#[92, 120]⟩ : ByteArray).data.toList) ++ [hexT (c.toNat / 16)]) w2 ∧ Wk b w w2) := ⟨k2, K1.out.2.drew.trans b2⟩
      clear k2 b2
      go_wp2
      go_region_with (go_at_call 44; refine (wByte_any K2.out.1.drew (hexT md) _ (hexA _ _ _ HH.out.2) HL.out.2.2).mono ?_; rintro e w3 ⟨rfl, k3, b3⟩)
      go_wp2
      go_end0
      exact ⟨rfl, by simpa using k3, K2.out.2.drew.trans b3⟩
  · have hlo : ¬ c.toNat < 32 := fun e => h1 (Or.inl e)
    have hhi : ¬ 126 < c.toNat := fun e => h1 (Or.inr e)
    by_cases h2 : c = q ∨ c = 92
    · have E : escT q c = [92] ++ [c] := by unfold escT; rw [if_neg h1, if_pos h2]; rfl
      rw [E]
      have L1 : acc.length + 1 ≤ 1099511627776 := by omega
      have L2 : (acc ++ [92]).length + 1 ≤ 1099511627776 := by simp; omega
      by_cases h3 : c = q
      · subst h3
        have e1 : ((c.toNat : Int) == (c.toNat : Int)) = true := by simp
        go_enter Try.func58, Try.ntmps58
        go_wp2_with (go_at_call 44; first | (have hh := K1; clear hh; refine (wByte_any K1.out.1 c _ rfl L2).mono ?_; rintro e w2 ⟨rfl, k2, b2⟩) | (refine (wByte_any h 92 92 rfl L1).mono ?_; rintro e w1 ⟨rfl, k1, b1⟩; have K1 : Hid (Wr B b nv (acc ++ [92]) w1 ∧ Wk b w w1) := ⟨k1, b1⟩; clear k1 b1))
        go_end0
        exact ⟨rfl, by simpa using k2, K1.out.2.trans b2⟩
      · obtain rfl : c = 92 := h2.resolve_left h3
        have e1 : (((92 : UInt8).toNat : Int) == (q.toNat : Int)) = false := by
          rw [beq_eq_false_iff_ne]; intro e; exact h3 (UInt8.toNat_inj.1 (by omega))
        have e1' : ((92 : Int) == (q.toNat : Int)) = false := e1
        show Calls Try.prog _ #[_, .int .u8 92, _] w _
        go_enter Try.func58, Try.ntmps58
        go_wp2_with (go_at_call 44; first | (have hh := K1; clear hh; refine (wByte_any K1.out.1 92 92 rfl L2).mono ?_; rintro e w2 ⟨rfl, k2, b2⟩) | (refine (wByte_any h 92 92 rfl L1).mono ?_; rintro e w1 ⟨rfl, k1, b1⟩; have K1 : Hid (Wr B b nv (acc ++ [92]) w1 ∧ Wk b w w1) := ⟨k1, b1⟩; clear k1 b1))
        go_end0
        exact ⟨rfl, by simpa using k2, K1.out.2.trans b2⟩
    · have E : escT q c = [c] := by unfold escT; rw [if_neg h1, if_neg h2]
      rw [E]
      have L1 : acc.length + 1 ≤ 1099511627776 := by omega
      have e1 : ((c.toNat : Int) == (q.toNat : Int)) = false := by
        rw [beq_eq_false_iff_ne]; intro e; exact h2 (Or.inl (UInt8.toNat_inj.1 (by omega)))
      have e2 : ((c.toNat : Int) == 92) = false := by
        rw [beq_eq_false_iff_ne]; intro e; exact h2 (Or.inr (UInt8.toNat_inj.1 (by show c.toNat = 92; omega)))
      go_enter Try.func58, Try.ntmps58
      go_wp2_with (go_at_call 44; refine (wByte_any h c _ rfl L1).mono ?_; rintro e w1 ⟨rfl, k1, b1⟩)
      go_end0
      exact ⟨rfl, k1, b1⟩
end Go.Proofs.Yteanhhehjlhhbaa
/- What a writer writes: some bytes between quotes; things in a row. -/
namespace Go.Proofs.Yteanhhehjlhhbaa
set_option linter.unusedVariables false
open Go.ChangeShapes Go.WideShapes Go.ChangeAt Go.RowKit

theorem byteCells_at {l : List UInt8} {k : Nat} {c : UInt8} (h : l[k]? = some c) : (Lib.byteCells l)[k]? = some (.int .u8 (c.toNat : Int)) := by simp [Lib.byteCells, h]
theorem flat_take {q : UInt8} {l : List UInt8} {k : Nat} {c : UInt8} (h : l[k]? = some c) : (l.take (k + 1)).flatMap (escT q) = (l.take k).flatMap (escT q) ++ escT q c := by
  rw [List.take_add_one, h]; simp
theorem flat_take_len (q : UInt8) (l : List UInt8) (k : Nat) : ((l.take k).flatMap (escT q)).length ≤ l.length * 4 := by
  have := flat_len (escT q) 4 (escT_len q) (l.take k)
  rw [List.length_take] at this
  have : min k l.length * 4 ≤ l.length * 4 := Nat.mul_le_mul_right _ (Nat.min_le_right _ _)
  omega
set_option maxHeartbeats 2000000 in
set_option maxRecDepth 100000 in
theorem quo_any {B b : Nat} {nv : Value} {acc : List UInt8} {w : World} (h : Wr B b nv acc w) (q : UInt8) (v : Value) (l : List UInt8) {F : Nat → Prop} (hr : Reads w F v l.length (Lib.byteCells l)) (ho : Off b F w) (hs : acc.length + l.length * 4 + 8 ≤ 1099511627776) :
    Calls Try.prog 51 #[.pointer (some ⟨b, 0, none⟩), .int .u8 (q.toNat : Int), v] w fun e w' => e = .returned (.tuple #[]) ∧ Wr B b nv (acc ++ quoT q l) w' ∧ Wk b w w' := by
  obtain ⟨p, cp, rfl, hm, hca⟩ := hr
  replace hm := hm.1
  unfold maxLen at hm
  have HA : Hid (0 < l.length → ∃ g o, p = some ⟨g, o, none⟩ ∧ F g ∧ g < w.heap.size ∧ (∀ j c, (Lib.byteCells l)[j]? = some c → w.cell? ⟨g, o + j, none⟩ = some c) ∧ ∀ j, j < (Lib.byteCells l).length → w.frozen? ⟨g, o + j, none⟩ = false) := hca
  clear hca
  have L1 : acc.length + 1 ≤ 1099511627776 := by omega
  have HO : Hid (Off b F w) := ho
  clear ho
  go_enter Try.func51, Try.ntmps51
  go_wp2_with (go_at_call 44; refine (wByte_any h q _ rfl L1).mono ?_; rintro e w1 ⟨rfl, k1, b1⟩; have K1 : Hid (Wr B b nv (acc ++ [q]) w1 ∧ Wk b w w1) := ⟨k1, b1⟩; clear k1 b1)
  go_loopw [15] (fun i wr => ∃ k : Nat, k ≤ l.length ∧ i = .int .i64 k ∧ Hid (Wr B b nv (acc ++ [q] ++ (l.take k).flatMap (escT q)) wr ∧ Wk b w wr)) (fun i _ => l.length - (intOf i).toNat)
  case atStart => exact ⟨0, Nat.zero_le _, rfl, by have := K1.out; show _ ∧ _; simpa using this⟩
  case round =>
    obtain ⟨k, hk, rfl, KK⟩ := hrel
    by_cases hlt : k < l.length
    · obtain ⟨c, hc⟩ : ∃ c, l[k]? = some c := ⟨_, List.getElem?_eq_getElem hlt⟩
      obtain ⟨g1, o1, hp, hF, hg1, ca, -⟩ := HA.out (by omega)
      subst hp
      have hst := HO.out.stay KK.out.2
      have a0 := (World.cell?_of_block (a := ⟨g1, _, none⟩) (hst.blk g1 hF)).trans (ca _ _ (byteCells_at hc))
      have HT : Hid ((l.take (k + 1)).flatMap (escT q) = (l.take k).flatMap (escT q) ++ escT q c) := flat_take hc
      have L2 : (acc ++ [q] ++ (l.take k).flatMap (escT q)).length + 4 ≤ 1099511627776 := by
        have := flat_take_len q l k
        simp only [List.length_append, List.length_cons, List.length_nil]; omega
      have HL : Hid ((acc ++ [q] ++ (l.take k).flatMap (escT q)).length + 4 ≤ 1099511627776) := L2
      clear ca hc hg1 hst hF L2
      go_wp2_with (go_at_call 58; refine (esc_any KK.out.1 q c HL.out).mono ?_; rintro e w2 ⟨rfl, k2, b2⟩)
      have K2 : Hid (Wr B b nv (acc ++ [q] ++ (l.take (k + 1)).flatMap (escT q)) w2 ∧ Wk b w w2) := by
        refine ⟨?_, KK.out.2.trans b2⟩
        rw [HT.out, ← List.append_assoc]; exact k2
      clear k2 b2
      go_roundw
      case rel => exact ⟨k + 1, by omega, by go_num, K2⟩
      case measure => simp [intOf]; omega
    · obtain rfl : k = l.length := by omega
      have K3 := KK.out
      rw [List.take_length] at K3
      have K4 : Hid (Wr B b nv (acc ++ [q] ++ l.flatMap (escT q)) wr ∧ Wk b w wr) := K3
      have L3 : Hid ((acc ++ [q] ++ l.flatMap (escT q)).length + 1 ≤ 1099511627776) := by
        have := flat_len (escT q) 4 (escT_len q) l
        show _ ≤ _
        simp only [List.length_append, List.length_cons, List.length_nil]; omega
      clear K3
      go_wp2_with (go_at_call 44; refine (wByte_any K4.out.1 q _ rfl L3.out).mono ?_; rintro e w2 ⟨rfl, k2, b2⟩)
      go_end0
      exact ⟨rfl, by simpa [quoT] using k2, K4.out.2.trans b2⟩
end Go.Proofs.Yteanhhehjlhhbaa
