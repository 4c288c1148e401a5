/- What a writer writes: some bytes between quotes; things in a row. -/
import Derived.Test.YtkkmjgohjaedkaaShowEsc
namespace Go.Proofs.Ytkkmjgohjaedkaa
set_option linter.unusedVariables false
open Go.ChangeShapes Go.WideShapes Go.ChangeAt Go.RowKit

theorem byteCells_at {l : List UInt8} {k : Nat} {c : UInt8} (h : l[k]? = some c) : (Lib.byteCells l)[k]? = some (.int .u8 (c.toNat : Int)) := by simp [Lib.byteCells, h]
theorem flat_take {q : UInt8} {l : List UInt8} {k : Nat} {c : UInt8} (h : l[k]? = some c) : (l.take (k + 1)).flatMap (escT q) = (l.take k).flatMap (escT q) ++ escT q c := by
  rw [List.take_add_one, h]; simp
theorem flat_take_len (q : UInt8) (l : List UInt8) (k : Nat) : ((l.take k).flatMap (escT q)).length ≤ l.length * 4 := by
  have := flat_len (escT q) 4 (escT_len q) (l.take k)
  rw [List.length_take] at this
  have : min k l.length * 4 ≤ l.length * 4 := Nat.mul_le_mul_right _ (Nat.min_le_right _ _)
  omega
set_option maxHeartbeats 2000000 in
set_option maxRecDepth 100000 in
theorem quo_any {B b : Nat} {nv : Value} {acc : List UInt8} {w : World} (h : Wr B b nv acc w) (q : UInt8) (v : Value) (l : List UInt8) {F : Nat → Prop} (hr : Reads w F v l.length (Lib.byteCells l)) (ho : Off b F w) (hs : acc.length + l.length * 4 + 8 ≤ 1099511627776) :
    Calls Try.prog 161 #[.pointer (some ⟨b, 0, none⟩), .int .u8 (q.toNat : Int), v] w fun e w' => e = .returned (.tuple #[]) ∧ Wr B b nv (acc ++ quoT q l) w' ∧ Wk b w w' := by
  obtain ⟨p, cp, rfl, hm, hca⟩ := hr
  replace hm := hm.1
  unfold maxLen at hm
  have HA : Hid (0 < l.length → ∃ g o, p = some ⟨g, o, none⟩ ∧ F g ∧ g < w.heap.size ∧ (∀ j c, (Lib.byteCells l)[j]? = some c → w.cell? ⟨g, o + j, none⟩ = some c) ∧ ∀ j, j < (Lib.byteCells l).length → w.frozen? ⟨g, o + j, none⟩ = false) := hca
  clear hca
  have L1 : acc.length + 1 ≤ 1099511627776 := by omega
  have HO : Hid (Off b F w) := ho
  clear ho
  go_enter Try.func161, Try.ntmps161
  go_wp2_with (go_at_call 155; refine (wByte_any h q _ rfl L1).mono ?_; rintro e w1 ⟨rfl, k1, b1⟩; have K1 : Hid (Wr B b nv (acc ++ [q]) w1 ∧ Wk b w w1) := ⟨k1, b1⟩; clear k1 b1)
  go_loopw [15] (fun i wr => ∃ k : Nat, k ≤ l.length ∧ i = .int .i64 k ∧ Hid (Wr B b nv (acc ++ [q] ++ (l.take k).flatMap (escT q)) wr ∧ Wk b w wr)) (fun i _ => l.length - (intOf i).toNat)
  case atStart => exact ⟨0, Nat.zero_le _, rfl, by have := K1.out; show _ ∧ _; simpa using this⟩
  case round =>
    obtain ⟨k, hk, rfl, KK⟩ := hrel
    by_cases hlt : k < l.length
    · obtain ⟨c, hc⟩ : ∃ c, l[k]? = some c := ⟨_, List.getElem?_eq_getElem hlt⟩
      obtain ⟨g1, o1, hp, hF, hg1, ca, -⟩ := HA.out (by omega)
      subst hp
      have hst := HO.out.stay KK.out.2
      have a0 := (World.cell?_of_block (a := ⟨g1, _, none⟩) (hst.blk g1 hF)).trans (ca _ _ (byteCells_at hc))
      have HT : Hid ((l.take (k + 1)).flatMap (escT q) = (l.take k).flatMap (escT q) ++ escT q c) := flat_take hc
      have L2 : (acc ++ [q] ++ (l.take k).flatMap (escT q)).length + 4 ≤ 1099511627776 := by
        have := flat_take_len q l k
        simp only [List.length_append, List.length_cons, List.length_nil]; omega
      have HL : Hid ((acc ++ [q] ++ (l.take k).flatMap (escT q)).length + 4 ≤ 1099511627776) := L2
      clear ca hc hg1 hst hF L2
      go_wp2_with (go_at_call 162; refine (esc_any KK.out.1 q c HL.out).mono ?_; rintro e w2 ⟨rfl, k2, b2⟩)
      have K2 : Hid (Wr B b nv (acc ++ [q] ++ (l.take (k + 1)).flatMap (escT q)) w2 ∧ Wk b w w2) := by
        refine ⟨?_, KK.out.2.trans b2⟩
        rw [HT.out, ← List.append_assoc]; exact k2
      clear k2 b2
      go_roundw
      case rel => exact ⟨k + 1, by omega, by go_num, K2⟩
      case measure => simp [intOf]; omega
    · obtain rfl : k = l.length := by omega
      have K3 := KK.out
      rw [List.take_length] at K3
      have K4 : Hid (Wr B b nv (acc ++ [q] ++ l.flatMap (escT q)) wr ∧ Wk b w wr) := K3
      have L3 : Hid ((acc ++ [q] ++ l.flatMap (escT q)).length + 1 ≤ 1099511627776) := by
        have := flat_len (escT q) 4 (escT_len q) l
        show _ ≤ _
        simp only [List.length_append, List.length_cons, List.length_nil]; omega
      clear K3
      go_wp2_with (go_at_call 155; refine (wByte_any K4.out.1 q _ rfl L3.out).mono ?_; rintro e w2 ⟨rfl, k2, b2⟩)
      go_end0
      exact ⟨rfl, by simpa [quoT] using k2, K4.out.2.trans b2⟩
end Go.Proofs.Ytkkmjgohjaedkaa
