/- How the document shows a byte. -/
import Derived.Test.YteanhhehjlhhbaaShowBytW
namespace Go.Proofs.Yteanhhehjlhhbaa
set_option linter.unusedVariables false
open Go.ChangeShapes Go.WideShapes Go.ChangeAt Go.RowKit

set_option maxHeartbeats 4000000 in
set_option maxRecDepth 100000 in
theorem shown_hex (q : Int) (uq : UInt8) (k p r : Nat) (hk : k ≤ 255) (h : k < 32 ∨ 126 < k) (hp : k / 16 = p) (hr : k % 16 = r) (w : World) :
    Calls Try.prog 41 #[.int .i64 (k : Int), .int .u8 q] w fun e w' => e = .returned (.string (escB uq k)) ∧ Hid (Below w.heap.size w w') := by
  have hcv := conv2B
  have s2 : ∀ b c : Int, (strOf [b, c]).size = 2 := fun _ _ => rfl
  have hA := PlainAid.get_bt ⟨#[48, 49, 50, 51, 52, 53, 54, 55, 56, 57, 97, 98, 99, 100, 101, 102]⟩
  rw [hexes uq k p r h hp hr]
  have p16 : p < 16 := by omega
  have r16 : r < 16 := by omega
  have ep : (k : Int) / 16 = (p : Int) := by omega
  have er : (k : Int) % 16 = (r : Int) := by omega
  have b1 := PlainAid.bt_nonneg ⟨#[48, 49, 50, 51, 52, 53, 54, 55, 56, 57, 97, 98, 99, 100, 101, 102]⟩ p
  have b2 := PlainAid.bt_le ⟨#[48, 49, 50, 51, 52, 53, 54, 55, 56, 57, 97, 98, 99, 100, 101, 102]⟩ p
  have b3 := PlainAid.bt_nonneg ⟨#[48, 49, 50, 51, 52, 53, 54, 55, 56, 57, 97, 98, 99, 100, 101, 102]⟩ r
  have b4 := PlainAid.bt_le ⟨#[48, 49, 50, 51, 52, 53, 54, 55, 56, 57, 97, 98, 99, 100, 101, 102]⟩ r
  clear hp hr
  by_cases h2 : k < 32
  · clear h
    go_enter Try.func41, Try.ntmps41
    go_wp2
    go_region
    all_goals go_wp2
    all_goals
      go_ret
      exact ⟨rfl, (bel1 _ _).drew⟩
  · have h4 : 126 < k := by omega
    clear h
    go_enter Try.func41, Try.ntmps41
    go_wp2
    go_region
    all_goals go_wp2
    all_goals
      go_ret
      exact ⟨rfl, (bel1 _ _).drew⟩
set_option maxHeartbeats 4000000 in
set_option maxRecDepth 100000 in
theorem shown_few (q k : Nat) (hq : q ≤ 255) (h0 : 32 ≤ k) (h1 : k ≤ 126) (w : World) :
    Calls Try.prog 41 #[.int .i64 (k : Int), .int .u8 (q : Int)] w fun e w' => e = .returned (.string (escB (UInt8.ofNat q) k)) ∧ Hid (Below w.heap.size w w') := by
  have hcv1 := conv1B
  have s1 : ∀ b : Int, (strOf [b]).size = 1 := fun _ => rfl
  have hno : ¬ (k < 32 ∨ 126 < k) := by omega
  have hu : (UInt8.ofNat q).toNat = q := by rw [UInt8.toNat_ofNat']; omega
  by_cases e : k = q ∨ k = 92
  · have E : escB (UInt8.ofNat q) k = (⟨#[92]⟩ : ByteArray) ++ strOf [(k : Int)] := by
      unfold escB
      rw [if_neg hno, hu, if_pos e]
      rfl
    rw [E]
    clear E hu hno
    by_cases e92 : k = 92
    · subst e92
      clear e
      go_enter Try.func41, Try.ntmps41
      go_wp2
      go_ret
      exact ⟨rfl, bel1 _ _⟩
    · obtain rfl : k = q := by omega
      have m1 : ((k : Int) == 92) = false := by rw [beq_eq_false_iff_ne]; omega
      clear e e92
      go_enter Try.func41, Try.ntmps41
      go_wp2
      go_ret
      exact ⟨rfl, bel1 _ _⟩
  · have E : escB (UInt8.ofNat q) k = strOf [(k : Int)] := by
      unfold escB
      rw [if_neg hno, hu, if_neg e]
    rw [E]
    have m1 : ((k : Int) == 92) = false := by rw [beq_eq_false_iff_ne]; omega
    have m2 : ((k : Int) == (q : Int)) = false := by rw [beq_eq_false_iff_ne]; omega
    clear E hu hno e
    go_enter Try.func41, Try.ntmps41
    go_wp2
    go_ret
    exact ⟨rfl, bel1 _ _⟩
/-- A byte, as the document shows it. -/
theorem shown_ref (q k : Nat) (hq : q ≤ 255) (hk : k ≤ 255) (w : World) :
    Calls Try.prog 41 #[.int .i64 (k : Int), .int .u8 (q : Int)] w fun e w' => e = .returned (.string (escB (UInt8.ofNat q) k)) ∧ Hid (Below w.heap.size w w') := by
  by_cases h : k < 32 ∨ 126 < k
  · exact shown_hex _ _ k _ _ hk h rfl rfl w
  · exact shown_few q k hq (by omega) (by omega) w
end Go.Proofs.Yteanhhehjlhhbaa
