/- What the program's written does. -/
import Derived.Test.YtbpkpfnjgljilaaLexWrit
namespace Go.Proofs.Ytbpkpfnjgljilaa
set_option linter.unusedVariables false
open Go.ChangeShapes Go.WideShapes Go.ChangeAt Go.RowKit

theorem rwrit {a b c d : Int} (h : a = b) (h' : c = d) : Ending.returned (.tuple #[.int .u8 a, .int .i64 c]) = .returned (.tuple #[.int .u8 b, .int .i64 d]) := by rw [h, h']
theorem empty_beq (r : ByteArray) (h : 0 < r.size) : (r.toList == ([] : List UInt8)) = false := by
  rw [ByteArray.toList_eq]
  have : r.data.toList ≠ [] := fun e => by
    have h2 : r.data.toList.length = 0 := by rw [e]; rfl
    have h3 : r.size = r.data.toList.length := by rw [Array.length_toList]; rfl
    omega
  simpa using this
theorem empty_beq0 (r : ByteArray) (h : r.size = 0) : (r.toList == ([] : List UInt8)) = true := by
  rw [ByteArray.toList_eq]
  have h3 : r.size = r.data.toList.length := by rw [Array.length_toList]; rfl
  have : r.data.toList = [] := List.eq_nil_of_length_eq_zero (by omega)
  rw [this]; rfl

theorem or_hex_fin : ∀ x y : Fin 16, bits BinOp.or IntKind.u8 ((x.val : Int) * 16) (y.val : Int) = 16 * (x.val : Int) + (y.val : Int) := by decide +kernel
theorem or_hex (x y : Int) (h0 : 0 ≤ x) (h1 : x ≤ 15) (h2 : 0 ≤ y) (h3 : y ≤ 15) : bits BinOp.or IntKind.u8 (x * 16) y = 16 * x + y := by
  have := or_hex_fin ⟨x.toNat, by omega⟩ ⟨y.toNat, by omega⟩
  simpa [Int.toNat_of_nonneg h0, Int.toNat_of_nonneg h2] using this

set_option maxHeartbeats 4000000 in
theorem written_any (r : ByteArray) (q : Int) (w : World) (hr : r.size ≤ 65536) :
    Calls Try.prog 41 #[.string r, .int .u8 q] w fun e w' => e = .returned (.tuple #[.int .u8 (writV (signF (PlainAid.bt r) r.size 0 q)).1, .int .i64 (writV (signF (PlainAid.bt r) r.size 0 q)).2]) ∧ Below w.heap.size w w' := by
  have hb := PlainAid.get_bt r
  have h0 := PlainAid.bt_nonneg r
  have h1 := PlainAid.bt_le r
  have u0 := h0 0
  have u1 := h1 0
  have v0 := h0 1
  have v1 := h1 1
  rcases shape_of_sign (PlainAid.bt r) r.size q (fun j => ⟨h0 j, h1 j⟩) with ⟨a1, e⟩ | ⟨a1, a2, e⟩ | ⟨a1, a2, a3, e⟩ | ⟨a1, a2, a3, a4, e⟩ | ⟨a1, a2, a3, a4, a5, e⟩ | ⟨a1, a2, a3, a4, a5, a6, a7, e⟩ | ⟨a1, a2, a3, a4, a5, a6, e⟩ | ⟨a1, a2, a3, a4, a5, a6, a7, a8, e⟩ | ⟨a1, a2, a3, a4, a5, a6, a7, a8, a9, e⟩ | ⟨a1, a2, a3, a4, a5, a6, a7, a8, a9, b1, e⟩ | ⟨a1, a2, a3, a4, a5, a6, a7, a8, a9, b1, b2, e⟩ | ⟨a1, a2, a3, a4, a5, a6, a7, a8, a9, b1, b2, e⟩
  · have t0 := empty_beq0 r a1
    rw [e]; clear e a1
    go_enter Try.func41, Try.ntmps41
    go_wp2
    all_goals go_ret2
    all_goals exact ⟨rfl, Below.refl _ _⟩
  · have t0 := empty_beq r a1
    rw [e]; clear e
    go_enter Try.func41, Try.ntmps41
    go_wp2
    all_goals go_ret2
    all_goals exact ⟨rfl, Below.refl _ _⟩
  · have t0 := empty_beq r a1
    rw [e]; clear e
    go_enter Try.func41, Try.ntmps41
    go_wp2
    all_goals go_ret2
    all_goals exact ⟨rfl, Below.refl _ _⟩
  · have t0 := empty_beq r a1
    rw [e]; clear e
    go_enter Try.func41, Try.ntmps41
    go_wp2
    all_goals go_ret2
    all_goals exact ⟨rfl, Below.refl _ _⟩
  · have t0 := empty_beq r a1
    rw [e]; clear e
    go_enter Try.func41, Try.ntmps41
    go_wp2
    all_goals go_ret2
    all_goals exact ⟨rfl, Below.refl _ _⟩
  · have t0 := empty_beq r a1
    rw [e]; clear e
    by_cases c1 : PlainAid.bt r 1 = 92
    · have c1' : (PlainAid.bt r 1 == 92) = true := by simpa using c1
      clear c1 a7
      go_enter Try.func41, Try.ntmps41
      go_wp2
      all_goals go_ret2
      all_goals exact ⟨rfl, Below.refl _ _⟩
    · have c1' : (PlainAid.bt r 1 == 92) = false := by simpa using c1
      by_cases c2 : PlainAid.bt r 1 = 34
      · have c2' : (PlainAid.bt r 1 == 34) = true := by simpa using c2
        clear c1 c2 a7
        go_enter Try.func41, Try.ntmps41
        go_wp2
        all_goals go_ret2
        all_goals exact ⟨rfl, Below.refl _ _⟩
      · have c2' : (PlainAid.bt r 1 == 34) = false := by simpa using c2
        have c3' : (PlainAid.bt r 1 == 39) = true := by simp; omega
        clear c1 c2 a7
        go_enter Try.func41, Try.ntmps41
        go_wp2
        all_goals go_ret2
        all_goals exact ⟨rfl, Below.refl _ _⟩
  · have t0 := empty_beq r a1
    rw [e]; clear e
    go_enter Try.func41, Try.ntmps41
    go_wp2
    all_goals go_ret2
    all_goals exact ⟨rfl, Below.refl _ _⟩
  all_goals
    have t0 := empty_beq r a1
    have c1' : (PlainAid.bt r 1 == 92) = false := by simp; omega
    have c2' : (PlainAid.bt r 1 == 34) = false := by simp; omega
    have c3' : (PlainAid.bt r 1 == 39) = false := by simp; omega
    clear a7
  · rw [e]; clear e
    go_enter Try.func41, Try.ntmps41
    go_wp2
    all_goals go_ret2
    all_goals exact ⟨rfl, Below.refl _ _⟩
  · rw [e]; clear e
    go_enter Try.func41, Try.ntmps41
    go_wp2
    all_goals go_ret2
    all_goals exact ⟨rfl, Below.refl _ _⟩
  · rw [e]; clear e
    go_enter Try.func41, Try.ntmps41
    go_wp2_with (go_at_call 45; refine (hex_dev _ _ ?_ ?_).mono ?_; exact h0 _; exact h1 _; rintro e w1 ⟨rfl, rfl⟩)
    all_goals go_ret2
    all_goals exact ⟨rfl, Below.refl _ _⟩
  · rw [e]; clear e
    go_enter Try.func41, Try.ntmps41
    go_wp2_with (go_at_call 45; refine (hex_dev _ _ ?_ ?_).mono ?_; exact h0 _; exact h1 _; rintro e w1 ⟨rfl, rfl⟩)
    all_goals go_ret2
    all_goals exact ⟨rfl, Below.refl _ _⟩
  · rw [e]; clear e
    have g2 : 0 ≤ hexF (PlainAid.bt r 2) := by simpa [hxB] using b1
    have g3 : 0 ≤ hexF (PlainAid.bt r 3) := by simpa [hxB] using b2
    have g2' := (hexF_le (PlainAid.bt r 2)).2
    have g3' := (hexF_le (PlainAid.bt r 3)).2
    go_enter Try.func41, Try.ntmps41
    go_wp2_with (go_at_call 45; refine (hex_dev _ _ ?_ ?_).mono ?_; exact h0 _; exact h1 _; rintro e w1 ⟨rfl, rfl⟩)
    go_quiet ((go_at_call 46; refine (hexV_dev _ _ ?_ ?_ ?_).mono ?_; exact h0 _; exact h1 _; assumption; rintro e w' ⟨rfl, hw⟩; exact ⟨rfl, ⟨_, hw.symm⟩⟩))
    go_wp2
    go_ret2
    exact ⟨rwrit (or_hex _ _ g2 g2' g3 g3') rfl, ⟨rfl, rfl, rfl, Nat.le_refl _, fun _ _ => rfl⟩⟩
end Go.Proofs.Ytbpkpfnjgljilaa
