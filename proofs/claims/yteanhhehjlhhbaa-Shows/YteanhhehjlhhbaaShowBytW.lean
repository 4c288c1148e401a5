/- ShowBytes, walked. -/
import Derived.Test.YteanhhehjlhhbaaShowBytT
namespace Go.Proofs.Yteanhhehjlhhbaa
set_option linter.unusedVariables false
open Go.ChangeShapes Go.WideShapes Go.ChangeAt Go.RowKit

theorem mask255 (x : Int) : ∃ n : Nat, n ≤ 255 ∧ bits .and .i64 x 255 = (n : Int) := by
  have h : (BitVec.ofInt 64 x &&& BitVec.ofInt 64 255).toNat ≤ 255 := by
    rw [BitVec.toNat_and]
    exact Nat.le_trans Nat.and_le_right (by decide)
  refine ⟨_, h, ?_⟩
  show IntKind.i64.wrap ((BitVec.ofInt 64 x &&& BitVec.ofInt 64 255).toNat : Int) = _
  generalize (BitVec.ofInt 64 x &&& BitVec.ofInt 64 255).toNat = n at h
  rw [IntKind.wrap_i64]; omega
theorem conv2B (w : World) (b c : Int) : (convert 43 9 (.slice (some ⟨w.heap.size, 0, none⟩) 2 2)).run Try.prog (w.alloc (.cells #[.int .u8 b, .int .u8 c] 5)).drew = .ok (.string (strOf [b, c])) (w.alloc (.cells #[.int .u8 b, .int .u8 c] 5)).drew := by
  have h : (w.alloc (.cells #[.int .u8 b, .int .u8 c] 5)).ownsRow 0 5 1 (.slice (some ⟨w.heap.size, 0, none⟩) 2 2) 2 (bytesV [b, c]) := ⟨rfl, .inr ⟨w.heap.size, 2, _, rfl, Nat.zero_le _, heap_alloc_new w _, Nat.le_refl _, by unfold maxLen; omega, rfl, rfl⟩⟩
  exact conv_row h.drew
theorem conv3B (w : World) (o : Obj) (b c : Int) : (convert 43 9 (.slice (some ⟨w.heap.size + 1, 0, none⟩) 2 2)).run Try.prog ((w.alloc o).alloc (.cells #[.int .u8 b, .int .u8 c] 5)).drew = .ok (.string (strOf [b, c])) ((w.alloc o).alloc (.cells #[.int .u8 b, .int .u8 c] 5)).drew := by
  have := conv2B (w.alloc o) b c
  rwa [show (w.alloc o).heap.size = w.heap.size + 1 by simp] at this
theorem conv1B (w : World) (b : Int) : (convert 43 9 (.slice (some ⟨w.heap.size, 0, none⟩) 1 1)).run Try.prog (w.alloc (.cells #[.int .u8 b] 5)) = .ok (.string (strOf [b])) (w.alloc (.cells #[.int .u8 b] 5)) := by
  have h : (w.alloc (.cells #[.int .u8 b] 5)).ownsRow 0 5 1 (.slice (some ⟨w.heap.size, 0, none⟩) 1 1) 1 (bytesV [b]) := ⟨rfl, .inr ⟨w.heap.size, 1, _, rfl, Nat.zero_le _, heap_alloc_new w _, Nat.le_refl _, by unfold maxLen; omega, rfl, rfl⟩⟩
  exact conv_row h
/-- The literal in memory. -/
def gBP (n : Nat) (lo hi : Int) : List Obj :=
  [.cells #[.string ⟨#[113]⟩] 9, .cells #[.int .i64 (-1), .int .i64 lo, .int .i64 hi] 59, .cells #[.bool false, .slice (some ⟨n + 1, 0, none⟩) 1 1] 41, .cells #[.int .i64 0, .slice (some ⟨n + 1 + 1, 0, none⟩) 1 1] 38]
theorem gB_gram (w : World) (lo hi : Int) (n : Nat) (hn : w.heap.size = n) : GrIs (blks w (gBP n lo hi)) Any (.slice (some ⟨n, 0, none⟩) 1 1) (.slice (some ⟨n + 3, 0, none⟩) 1 1) (gB lo hi) := by
  subst hn
  have h := fun k o => blks_at (gBP w.heap.size lo hi) w k o
  have i1 : IsSys (blks w (gBP w.heap.size lo hi)) Any (.slice (some ⟨w.heap.size + 1, 0, none⟩) 1 1) [⟨-1, lo, hi⟩] := reads_laid (h 1 _ rfl) le11 rfl
  have c1 : IsCns (blks w (gBP w.heap.size lo hi)) Any (.slice (some ⟨w.heap.size + 2, 0, none⟩) 1 1) [⟨false, [⟨-1, lo, hi⟩]⟩] := ⟨[_], reads_laid (h 2 _ rfl) le11 rfl, (CnsIn.nil _ _).snoc (c := ⟨false, [⟨-1, lo, hi⟩]⟩) i1⟩
  exact ⟨reads_laid (h 0 _ rfl) le11 rfl, [_], reads_laid (h 3 _ rfl) le11 rfl, (RusIn.nil _ _).snoc (c := ⟨0, _⟩) c1⟩
theorem showB_is {lo hi : Int} {t : ByteArray} (hM : mayG (gB lo hi) = true) (ht : showT (gB lo hi) = t) (hl : t.size ≤ 1000) (w : World) (n : Nat) (hn : w.heap.size = n) :
    Calls Try.prog 5 #[.agg #[.int .i64 0, .slice (some ⟨n, 0, none⟩) 1 1, .slice (some ⟨n + 1 + 1 + 1, 0, none⟩) 1 1]] (blks w (gBP n lo hi)) fun e w' => e = .returned (.tuple #[.string t, .int .i64 0]) ∧ Hid (Below w.heap.size w w') := by
  refine (show_is hM rfl rfl ht (by omega) _ _ _ (gB_gram w lo hi n hn)).mono ?_
  rintro e w' ⟨rfl, b⟩
  exact ⟨rfl, (blks_below _ _).trans (b.out.mono (blks_below _ _).size)⟩
abbrev KB (k : Nat) (hi : Int) (t : ByteArray) : Prop := ∀ (w' : World) (n : Nat), w'.heap.size = n → Calls Try.prog 5 #[.agg #[.int .i64 0, .slice (some ⟨n, 0, none⟩) 1 1, .slice (some ⟨n + 1 + 1 + 1, 0, none⟩) 1 1]] (blks w' (gBP n k hi)) fun e w'' => e = .returned (.tuple #[.string t, .int .i64 0]) ∧ Hid (Below w'.heap.size w' w'')
theorem kb1 {k : Nat} (hk : k ≤ 255) : KB k k (((⟨#[115, 116, 97, 114, 116, 32, 113, 59, 10, 113, 32, 61, 32, 34]⟩ : ByteArray) ++ escB 34 k) ++ ⟨#[34, 59, 10]⟩) := fun w' n hn => showB_is (mayB (by omega) (Int.le_refl _) (by omega)) (showT1 hk) (by have := escB_size 34 k; rw [ByteArray.size_append, ByteArray.size_append]; show 14 + (escB 34 k).size + 3 ≤ 1000; omega) w' n hn
theorem kb2 {k : Nat} (hk : k < 255) : KB k 255 (((⟨#[115, 116, 97, 114, 116, 32, 113, 59, 10, 113, 32, 61, 32, 39]⟩ : ByteArray) ++ escB 39 k) ++ ⟨#[39, 46, 46, 39, 92, 120, 102, 102, 39, 59, 10]⟩) := fun w' n hn => showB_is (mayB (by omega) (by omega) (by omega)) (showT2 hk) (by have := escB_size 39 k; rw [ByteArray.size_append, ByteArray.size_append]; show 14 + (escB 39 k).size + 11 ≤ 1000; omega) w' n hn
/-- A byte that is shown by its digits. -/
theorem hexes (q : UInt8) (k p r : Nat) (h : k < 32 ∨ 126 < k) (hp : k / 16 = p) (hr : k % 16 = r) : escB q k = (⟨#[92, 120]⟩ : ByteArray) ++ strOf [PlainAid.bt ⟨#[48, 49, 50, 51, 52, 53, 54, 55, 56, 57, 97, 98, 99, 100, 101, 102]⟩ p, PlainAid.bt ⟨#[48, 49, 50, 51, 52, 53, 54, 55, 56, 57, 97, 98, 99, 100, 101, 102]⟩ r] := by
  unfold escB; rw [if_pos h, hp, hr]; rfl
end Go.Proofs.Yteanhhehjlhhbaa
