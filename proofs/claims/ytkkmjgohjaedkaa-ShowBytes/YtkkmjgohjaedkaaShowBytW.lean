/- ShowBytes, walked. -/
import Derived.Test.YtkkmjgohjaedkaaShowBytT
namespace Go.Proofs.Ytkkmjgohjaedkaa
set_option linter.unusedVariables false
open Go.ChangeShapes Go.WideShapes Go.ChangeAt Go.RowKit

theorem mask255 (x : Int) : ∃ n : Nat, n ≤ 255 ∧ bits .and .i64 x 255 = (n : Int) := by
  have h : (BitVec.ofInt 64 x &&& BitVec.ofInt 64 255).toNat ≤ 255 := by
    rw [BitVec.toNat_and]
    exact Nat.le_trans Nat.and_le_right (by decide)
  refine ⟨_, h, ?_⟩
  show IntKind.i64.wrap ((BitVec.ofInt 64 x &&& BitVec.ofInt 64 255).toNat : Int) = _
  generalize (BitVec.ofInt 64 x &&& BitVec.ofInt 64 255).toNat = n at h
  rw [IntKind.wrap_i64]; omega
theorem conv2B (w : World) (b c : Int) : (convert 35 9 (.slice (some ⟨w.heap.size, 0, none⟩) 2 2)).run Try.prog (w.alloc (.cells #[.int .u8 b, .int .u8 c] 5)).drew = .ok (.string (strOf [b, c])) (w.alloc (.cells #[.int .u8 b, .int .u8 c] 5)).drew := by
  have h : (w.alloc (.cells #[.int .u8 b, .int .u8 c] 5)).ownsRow 0 5 1 (.slice (some ⟨w.heap.size, 0, none⟩) 2 2) 2 (bytesV [b, c]) := ⟨rfl, .inr ⟨w.heap.size, 2, _, rfl, Nat.zero_le _, heap_alloc_new w _, Nat.le_refl _, by unfold maxLen; omega, rfl, rfl⟩⟩
  exact conv_row h.drew
theorem conv3B (w : World) (o : Obj) (b c : Int) : (convert 35 9 (.slice (some ⟨w.heap.size + 1, 0, none⟩) 2 2)).run Try.prog ((w.alloc o).alloc (.cells #[.int .u8 b, .int .u8 c] 5)).drew = .ok (.string (strOf [b, c])) ((w.alloc o).alloc (.cells #[.int .u8 b, .int .u8 c] 5)).drew := by
  have := conv2B (w.alloc o) b c
  rwa [show (w.alloc o).heap.size = w.heap.size + 1 by simp] at this
theorem conv1B (w : World) (b : Int) : (convert 35 9 (.slice (some ⟨w.heap.size, 0, none⟩) 1 1)).run Try.prog (w.alloc (.cells #[.int .u8 b] 5)) = .ok (.string (strOf [b])) (w.alloc (.cells #[.int .u8 b] 5)) := by
  have h : (w.alloc (.cells #[.int .u8 b] 5)).ownsRow 0 5 1 (.slice (some ⟨w.heap.size, 0, none⟩) 1 1) 1 (bytesV [b]) := ⟨rfl, .inr ⟨w.heap.size, 1, _, rfl, Nat.zero_le _, heap_alloc_new w _, Nat.le_refl _, by unfold maxLen; omega, rfl, rfl⟩⟩
  exact conv_row h
/-- The literal in memory. -/
def gBP (n : Nat) (lo hi : Int) : List Obj :=
  [.cells #[.string ⟨#[113]⟩] 9, .cells #[.int .i64 (-1), .int .i64 lo, .int .i64 hi] 84, .cells #[.bool false, .slice (some ⟨n + 1, 0, none⟩) 1 1] 82, .cells #[.int .i64 0, .slice (some ⟨n + 1 + 1, 0, none⟩) 1 1] 79]
theorem gB_gram (w : World) (lo hi : Int) (n : Nat) (hn : w.heap.size = n) : GrIs (blks w (gBP n lo hi)) Any (.slice (some ⟨n, 0, none⟩) 1 1) (.slice (some ⟨n + 3, 0, none⟩) 1 1) (gB lo hi) := by
  subst hn
  have h := fun k o => blks_at (gBP w.heap.size lo hi) w k o
  have i1 : IsSys (blks w (gBP w.heap.size lo hi)) Any (.slice (some ⟨w.heap.size + 1, 0, none⟩) 1 1) [⟨-1, lo, hi⟩] := reads_laid (h 1 _ rfl) le11 rfl
  have c1 : IsCns (blks w (gBP w.heap.size lo hi)) Any (.slice (some ⟨w.heap.size + 2, 0, none⟩) 1 1) [⟨false, [⟨-1, lo, hi⟩]⟩] := ⟨[_], reads_laid (h 2 _ rfl) le11 rfl, (CnsIn.nil _ _).snoc (c := ⟨false, [⟨-1, lo, hi⟩]⟩) i1⟩
  exact ⟨reads_laid (h 0 _ rfl) le11 rfl, [_], reads_laid (h 3 _ rfl) le11 rfl, (RusIn.nil _ _).snoc (c := ⟨0, _⟩) c1⟩
theorem showB_is {lo hi : Int} {t : ByteArray} (hM : mayG (gB lo hi) = true) (ht : showT (gB lo hi) = t) (hl : t.size ≤ 1000) (w : World) (n : Nat) (hn : w.heap.size = n) :
    Calls Try.prog 51 #[.agg #[.int .i64 0, .slice (some ⟨n, 0, none⟩) 1 1, .slice (some ⟨n + 1 + 1 + 1, 0, none⟩) 1 1]] (blks w (gBP n lo hi)) fun e w' => e = .returned (.tuple #[.string t, .int .i64 0]) ∧ Hid (Below w.heap.size w w') := by
  refine (show_is hM rfl rfl ht (by omega) _ _ _ (gB_gram w lo hi n hn)).mono ?_
  rintro e w' ⟨rfl, b⟩
  exact ⟨rfl, (blks_below _ _).trans (b.out.mono (blks_below _ _).size)⟩
abbrev KB (k : Nat) (hi : Int) (t : ByteArray) : Prop := ∀ (w' : World) (n : Nat), w'.heap.size = n → Calls Try.prog 51 #[.agg #[.int .i64 0, .slice (some ⟨n, 0, none⟩) 1 1, .slice (some ⟨n + 1 + 1 + 1, 0, none⟩) 1 1]] (blks w' (gBP n k hi)) fun e w'' => e = .returned (.tuple #[.string t, .int .i64 0]) ∧ Hid (Below w'.heap.size w' w'')
theorem kb1 {k : Nat} (hk : k ≤ 255) : KB k k (((⟨#[115, 116, 97, 114, 116, 32, 113, 59, 10, 113, 32, 61, 32, 34]⟩ : ByteArray) ++ escB 34 k) ++ ⟨#[34, 59, 10]⟩) := fun w' n hn => showB_is (mayB (by omega) (Int.le_refl _) (by omega)) (showT1 hk) (by have := escB_size 34 k; rw [ByteArray.size_append, ByteArray.size_append]; show 14 + (escB 34 k).size + 3 ≤ 1000; omega) w' n hn
theorem kb2 {k : Nat} (hk : k < 255) : KB k 255 (((⟨#[115, 116, 97, 114, 116, 32, 113, 59, 10, 113, 32, 61, 32, 39]⟩ : ByteArray) ++ escB 39 k) ++ ⟨#[39, 46, 46, 39, 92, 120, 102, 102, 39, 59, 10]⟩) := fun w' n hn => showB_is (mayB (by omega) (by omega) (by omega)) (showT2 hk) (by have := escB_size 39 k; rw [ByteArray.size_append, ByteArray.size_append]; show 14 + (escB 39 k).size + 11 ≤ 1000; omega) w' n hn
set_option maxHeartbeats 4000000 in
set_option maxRecDepth 100000 in
/-- A byte that is shown by one or two signs. -/
theorem showBytes_few (a0 : Int) (k : Nat) (h0 : 32 ≤ k) (h1 : k ≤ 126) (ek : bits .and .i64 a0 255 = (k : Int)) (w : World) :
    Calls Try.prog 26 #[.int .i64 a0] w fun e w' => e = .returned (.bool true) ∧ Below w.heap.size w w' := by
  have hcv1 := conv1B
  have s1 : ∀ b : Int, (strOf [b]).size = 1 := fun _ => rfl
  have K1 := kb1 (k := k) (by omega)
  have K2 := kb2 (k := k) (by omega)
  have hno : ¬ (k < 32 ∨ 126 < k) := by omega
  have n1 : ¬ (k : Int) < 32 := by omega
  have n2 : ¬ 126 < (k : Int) := by omega
  have n3 : ((k : Int) == 255) = false := by rw [beq_eq_false_iff_ne]; omega
  by_cases e92 : k = 92
  · subst e92
    rw [show escB 34 92 = ⟨#[92, 92]⟩ from rfl] at K1
    rw [show escB 39 92 = ⟨#[92, 92]⟩ from rfl] at K2
    have HK : Hid (KB 92 (92 : Nat) _ ∧ KB 92 255 _) := ⟨K1, K2⟩
    clear K1 K2
    go_enter Try.func26, Try.ntmps26
    go_wp2_with (first
      | (go_at_call 53; refine (awake5_any _).mono ?_; rintro e wa ⟨rfl, ba⟩; have HA : Hid (Below w.heap.size w wa) := ba; clear ba)
      | (go_at_call 51; first
        | (have hh := H1; clear hh; refine (HK.out.2 _ _ rfl).mono ?_; rintro e w2 ⟨rfl, b2⟩)
        | (refine (HK.out.1 (wa.alloc (.cells #[.int .u8 92] 5)) (wa.heap.size + 1) (by simp)).mono ?_; rintro e w1 ⟨rfl, b1⟩; have H1 : Hid (Below w.heap.size w w1) := (HA.out.alloc HA.out.size _).trans (b1.out.mono (Nat.le_trans HA.out.size (le_alloc _ _)))))
      | (go_at_call 33; refine (num_any _ _).mono ?_; rintro e wn ⟨rfl, rfl⟩))
    go_ret
    exact ⟨by simp [go_sem], H1.out.trans (b2.out.mono H1.out.size)⟩
  by_cases e34 : k = 34
  · subst e34
    rw [show escB 34 34 = ⟨#[92, 34]⟩ from rfl] at K1
    rw [show escB 39 34 = strOf [34] from rfl] at K2
    have HK : Hid (KB 34 (34 : Nat) _ ∧ KB 34 255 _) := ⟨K1, K2⟩
    clear K1 K2
    go_enter Try.func26, Try.ntmps26
    go_wp2_with (first
      | (go_at_call 53; refine (awake5_any _).mono ?_; rintro e wa ⟨rfl, ba⟩; have HA : Hid (Below w.heap.size w wa) := ba; clear ba)
      | (go_at_call 51; first
        | (have hh := H1; clear hh; refine (HK.out.2 _ _ rfl).mono ?_; rintro e w2 ⟨rfl, b2⟩)
        | (refine (HK.out.1 (wa.alloc (.cells #[.int .u8 34] 5)) (wa.heap.size + 1) (by simp)).mono ?_; rintro e w1 ⟨rfl, b1⟩; have H1 : Hid (Below w.heap.size w w1) := (HA.out.alloc HA.out.size _).trans (b1.out.mono (Nat.le_trans HA.out.size (le_alloc _ _)))))
      | (go_at_call 33; refine (num_any _ _).mono ?_; rintro e wn ⟨rfl, rfl⟩))
    go_ret
    exact ⟨by simp [go_sem], H1.out.trans (b2.out.mono H1.out.size)⟩
  by_cases e39 : k = 39
  · subst e39
    rw [show escB 34 39 = strOf [39] from rfl] at K1
    rw [show escB 39 39 = ⟨#[92, 39]⟩ from rfl] at K2
    have HK : Hid (KB 39 (39 : Nat) _ ∧ KB 39 255 _) := ⟨K1, K2⟩
    clear K1 K2
    go_enter Try.func26, Try.ntmps26
    go_wp2_with (first
      | (go_at_call 53; refine (awake5_any _).mono ?_; rintro e wa ⟨rfl, ba⟩; have HA : Hid (Below w.heap.size w wa) := ba; clear ba)
      | (go_at_call 51; first
        | (have hh := H1; clear hh; refine (HK.out.2 _ _ rfl).mono ?_; rintro e w2 ⟨rfl, b2⟩)
        | (refine (HK.out.1 (wa.alloc (.cells #[.int .u8 39] 5)) (wa.heap.size + 1) (by simp)).mono ?_; rintro e w1 ⟨rfl, b1⟩; have H1 : Hid (Below w.heap.size w w1) := (HA.out.alloc HA.out.size _).trans (b1.out.mono (Nat.le_trans HA.out.size (le_alloc _ _)))))
      | (go_at_call 33; refine (num_any _ _).mono ?_; rintro e wn ⟨rfl, rfl⟩))
    go_ret
    exact ⟨by simp [go_sem], H1.out.trans (b2.out.mono H1.out.size)⟩
  have E1 : escB 34 k = strOf [(k : Int)] := by unfold escB; rw [if_neg hno, if_neg (by rintro (e | e); exact e34 e; exact e92 e)]
  have E2 : escB 39 k = strOf [(k : Int)] := by unfold escB; rw [if_neg hno, if_neg (by rintro (e | e); exact e39 e; exact e92 e)]
  rw [E1] at K1
  rw [E2] at K2
  have m1 : ((k : Int) == 92) = false := by rw [beq_eq_false_iff_ne]; omega
  have m2 : ((k : Int) == 34) = false := by rw [beq_eq_false_iff_ne]; omega
  have m3 : ((k : Int) == 39) = false := by rw [beq_eq_false_iff_ne]; omega
  have HK : Hid (KB k k _ ∧ KB k 255 _) := ⟨K1, K2⟩
  clear K1 K2 E1 E2 e92 e34 e39
  go_enter Try.func26, Try.ntmps26
  go_wp2_with (first
    | (go_at_call 53; refine (awake5_any _).mono ?_; rintro e wa ⟨rfl, ba⟩; have HA : Hid (Below w.heap.size w wa) := ba; clear ba)
    | (go_at_call 51; first
      | (have hh := H1; clear hh; refine (HK.out.2 _ _ rfl).mono ?_; rintro e w2 ⟨rfl, b2⟩)
      | (refine (HK.out.1 (wa.alloc (.cells #[.int .u8 (k : Int)] 5)) (wa.heap.size + 1) (by simp)).mono ?_; rintro e w1 ⟨rfl, b1⟩; have H1 : Hid (Below w.heap.size w w1) := (HA.out.alloc HA.out.size _).trans (b1.out.mono (Nat.le_trans HA.out.size (le_alloc _ _)))))
    | (go_at_call 33; refine (num_any _ _).mono ?_; rintro e wn ⟨rfl, rfl⟩))
  go_ret
  exact ⟨by simp [go_sem], H1.out.trans (b2.out.mono H1.out.size)⟩
/-- A byte that is shown by its digits. -/
theorem hexes (q : UInt8) (k p r : Nat) (h : k < 32 ∨ 126 < k) (hp : k / 16 = p) (hr : k % 16 = r) : escB q k = (⟨#[92, 120]⟩ : ByteArray) ++ strOf [PlainAid.bt ⟨#[48, 49, 50, 51, 52, 53, 54, 55, 56, 57, 97, 98, 99, 100, 101, 102]⟩ p, PlainAid.bt ⟨#[48, 49, 50, 51, 52, 53, 54, 55, 56, 57, 97, 98, 99, 100, 101, 102]⟩ r] := by
  unfold escB; rw [if_pos h, hp, hr]; rfl
set_option maxHeartbeats 4000000 in
set_option maxRecDepth 100000 in
theorem showBytes_hex (a0 : Int) (k p r : Nat) (hk : k ≤ 255) (h : k < 32 ∨ 126 < k) (hp : k / 16 = p) (hr : k % 16 = r) (ek : bits .and .i64 a0 255 = (k : Int)) (w : World) :
    Calls Try.prog 26 #[.int .i64 a0] w fun e w' => e = .returned (.bool true) ∧ Below w.heap.size w w' := by
  have hcv1 := conv1B
  have hcv := conv3B
  have s1 : ∀ b : Int, (strOf [b]).size = 1 := fun _ => rfl
  have s2 : ∀ b c : Int, (strOf [b, c]).size = 2 := fun _ _ => rfl
  have hA := PlainAid.get_bt ⟨#[48, 49, 50, 51, 52, 53, 54, 55, 56, 57, 97, 98, 99, 100, 101, 102]⟩
  have K1 := kb1 (k := k) hk
  rw [hexes 34 k p r h hp hr] at K1
  have K2 : k < 255 → KB k 255 _ := fun h => kb2 (k := k) h
  rw [hexes 39 k p r h hp hr] at K2
  have p16 : p < 16 := by omega
  have r16 : r < 16 := by omega
  have ep : (k : Int) / 16 = (p : Int) := by omega
  have er : (k : Int) % 16 = (r : Int) := by omega
  have HK : Hid (KB k k _ ∧ (k < 255 → KB k 255 _)) := ⟨K1, K2⟩
  have b1 := PlainAid.bt_nonneg ⟨#[48, 49, 50, 51, 52, 53, 54, 55, 56, 57, 97, 98, 99, 100, 101, 102]⟩ p
  have b2 := PlainAid.bt_le ⟨#[48, 49, 50, 51, 52, 53, 54, 55, 56, 57, 97, 98, 99, 100, 101, 102]⟩ p
  have b3 := PlainAid.bt_nonneg ⟨#[48, 49, 50, 51, 52, 53, 54, 55, 56, 57, 97, 98, 99, 100, 101, 102]⟩ r
  have b4 := PlainAid.bt_le ⟨#[48, 49, 50, 51, 52, 53, 54, 55, 56, 57, 97, 98, 99, 100, 101, 102]⟩ r
  clear K1 K2 hp hr
  by_cases h2 : k < 32
  · clear h
    have h3 : k < 255 := by omega
    have n3 : ((k : Int) == 255) = false := by rw [beq_eq_false_iff_ne]; omega
    go_enter Try.func26, Try.ntmps26
    go_wp2_with (go_at_call 53; refine (awake5_any _).mono ?_; rintro e wa ⟨rfl, ba⟩; have HA : Hid (Below w.heap.size w wa) := ba; clear ba)
    go_region
    all_goals
      have H8 : Hid (Below w.heap.size w (((wa.alloc (.cells #[.int .u8 (k : Int)] 5)).alloc (.cells #[.int .u8 (PlainAid.bt ⟨#[48, 49, 50, 51, 52, 53, 54, 55, 56, 57, 97, 98, 99, 100, 101, 102]⟩ p), .int .u8 (PlainAid.bt ⟨#[48, 49, 50, 51, 52, 53, 54, 55, 56, 57, 97, 98, 99, 100, 101, 102]⟩ r)] 5)).drew)) := ((HA.out.alloc HA.out.size _).alloc (Nat.le_trans HA.out.size (le_alloc _ _)) _).drew
      generalize ((wa.alloc (.cells #[.int .u8 (k : Int)] 5)).alloc (.cells #[.int .u8 (PlainAid.bt ⟨#[48, 49, 50, 51, 52, 53, 54, 55, 56, 57, 97, 98, 99, 100, 101, 102]⟩ p), .int .u8 (PlainAid.bt ⟨#[48, 49, 50, 51, 52, 53, 54, 55, 56, 57, 97, 98, 99, 100, 101, 102]⟩ r)] 5)).drew = w8 at H8 ⊢
      go_wp2_with (first
        | (go_at_call 51; first
          | (have hh := H1; clear hh; refine (HK.out.2 h3 _ _ rfl).mono ?_; rintro e w2 ⟨rfl, b2⟩)
          | (refine (HK.out.1 _ _ rfl).mono ?_; rintro e w1 ⟨rfl, b1⟩; have H1 : Hid (Below w.heap.size w w1) := H8.out.trans (b1.out.mono H8.out.size)))
        | (go_at_call 33; refine (num_any _ _).mono ?_; rintro e wn ⟨rfl, rfl⟩))
      go_ret
      exact ⟨by simp [go_sem], H1.out.trans (b2.out.mono H1.out.size)⟩
  · have h4 : 126 < k := by omega
    clear h
    by_cases h3 : k < 255
    · have n3 : ((k : Int) == 255) = false := by rw [beq_eq_false_iff_ne]; omega
      go_enter Try.func26, Try.ntmps26
      go_wp2_with (go_at_call 53; refine (awake5_any _).mono ?_; rintro e wa ⟨rfl, ba⟩; have HA : Hid (Below w.heap.size w wa) := ba; clear ba)
      go_region
      all_goals
        have H8 : Hid (Below w.heap.size w (((wa.alloc (.cells #[.int .u8 (k : Int)] 5)).alloc (.cells #[.int .u8 (PlainAid.bt ⟨#[48, 49, 50, 51, 52, 53, 54, 55, 56, 57, 97, 98, 99, 100, 101, 102]⟩ p), .int .u8 (PlainAid.bt ⟨#[48, 49, 50, 51, 52, 53, 54, 55, 56, 57, 97, 98, 99, 100, 101, 102]⟩ r)] 5)).drew)) := ((HA.out.alloc HA.out.size _).alloc (Nat.le_trans HA.out.size (le_alloc _ _)) _).drew
        generalize ((wa.alloc (.cells #[.int .u8 (k : Int)] 5)).alloc (.cells #[.int .u8 (PlainAid.bt ⟨#[48, 49, 50, 51, 52, 53, 54, 55, 56, 57, 97, 98, 99, 100, 101, 102]⟩ p), .int .u8 (PlainAid.bt ⟨#[48, 49, 50, 51, 52, 53, 54, 55, 56, 57, 97, 98, 99, 100, 101, 102]⟩ r)] 5)).drew = w8 at H8 ⊢
        go_wp2_with (first
          | (go_at_call 51; first
            | (have hh := H1; clear hh; refine (HK.out.2 h3 _ _ rfl).mono ?_; rintro e w2 ⟨rfl, b2⟩)
            | (refine (HK.out.1 _ _ rfl).mono ?_; rintro e w1 ⟨rfl, b1⟩; have H1 : Hid (Below w.heap.size w w1) := H8.out.trans (b1.out.mono H8.out.size)))
          | (go_at_call 33; refine (num_any _ _).mono ?_; rintro e wn ⟨rfl, rfl⟩))
        go_ret
        exact ⟨by simp [go_sem], H1.out.trans (b2.out.mono H1.out.size)⟩
    · have n3 : ((k : Int) == 255) = true := by rw [beq_iff_eq]; omega
      go_enter Try.func26, Try.ntmps26
      go_wp2_with (go_at_call 53; refine (awake5_any _).mono ?_; rintro e wa ⟨rfl, ba⟩; have HA : Hid (Below w.heap.size w wa) := ba; clear ba)
      go_region
      all_goals
        have H8 : Hid (Below w.heap.size w (((wa.alloc (.cells #[.int .u8 (k : Int)] 5)).alloc (.cells #[.int .u8 (PlainAid.bt ⟨#[48, 49, 50, 51, 52, 53, 54, 55, 56, 57, 97, 98, 99, 100, 101, 102]⟩ p), .int .u8 (PlainAid.bt ⟨#[48, 49, 50, 51, 52, 53, 54, 55, 56, 57, 97, 98, 99, 100, 101, 102]⟩ r)] 5)).drew)) := ((HA.out.alloc HA.out.size _).alloc (Nat.le_trans HA.out.size (le_alloc _ _)) _).drew
        generalize ((wa.alloc (.cells #[.int .u8 (k : Int)] 5)).alloc (.cells #[.int .u8 (PlainAid.bt ⟨#[48, 49, 50, 51, 52, 53, 54, 55, 56, 57, 97, 98, 99, 100, 101, 102]⟩ p), .int .u8 (PlainAid.bt ⟨#[48, 49, 50, 51, 52, 53, 54, 55, 56, 57, 97, 98, 99, 100, 101, 102]⟩ r)] 5)).drew = w8 at H8 ⊢
        go_wp2_with (first
          | (go_at_call 51; first
            | (have hh := H1; clear hh; refine (HK.out.2 h3 _ _ rfl).mono ?_; rintro e w2 ⟨rfl, b2⟩)
            | (refine (HK.out.1 _ _ rfl).mono ?_; rintro e w1 ⟨rfl, b1⟩; have H1 : Hid (Below w.heap.size w w1) := H8.out.trans (b1.out.mono H8.out.size)))
          | (go_at_call 33; refine (num_any _ _).mono ?_; rintro e wn ⟨rfl, rfl⟩))
        go_ret
        exact ⟨by simp [go_sem], H1.out⟩
theorem showBytes_walk (a0 : Int) (w0 : (Lit.int .i64 a0).wf = true) (w : World) :
    Calls Try.prog 26 #[.int .i64 a0] w fun e w' => e = .returned (.bool true) ∧ Below w.heap.size w w' := by
  obtain ⟨k, hk, ek⟩ := mask255 a0
  by_cases h : k < 32 ∨ 126 < k
  · exact showBytes_hex a0 k _ _ hk h rfl rfl ek w
  · exact showBytes_few a0 k (by omega) (by omega) ek w
end Go.Proofs.Ytkkmjgohjaedkaa
