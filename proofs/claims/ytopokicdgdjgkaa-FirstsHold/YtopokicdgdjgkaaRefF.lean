/- What the document's own Mix, Range, Ranges do. -/
import Derived.Test.YtopokicdgdjgkaaRef
import Derived.Test.YtopokicdgdjgkaaButF
import Derived.Test.YtopokicdgdjgkaaRunFacts
namespace Go.Proofs.Ytopokicdgdjgkaa
open Go.ChangeShapes Go.WideShapes Go.ChangeAt Go.RowKit

set_option maxHeartbeats 1000000 in
theorem rmix_or (a b : Nat → Nat) (w : World) (ha : okB a) (hb : okB b) :
    Calls Try.prog 10 #[.int .i64 0, .agg #[.int .u64 ((a 0 : Nat) : Int), .int .u64 ((a 1 : Nat) : Int), .int .u64 ((a 2 : Nat) : Int), .int .u64 ((a 3 : Nat) : Int)], .agg #[.int .u64 ((b 0 : Nat) : Int), .int .u64 ((b 1 : Nat) : Int), .int .u64 ((b 2 : Nat) : Int), .int .u64 ((b 3 : Nat) : Int)]] w
     fun e w' => e = .returned (.agg #[.int .u64 ((orB a b 0 : Nat) : Int), .int .u64 ((orB a b 1 : Nat) : Int), .int .u64 ((orB a b 2 : Nat) : Int), .int .u64 ((orB a b 3 : Nat) : Int)]) ∧ Below w.heap.size w w' := by
  go_enter Try.func10, Try.ntmps10
  go_wp2
  go_loopw [7] (fun i wr => ∃ k : Nat, k ≤ 4 ∧ i = .int .i64 k ∧ Lies wr w.heap.size (upTo (orB a b) a k) ∧ Lies wr (w.heap.size + 1) b ∧ Lies wr (w.heap.size + 1 + 1) zB ∧ Below w.heap.size w wr) (fun i _ => 4 - (intOf i).toNat)
  case atStart => exact ⟨0, by omega, rfl, (((Lies.new _ _ _ _ rfl).alloc _).alloc _).congr fun j _ => by simp [upTo], (Lies.new _ _ _ _ (sz1 _ _)).alloc _, Lies.new0 _ _ _ (sz2 _ _ _), below3 _ _ _ _⟩
  case round =>
    obtain ⟨k, hk, rfl, hA, hB, hR, hW⟩ := hrel
    by_cases hlt : k < 4
    · have hak := hA.1 k hlt
      rw [show upTo (orB a b) a k k = a k by simp [upTo]] at hak
      have hbk := hB.1 k hlt
      have hfo := hA.2 k
      have HB : Hid (bits .or .u64 ((a k : Nat) : Int) ((b k : Nat) : Int) = ((orB a b k : Nat) : Int)) := bits_or_w a b ha hb k
      go_wp2
      go_region
      all_goals
        go_wp2
        go_roundw
        case rel =>
          rw [HB.out]
          exact ⟨k + 1, by omega, by go_num, ((hA.put k _ hlt).congr fun j _ => upTo_step _ _ _ _).drew, (hB.other (by simp) _).drew, (hR.other (by simp; omega) _).drew, (hW.setCell (by simp) _).drew⟩
        case measure => simp [intOf]; omega
    · obtain rfl : k = 4 := by omega
      have hO' : Lies wr w.heap.size (orB a b) := hA.congr fun j hj => by simp [upTo, hj]
      obtain ⟨⟨o0, o1, o2, o3⟩, -⟩ := hO'.all
      obtain ⟨⟨r0, r1, r2, r3⟩, f0, f1, f2, f3⟩ := hR.all
      clear hO' hA hB hR
      go_wp2
      exact bodyPost_ret (v := .agg #[.int .u64 ((orB a b 0 : Nat) : Int), .int .u64 ((orB a b 1 : Nat) : Int), .int .u64 ((orB a b 2 : Nat) : Int), .int .u64 ((orB a b 3 : Nat) : Int)])
        (by simp [results, Try.results10, go_sem, r0, r1, r2, r3]) rfl ⟨rfl, below_put4 hW (by omega) _ _ _ _⟩

set_option maxHeartbeats 1000000 in
theorem rmix_and (a b : Nat → Nat) (w : World) (ha : okB a) (hb : okB b) :
    Calls Try.prog 10 #[.int .i64 1, .agg #[.int .u64 ((a 0 : Nat) : Int), .int .u64 ((a 1 : Nat) : Int), .int .u64 ((a 2 : Nat) : Int), .int .u64 ((a 3 : Nat) : Int)], .agg #[.int .u64 ((b 0 : Nat) : Int), .int .u64 ((b 1 : Nat) : Int), .int .u64 ((b 2 : Nat) : Int), .int .u64 ((b 3 : Nat) : Int)]] w
     fun e w' => e = .returned (.agg #[.int .u64 ((andB a b 0 : Nat) : Int), .int .u64 ((andB a b 1 : Nat) : Int), .int .u64 ((andB a b 2 : Nat) : Int), .int .u64 ((andB a b 3 : Nat) : Int)]) ∧ Below w.heap.size w w' := by
  go_enter Try.func10, Try.ntmps10
  go_wp2
  go_loopw [7] (fun i wr => ∃ k : Nat, k ≤ 4 ∧ i = .int .i64 k ∧ Lies wr w.heap.size (upTo (andB a b) a k) ∧ Lies wr (w.heap.size + 1) b ∧ Lies wr (w.heap.size + 1 + 1) zB ∧ Below w.heap.size w wr) (fun i _ => 4 - (intOf i).toNat)
  case atStart => exact ⟨0, by omega, rfl, (((Lies.new _ _ _ _ rfl).alloc _).alloc _).congr fun j _ => by simp [upTo], (Lies.new _ _ _ _ (sz1 _ _)).alloc _, Lies.new0 _ _ _ (sz2 _ _ _), below3 _ _ _ _⟩
  case round =>
    obtain ⟨k, hk, rfl, hA, hB, hR, hW⟩ := hrel
    by_cases hlt : k < 4
    · have hak := hA.1 k hlt
      rw [show upTo (andB a b) a k k = a k by simp [upTo]] at hak
      have hbk := hB.1 k hlt
      have hfo := hA.2 k
      have HB : Hid (bits .and .u64 ((a k : Nat) : Int) ((b k : Nat) : Int) = ((andB a b k : Nat) : Int)) := bits_and_w a b ha hb k
      go_wp2
      go_region
      all_goals
        go_wp2
        go_roundw
        case rel =>
          rw [HB.out]
          exact ⟨k + 1, by omega, by go_num, ((hA.put k _ hlt).congr fun j _ => upTo_step _ _ _ _).drew, (hB.other (by simp) _).drew, (hR.other (by simp; omega) _).drew, (hW.setCell (by simp) _).drew⟩
        case measure => simp [intOf]; omega
    · obtain rfl : k = 4 := by omega
      have hO' : Lies wr w.heap.size (andB a b) := hA.congr fun j hj => by simp [upTo, hj]
      obtain ⟨⟨o0, o1, o2, o3⟩, -⟩ := hO'.all
      obtain ⟨⟨r0, r1, r2, r3⟩, f0, f1, f2, f3⟩ := hR.all
      clear hO' hA hB hR
      go_wp2
      exact bodyPost_ret (v := .agg #[.int .u64 ((andB a b 0 : Nat) : Int), .int .u64 ((andB a b 1 : Nat) : Int), .int .u64 ((andB a b 2 : Nat) : Int), .int .u64 ((andB a b 3 : Nat) : Int)])
        (by simp [results, Try.results10, go_sem, r0, r1, r2, r3]) rfl ⟨rfl, below_put4 hW (by omega) _ _ _ _⟩

set_option maxHeartbeats 1000000 in
theorem rmix_min (a b : Nat → Nat) (w : World) (ha : okB a) (hb : okB b) :
    Calls Try.prog 10 #[.int .i64 2, .agg #[.int .u64 ((a 0 : Nat) : Int), .int .u64 ((a 1 : Nat) : Int), .int .u64 ((a 2 : Nat) : Int), .int .u64 ((a 3 : Nat) : Int)], .agg #[.int .u64 ((b 0 : Nat) : Int), .int .u64 ((b 1 : Nat) : Int), .int .u64 ((b 2 : Nat) : Int), .int .u64 ((b 3 : Nat) : Int)]] w
     fun e w' => e = .returned (.agg #[.int .u64 ((minB a b 0 : Nat) : Int), .int .u64 ((minB a b 1 : Nat) : Int), .int .u64 ((minB a b 2 : Nat) : Int), .int .u64 ((minB a b 3 : Nat) : Int)]) ∧ Below w.heap.size w w' := by
  go_enter Try.func10, Try.ntmps10
  go_wp2
  go_loopw [7] (fun i wr => ∃ k : Nat, k ≤ 4 ∧ i = .int .i64 k ∧ Lies wr w.heap.size (upTo (minB a b) a k) ∧ Lies wr (w.heap.size + 1) b ∧ Lies wr (w.heap.size + 1 + 1) zB ∧ Below w.heap.size w wr) (fun i _ => 4 - (intOf i).toNat)
  case atStart => exact ⟨0, by omega, rfl, (((Lies.new _ _ _ _ rfl).alloc _).alloc _).congr fun j _ => by simp [upTo], (Lies.new _ _ _ _ (sz1 _ _)).alloc _, Lies.new0 _ _ _ (sz2 _ _ _), below3 _ _ _ _⟩
  case round =>
    obtain ⟨k, hk, rfl, hA, hB, hR, hW⟩ := hrel
    by_cases hlt : k < 4
    · have hak := hA.1 k hlt
      rw [show upTo (minB a b) a k k = a k by simp [upTo]] at hak
      have hbk := hB.1 k hlt
      have hfo := hA.2 k
      have HB : Hid (bits .andNot .u64 ((a k : Nat) : Int) ((b k : Nat) : Int) = ((minB a b k : Nat) : Int)) := bits_min_w a b ha hb k
      go_wp2
      go_region
      all_goals
        go_wp2
        go_roundw
        case rel =>
          rw [HB.out]
          exact ⟨k + 1, by omega, by go_num, ((hA.put k _ hlt).congr fun j _ => upTo_step _ _ _ _).drew, (hB.other (by simp) _).drew, (hR.other (by simp; omega) _).drew, (hW.setCell (by simp) _).drew⟩
        case measure => simp [intOf]; omega
    · obtain rfl : k = 4 := by omega
      have hO' : Lies wr w.heap.size (minB a b) := hA.congr fun j hj => by simp [upTo, hj]
      obtain ⟨⟨o0, o1, o2, o3⟩, -⟩ := hO'.all
      obtain ⟨⟨r0, r1, r2, r3⟩, f0, f1, f2, f3⟩ := hR.all
      clear hO' hA hB hR
      go_wp2
      exact bodyPost_ret (v := .agg #[.int .u64 ((minB a b 0 : Nat) : Int), .int .u64 ((minB a b 1 : Nat) : Int), .int .u64 ((minB a b 2 : Nat) : Int), .int .u64 ((minB a b 3 : Nat) : Int)])
        (by simp [results, Try.results10, go_sem, r0, r1, r2, r3]) rfl ⟨rfl, below_put4 hW (by omega) _ _ _ _⟩

theorem gat_low (a b : Nat) (i : Nat) : gat (btw (a : Int) (b : Int)) a i = 0 := by
  apply Nat.eq_of_testBit_eq
  intro j
  unfold gat
  rw [testBit_mkw]
  have : (btw (a : Int) (b : Int) (64 * i + j) && decide (64 * i + j < a)) = false := by
    rw [Bool.eq_false_iff]; simp only [ne_eq, Bool.and_eq_true, btw_iff, decide_eq_true_eq]; omega
  rw [this]; simp
theorem gat_high (a b : Nat) (hb : b < 256) (i : Nat) : gat (btw (a : Int) (b : Int)) (b + 1) i = rngB a b i := by
  apply Nat.eq_of_testBit_eq
  intro j
  unfold rngB gat
  rw [testBit_mkw, testBit_mkw]
  have : (btw (a : Int) (b : Int) (64 * i + j) && decide (64 * i + j < b + 1)) = (btw (a : Int) (b : Int) (64 * i + j) && decide (64 * i + j < 256)) := by
    rw [Bool.eq_iff_iff]; simp only [Bool.and_eq_true, btw_iff, decide_eq_true_eq]; omega
  rw [this]

theorem rrange_no (lo hi : Int) (w : World) (h : lo < 0 ∨ 255 < hi ∨ hi < lo) :
    Calls Try.prog 9 #[.int .i64 lo, .int .i64 hi] w fun e w' => e = .returned (.tuple #[.agg #[.int .u64 0, .int .u64 0, .int .u64 0, .int .u64 0], .int .i64 100]) ∧ Below w.heap.size w w' := by
  by_cases h1 : lo < 0
  · go_enter Try.func9, Try.ntmps9
    go_wp2
    exact bodyPost_ret (v := .tuple #[.agg #[.int .u64 0, .int .u64 0, .int .u64 0, .int .u64 0], .int .i64 100]) (by simp [results, Try.results9, go_sem]) rfl ⟨rfl, below2 _ _ _⟩
  · by_cases h2 : 255 < hi
    · go_enter Try.func9, Try.ntmps9
      go_wp2
      exact bodyPost_ret (v := .tuple #[.agg #[.int .u64 0, .int .u64 0, .int .u64 0, .int .u64 0], .int .i64 100]) (by simp [results, Try.results9, go_sem]) rfl ⟨rfl, below2 _ _ _⟩
    · have h3 : hi < lo := by omega
      go_enter Try.func9, Try.ntmps9
      go_wp2
      exact bodyPost_ret (v := .tuple #[.agg #[.int .u64 0, .int .u64 0, .int .u64 0, .int .u64 0], .int .i64 100]) (by simp [results, Try.results9, go_sem]) rfl ⟨rfl, below2 _ _ _⟩

set_option maxHeartbeats 1000000 in
set_option maxRecDepth 100000 in
theorem rrange_yes (a b : Nat) (w : World) (hb : b < 256) (hab : a ≤ b) :
    Calls Try.prog 9 #[.int .i64 (a : Int), .int .i64 (b : Int)] w fun e w' => e = .returned (.tuple #[.agg #[.int .u64 ((rngB (a : Int) (b : Int) 0 : Nat) : Int), .int .u64 ((rngB (a : Int) (b : Int) 1 : Nat) : Int), .int .u64 ((rngB (a : Int) (b : Int) 2 : Nat) : Int), .int .u64 ((rngB (a : Int) (b : Int) 3 : Nat) : Int)], .int .i64 0]) ∧ Below w.heap.size w w' := by
  have h1 : ¬ (b : Int) < (a : Int) := by omega
  go_enter Try.func9, Try.ntmps9
  go_wp2
  go_loopw [7] (fun i wr => ∃ k : Nat, a ≤ k ∧ k ≤ b + 1 ∧ i = .int .i64 k ∧ Lies wr w.heap.size zB ∧ Lies wr (w.heap.size + 1) (gat (btw a b) k) ∧ Below w.heap.size w wr) (fun i _ => b + 1 - (intOf i).toNat)
  case atStart => exact ⟨a, by omega, by omega, rfl, (Lies.new0 _ _ _ rfl).alloc _, (Lies.new0 _ _ _ (sz1 _ _)).congr fun j _ => (gat_low a b j).symm, below2 _ _ _⟩
  case round =>
    obtain ⟨k, hk0, hk, rfl, hR, hO, hW⟩ := hrel
    by_cases hlt : k ≤ b
    · have ho := hO.1 (k / 64) (by omega)
      have hfo := hO.2 (k / 64)
      have HP : Hid (bits .or .u64 ((gat (btw a b) k (k / 64) : Nat) : Int) (IntKind.u64.wrap (2 ^ (k % 64))) = ((gat (btw a b) (k + 1) (k / 64) : Nat) : Int)) := by
        show _ = _
        rw [gat_put _ _ ((btw_iff a b k).2 ⟨hk0, hlt⟩)]; exact bit_put _ _ (okB_gat _ _ _) (by omega)
      go_wp2
      go_region
      all_goals go_wp2
      go_roundw
      case rel =>
        rw [HP.out]
        refine ⟨k + 1, by omega, by omega, by go_num, (hR.other (by simp) _).drew, ((hO.put (k / 64) _ (by omega)).congr fun j _ => ?_).drew, (hW.setCell (by simp) _).drew⟩
        unfold putB
        split
        · rename_i e; rw [e]
        · rename_i e; exact (gat_other _ _ _ e).symm
      case measure => simp [intOf]; omega
    · obtain rfl : k = b + 1 := by omega
      have hO' : Lies wr (w.heap.size + 1) (rngB a b) := hO.congr fun j _ => gat_high a b hb j
      obtain ⟨⟨o0, o1, o2, o3⟩, -⟩ := hO'.all
      obtain ⟨⟨r0, r1, r2, r3⟩, f0, f1, f2, f3⟩ := hR.all
      clear hO hO' hR
      go_wp2
      exact bodyPost_ret (v := .tuple #[.agg #[.int .u64 ((rngB (a : Int) (b : Int) 0 : Nat) : Int), .int .u64 ((rngB (a : Int) (b : Int) 1 : Nat) : Int), .int .u64 ((rngB (a : Int) (b : Int) 2 : Nat) : Int), .int .u64 ((rngB (a : Int) (b : Int) 3 : Nat) : Int)], .int .i64 0])
        (by simp [results, Try.results9, go_sem, r0, r1, r2, r3]) rfl ⟨rfl, below_put4 hW (by omega) _ _ _ _⟩
end Go.Proofs.Ytopokicdgdjgkaa
