/- What join makes of two sets under each of the three functions of words; Or, And, Minus. -/
import Derived.Test.YtopokicdgdjgkaaHas
import Derived.Test.YtopokicdgdjgkaaLies
import Derived.RegionTactic
import Derived.Deep.RegionWith
namespace Go.Proofs.Ytopokicdgdjgkaa
open Go.ChangeShapes Go.WideShapes Go.ChangeAt Go.RowKit

set_option maxHeartbeats 1000000 in
theorem join_or (a b : Nat → Nat) (w : World) (ha : okB a) (hb : okB b) :
    Calls Try.prog 48 #[.agg #[.int .u64 ((a 0 : Nat) : Int), .int .u64 ((a 1 : Nat) : Int), .int .u64 ((a 2 : Nat) : Int), .int .u64 ((a 3 : Nat) : Int)], .agg #[.int .u64 ((b 0 : Nat) : Int), .int .u64 ((b 1 : Nat) : Int), .int .u64 ((b 2 : Nat) : Int), .int .u64 ((b 3 : Nat) : Int)], .func (.func 49) #[] #[]] w
     fun e w' => e = .returned (.agg #[.int .u64 ((orB a b 0 : Nat) : Int), .int .u64 ((orB a b 1 : Nat) : Int), .int .u64 ((orB a b 2 : Nat) : Int), .int .u64 ((orB a b 3 : Nat) : Int)]) ∧ Below w.heap.size w w' := by
  go_enter Try.func48, Try.ntmps48
  go_wp2
  go_loopw [9] (fun i wr => ∃ k : Nat, k ≤ 4 ∧ i = .int .i64 k ∧ Lies wr w.heap.size a ∧ Lies wr (w.heap.size + 1) b ∧ Lies wr (w.heap.size + 1 + 1) zB ∧
     Lies wr (w.heap.size + 1 + 1 + 1) (upTo (orB a b) zB k) ∧ Below w.heap.size w wr) (fun i _ => 4 - (intOf i).toNat)
  case atStart =>
    exact ⟨0, by omega, rfl, (((Lies.new _ _ _ _ rfl).alloc _).alloc _).alloc _, ((Lies.new _ _ _ _ (sz1 _ _)).alloc _).alloc _, (Lies.new0 _ _ _ (sz2 _ _ _)).alloc _, (Lies.new0 _ _ _ (sz3 _ _ _ _)).congr fun j _ => by simp [upTo], below4 _ _ _ _ _⟩
  case round =>
    obtain ⟨k, hk, rfl, hA, hB, hR, hO, hW⟩ := hrel
    by_cases hlt : k < 4
    · have hak := hA.1 k hlt
      have hbk := hB.1 k hlt
      have hok := hO.1 k hlt
      have hfo := hO.2 k
      have HB : Hid (bits .or .u64 ((a k : Nat) : Int) ((b k : Nat) : Int) = ((orB a b k : Nat) : Int)) := bits_or_w a b ha hb k
      go_wp2
      go_region_with (go_at_call 49; refine (or1 _ _ _).mono ?_; rintro e w' ⟨rfl, rfl⟩)
      all_goals
        go_wp2
        go_roundw
        case rel =>
          rw [HB.out]
          refine ⟨k + 1, by omega, by go_num, (hA.other (by simp; omega) _).drew, (hB.other (by simp; omega) _).drew, (hR.other (by simp) _).drew, ((hO.put k _ hlt).congr fun j _ => upTo_step _ _ _ _).drew, (hW.setCell (by simp; omega) _).drew⟩
        case measure => simp [intOf]; omega
    · obtain rfl : k = 4 := by omega
      have hO' : Lies wr (w.heap.size + 1 + 1 + 1) (orB a b) := hO.congr fun j hj => by simp [upTo, hj]
      obtain ⟨⟨o0, o1, o2, o3⟩, -⟩ := hO'.all
      obtain ⟨⟨r0, r1, r2, r3⟩, f0, f1, f2, f3⟩ := hR.all
      clear hO hO' hA hB hR
      go_wp2
      exact bodyPost_ret (v := .agg #[.int .u64 ((orB a b 0 : Nat) : Int), .int .u64 ((orB a b 1 : Nat) : Int), .int .u64 ((orB a b 2 : Nat) : Int), .int .u64 ((orB a b 3 : Nat) : Int)])
        (by simp [results, Try.results48, go_sem, r0, r1, r2, r3]) rfl ⟨rfl, below_put4 hW (by omega) _ _ _ _⟩
theorem or_any (a b : Nat → Nat) (w : World) (ha : okB a) (hb : okB b) :
    Calls Try.prog 37 #[.agg #[.int .u64 ((a 0 : Nat) : Int), .int .u64 ((a 1 : Nat) : Int), .int .u64 ((a 2 : Nat) : Int), .int .u64 ((a 3 : Nat) : Int)], .agg #[.int .u64 ((b 0 : Nat) : Int), .int .u64 ((b 1 : Nat) : Int), .int .u64 ((b 2 : Nat) : Int), .int .u64 ((b 3 : Nat) : Int)]] w
     fun e w' => e = .returned (.agg #[.int .u64 ((orB a b 0 : Nat) : Int), .int .u64 ((orB a b 1 : Nat) : Int), .int .u64 ((orB a b 2 : Nat) : Int), .int .u64 ((orB a b 3 : Nat) : Int)]) ∧ Below w.heap.size w w' := by
  go_enter Try.func37, Try.ntmps37
  go_wp2_with fail
  refine (join_or a b _ ha hb).mono ?_
  rintro e w1 ⟨rfl, hb1⟩
  have hR : Lies w1 (w.heap.size + 1 + 1) zB := (Lies.new0 _ _ _ (sz2 _ _ _)).keep hb1
  have hW : Below w.heap.size w w1 := (below3 _ _ _ _).trans (hb1.mono (by simp; omega))
  obtain ⟨⟨r0, r1, r2, r3⟩, f0, f1, f2, f3⟩ := hR.all
  clear hR hb1
  go_wp2
  exact bodyPost_ret (v := .agg #[.int .u64 ((orB a b 0 : Nat) : Int), .int .u64 ((orB a b 1 : Nat) : Int), .int .u64 ((orB a b 2 : Nat) : Int), .int .u64 ((orB a b 3 : Nat) : Int)])
    (by simp [results, Try.results37, go_sem, r0, r1, r2, r3]) rfl ⟨rfl, below_put4 hW (by omega) _ _ _ _⟩
end Go.Proofs.Ytopokicdgdjgkaa
