/- What gather makes under the function that Range hands it; Range. -/
import Derived.Test.YtopokicdgdjgkaaLies
import Derived.Test.YtopokicdgdjgkaaFacts
import Derived.Test.YtopokicdgdjgkaaRows
import Derived.RegionTactic
import Derived.Deep.RegionWith
namespace Go.Proofs.Ytopokicdgdjgkaa
open Go.ChangeShapes Go.WideShapes Go.ChangeAt Go.RowKit

theorem range1 (lo hi c : Int) (a b : Addr) (w : World) (hlo : w.cell? a = some (.int .i64 lo)) (hhi : w.cell? b = some (.int .i64 hi)) :
    Calls Try.prog 53 #[.int .i64 c, .pointer (some a), .pointer (some b)] w fun e w' => e = .returned (.bool (decide (lo ≤ c) && decide (c ≤ hi))) ∧ w = w' := by
  by_cases h1 : lo ≤ c
  · go_enter Try.func53, Try.ntmps53
    go_wp2
    go_ret
    exact ⟨ret_bool (by simp [h1]), rfl⟩
  · go_enter Try.func53, Try.ntmps53
    go_wp2
    go_ret
    exact ⟨ret_bool (by simp; omega), rfl⟩

set_option maxHeartbeats 1000000 in
set_option maxRecDepth 100000 in
theorem gather_any (lo hi : Int) (ba oa bb ob : Nat) (w : World) (hba : ba < w.heap.size) (hbb : bb < w.heap.size) (hlo : w.cell? ⟨ba, oa, none⟩ = some (.int .i64 lo)) (hhi : w.cell? ⟨bb, ob, none⟩ = some (.int .i64 hi)) :
    Calls Try.prog 52 #[.func (.func 53) #[] #[.pointer (some ⟨ba, oa, none⟩), .pointer (some ⟨bb, ob, none⟩)]] w
      fun e w' => e = .returned (.agg #[.int .u64 ((rngB lo hi 0 : Nat) : Int), .int .u64 ((rngB lo hi 1 : Nat) : Int), .int .u64 ((rngB lo hi 2 : Nat) : Int), .int .u64 ((rngB lo hi 3 : Nat) : Int)]) ∧ Below w.heap.size w w' := by
  have HLO : Hid (w.cell? ⟨ba, oa, none⟩ = some (.int .i64 lo)) := hlo
  have HHI : Hid (w.cell? ⟨bb, ob, none⟩ = some (.int .i64 hi)) := hhi
  clear hlo hhi
  go_enter Try.func52, Try.ntmps52
  go_wp2
  go_loopw [5] (fun i wr => ∃ k : Nat, k ≤ 256 ∧ i = .int .i64 k ∧ Lies wr w.heap.size zB ∧ Lies wr (w.heap.size + 1) (gat (btw lo hi) k) ∧ Below w.heap.size w wr) (fun i _ => 256 - (intOf i).toNat)
  case atStart => exact ⟨0, by omega, rfl, (Lies.new0 _ _ _ rfl).alloc _, (Lies.new0 _ _ _ (sz1 _ _)).congr fun j _ => (gat_zero _ _).symm, below2 _ _ _⟩
  case round =>
    obtain ⟨k, hk, rfl, hR, hO, hW⟩ := hrel
    by_cases hlt : k < 256
    · have hlo : wr.cell? ⟨ba, oa, none⟩ = some (.int .i64 lo) := (hW.cell (p := ⟨ba, oa, none⟩) hba).trans HLO.out
      have hhi : wr.cell? ⟨bb, ob, none⟩ = some (.int .i64 hi) := (hW.cell (p := ⟨bb, ob, none⟩) hbb).trans HHI.out
      have ho := hO.1 (k / 64) (by omega)
      have hfo := hO.2 (k / 64)
      go_wp2_with (go_at_call 53; refine (range1 lo hi _ _ _ _ hlo hhi).mono ?_; rintro e w' ⟨rfl, rfl⟩)
      · have hin : btw lo hi k = true := by
          have h2 : lo ≤ (k : Int) ∧ (k : Int) ≤ hi := by assumption
          simp [btw, h2.1, h2.2]
        have HP : Hid (bits .or .u64 ((gat (btw lo hi) k (k / 64) : Nat) : Int) (IntKind.u64.wrap (2 ^ (k % 64))) = ((gat (btw lo hi) (k + 1) (k / 64) : Nat) : Int)) := by
          show _ = _
          rw [gat_put _ _ hin]; exact bit_put _ _ (okB_gat _ _ _) (by omega)
        clear hin
        go_region
        all_goals go_wp2
        go_roundw
        case rel =>
          rw [HP.out]
          refine ⟨k + 1, by omega, by go_num, (hR.other (by simp) _).drew, ((hO.put (k / 64) _ (by omega)).congr fun j _ => ?_).drew, (hW.setCell (by simp) _).drew⟩
          unfold putB
          split
          · rename_i e; rw [e]
          · rename_i e; exact (gat_other _ _ _ e).symm
        case measure => simp [intOf]; omega
      · go_roundw
        case rel => exact ⟨k + 1, by omega, by go_num, hR, hO.congr fun j _ => (gat_same _ _ _ (by simp [btw]; omega)).symm, hW⟩
        case measure => simp [intOf]; omega
    · obtain rfl : k = 256 := by omega
      obtain ⟨⟨o0, o1, o2, o3⟩, -⟩ := hO.all
      obtain ⟨⟨r0, r1, r2, r3⟩, f0, f1, f2, f3⟩ := hR.all
      have e : gat (btw lo hi) 256 = rngB lo hi := rfl
      rw [e] at o0 o1 o2 o3
      clear e hO hR
      go_wp2
      exact bodyPost_ret (v := .agg #[.int .u64 ((rngB lo hi 0 : Nat) : Int), .int .u64 ((rngB lo hi 1 : Nat) : Int), .int .u64 ((rngB lo hi 2 : Nat) : Int), .int .u64 ((rngB lo hi 3 : Nat) : Int)])
        (by simp [results, Try.results52, go_sem, r0, r1, r2, r3]) rfl ⟨rfl, below_put4 hW (by omega) _ _ _ _⟩

theorem range_no (lo hi : Int) (w : World) (h : lo < 0 ∨ 255 < hi ∨ hi < lo) :
    Calls Try.prog 47 #[.int .i64 lo, .int .i64 hi] w fun e w' => e = .returned (.tuple #[.agg #[.int .u64 0, .int .u64 0, .int .u64 0, .int .u64 0], .int .i64 100]) ∧ Below w.heap.size w w' := by
  by_cases h1 : lo < 0
  · go_enter Try.func47, Try.ntmps47
    go_wp2
    exact bodyPost_ret (v := .tuple #[.agg #[.int .u64 0, .int .u64 0, .int .u64 0, .int .u64 0], .int .i64 100]) (by simp [results, Try.results47, go_sem]) rfl ⟨rfl, below3 _ _ _ _⟩
  · by_cases h2 : 255 < hi
    · go_enter Try.func47, Try.ntmps47
      go_wp2
      exact bodyPost_ret (v := .tuple #[.agg #[.int .u64 0, .int .u64 0, .int .u64 0, .int .u64 0], .int .i64 100]) (by simp [results, Try.results47, go_sem]) rfl ⟨rfl, below3 _ _ _ _⟩
    · have h3 : hi < lo := by omega
      go_enter Try.func47, Try.ntmps47
      go_wp2
      exact bodyPost_ret (v := .tuple #[.agg #[.int .u64 0, .int .u64 0, .int .u64 0, .int .u64 0], .int .i64 100]) (by simp [results, Try.results47, go_sem]) rfl ⟨rfl, below3 _ _ _ _⟩

theorem range_yes (lo hi : Int) (w : World) (h1 : 0 ≤ lo) (h2 : hi ≤ 255) (h3 : lo ≤ hi) :
    Calls Try.prog 47 #[.int .i64 lo, .int .i64 hi] w fun e w' => e = .returned (.tuple #[.agg #[.int .u64 ((rngB lo hi 0 : Nat) : Int), .int .u64 ((rngB lo hi 1 : Nat) : Int), .int .u64 ((rngB lo hi 2 : Nat) : Int), .int .u64 ((rngB lo hi 3 : Nat) : Int)], .int .i64 0]) ∧ Below w.heap.size w w' := by
  have hmf : ∀ (fn : Fn) (first cap : Array Value) (w : World), (Instr.makeFunc fn first cap).run Try.prog w = .ok (.func fn first cap) w := fun _ _ _ _ => rfl
  go_enter Try.func47, Try.ntmps47
  go_wp2_with fail
  refine (gather_any lo hi _ _ _ _ _ ?_ ?_ ?_ ?_).mono ?_
  · simp; omega
  · simp
  · go_simp
  · go_simp
  rintro e w1 ⟨rfl, hb1⟩
  have hR : Lies w1 (w.heap.size + 1 + 1) zB := (Lies.new0 _ _ _ (sz2 _ _ _)).keep hb1
  have hW : Below w.heap.size w w1 := (below3 _ _ _ _).trans (hb1.mono (by simp; omega))
  obtain ⟨⟨r0, r1, r2, r3⟩, f0, f1, f2, f3⟩ := hR.all
  clear hR hb1
  go_wp2
  exact bodyPost_ret (v := .tuple #[.agg #[.int .u64 ((rngB lo hi 0 : Nat) : Int), .int .u64 ((rngB lo hi 1 : Nat) : Int), .int .u64 ((rngB lo hi 2 : Nat) : Int), .int .u64 ((rngB lo hi 3 : Nat) : Int)], .int .i64 0])
    (by simp [results, Try.results47, go_sem, r0, r1, r2, r3]) rfl ⟨rfl, below_put4 hW (by omega) _ _ _ _⟩
end Go.Proofs.Ytopokicdgdjgkaa
