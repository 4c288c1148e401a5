/- The document's parser: an item that is none; a conjunct. -/
import Derived.Test.YtdlpmefdeeokhaaParM
import Derived.Deep.AppendLies
namespace Go.Proofs.Ytdlpmefdeeokhaa
set_option linter.unusedVariables false
set_option linter.unusedSimpArgs false
open Go.ChangeShapes Go.WideShapes Go.ChangeAt Go.RowKit

theorem item_fin0 {pb N tc k : Nat} {tp : Option Addr} {ts : List Tok} {w X : World} {e : TypeId} {x0 x1 x2 x3 : Value} (z : Zs pb tp N tc ts k w) {k' : Nat} (hk : k' ≤ N) (hX : Bx pb w X) (hp : X.heap[pb]? = some (.cells #[.slice tp N tc, .int .i64 (k' : Int)] 55)) (hr : X.heap[w.heap.size]? = some (.cells #[x0, x1, x2, x3] e)) (a b c d : Value) :
    Zs pb tp N tc ts k' ((((X.setCell ⟨w.heap.size, 0, none⟩ a).setCell ⟨w.heap.size, 1, none⟩ b).setCell ⟨w.heap.size, 2, none⟩ c).setCell ⟨w.heap.size, 3, none⟩ d) ∧ Bx pb w ((((X.setCell ⟨w.heap.size, 0, none⟩ a).setCell ⟨w.heap.size, 1, none⟩ b).setCell ⟨w.heap.size, 2, none⟩ c).setCell ⟨w.heap.size, 3, none⟩ d) ∧
    ((((X.setCell ⟨w.heap.size, 0, none⟩ a).setCell ⟨w.heap.size, 1, none⟩ b).setCell ⟨w.heap.size, 2, none⟩ c).setCell ⟨w.heap.size, 3, none⟩ d).heap[w.heap.size]? = some (.cells #[a, b, c, d] e) := by
  have h4 := set4 hr a b c d
  have hs : ∀ i, i ≠ w.heap.size → ((((X.setCell ⟨w.heap.size, 0, none⟩ a).setCell ⟨w.heap.size, 1, none⟩ b).setCell ⟨w.heap.size, 2, none⟩ c).setCell ⟨w.heap.size, 3, none⟩ d).heap[i]? = X.heap[i]? := fun i hi => by
    exact (Go.Deep.blk_setCell_other _ ⟨w.heap.size, 3, none⟩ _ i hi).trans ((Go.Deep.blk_setCell_other _ ⟨w.heap.size, 2, none⟩ _ i hi).trans ((Go.Deep.blk_setCell_other _ ⟨w.heap.size, 1, none⟩ _ i hi).trans (Go.Deep.blk_setCell_other _ ⟨w.heap.size, 0, none⟩ _ i hi)))
  have hz : ((((X.setCell ⟨w.heap.size, 0, none⟩ a).setCell ⟨w.heap.size, 1, none⟩ b).setCell ⟨w.heap.size, 2, none⟩ c).setCell ⟨w.heap.size, 3, none⟩ d).heap.size = X.heap.size := by simp [World.setCell]
  generalize hV : ((((X.setCell ⟨w.heap.size, 0, none⟩ a).setCell ⟨w.heap.size, 1, none⟩ b).setCell ⟨w.heap.size, 2, none⟩ c).setCell ⟨w.heap.size, 3, none⟩ d) = V at *
  have hV2 : V.os = X.os ∧ V.tape = X.tape ∧ V.output = X.output := by rw [← hV]; exact ⟨rfl, rfl, rfl⟩
  have hpl := z.lt
  have hXs := hX.size
  have hB : Bx pb w V := ⟨hV2.1.trans hX.os, hV2.2.1.trans hX.tape, hV2.2.2.trans hX.output, by omega, fun i hi hn => (hs i (by omega)).trans (hX.block i hi hn)⟩
  exact ⟨z.mk2 hB hk ((hs pb (by omega)).trans hp), hB, h4⟩
set_option maxHeartbeats 4000000 in
theorem pItem_no {pb N tc k : Nat} {tp : Option Addr} {ts : List Tok} {w : World} (z : Zs pb tp N tc ts k w) (hn : itB ts k = false) : Calls Try.prog 69 #[.pointer (some ⟨pb, 0, none⟩)] w fun e w' => e = .returned (.tuple #[.agg #[.int .i64 0, .string ⟨#[]⟩, .int .i64 0, .int .i64 0], .bool false]) ∧ Hid (Zs pb tp N tc ts k w') ∧ Hid (Bx pb w w') := by
  have HZ := hid_ofP z
  have hpl := z.lt
  have c0 : w.cell? ⟨pb, 0, none⟩ = some (.slice tp N tc) := cellP z.pz 0
  have c1 : w.cell? ⟨pb, 1, none⟩ = some (.int .i64 (k : Int)) := cellP z.pz 1
  have hk9 := z.hk
  have hM9 := z.hM
  have hk0 : (0 : Int) ≤ (k : Int) := by omega
  have X0 := heap_alloc_new w (.cells #[.int .i64 0, .string ⟨#[]⟩, .int .i64 0, .int .i64 0] 63)
  have X1 := bel1 w (.cells #[.int .i64 0, .string ⟨#[]⟩, .int .i64 0, .int .i64 0] 63)
  have HX0 := hid_ofP X0
  have HX1 := hid_ofP X1
  clear X0 X1
  cases ht : ts[k]? with
  | none =>
    obtain rfl : N = k := (z.noT ht).symm
    have hge : (N : Int) ≥ (N : Int) := by omega
    clear z ht hn
    go_enter Try.func69, Try.ntmps69
    go_wp2
    go_quiet (fail)
    go_wp2
    have X2 : Bx pb w ((w.alloc (.cells #[.int .i64 0, .string ⟨#[]⟩, .int .i64 0, .int .i64 0] 63)).drewN nq) := (Bx.of HX1.out).trans (Bx.of (drewN_below _ _))
    obtain ⟨F1, F2, F3⟩ := item_fin0 HZ.out (Nat.le_refl _) X2 ((HX1.out.block _ hpl).trans HZ.out.pz) HX0.out (.int .i64 0) (.string ⟨#[]⟩) (.int .i64 0) (.int .i64 0)
    have g0 := cellP F3 0
    have g1 := cellP F3 1
    have g2 := cellP F3 2
    have g3 := cellP F3 3
    refine bodyPost_ret (v := .tuple #[.agg #[.int .i64 0, .string ⟨#[]⟩, .int .i64 0, .int .i64 0], .bool false]) ?_ rfl ?_
    · simp [results, Try.results69, go_sem, g0, g1, g2, g3]
    · exact ⟨rfl, F1, F2⟩
  | some t =>
    obtain ⟨g, hg, hgl, hgp, t0, t1, t2, t3, t4⟩ := z.tz k t ht
    subst hg
    have hlt := z.smT ht
    have h1 : decide ((k : Int) < (N : Int)) = true := by simpa using hlt
    have hltI : (k : Int) < (N : Int) := by omega
    have hkd := itB_none hn t ht
    have b0 : ((t.kind : Int) != 0) = true := by simp; omega
    have b1 : ((t.kind : Int) != 1) = true := by simp; omega
    have b2 : ((t.kind : Int) != 2) = true := by simp; omega
    have n0 : ¬ (t.kind : Int) = 0 := by omega
    have n1 : ¬ (t.kind : Int) = 1 := by omega
    have n2 : ¬ (t.kind : Int) = 2 := by omega
    obtain ⟨tk, htk⟩ : ∃ x : Int, x = (t.kind : Int) := ⟨_, rfl⟩
    rw [← htk] at t0 b0 b1 b2 n0 n1 n2
    obtain ⟨tx, htx⟩ : ∃ x, x = t.text := ⟨_, rfl⟩
    rw [← htx] at t2
    obtain ⟨tl, htl⟩ : ∃ x, x = t.lo := ⟨_, rfl⟩
    rw [← htl] at t3
    obtain ⟨th, hth⟩ : ∃ x, x = t.hi := ⟨_, rfl⟩
    rw [← hth] at t4
    obtain ⟨tq, htq⟩ : ∃ x : Int, x = (t.pl : Int) := ⟨_, rfl⟩
    rw [← htq] at t1
    clear z ht hn hkd hlt htk htx htl hth htq
    go_enter Try.func69, Try.ntmps69
    go_wp2
    go_quiet (fail)
    go_upto_region 3 with fail
    go_region
    go_wp2
    have X2 : Bx pb w ((w.alloc (.cells #[.int .i64 0, .string ⟨#[]⟩, .int .i64 0, .int .i64 0] 63)).drewN (nq + 1)) := (Bx.of HX1.out).trans (Bx.of (drewN_below _ _))
    obtain ⟨F1, F2, F3⟩ := item_fin HZ.out HZ.out.hk X2 ((HX1.out.block _ hpl).trans HZ.out.pz) HX0.out (.int .i64 0) (.string ⟨#[]⟩) (.int .i64 0) (.int .i64 0) (.cells #[.int .i64 tk, .int .i64 tq, .string tx, .int .i64 tl, .int .i64 th] 49)
    have g0 := cellP F3 0
    have g1 := cellP F3 1
    have g2 := cellP F3 2
    have g3 := cellP F3 3
    refine bodyPost_ret (v := .tuple #[.agg #[.int .i64 0, .string ⟨#[]⟩, .int .i64 0, .int .i64 0], .bool false]) ?_ rfl ?_
    · simp [results, Try.results69, go_sem, g0, g1, g2, g3]
    · exact ⟨rfl, F1, F2⟩
end Go.Proofs.Ytdlpmefdeeokhaa
