/- Bin of a grammar that may not be. -/
import Derived.Test.YtgpklcpmabafmaaDoorBinB
namespace Go.Proofs.YtgpklcpmabafmaaDoor
set_option linter.unusedVariables false
set_option linter.unusedSimpArgs false
open Go.ChangeShapes Go.WideShapes Go.ChangeAt Go.RowKit

set_option maxHeartbeats 4000000 in
set_option maxRecDepth 100000 in
theorem bin_no (g : Gr) (v1 v2 : Value) (w : World) {F0 : Nat → Prop} (hg : GrIs w F0 v1 v2 g) (hn : ∀ s, s ∈ g.names → s.size ≤ maxLen) (hS : Short g.rules) (hM : mayG g = false) :
    Calls Tryd.prog 7 #[.agg #[.int .i64 g.start, v1, v2]] w fun e w' => e = .returned (.tuple #[.agg #[.int .i64 0, .slice none 0 0, .slice none 0 0], .int .i64 1400]) ∧ Hid (Below w.heap.size w w') := by
  obtain ⟨V0, hV0⟩ : ∃ V, V = w.alloc (.cells #[.int .i64 g.start, v1, v2] 27) := ⟨_, rfl⟩
  obtain ⟨V1, hV1⟩ : ∃ V, V = V0.alloc (.cells #[.int .i64 0, .slice none 0 0, .slice none 0 0] 27) := ⟨_, rfl⟩
  obtain ⟨gb, hgb⟩ : ∃ b, b = w.heap.size := ⟨_, rfl⟩
  obtain ⟨ob, hob⟩ : ∃ b, b = w.heap.size + 1 := ⟨_, rfl⟩
  have s0 : V0.heap.size = w.heap.size + 1 := by rw [hV0]; simp
  have b0 : Below w.heap.size w V0 := by rw [hV0]; exact bel1 _ _
  have b1 : Below V0.heap.size V0 V1 := by rw [hV1]; exact bel1 _ _
  have hV : Below w.heap.size w V1 := b0.trans (b1.mono b0.size)
  have kg : V1.heap[gb]? = some (.cells #[.int .i64 g.start, v1, v2] 27) := (b1.block gb (by omega)).trans (by rw [hV0, hgb]; exact heap_alloc_new _ _)
  have ko : V1.heap[ob]? = some (.cells #[.int .i64 0, .slice none 0 0, .slice none 0 0] 27) := by rw [hob, ← s0, hV1]; exact heap_alloc_new _ _
  have KM := may_any g v1 v2 V1 (hg.any hV) hn hS
  rw [hM] at KM
  have HKO : Hid (V1.heap[ob]? = some (.cells #[.int .i64 0, .slice none 0 0, .slice none 0 0] 27)) := ko
  have HV : Hid (Below w.heap.size w V1) := hV
  have HOB : Hid (w.heap.size ≤ ob) := by show _ ≤ _; omega
  obtain ⟨p1, c1, e1, -⟩ := hg.1
  obtain ⟨p2, c2, e2⟩ := lngRB hg.2
  subst e1 e2
  have g0 : V1.cell? ⟨gb, 0, none⟩ = some (.int .i64 g.start) := Lib.cell_of_heap kg 0
  have g1 : V1.cell? ⟨gb, 1, none⟩ = some (.slice p1 g.names.length c1) := Lib.cell_of_heap kg 1
  have g2 : V1.cell? ⟨gb, 2, none⟩ = some (.slice p2 g.rules.length c2) := Lib.cell_of_heap kg 2
  have zg : gb < V1.heap.size := block_lt kg
  clear kg ko hV b0 b1 hg hM
  go_enter Tryd.func7, Tryd.ntmps7
  go_upto_region 1 with fail
  rw [← hV0, ← hV1, ← hob, ← hgb]
  clear hV0 hV1 hgb hob s0
  go_upto_region 2 with (go_at_call 13; refine KM.mono ?_; rintro e wm ⟨rfl, bm⟩)
  have HOM : wm.heap[ob]? = some (.cells #[.int .i64 0, .slice none 0 0, .slice none 0 0] 27) := (bm.block ob (block_lt HKO.out)).trans HKO.out
  have HBM : Hid (Below w.heap.size w ((wm.setCell ⟨ob, 0, none⟩ (.int .i64 0)).setCell ⟨ob, 1, none⟩ (.slice none 0 0) |>.setCell ⟨ob, 2, none⟩ (.slice none 0 0))) := (((HV.out.trans (bm.mono HV.out.size)).setCell (p := ⟨ob, 0, none⟩) HOB.out _).setCell (p := ⟨ob, 1, none⟩) HOB.out _).setCell (p := ⟨ob, 2, none⟩) HOB.out _
  have o0 : wm.cell? ⟨ob, 0, none⟩ = some (.int .i64 0) := Lib.cell_of_heap HOM 0
  have o1 : wm.cell? ⟨ob, 1, none⟩ = some (.slice none 0 0) := Lib.cell_of_heap HOM 1
  have o2 : wm.cell? ⟨ob, 2, none⟩ = some (.slice none 0 0) := Lib.cell_of_heap HOM 2
  have zf : ∀ k, wm.frozen? ⟨ob, k, none⟩ = false := fun k => by unfold World.frozen?; rw [HOM]; simp
  have z0 := zf 0
  have z1 := zf 1
  have z2 := zf 2
  have zo : ob < wm.heap.size := block_lt HOM
  clear g0 g1 g2 zg zf HOM bm KM
  go_wp2
  (try simp only [Exit.inBlock, Exit.then])
  refine bodyPost_ret (v := .tuple #[.agg #[.int .i64 0, .slice none 0 0, .slice none 0 0], .int .i64 1400]) ?_ rfl ⟨rfl, HBM⟩
  rw [results_cell_tmpB rfl]
  go_simp
end Go.Proofs.YtgpklcpmabafmaaDoor
