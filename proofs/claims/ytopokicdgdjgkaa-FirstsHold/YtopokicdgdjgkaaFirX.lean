/- Empty, First, Follow (package first). -/
import Derived.Test.YtopokicdgdjgkaaFirW
import Derived.Test.YtopokicdgdjgkaaGh
namespace Go.Proofs.Ytopokicdgdjgkaa
set_option linter.unusedVariables false
set_option linter.unusedSimpArgs false
open Go.ChangeShapes Go.WideShapes Go.ChangeAt Go.RowKit

/-- What First knows. -/
structure FstOk (g : Gr) (E : Nat → Bool) (B : Nat → Nat → Nat) : Prop where
  eo : EmpOk g.rules E
  ok : ∀ k, okB (B k)
  cl : ClosB g.rules E B
  le : LeastB g.rules E B
theorem begin_all (g : Gr) (v1 v2 : Value) (w : World) {F : Nat → Prop} (hg : GrIs w F v1 v2 g) (hM : mayG g = true) :
    Calls Try.prog 22 #[.agg #[.int .i64 g.start, v1, v2]] w fun e w' => ∃ eb bb E B, e = .returned (.agg #[.slice (some ⟨eb, 0, none⟩) g.names.length g.names.length, .slice (some ⟨bb, 0, none⟩) g.names.length g.names.length]) ∧ w.heap.size ≤ eb ∧ w.heap.size ≤ bb ∧ Hid (BlAt w' eb g.names.length E) ∧ Hid (ByAt w' bb g.names.length B) ∧ Hid (FstOk g E B) ∧ Hid (Below w.heap.size w w') := by
  refine (begin_any g v1 v2 w hg hM (fun E B => LeastB g.rules E B) (fun E => leastB_zero _ _) (fun E B r c hr hc _ h => leastB_tr h hr hc)).mono ?_
  rintro e w' ⟨eb, bb, E, B, h1, h2, h3, h4, h5, h6, h7, h8, h9, h10⟩
  exact ⟨eb, bb, E, B, h1, h2, h3, h4, h5, ⟨h7.out, h6.out, still_closB h8.out, h9.out⟩, h10⟩
set_option maxHeartbeats 4000000 in
set_option maxRecDepth 100000 in
theorem empty_no (g : Gr) (v1 v2 : Value) (w : World) {F0 : Nat → Prop} (hg : GrIs w F0 v1 v2 g) (hn : ∀ s, s ∈ g.names → s.size ≤ maxLen) (hS : Short g.rules) (hM : mayG g = false) :
    Calls Try.prog 11 #[.agg #[.int .i64 g.start, v1, v2]] w fun e w' => e = .returned (.tuple #[.slice none 0 0, .int .i64 1200]) ∧ Hid (Below w.heap.size w w') := by
  obtain ⟨V0, hV0⟩ : ∃ V, V = w.alloc (.cells #[.int .i64 g.start, v1, v2] 27) := ⟨_, rfl⟩
  obtain ⟨gb, hgb⟩ : ∃ b, b = w.heap.size := ⟨_, rfl⟩
  have b0 : Below w.heap.size w V0 := by rw [hV0]; exact bel1 _ _
  have kg : V0.heap[gb]? = some (.cells #[.int .i64 g.start, v1, v2] 27) := by rw [hV0, hgb]; exact heap_alloc_new _ _
  have KM := may_any g v1 v2 V0 (hg.any b0) hn hS
  rw [hM] at KM
  have HB0 : Hid (Below w.heap.size w V0) := b0
  obtain ⟨p1, c1, e1, -⟩ := hg.1
  obtain ⟨p2, c2, e2⟩ := lngRF hg.2
  subst e1 e2
  have g0 : V0.cell? ⟨gb, 0, none⟩ = some (.int .i64 g.start) := Lib.cell_of_heap kg 0
  have g1 : V0.cell? ⟨gb, 1, none⟩ = some (.slice p1 g.names.length c1) := Lib.cell_of_heap kg 1
  have g2 : V0.cell? ⟨gb, 2, none⟩ = some (.slice p2 g.rules.length c2) := Lib.cell_of_heap kg 2
  have zg : gb < V0.heap.size := block_lt kg
  clear kg b0 hg hM
  go_enter Try.func11, Try.ntmps11
  go_upto_region 1 with fail
  rw [← hV0, ← hgb]
  clear hV0 hgb
  go_wp2_with (go_at_call 20; refine KM.mono ?_; rintro e wm ⟨rfl, bm⟩; have BM : Hid (Below w.heap.size w wm) := HB0.out.trans (bm.mono HB0.out.size); clear bm KM)
  refine bodyPost_ret (v := .tuple #[.slice none 0 0, .int .i64 1200]) ?_ rfl ⟨rfl, BM⟩
  exact results_tmp2 (t := 2) (u := 3) rfl _ _ _
set_option maxHeartbeats 4000000 in
set_option maxRecDepth 100000 in
theorem fst_no (g : Gr) (v1 v2 : Value) (w : World) {F0 : Nat → Prop} (hg : GrIs w F0 v1 v2 g) (hn : ∀ s, s ∈ g.names → s.size ≤ maxLen) (hS : Short g.rules) (hM : mayG g = false) :
    Calls Try.prog 12 #[.agg #[.int .i64 g.start, v1, v2]] w fun e w' => e = .returned (.tuple #[.slice none 0 0, .int .i64 1200]) ∧ Hid (Below w.heap.size w w') := by
  obtain ⟨V0, hV0⟩ : ∃ V, V = w.alloc (.cells #[.int .i64 g.start, v1, v2] 27) := ⟨_, rfl⟩
  obtain ⟨gb, hgb⟩ : ∃ b, b = w.heap.size := ⟨_, rfl⟩
  have b0 : Below w.heap.size w V0 := by rw [hV0]; exact bel1 _ _
  have kg : V0.heap[gb]? = some (.cells #[.int .i64 g.start, v1, v2] 27) := by rw [hV0, hgb]; exact heap_alloc_new _ _
  have KM := may_any g v1 v2 V0 (hg.any b0) hn hS
  rw [hM] at KM
  have HB0 : Hid (Below w.heap.size w V0) := b0
  obtain ⟨p1, c1, e1, -⟩ := hg.1
  obtain ⟨p2, c2, e2⟩ := lngRF hg.2
  subst e1 e2
  have g0 : V0.cell? ⟨gb, 0, none⟩ = some (.int .i64 g.start) := Lib.cell_of_heap kg 0
  have g1 : V0.cell? ⟨gb, 1, none⟩ = some (.slice p1 g.names.length c1) := Lib.cell_of_heap kg 1
  have g2 : V0.cell? ⟨gb, 2, none⟩ = some (.slice p2 g.rules.length c2) := Lib.cell_of_heap kg 2
  have zg : gb < V0.heap.size := block_lt kg
  clear kg b0 hg hM
  go_enter Try.func12, Try.ntmps12
  go_upto_region 1 with fail
  rw [← hV0, ← hgb]
  clear hV0 hgb
  go_wp2_with (go_at_call 20; refine KM.mono ?_; rintro e wm ⟨rfl, bm⟩; have BM : Hid (Below w.heap.size w wm) := HB0.out.trans (bm.mono HB0.out.size); clear bm KM)
  refine bodyPost_ret (v := .tuple #[.slice none 0 0, .int .i64 1200]) ?_ rfl ⟨rfl, BM⟩
  exact results_tmp2 (t := 2) (u := 3) rfl _ _ _
set_option maxHeartbeats 4000000 in
set_option maxRecDepth 100000 in
theorem follow_no (g : Gr) (v1 v2 : Value) (w : World) {F0 : Nat → Prop} (hg : GrIs w F0 v1 v2 g) (hn : ∀ s, s ∈ g.names → s.size ≤ maxLen) (hS : Short g.rules) (hM : mayG g = false) :
    Calls Try.prog 13 #[.agg #[.int .i64 g.start, v1, v2]] w fun e w' => e = .returned (.tuple #[.slice none 0 0, .int .i64 1200]) ∧ Hid (Below w.heap.size w w') := by
  obtain ⟨V0, hV0⟩ : ∃ V, V = w.alloc (.cells #[.int .i64 g.start, v1, v2] 27) := ⟨_, rfl⟩
  obtain ⟨gb, hgb⟩ : ∃ b, b = w.heap.size := ⟨_, rfl⟩
  have b0 : Below w.heap.size w V0 := by rw [hV0]; exact bel1 _ _
  have kg : V0.heap[gb]? = some (.cells #[.int .i64 g.start, v1, v2] 27) := by rw [hV0, hgb]; exact heap_alloc_new _ _
  have KM := may_any g v1 v2 V0 (hg.any b0) hn hS
  rw [hM] at KM
  have HB0 : Hid (Below w.heap.size w V0) := b0
  obtain ⟨p1, c1, e1, -⟩ := hg.1
  obtain ⟨p2, c2, e2⟩ := lngRF hg.2
  subst e1 e2
  have g0 : V0.cell? ⟨gb, 0, none⟩ = some (.int .i64 g.start) := Lib.cell_of_heap kg 0
  have g1 : V0.cell? ⟨gb, 1, none⟩ = some (.slice p1 g.names.length c1) := Lib.cell_of_heap kg 1
  have g2 : V0.cell? ⟨gb, 2, none⟩ = some (.slice p2 g.rules.length c2) := Lib.cell_of_heap kg 2
  have zg : gb < V0.heap.size := block_lt kg
  clear kg b0 hg hM
  go_enter Try.func13, Try.ntmps13
  go_upto_region 1 with fail
  rw [← hV0, ← hgb]
  clear hV0 hgb
  go_wp2_with (go_at_call 20; refine KM.mono ?_; rintro e wm ⟨rfl, bm⟩; have BM : Hid (Below w.heap.size w wm) := HB0.out.trans (bm.mono HB0.out.size); clear bm KM)
  refine bodyPost_ret (v := .tuple #[.slice none 0 0, .int .i64 1200]) ?_ rfl ⟨rfl, BM⟩
  exact results_tmp2 (t := 2) (u := 3) rfl _ _ _
set_option maxHeartbeats 4000000 in
set_option maxRecDepth 100000 in
theorem empty_ok (g : Gr) (v1 v2 : Value) (w : World) {F0 : Nat → Prop} (hg : GrIs w F0 v1 v2 g) (hn : ∀ s, s ∈ g.names → s.size ≤ maxLen) (hS : Short g.rules) (hM : mayG g = true) :
    Calls Try.prog 11 #[.agg #[.int .i64 g.start, v1, v2]] w fun e w' => ∃ eb E, e = .returned (.tuple #[.slice (some ⟨eb, 0, none⟩) g.names.length g.names.length, .int .i64 0]) ∧ w.heap.size ≤ eb ∧ Hid (BlAt w' eb g.names.length E) ∧ Hid (EmpOk g.rules E) ∧ Hid (Below w.heap.size w w') := by
  obtain ⟨V0, hV0⟩ : ∃ V, V = w.alloc (.cells #[.int .i64 g.start, v1, v2] 27) := ⟨_, rfl⟩
  obtain ⟨gb, hgb⟩ : ∃ b, b = w.heap.size := ⟨_, rfl⟩
  have b0 : Below w.heap.size w V0 := by rw [hV0]; exact bel1 _ _
  have kg : V0.heap[gb]? = some (.cells #[.int .i64 g.start, v1, v2] 27) := by rw [hV0, hgb]; exact heap_alloc_new _ _
  have KM := may_any g v1 v2 V0 (hg.any b0) hn hS
  rw [hM] at KM
  have HB0 : Hid (Below w.heap.size w V0) := b0
  obtain ⟨p1, c1, e1, -⟩ := hg.1
  obtain ⟨p2, c2, e2⟩ := lngRF hg.2
  have HKE : Hid (∀ V, Below V0.heap.size V0 V → Calls Try.prog 21 #[.agg #[.int .i64 g.start, v1, v2]] V fun e w' => ∃ b E, e = .returned (.slice (some ⟨b, 0, none⟩) g.names.length g.names.length) ∧ V.heap.size ≤ b ∧ Hid (BlAt w' b g.names.length E) ∧ Hid (EmpOk g.rules E) ∧ Hid (Below V.heap.size V w')) := fun V hb => empties_any g v1 v2 V ((hg.any b0).any hb) hM
  obtain ⟨n, hn2⟩ : ∃ n, n = g.names.length := ⟨_, rfl⟩
  rw [← hn2] at e1 ⊢
  have HN : Hid (n = g.names.length) := hn2
  subst e1 e2
  have HG : Hid (∀ V, Below V0.heap.size V0 V → V.cell? ⟨gb, 0, none⟩ = some (.int .i64 g.start) ∧ V.cell? ⟨gb, 1, none⟩ = some (.slice p1 n c1) ∧ V.cell? ⟨gb, 2, none⟩ = some (.slice p2 g.rules.length c2)) := fun V hb => by
    have h := (hb.block gb (block_lt kg)).trans kg
    exact ⟨Lib.cell_of_heap h 0, Lib.cell_of_heap h 1, Lib.cell_of_heap h 2⟩
  obtain ⟨g0, g1, g2⟩ := HG.out V0 (Below.refl _ _)
  have zg : gb < V0.heap.size := block_lt kg
  clear kg b0 hg hM hn2
  go_enter Try.func11, Try.ntmps11
  go_upto_region 1 with fail
  rw [← hV0, ← hgb]
  clear hV0 hgb
  go_wp2_with first
    | (go_at_call 20; refine KM.mono ?_; rintro e wm ⟨rfl, bm⟩; obtain ⟨m0, m1, m2⟩ := HG.out wm bm; have KE := HKE.out wm bm; have BM : Hid (Below w.heap.size w wm) := HB0.out.trans (bm.mono HB0.out.size); clear bm KM g0 g1 g2)
    | (go_at_call 21; refine KE.mono ?_; rintro e w3 ⟨b, E, rfl, h1, h2, h3, h4⟩; rw [← HN.out] at h2 ⊢)
  obtain ⟨hb0, hbm⟩ := (⟨BM.out, h4.out⟩ : _ ∧ _)
  refine bodyPost_ret (v := .tuple #[.slice (some ⟨b, 0, none⟩) n n, .int .i64 0]) (results_tmp2 (t := 2) (u := 3) rfl _ _ _) rfl ?_
  exact ⟨b, E, rfl, Nat.le_trans hb0.size h1, h2, h3, hb0.trans (hbm.mono hb0.size)⟩
set_option maxHeartbeats 4000000 in
set_option maxRecDepth 100000 in
theorem fst_ok (g : Gr) (v1 v2 : Value) (w : World) {F0 : Nat → Prop} (hg : GrIs w F0 v1 v2 g) (hn : ∀ s, s ∈ g.names → s.size ≤ maxLen) (hS : Short g.rules) (hM : mayG g = true) :
    Calls Try.prog 12 #[.agg #[.int .i64 g.start, v1, v2]] w fun e w' => ∃ bb E B, e = .returned (.tuple #[.slice (some ⟨bb, 0, none⟩) g.names.length g.names.length, .int .i64 0]) ∧ w.heap.size ≤ bb ∧ Hid (ByAt w' bb g.names.length B) ∧ Hid (FstOk g E B) ∧ Hid (Below w.heap.size w w') := by
  obtain ⟨V0, hV0⟩ : ∃ V, V = w.alloc (.cells #[.int .i64 g.start, v1, v2] 27) := ⟨_, rfl⟩
  obtain ⟨gb, hgb⟩ : ∃ b, b = w.heap.size := ⟨_, rfl⟩
  have b0 : Below w.heap.size w V0 := by rw [hV0]; exact bel1 _ _
  have kg : V0.heap[gb]? = some (.cells #[.int .i64 g.start, v1, v2] 27) := by rw [hV0, hgb]; exact heap_alloc_new _ _
  have KM := may_any g v1 v2 V0 (hg.any b0) hn hS
  rw [hM] at KM
  have HB0 : Hid (Below w.heap.size w V0) := b0
  obtain ⟨p1, c1, e1, -⟩ := hg.1
  obtain ⟨p2, c2, e2⟩ := lngRF hg.2
  have HKE : Hid (∀ V, Below V0.heap.size V0 V → Calls Try.prog 22 #[.agg #[.int .i64 g.start, v1, v2]] V fun e w' => ∃ eb bb E B, e = .returned (.agg #[.slice (some ⟨eb, 0, none⟩) g.names.length g.names.length, .slice (some ⟨bb, 0, none⟩) g.names.length g.names.length]) ∧ V.heap.size ≤ eb ∧ V.heap.size ≤ bb ∧ Hid (BlAt w' eb g.names.length E) ∧ Hid (ByAt w' bb g.names.length B) ∧ Hid (FstOk g E B) ∧ Hid (Below V.heap.size V w')) := fun V hb => begin_all g v1 v2 V ((hg.any b0).any hb) hM
  obtain ⟨n, hn2⟩ : ∃ n, n = g.names.length := ⟨_, rfl⟩
  rw [← hn2] at e1 ⊢
  have HN : Hid (n = g.names.length) := hn2
  subst e1 e2
  have HG : Hid (∀ V, Below V0.heap.size V0 V → V.cell? ⟨gb, 0, none⟩ = some (.int .i64 g.start) ∧ V.cell? ⟨gb, 1, none⟩ = some (.slice p1 n c1) ∧ V.cell? ⟨gb, 2, none⟩ = some (.slice p2 g.rules.length c2)) := fun V hb => by
    have h := (hb.block gb (block_lt kg)).trans kg
    exact ⟨Lib.cell_of_heap h 0, Lib.cell_of_heap h 1, Lib.cell_of_heap h 2⟩
  obtain ⟨g0, g1, g2⟩ := HG.out V0 (Below.refl _ _)
  have zg : gb < V0.heap.size := block_lt kg
  clear kg b0 hg hM hn2
  have hfd : ∀ (a b : Value) (w : World), (Instr.field 67 (.agg #[a, b]) 1).run Try.prog w = .ok b w := fun a b w => by rfl
  go_enter Try.func12, Try.ntmps12
  go_upto_region 1 with fail
  rw [← hV0, ← hgb]
  clear hV0 hgb
  go_wp2_with first
    | (go_at_call 20; refine KM.mono ?_; rintro e wm ⟨rfl, bm⟩; obtain ⟨m0, m1, m2⟩ := HG.out wm bm; have KE := HKE.out wm bm; have BM : Hid (Below w.heap.size w wm) := HB0.out.trans (bm.mono HB0.out.size); clear bm KM g0 g1 g2)
    | (go_at_call 22; refine KE.mono ?_; rintro e w3 ⟨eb, b, E, B, rfl, h0, h1, h2a, h2, h3, h4⟩; rw [← HN.out] at h2 ⊢)
  obtain ⟨hb0, hbm⟩ := (⟨BM.out, h4.out⟩ : _ ∧ _)
  refine bodyPost_ret (v := .tuple #[.slice (some ⟨b, 0, none⟩) n n, .int .i64 0]) (results_tmp2 (t := 2) (u := 3) rfl _ _ _) rfl ?_
  exact ⟨b, E, B, rfl, Nat.le_trans hb0.size h1, h2, h3, hb0.trans (hbm.mono hb0.size)⟩
set_option maxHeartbeats 4000000 in
set_option maxRecDepth 100000 in
theorem follow_ok (g : Gr) (v1 v2 : Value) (w : World) {F0 : Nat → Prop} (hg : GrIs w F0 v1 v2 g) (hn : ∀ s, s ∈ g.names → s.size ≤ maxLen) (hS : Short g.rules) (hM : mayG g = true) :
    Calls Try.prog 13 #[.agg #[.int .i64 g.start, v1, v2]] w fun e w' => ∃ fb E B D, e = .returned (.tuple #[.slice (some ⟨fb, 0, none⟩) g.names.length g.names.length, .int .i64 0]) ∧ w.heap.size ≤ fb ∧ Hid (FoAt w' fb g.names.length D) ∧ Hid (FstOk g E B) ∧ Hid (okF D ∧ ClosF g E B D ∧ LeastF g E B D) ∧ Hid (Below w.heap.size w w') := by
  obtain ⟨V0, hV0⟩ : ∃ V, V = w.alloc (.cells #[.int .i64 g.start, v1, v2] 27) := ⟨_, rfl⟩
  obtain ⟨gb, hgb⟩ : ∃ b, b = w.heap.size := ⟨_, rfl⟩
  have b0 : Below w.heap.size w V0 := by rw [hV0]; exact bel1 _ _
  have kg : V0.heap[gb]? = some (.cells #[.int .i64 g.start, v1, v2] 27) := by rw [hV0, hgb]; exact heap_alloc_new _ _
  have KM := may_any g v1 v2 V0 (hg.any b0) hn hS
  rw [hM] at KM
  have HB0 : Hid (Below w.heap.size w V0) := b0
  obtain ⟨p1, c1, e1, -⟩ := hg.1
  obtain ⟨p2, c2, e2⟩ := lngRF hg.2
  have HKE : Hid (∀ V, Below V0.heap.size V0 V → Calls Try.prog 22 #[.agg #[.int .i64 g.start, v1, v2]] V fun e w' => ∃ eb bb E B, e = .returned (.agg #[.slice (some ⟨eb, 0, none⟩) g.names.length g.names.length, .slice (some ⟨bb, 0, none⟩) g.names.length g.names.length]) ∧ V.heap.size ≤ eb ∧ V.heap.size ≤ bb ∧ Hid (BlAt w' eb g.names.length E) ∧ Hid (ByAt w' bb g.names.length B) ∧ Hid (FstOk g E B) ∧ Hid (Below V.heap.size V w')) := fun V hb => begin_all g v1 v2 V ((hg.any b0).any hb) hM
  have HKF : Hid (∀ V, Below V0.heap.size V0 V → ∀ E B eb bb, BlAt V eb g.names.length E → ByAt V bb g.names.length B → (∀ k, okB (B k)) → Calls Try.prog 23 #[.agg #[.int .i64 g.start, v1, v2], .agg #[.slice (some ⟨eb, 0, none⟩) g.names.length g.names.length, .slice (some ⟨bb, 0, none⟩) g.names.length g.names.length]] V fun e w' => ∃ fb D, e = .returned (.slice (some ⟨fb, 0, none⟩) g.names.length g.names.length) ∧ V.heap.size ≤ fb ∧ Hid (FoAt w' fb g.names.length D) ∧ Hid (okF D) ∧ Hid (ClosF g E B D) ∧ Hid (LeastF g E B D) ∧ Hid (Below V.heap.size V w')) := fun V hb E B eb bb hE hB ok => follows_any g v1 v2 V ((hg.any b0).any hb) hM E B eb bb hE hB ok
  obtain ⟨n, hn2⟩ : ∃ n, n = g.names.length := ⟨_, rfl⟩
  rw [← hn2] at e1 ⊢
  have HN : Hid (n = g.names.length) := hn2
  subst e1 e2
  have HG : Hid (∀ V, Below V0.heap.size V0 V → V.cell? ⟨gb, 0, none⟩ = some (.int .i64 g.start) ∧ V.cell? ⟨gb, 1, none⟩ = some (.slice p1 n c1) ∧ V.cell? ⟨gb, 2, none⟩ = some (.slice p2 g.rules.length c2)) := fun V hb => by
    have h := (hb.block gb (block_lt kg)).trans kg
    exact ⟨Lib.cell_of_heap h 0, Lib.cell_of_heap h 1, Lib.cell_of_heap h 2⟩
  obtain ⟨g0, g1, g2⟩ := HG.out V0 (Below.refl _ _)
  have zg : gb < V0.heap.size := block_lt kg
  clear kg b0 hg hM hn2
  go_enter Try.func13, Try.ntmps13
  go_upto_region 1 with fail
  rw [← hV0, ← hgb]
  clear hV0 hgb
  go_upto_region 3 with (go_at_call 20; refine KM.mono ?_; rintro e wm ⟨rfl, bm⟩)
  have HBM : Hid (Below V0.heap.size V0 wm) := bm
  have HSS : Hid (∀ V, Below wm.heap.size wm V → Below wm.heap.size wm V ∧ V.cell? ⟨gb, 0, none⟩ = some (.int .i64 g.start) ∧ V.cell? ⟨gb, 1, none⟩ = some (.slice p1 n c1) ∧ V.cell? ⟨gb, 2, none⟩ = some (.slice p2 g.rules.length c2)) := fun V h => ⟨h, HG.out V (bm.trans (h.mono bm.size))⟩
  obtain ⟨-, m0, m1, m2⟩ := HSS.out wm (Below.refl _ _)
  clear bm KM g0 g1 g2 zg
  refine wp_region_noPanic ?_
  refine wp_region_held_drew (S := fun V => Below wm.heap.size wm V ∧ V.cell? ⟨gb, 0, none⟩ = some (.int .i64 g.start) ∧ V.cell? ⟨gb, 1, none⟩ = some (.slice p1 n c1) ∧ V.cell? ⟨gb, 2, none⟩ = some (.slice p2 g.rules.length c2)) (by kernel_rfl) (HSS.out _ (Below.refl _ _).drew) (fun hHeld => ?_)
  clear m0 m1 m2
  refine wpAnyH_take (i := 0) (oi := _) (v := ?_) rfl (by kernel_rfl) (by kernel_rfl) (by kernel_rfl) (fun _ _ _ h => h) (Or.inl ⟨by rfl, ?_⟩) (by assumption) ?_
  rotate_left
  · intro w' hSw; (try dsimp only at hSw); go_simp; (try with_reducible rfl)
  simp only [Act.put, List.setIfInBounds_toArray, List.set_cons_zero, List.set_cons_succ]
  refine wpAnyH_take (i := 1) (oi := _) (v := ?_) rfl (by kernel_rfl) (by kernel_rfl) (by kernel_rfl) (fun _ _ _ h => h) (Or.inl ⟨by rfl, ?_⟩) (by assumption) ?_
  rotate_left
  · intro w' hSw; (try dsimp only at hSw); go_simp; (try with_reducible rfl)
  simp only [Act.put, List.setIfInBounds_toArray, List.set_cons_zero, List.set_cons_succ]
  refine wpAnyH_ready (rs := [2]) (by kernel_rfl) (by simp) ?_
  refine AllReadyH.cons rfl (fun K hK => ?_) ?_
  · go_simp
    refine (HKE.out _ (HBM.out.trans ((Below.refl _ _).drew.mono HBM.out.size))).mono ?_
    rintro e w3 ⟨eb, bb, E, B, rfl, h0, h1, h2a, h2, h3, h4⟩
    have HB3 : Hid (Below wm.heap.size wm w3) := (Below.refl _ _).drew.trans h4.out
    refine hK.out _ _ (HSS.out _ HB3.out) (fun hHeld => ?_)
    clear hK K
    have KF := HKF.out w3 (HBM.out.trans (HB3.out.mono HBM.out.size)) E B eb bb h2a.out h2.out h3.out.ok
    rw [← HN.out] at KF ⊢
    clear h4 h2 h2a h0 h1
    refine wpAnyH_ready (rs := [3]) (by kernel_rfl) (by simp) ?_
    refine AllReadyH.cons rfl (fun K hK => ?_) ?_
    · go_simp
      refine KF.mono ?_
      rintro e w4 ⟨fb, D, rfl, f1, f2, f3, f4, f5, f6⟩
      have HB4 : Hid (Below wm.heap.size wm w4) := HB3.out.trans (f6.out.mono HB3.out.size)
      refine hK.out _ _ (HSS.out _ HB4.out) (fun hHeld => ?_)
      clear hK K
      refine wpAnyH_ready (rs := [4]) (by kernel_rfl) (by simp) ?_
      refine AllReadyH.cons rfl (fun K hK => ?_) ?_
      · go_simp
        refine hK.out _ _ (HSS.out _ HB4.out) (fun hHeld => ?_)
        clear hK K
        refine wpAnyH_ready (rs := [5]) (by kernel_rfl) (by simp) ?_
        refine AllReadyH.cons rfl (fun K hK => ?_) ?_
        · go_simp
          refine hK.out _ _ (HSS.out _ HB4.out) (fun hHeld => ?_)
          clear hK K
          refine wpAnyH_done (by kernel_rfl) ?_ _
          refine NoPanic.normal ?_
          have hW : Below w.heap.size w w4 := HB0.out.trans ((HBM.out.mono HB0.out.size).trans (HB4.out.mono (Nat.le_trans HB0.out.size HBM.out.size)))
          have HW : Hid (Below w.heap.size w w4) := hW
          have HFB : Hid (w.heap.size ≤ fb) := Nat.le_trans (Nat.le_trans HB0.out.size (Nat.le_trans HBM.out.size HB3.out.size)) f1
          clear hW hHeld
          go_wp2
          refine bodyPost_ret (v := .tuple #[.slice (some ⟨fb, 0, none⟩) n n, .int .i64 0]) (results_tmp2 (t := 2) (u := 3) rfl _ _ _) rfl ?_
          exact ⟨fb, E, B, D, rfl, HFB.out, f2, h3, ⟨f3.out, f4.out, f5.out⟩, HW⟩
        exact AllReadyH.nil
      exact AllReadyH.nil
    exact AllReadyH.nil
  exact AllReadyH.nil
end Go.Proofs.Ytopokicdgdjgkaa
