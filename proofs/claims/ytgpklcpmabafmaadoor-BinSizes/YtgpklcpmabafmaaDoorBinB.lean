/- Bin, whole. -/
import Derived.Test.YtgpklcpmabafmaaDoorBinG
import Derived.Test.YtgpklcpmabafmaaDoorGramMayG
namespace Go.Proofs.YtgpklcpmabafmaaDoor
set_option linter.unusedVariables false
set_option linter.unusedSimpArgs false
open Go.ChangeShapes Go.WideShapes Go.ChangeAt Go.RowKit

theorem RusIn.oneB {w : World} {F : Nat → Prop} {L : List Ru} {us : List Value} (h : RusIn w F L us) : ∀ u ∈ us, u.oneCell' = true := fun u hu => by
  obtain ⟨k, hk⟩ := List.getElem?_of_mem hu
  have hl := (List.getElem?_eq_some_iff.1 hk).1
  obtain ⟨c, hc⟩ : ∃ c, L[k]? = some c := ⟨_, List.getElem?_eq_getElem (by rw [← h.1]; exact hl)⟩
  obtain ⟨vs, ⟨p, cp, e, -⟩, -⟩ := h.2 k c u hc hk
  rw [e]; rfl
theorem lngRB {w : World} {F : Nat → Prop} {v : Value} {l : List Ru} (h : IsRus w F v l) : ∃ p c, v = .slice p l.length c := by
  obtain ⟨us, ⟨p, c, e, -⟩, -⟩ := h
  exact ⟨p, c, e⟩
/-- Two rows of rules in one, and where they lie. -/
theorem Mk0.joinF {W w w1 w2 : World} {F F' : Nat → Prop} {L L' : List Ru} {us us' : List Value} {o o' : Value} (m : Mk0 W F L us o w) (m' : Mk0 w1 F' L' us' o' w2) (h1 : Below w.heap.size w w1) (hl : L.length + L'.length ≤ 100000) :
    ∃ p c w3, (Builtin.append_ #[25, 25] 25 #[o, o']).run Tryd.prog w2 = .ok (.slice p (L.length + L'.length) c) w3 ∧ IsRus w3 (fun b => F b ∨ F' b ∨ (Value.slice p (L.length + L'.length) c).ownBlock = some b) (.slice p (L.length + L'.length) c) (L ++ L') ∧ w3.ownsRow W.heap.size 35 2 (.slice p (L.length + L'.length) c) (L.length + L'.length) (rusV L us ++ rusV L' us') ∧ w2.grownBy w3 o.ownBlock := by
  obtain ⟨i, hi, hz, hsz, hby⟩ := info_parts Tryd.infoRuB
  have hw2 : Below w.heap.size w w2 := h1.trans (m'.bl.mono h1.size)
  have m2 := m.keep hw2
  obtain ⟨v', w3, hr, ho, hg⟩ := run_append_reads (P := Tryd.prog) (w := w2) W.heap.size 25 25 35 i _ 2 32 Tryd.underlying25 hi hz hsz hby rfl (by omega) o L.length (rusV L us) m2.oo o' L'.length (rusV L' us') (Reads.of m'.oo (F := Any) (fun _ _ => trivial)) (rusV_lenB _ _ m'.ri.1) (rusV_oneB _ _ (RusIn.oneB m'.ri)) (by unfold maxLen; omega) (by omega) m2.bl.size
  obtain ⟨p, c, e⟩ := row_slice ho
  subst e
  refine ⟨p, c, w3, hr, ⟨us ++ us', ?_, ?_⟩, ho, hg⟩
  · rw [List.length_append, rusV_app _ _ _ _ m.ri.1]
    exact Reads.of ho (fun b hb => Or.inr (Or.inr hb))
  · have hkeep : ∀ b, (F b ∨ F' b) → w3.heap[b]? = w2.heap[b]? := fun b hb => by
      rcases hb with hb | hb
      · exact hg.block b (m2.fl b hb).2 (fun e => m2.no b e.symm hb)
      · have h9 := m'.fl b hb
        refine hg.block b h9.2 (fun e => ?_)
        have := (m.oo.lt b e.symm).2
        have := h1.size
        omega
    refine ⟨by rw [List.length_append, List.length_append, m.ri.1, m'.ri.1], fun k c u hc hu => ?_⟩
    by_cases hk : k < L.length
    · rw [List.getElem?_append_left hk] at hc
      rw [List.getElem?_append_left (by rw [m.ri.1]; exact hk)] at hu
      exact (m2.ri.2 k c u hc hu).keep ⟨hg.size, fun b hb => hkeep b (Or.inl hb)⟩ (fun b hb => Or.inl hb)
    · rw [List.getElem?_append_right (by omega)] at hc
      rw [List.getElem?_append_right (by rw [m.ri.1]; omega), m.ri.1] at hu
      exact (m'.ri.2 _ c u hc hu).keep ⟨hg.size, fun b hb => hkeep b (Or.inr hb)⟩ (fun b hb => Or.inr (Or.inl hb))
theorem results_cell_tmpB {fn : Func} {p q : Tmp} {ty : TypeId} (h : fn.results = #[.cell p ty, .tmp q]) (tmps : Array Value) (P : Program) (w : World) :
    (results fn tmps).run P w = ((asAddr (tmps.getD p undef)).run P w).andThen fun a w₁ => ((loadVar ty a).run P w₁).andThen fun v w₂ => .ok (.tuple #[v, tmps.getD q undef]) w₂ := by
  simp only [results, h]
  simp [Sem.run_bind, Result.andThen]
theorem sx_alloc {gb qb : Nat} {a b c : Value} {w : World} (h : w.cell? ⟨gb, 0, none⟩ = some a ∧ w.cell? ⟨gb, 1, none⟩ = some b ∧ w.cell? ⟨qb, 1, none⟩ = some c) (o : Obj) : (w.alloc o).cell? ⟨gb, 0, none⟩ = some a ∧ (w.alloc o).cell? ⟨gb, 1, none⟩ = some b ∧ (w.alloc o).cell? ⟨qb, 1, none⟩ = some c :=
  ⟨(World.cell?_alloc_past _ _ _ (cell_lt h.1)).trans h.1, (World.cell?_alloc_past _ _ _ (cell_lt h.2.1)).trans h.2.1, (World.cell?_alloc_past _ _ _ (cell_lt h.2.2)).trans h.2.2⟩
theorem sx_set {gb qb tb : Nat} {a b c : Value} {w : World} (h : w.cell? ⟨gb, 0, none⟩ = some a ∧ w.cell? ⟨gb, 1, none⟩ = some b ∧ w.cell? ⟨qb, 1, none⟩ = some c) (h1 : gb ≠ tb) (h2 : qb ≠ tb) (k : Nat) (x : Value) : (w.setCell ⟨tb, k, none⟩ x).cell? ⟨gb, 0, none⟩ = some a ∧ (w.setCell ⟨tb, k, none⟩ x).cell? ⟨gb, 1, none⟩ = some b ∧ (w.setCell ⟨tb, k, none⟩ x).cell? ⟨qb, 1, none⟩ = some c :=
  ⟨(World.cell?_of_block (a := ⟨gb, 0, none⟩) (Go.Deep.blk_setCell_other w ⟨tb, k, none⟩ x gb h1)).trans h.1, (World.cell?_of_block (a := ⟨gb, 1, none⟩) (Go.Deep.blk_setCell_other w ⟨tb, k, none⟩ x gb h1)).trans h.2.1, (World.cell?_of_block (a := ⟨qb, 1, none⟩) (Go.Deep.blk_setCell_other w ⟨tb, k, none⟩ x qb h2)).trans h.2.2⟩
theorem sx_set3 {gb qb : Nat} {a b c : Value} {w : World} (tb : Nat) (h : w.cell? ⟨gb, 0, none⟩ = some a ∧ w.cell? ⟨gb, 1, none⟩ = some b ∧ w.cell? ⟨qb, 1, none⟩ = some c) (h1 : gb ≠ tb) (h2 : qb ≠ tb) (x y z : Value) : (((w.setCell ⟨tb, 0, none⟩ x).setCell ⟨tb, 1, none⟩ y).setCell ⟨tb, 2, none⟩ z).cell? ⟨gb, 0, none⟩ = some a ∧ (((w.setCell ⟨tb, 0, none⟩ x).setCell ⟨tb, 1, none⟩ y).setCell ⟨tb, 2, none⟩ z).cell? ⟨gb, 1, none⟩ = some b ∧ (((w.setCell ⟨tb, 0, none⟩ x).setCell ⟨tb, 1, none⟩ y).setCell ⟨tb, 2, none⟩ z).cell? ⟨qb, 1, none⟩ = some c :=
  sx_set (sx_set (sx_set h h1 h2 0 x) h1 h2 1 y) h1 h2 2 z
/-- The new grammar's block, its names and its rules. -/
structure FinW (wa : World) (tb : Nat) (arr : Array Value) (v1 v2 : Value) (ns : List ByteArray) (L : List Ru) (w : World) : Prop where
  hb : Below wa.heap.size wa w
  ht : w.heap[tb]? = some (.cells arr 27)
  hn : w.ownsRow wa.heap.size 9 1 v1 ns.length (txV ns)
  hr : IsRus w (fun b => b ≠ tb ∧ wa.heap.size ≤ b) v2 L
  ha : wa.heap.size ≤ tb
theorem FinW.set {wa w : World} {tb : Nat} {arr : Array Value} {v1 v2 : Value} {ns : List ByteArray} {L : List Ru} (h : FinW wa tb arr v1 v2 ns L w) (k : Nat) (x : Value) : FinW wa tb (arr.setIfInBounds k x) v1 v2 ns L (w.setCell ⟨tb, k, none⟩ x) :=
  ⟨h.hb.setCell (p := ⟨tb, k, none⟩) h.ha _, heap_setCell_same w tb k _ _ _ h.ht, ownsRow_setCell_other (a := ⟨tb, k, none⟩) h.hn (row_no h.hn (by decide) h.ht) _, h.hr.keep ⟨by simp [World.setCell], fun b hb => Go.Deep.blk_setCell_other w ⟨tb, k, none⟩ _ b hb.1⟩ (fun _ hb => hb), h.ha⟩
theorem FinW.new {wa w : World} {arr : Array Value} {v1 v2 : Value} {ns : List ByteArray} {L : List Ru} {G : Nat → Prop} (hb : Below wa.heap.size wa w) (hn : w.ownsRow wa.heap.size 9 1 v1 ns.length (txV ns)) (hr : IsRus w G v2 L) (hG : ∀ b, G b → wa.heap.size ≤ b) : FinW wa w.heap.size arr v1 v2 ns L (w.alloc (.cells arr 27)) :=
  ⟨hb.alloc hb.size _, heap_alloc_new _ _, hn.alloc _, (hr.monoV (F' := fun b => b < w.heap.size ∧ wa.heap.size ≤ b) (fun b h1 h => ⟨h, hG b h1⟩)).keep ⟨by simp, fun b h => heap_alloc_old _ h.1⟩ (fun b h => ⟨by omega, h.2⟩), hb.size⟩
theorem mayG_namesB {g : Gr} (h : mayG g = true) : g.names.length ≤ 64 := by
  unfold mayG mayNames at h
  simp only [Bool.and_eq_true, decide_eq_true_eq] at h
  omega
set_option maxHeartbeats 16000000 in
set_option maxRecDepth 100000 in
theorem bin_ok (D : Nat → ByteArray) (hDs : ∀ k, k < 100 → (D k).size ≤ 20) (hDi : ∀ a b, a < 100 → b < 100 → nmD D a = nmD D b → a = b) (KI0 : ∀ (k : Nat) (w : World), k < 100 → Calls Tryd.prog 28 #[.int .i64 (k : Int)] w fun e w' => e = .returned (.string (D k)) ∧ w' = w)
    (g : Gr) (v1 v2 : Value) (w : World) {F0 : Nat → Prop} (hg : GrIs w F0 v1 v2 g) (hn : ∀ s, s ∈ g.names → s.size ≤ maxLen) (hM : mayG g = true) (h99 : g.names.length + (rowsR g.rules).length ≤ 99) :
    Calls Tryd.prog 7 #[.agg #[.int .i64 g.start, v1, v2]] w fun e w' => ∃ m z st u1 u2, e = .returned (.tuple #[.agg #[.int .i64 st, u1, u2], .int .i64 z]) ∧ Hid ((freshT D g.names m).length = (rowsR g.rules).length) ∧ Hid ((z = 0 ∧ st = g.start ∧ mayG (binG D g m) = true ∧ GrIs w' Any u1 u2 (binG D g m)) ∨ (z = 1401 ∧ mayG (binG D g m) = false ∧ st = 0 ∧ u1 = .slice none 0 0 ∧ u2 = .slice none 0 0)) ∧ Hid (Below w.heap.size w w') := by
  have hp := mayG_plIn hM
  have HZ : Hid (BinZ g.rules ∧ ∀ r, r ∈ rowsR g.rules → r.length ≤ 64) := binZ_of hM
  have hS : Short g.rules := fun r hr c hc => by have := (hp.2 r hr).2 c hc; omega
  have KM := (show Hid _ from fun (w' : World) (hb : Below w.heap.size w w') => may_any g v1 v2 w' (hg.any hb) hn hS)
  have HG : Hid (∀ w', Below w.heap.size w w' → GrIs w' Any v1 v2 g) := fun w' hb => ⟨Reads.mono (Reads.any hg.1 hb) (fun _ _ _ => trivial), (hg.2.any hb).monoV (fun _ _ _ => trivial)⟩
  have HNS := (show Hid _ from hn)
  have KL := (show Hid _ from fun (ns : List ByteArray) (more : Nat) (v : Value) (w' : World) (hs : IsTexts w' Any v ns) (h : ns.length + more ≤ 99) => lengthen_any D hDs hDi KI0 ns more v w' hs h)
  obtain ⟨st, hst⟩ : ∃ st, st = g.start := ⟨_, rfl⟩
  have HST : Hid (st = g.start) := hst
  obtain ⟨n, hnl⟩ : ∃ n, n = g.names.length := ⟨_, rfl⟩
  have HN : Hid (n = g.names.length) := hnl
  obtain ⟨rl, hrl⟩ : ∃ rl, rl = g.rules.length := ⟨_, rfl⟩
  have HRL : Hid (rl = g.rules.length) := hrl
  obtain ⟨R, hR⟩ : ∃ R, R = (rowsR g.rules).length := ⟨_, rfl⟩
  have HR : Hid (R = (rowsR g.rules).length) := hR
  have hMM : Hid (mayG g = true) := hM
  obtain ⟨p1, c1, e1, -⟩ := hg.1
  obtain ⟨p2, c2, e2⟩ := lngRB hg.2
  rw [← hnl] at e1
  rw [← hrl] at e2
  rw [← hnl, ← hR] at h99
  subst e1 e2
  rw [← hst]
  rw [← hst, hM] at KM
  have HDS : Hid (∀ k, k < 100 → (D k).size ≤ 20) := hDs
  have hn64 : n ≤ 64 := by rw [hnl]; exact mayG_namesB hM
  clear hg hn hM hS hp hst hnl hrl hR hDs hDi KI0
  have b0 : Below w.heap.size w ((w.alloc (.cells #[.int .i64 st, .slice p1 n c1, .slice p2 rl c2] 27)).alloc (.cells #[.int .i64 0, .slice none 0 0, .slice none 0 0] 27)) := (bel1 _ _).alloc (by simp) _
  obtain ⟨V0, hV0⟩ : ∃ V, V = w.alloc (.cells #[.int .i64 st, .slice p1 n c1, .slice p2 rl c2] 27) := ⟨_, rfl⟩
  obtain ⟨V1, hV1⟩ : ∃ V, V = V0.alloc (.cells #[.int .i64 0, .slice none 0 0, .slice none 0 0] 27) := ⟨_, rfl⟩
  obtain ⟨gb, hgb⟩ : ∃ b, b = w.heap.size := ⟨_, rfl⟩
  obtain ⟨ob, hob⟩ : ∃ b, b = w.heap.size + 1 := ⟨_, rfl⟩
  have s0 : V0.heap.size = w.heap.size + 1 := by rw [hV0]; simp
  have b1 : Below V0.heap.size V0 V1 := by rw [hV1]; exact bel1 _ _
  have kg : V1.heap[gb]? = some (.cells #[.int .i64 st, .slice p1 n c1, .slice p2 rl c2] 27) := (b1.block gb (by omega)).trans (by rw [hV0, hgb]; exact heap_alloc_new _ _)
  have ko : V1.heap[ob]? = some (.cells #[.int .i64 0, .slice none 0 0, .slice none 0 0] 27) := by rw [hob, ← s0, hV1]; exact heap_alloc_new _ _
  rw [← hV0, ← hV1] at b0
  have HV1 : Hid (Below w.heap.size w V1) := b0
  have HKG : Hid (V1.heap[gb]? = some (.cells #[.int .i64 st, .slice p1 n c1, .slice p2 rl c2] 27)) := kg
  have HKO : Hid (V1.heap[ob]? = some (.cells #[.int .i64 0, .slice none 0 0, .slice none 0 0] 27)) := ko
  have HOB : Hid (w.heap.size ≤ ob) := by show _ ≤ _; omega
  have g0 : V1.cell? ⟨gb, 0, none⟩ = some (.int .i64 st) := Lib.cell_of_heap kg 0
  have g1 : V1.cell? ⟨gb, 1, none⟩ = some (.slice p1 n c1) := Lib.cell_of_heap kg 1
  have g2 : V1.cell? ⟨gb, 2, none⟩ = some (.slice p2 rl c2) := Lib.cell_of_heap kg 2
  have zg : gb < V1.heap.size := block_lt kg
  clear kg ko b0 b1
  go_enter Tryd.func7, Tryd.ntmps7
  go_upto_region 1 with fail
  rw [← hV0, ← hV1, ← hob, ← hgb]
  clear hV0 hV1 hgb hob s0
  go_upto_region 3 with (go_at_call 13; refine (KM.out _ HV1.out).mono ?_; rintro e wa ⟨rfl, ba⟩)
  clear g0 g1 g2 zg
  have HWA : Hid (Below w.heap.size w wa) := HV1.out.trans (ba.mono HV1.out.size)
  have HGA : Hid (wa.heap[gb]? = some (.cells #[.int .i64 st, .slice p1 n c1, .slice p2 rl c2] 27)) := (ba.block gb (block_lt HKG.out)).trans HKG.out
  have HOA : Hid (wa.heap[ob]? = some (.cells #[.int .i64 0, .slice none 0 0, .slice none 0 0] 27)) := (ba.block ob (block_lt HKO.out)).trans HKO.out
  have HGR : Hid (GrIs wa Any (.slice p1 n c1) (.slice p2 rl c2) g) := HG.out wa HWA.out
  have g0 : wa.cell? ⟨gb, 0, none⟩ = some (.int .i64 st) := Lib.cell_of_heap HGA.out 0
  have g1 : wa.cell? ⟨gb, 1, none⟩ = some (.slice p1 n c1) := Lib.cell_of_heap HGA.out 1
  have g2 : wa.cell? ⟨gb, 2, none⟩ = some (.slice p2 rl c2) := Lib.cell_of_heap HGA.out 2
  have zg : gb < wa.heap.size := block_lt HGA.out
  clear ba HKG HKO HV1
  have HQ0 : Hid (Qu wa wa.heap.size n [] [] (.slice none 0 0) (wa.alloc (.cells #[.int .i64 (n : Int), .slice none 0 0] 49))) := Qu.new (Below.refl _ _) n
  go_upto_region 4 with fail
  obtain ⟨X, hX⟩ : ∃ X, X = wa.alloc (.cells #[.int .i64 (n : Int), .slice none 0 0] 49) := ⟨_, rfl⟩
  have bX : Below wa.heap.size wa X := by rw [hX]; exact bel1 _ _
  obtain ⟨qb, hqb⟩ : ∃ b, b = wa.heap.size := ⟨_, rfl⟩
  rw [← hX, ← hqb] at HQ0 ⊢
  have x2 : X.cell? ⟨gb, 2, none⟩ = some (.slice p2 rl c2) := (bX.cell (p := ⟨gb, 2, none⟩) zg).trans g2
  have zx : gb < X.heap.size := Nat.lt_of_lt_of_le zg bX.size
  have KC := cut_any wa qb n g.rules (.slice p2 rl c2) X HGR.out.2 HQ0.out HZ.out.1 hn64
  clear hX hqb g0 g1 g2 bX
  go_upto_region 5 with (go_at_call 14; refine KC.mono ?_; rintro e X2 ⟨o, q, F, us, vs, rfl, MM, QQ, DJ⟩)
  clear KC x2 zx HQ0
  obtain ⟨po, co, ho⟩ : ∃ p c, o = .slice p rl c := by
    obtain ⟨p, c, e⟩ := row_slice MM.out.oo
    rw [cutR_len, ← HRL.out] at e
    exact ⟨p, c, e⟩
  subst ho
  obtain ⟨pq, cq, hq⟩ : ∃ p c, q = .slice p R c := by
    obtain ⟨p, c, e⟩ := row_slice QQ.out.oq
    rw [← HR.out] at e
    exact ⟨p, c, e⟩
  subst hq
  have hrl256 : rl ≤ 256 := by rw [HRL.out]; exact HZ.out.1.1
  have hR2 : R ≤ 2000 := by omega
  have hXW : Below wa.heap.size wa X2 := MM.out.bl
  have hXs := hXW.size
  have S0 : Hid (X2.drew.cell? ⟨gb, 0, none⟩ = some (.int .i64 st) ∧ X2.drew.cell? ⟨gb, 1, none⟩ = some (.slice p1 n c1) ∧ X2.drew.cell? ⟨qb, 1, none⟩ = some (.slice pq R cq)) := ⟨(hXW.cell (p := ⟨gb, 0, none⟩) zg).trans (Lib.cell_of_heap HGA.out 0), (hXW.cell (p := ⟨gb, 1, none⟩) zg).trans (Lib.cell_of_heap HGA.out 1), Lib.cell_of_heap QQ.out.qv 1⟩
  have SB : Hid (∀ w', Below X2.heap.size X2 w' → w'.cell? ⟨gb, 0, none⟩ = some (.int .i64 st) ∧ w'.cell? ⟨gb, 1, none⟩ = some (.slice p1 n c1) ∧ w'.cell? ⟨qb, 1, none⟩ = some (.slice pq R cq)) := fun w' hb => ⟨(hb.cell (p := ⟨gb, 0, none⟩) (Nat.lt_of_lt_of_le zg hXs)).trans S0.out.1, (hb.cell (p := ⟨gb, 1, none⟩) (Nat.lt_of_lt_of_le zg hXs)).trans S0.out.2.1, (hb.cell (p := ⟨qb, 1, none⟩) (block_lt QQ.out.qv)).trans S0.out.2.2⟩
  have BD : Hid (Below X2.heap.size X2 X2.drew) := (Below.refl _ _).drew
  obtain ⟨zG, hzG⟩ : ∃ z : Obj, z = .cells #[.int .i64 0, .slice none 0 0, .slice none 0 0] 27 := ⟨_, rfl⟩
  have BDA : Hid (Below X2.heap.size X2 (X2.alloc zG).drew) := (bel1 _ _).drew
  have K7 : Hid (∀ w', Below X2.heap.size X2 w' → Calls Tryd.prog 15 #[.slice p1 n c1, .int .i64 (R : Int)] w' fun e w'' => ∃ p7 c7 m, e = .returned (.slice p7 (n + R) c7) ∧ Hid ((freshT D g.names m).length = R ∧ m ≤ 99) ∧ Hid (w''.ownsRow wa.heap.size 9 1 (.slice p7 (n + R) c7) (g.names ++ freshT D g.names m).length (txV (g.names ++ freshT D g.names m))) ∧ Hid (Below w'.heap.size w' w'')) := fun w' hb => by
    refine (KL.out g.names R (.slice p1 n c1) w' (Reads.any HGR.out.1 (hXW.trans (hb.mono hXs))) (by rw [← HN.out]; exact h99)).mono ?_
    rintro e w'' ⟨o7, m, rfl, h1, h2, h3⟩
    obtain ⟨p7, c7, e7⟩ := row_slice h2.out
    rw [← HN.out] at e7
    subst e7
    refine ⟨p7, c7, m, rfl, h1, ?_, h3⟩
    have h4 := owns_lowB h2.out (Nat.le_trans hXs hb.size)
    rw [List.length_append, h1.out.1, ← HN.out]
    rw [← HN.out] at h4
    exact h4
  have K9 : Hid (∀ w', Below X2.heap.size X2 w' → Calls Tryd.prog 16 #[.pointer (some ⟨qb, 0, none⟩)] w' fun e w'' => ∃ p9 c9 F9 us9, e = .returned (.slice p9 R c9) ∧ Hid (Mk0 w' F9 (restR n 0 (rowsR g.rules)) us9 (.slice p9 R c9) w'')) := fun w' hb => by
    refine (rules_any wa qb n (rowsR g.rules) vs _ w' (QQ.out.keep hb) (by rw [← HR.out]; exact hR2) HZ.out.2 hn64).mono ?_
    rintro e w'' ⟨o9, F9, us9, rfl, h1⟩
    obtain ⟨p9, c9, e9⟩ := row_slice h1.out.oo
    rw [restR_len, ← HR.out] at e9
    subst e9
    exact ⟨p9, c9, F9, us9, rfl, h1⟩
  have K10 : Hid (∀ w1 w2 F9 us9 p9 c9, Below X2.heap.size X2 w1 → Mk0 w1 F9 (restR n 0 (rowsR g.rules)) us9 (.slice p9 R c9) w2 → ∃ pA cA wA, (Builtin.append_ #[25, 25] 25 #[.slice po rl co, .slice p9 R c9]).run Tryd.prog w2 = .ok (.slice pA (rl + R) cA) wA ∧ Hid (IsRus wA (fun b => F b ∨ F9 b ∨ (Value.slice pA (rl + R) cA).ownBlock = some b) (.slice pA (rl + R) cA) (cutR n 0 g.rules ++ restR n 0 (rowsR g.rules))) ∧ Hid (∀ tb arr, wA.heap[tb]? = some (.cells arr 27) → (Value.slice pA (rl + R) cA).ownBlock ≠ some tb) ∧ Hid (Below wa.heap.size wa wA) ∧ Hid (∀ b, X2.heap.size ≤ b → b < w2.heap.size → wA.heap[b]? = w2.heap[b]?) ∧ Hid (∀ v k xs, w2.ownsRow wa.heap.size 9 1 v k xs → wA.ownsRow wa.heap.size 9 1 v k xs) ∧ Hid (w2.heap.size ≤ wA.heap.size) ∧ Hid (wA.cell? ⟨gb, 0, none⟩ = some (.int .i64 st) ∧ wA.cell? ⟨gb, 1, none⟩ = some (.slice p1 n c1) ∧ wA.cell? ⟨qb, 1, none⟩ = some (.slice pq R cq)) ∧ Hid (∀ b, (Value.slice pA (rl + R) cA).ownBlock = some b → wa.heap.size ≤ b)) := fun w1 w2 F9 us9 p9 c9 hb1 m9 => by
    obtain ⟨pA, cA, wA, hr, hR, hO, hG⟩ := MM.out.joinF m9 hb1 (by rw [cutR_len, restR_len, ← HRL.out, ← HR.out]; omega)
    rw [cutR_len, restR_len, ← HRL.out, ← HR.out] at hr hR hO
    have hw2 : Below X2.heap.size X2 w2 := hb1.trans (m9.bl.mono hb1.size)
    refine ⟨pA, cA, wA, hr, hR, fun tb arr h => row_no hO (by decide) h, (hXW.trans (hw2.mono hXs)).grown hG (Nat.le_trans hXs hw2.size) (fun b hb => (MM.out.oo.lt b hb).1), fun b h1 h2 => hG.block b h2 (fun e => by have := (MM.out.oo.lt b e.symm).2; omega), fun v k xs h => row_grown h (MM.out.keep hw2).oo (by decide) hG, hG.size, ?_, fun b hb => (hO.lt b hb).1⟩
    have hbw := (hXW.trans (hw2.mono hXs)).grown hG (Nat.le_trans hXs hw2.size) (fun b hb => (MM.out.oo.lt b hb).1)
    have hqk := row_other (MM.out.keep hw2).oo (by decide) (QQ.out.keep hw2).qv hG
    exact ⟨(hbw.cell (p := ⟨gb, 0, none⟩) zg).trans (Lib.cell_of_heap HGA.out 0), (hbw.cell (p := ⟨gb, 1, none⟩) zg).trans (Lib.cell_of_heap HGA.out 1), Lib.cell_of_heap hqk 1⟩
  have HGQ : Hid (gb < X2.heap.size ∧ qb < X2.heap.size) := ⟨Nat.lt_of_lt_of_le zg hXs, block_lt QQ.out.qv⟩
  subst hzG
  have HFL : Hid (∀ b, F b → b < X2.heap.size ∧ wa.heap.size ≤ b) := fun b hb => ⟨(MM.out.fl b hb).2, (MM.out.fl b hb).1⟩
  have SDA := SB.out _ BDA.out
  refine wp_region_noPanic ?_
  refine wp_region_held_drew (S := fun w' => w'.cell? ⟨gb, 0, none⟩ = some (.int .i64 st) ∧ w'.cell? ⟨gb, 1, none⟩ = some (.slice p1 n c1) ∧ w'.cell? ⟨qb, 1, none⟩ = some (.slice pq R cq)) (by kernel_rfl) ?_ (fun hHeld => ?_)
  · (try dsimp only); (first | with_reducible exact S0.out | with_reducible exact SDA | with_reducible exact S7 | with_reducible exact S7A | with_reducible exact S9 | with_reducible exact S9A | with_reducible exact SA.out | with_reducible exact SAA | with_reducible exact SB2.out | with_reducible exact SE1 | with_reducible exact SE3 | with_reducible exact SC | exact S0.out)
  refine wpAnyH_take (i := 0) (oi := _) (v := ?_) rfl (by kernel_rfl) (by kernel_rfl) (by kernel_rfl) (fun _ _ _ h => h) (Or.inl ⟨by rfl, ?_⟩) (by assumption) ?_
  rotate_left
  · intro w' hSw; (try dsimp only at hSw); go_simp; (try with_reducible rfl)
  simp only [Act.put, List.setIfInBounds_toArray, List.set_cons_zero, List.set_cons_succ]
  refine wpAnyH_take (i := 1) (oi := _) (v := ?_) rfl (by kernel_rfl) (by kernel_rfl) (by kernel_rfl) (fun _ _ _ h => h) (Or.inl ⟨by rfl, ?_⟩) (by assumption) ?_
  rotate_left
  · intro w' hSw; (try dsimp only at hSw); go_simp; (try with_reducible rfl)
  simp only [Act.put, List.setIfInBounds_toArray, List.set_cons_zero, List.set_cons_succ]
  refine wpAnyH_take (i := 2) (oi := _) (v := ?_) rfl (by kernel_rfl) (by kernel_rfl) (by kernel_rfl) (fun _ _ _ h => h) (Or.inl ⟨by rfl, ?_⟩) (by assumption) ?_
  rotate_left
  · intro w' hSw; (try dsimp only at hSw); go_simp; (try with_reducible rfl)
  simp only [Act.put, List.setIfInBounds_toArray, List.set_cons_zero, List.set_cons_succ]
  refine wpAnyH_take (i := 3) (oi := _) (v := ?_) rfl (by kernel_rfl) (by kernel_rfl) (by kernel_rfl) (fun _ _ _ h => h) (Or.inl ⟨by rfl, ?_⟩) (by assumption) ?_
  rotate_left
  · intro w' hSw; (try dsimp only at hSw); go_simp; (try with_reducible rfl)
  simp only [Act.put, List.setIfInBounds_toArray, List.set_cons_zero, List.set_cons_succ]
  refine wpAnyH_take (i := 4) (oi := _) (v := ?_) rfl (by kernel_rfl) (by kernel_rfl) (by kernel_rfl) (fun _ _ _ h => h) (Or.inl ⟨by rfl, ?_⟩) (by assumption) ?_
  rotate_left
  · intro w' hSw; (try dsimp only at hSw); go_simp; (try with_reducible rfl)
  simp only [Act.put, List.setIfInBounds_toArray, List.set_cons_zero, List.set_cons_succ]
  refine wpAnyH_take (i := 5) (oi := _) (v := ?_) rfl (by kernel_rfl) (by kernel_rfl) (by kernel_rfl) (fun _ _ _ h => h) (Or.inl ⟨by rfl, ?_⟩) (by assumption) ?_
  rotate_left
  · intro w' hSw; (try dsimp only at hSw); go_simp; (try with_reducible rfl)
  simp only [Act.put, List.setIfInBounds_toArray, List.set_cons_zero, List.set_cons_succ]
  refine wpAnyH_take (i := 6) (oi := _) (v := ?_) rfl (by kernel_rfl) (by kernel_rfl) (by kernel_rfl) (fun _ _ _ h => h) (Or.inl ⟨by rfl, ?_⟩) (by assumption) ?_
  rotate_left
  · intro w' hSw; (try dsimp only at hSw); go_simp; (try with_reducible rfl)
  simp only [Act.put, List.setIfInBounds_toArray, List.set_cons_zero, List.set_cons_succ]
  refine wpAnyH_take (i := 8) (oi := _) (v := ?_) rfl (by kernel_rfl) (by kernel_rfl) (by kernel_rfl) (fun _ _ _ h => h) (Or.inl ⟨by rfl, ?_⟩) (by assumption) ?_
  rotate_left
  · intro w' hSw; (try dsimp only at hSw); go_simp; (try with_reducible rfl)
  simp only [Act.put, List.setIfInBounds_toArray, List.set_cons_zero, List.set_cons_succ]
  refine wpAnyH_ready (rs := [7, 12]) (by kernel_rfl) (by simp) ?_
  refine AllReadyH.cons rfl (fun K hK => ?_) ?_
  · (go_simp; (first | (refine (K7.out X2.drew BD.out).mono ?_; rintro e w7 ⟨p7, c7, m, rfl, HM7, ON7, B7⟩; have BX7 : Hid (Below X2.heap.size X2 w7) := BD.out.trans (B7.out.mono BD.out.size)) | (refine (K7.out (X2.alloc (.cells #[.int .i64 0, .slice none 0 0, .slice none 0 0] 27)).drew BDA.out).mono ?_; rintro e w7 ⟨p7, c7, m, rfl, HM7, ON7, B7⟩; have BX7 : Hid (Below X2.heap.size X2 w7) := BDA.out.trans (B7.out.mono BDA.out.size); have T7 : Hid (w7.heap[X2.heap.size]? = some (.cells #[.int .i64 0, .slice none 0 0, .slice none 0 0] 27)) := (B7.out.block X2.heap.size (by show _ < (X2.alloc _).heap.size; simp)).trans (show (X2.alloc (.cells #[.int .i64 0, .slice none 0 0, .slice none 0 0] 27)).heap[X2.heap.size]? = _ from heap_alloc_new _ _))); have BX7A : Hid (Below X2.heap.size X2 (w7.alloc (.cells #[.int .i64 0, .slice none 0 0, .slice none 0 0] 27))) := BX7.out.alloc BX7.out.size _; have S7 := SB.out w7 BX7.out; have S7A := SB.out _ BX7A.out; (try dsimp only))
    refine hK.out _ _ ?_ (fun hHeld => ?_)
    · (try dsimp only); (first | with_reducible exact S0.out | with_reducible exact SDA | with_reducible exact S7 | with_reducible exact S7A | with_reducible exact S9 | with_reducible exact S9A | with_reducible exact SA.out | with_reducible exact SAA | with_reducible exact SB2.out | with_reducible exact SE1 | with_reducible exact SE3 | with_reducible exact SC | exact S0.out)
    clear hK K
    refine wpAnyH_ready (rs := [9, 12]) (by kernel_rfl) (by simp) ?_
    refine AllReadyH.cons rfl (fun K hK => ?_) ?_
    · (go_simp; (first | (have B9 : Hid (Below X2.heap.size X2 w7) := BX7.out; refine (K9.out w7 B9.out).mono ?_; rintro e w9 ⟨p9, c9, F9, us9, rfl, M9⟩; have BX9 : Hid (Below X2.heap.size X2 w9) := B9.out.trans (M9.out.bl.mono B9.out.size); have BX9A : Hid (Below X2.heap.size X2 (w9.alloc (.cells #[.int .i64 0, .slice none 0 0, .slice none 0 0] 27))) := BX9.out.alloc BX9.out.size _; have S9 := SB.out w9 BX9.out; have S9A := SB.out _ BX9A.out; obtain ⟨pA, cA, wA, hrA, IA, TA, BA, KA, NA, ZA, SA, OA⟩ := K10.out _ w9 _ _ _ _ B9.out M9.out; obtain ⟨pB, cB, wB, hrB, IB, TB, BB, KB, NB, ZB, SB2, OB⟩ := K10.out _ (w9.alloc (.cells #[.int .i64 0, .slice none 0 0, .slice none 0 0] 27)) _ _ _ _ B9.out (M9.out.keep (bel1 _ _)); have LA := stepApp hrA; have LB := stepApp hrB; unfold StepApp at LA LB; have SAA := sx_alloc SA.out (.cells #[.int .i64 0, .slice none 0 0, .slice none 0 0] 27); have hs7 := BX7.out.size; have hs9 := BX9.out.size; have hg := HGQ.out; have N9 := row_keep ON7.out M9.out.bl; have FC := FinW.new (arr := #[.int .i64 st, .slice p7 (n + R) c7, .slice pA (rl + R) cA]) BA.out (NA.out _ _ _ N9) IA.out (fun b hb => by rcases hb with hb | hb | hb; exact (HFL.out _ hb).2; (have := (M9.out.fl _ hb).1; omega); exact OA.out _ hb); have SC := sx_alloc SA.out (.cells #[.int .i64 st, .slice p7 (n + R) c7, .slice pA (rl + R) cA] 27); have tB : wB.heap[w9.heap.size]? = some (.cells #[.int .i64 0, .slice none 0 0, .slice none 0 0] 27) := (KB.out _ (by omega) (by simp)).trans (heap_alloc_new _ _); have FB : FinW wa w9.heap.size #[.int .i64 0, .slice none 0 0, .slice none 0 0] (.slice p7 (n + R) c7) (.slice pB (rl + R) cB) _ _ wB := ⟨BB.out, tB, NB.out _ _ _ (N9.alloc _), IB.out.monoV (fun b hb _ => ⟨fun e => by subst e; rcases hb with hb | hb | hb; have := HFL.out _ hb; omega; have := (M9.out.fl _ hb).2; omega; exact TB.out _ _ tB hb, by rcases hb with hb | hb | hb; exact (HFL.out _ hb).2; (have := (M9.out.fl _ hb).1; omega); exact OB.out _ hb⟩), by omega⟩; have fB0 : wB.cell? ⟨w9.heap.size, 0, none⟩ = some (.int .i64 0) := Lib.cell_of_heap FB.ht 0; have fB1 : wB.cell? ⟨w9.heap.size, 1, none⟩ = some (.slice none 0 0) := Lib.cell_of_heap FB.ht 1; have fB2 : wB.cell? ⟨w9.heap.size, 2, none⟩ = some (.slice none 0 0) := Lib.cell_of_heap FB.ht 2; have zB : ∀ k, wB.frozen? ⟨w9.heap.size, k, none⟩ = false := (fun k => by unfold World.frozen?; rw [FB.ht]; simp); have zB0 := zB 0; have zB1 := zB 1; have zB2 := zB 2; clear zB; have SE3 := sx_set3 w9.heap.size SB2.out (by omega) (by omega) (.int .i64 st) (.slice p7 (n + R) c7) (.slice pB (rl + R) cB); (try (have tA : wA.heap[X2.heap.size]? = some (.cells #[.int .i64 0, .slice none 0 0, .slice none 0 0] 27) := (KA.out _ (Nat.le_refl _) (by have := block_lt T7.out; have := M9.out.bl.size; omega)).trans ((M9.out.bl.block _ (block_lt T7.out)).trans T7.out); have FA : FinW wa X2.heap.size #[.int .i64 0, .slice none 0 0, .slice none 0 0] (.slice p7 (n + R) c7) (.slice pA (rl + R) cA) _ _ wA := ⟨BA.out, tA, NA.out _ _ _ N9, IA.out.monoV (fun b hb _ => ⟨fun e => by subst e; rcases hb with hb | hb | hb; have := HFL.out _ hb; omega; have := (M9.out.fl _ hb).1; have := block_lt T7.out; omega; exact TA.out _ _ tA hb, by rcases hb with hb | hb | hb; exact (HFL.out _ hb).2; (have := (M9.out.fl _ hb).1; omega); exact OA.out _ hb⟩), by omega⟩; have fA0 : wA.cell? ⟨X2.heap.size, 0, none⟩ = some (.int .i64 0) := Lib.cell_of_heap FA.ht 0; have fA1 : wA.cell? ⟨X2.heap.size, 1, none⟩ = some (.slice none 0 0) := Lib.cell_of_heap FA.ht 1; have fA2 : wA.cell? ⟨X2.heap.size, 2, none⟩ = some (.slice none 0 0) := Lib.cell_of_heap FA.ht 2; have zA : ∀ k, wA.frozen? ⟨X2.heap.size, k, none⟩ = false := (fun k => by unfold World.frozen?; rw [FA.ht]; simp); have zA0 := zA 0; have zA1 := zA 1; have zA2 := zA 2; clear zA; have SE1 := sx_set3 X2.heap.size SA.out (by omega) (by omega) (.int .i64 st) (.slice p7 (n + R) c7) (.slice pA (rl + R) cA)))) | (have B9 : Hid (Below X2.heap.size X2 (w7.alloc (.cells #[.int .i64 0, .slice none 0 0, .slice none 0 0] 27))) := BX7A.out; refine (K9.out (w7.alloc (.cells #[.int .i64 0, .slice none 0 0, .slice none 0 0] 27)) B9.out).mono ?_; rintro e w9 ⟨p9, c9, F9, us9, rfl, M9⟩; have BX9 : Hid (Below X2.heap.size X2 w9) := B9.out.trans (M9.out.bl.mono B9.out.size); have BX9A : Hid (Below X2.heap.size X2 (w9.alloc (.cells #[.int .i64 0, .slice none 0 0, .slice none 0 0] 27))) := BX9.out.alloc BX9.out.size _; have S9 := SB.out w9 BX9.out; have S9A := SB.out _ BX9A.out; obtain ⟨pA, cA, wA, hrA, IA, TA, BA, KA, NA, ZA, SA, OA⟩ := K10.out _ w9 _ _ _ _ B9.out M9.out; obtain ⟨pB, cB, wB, hrB, IB, TB, BB, KB, NB, ZB, SB2, OB⟩ := K10.out _ (w9.alloc (.cells #[.int .i64 0, .slice none 0 0, .slice none 0 0] 27)) _ _ _ _ B9.out (M9.out.keep (bel1 _ _)); have LA := stepApp hrA; have LB := stepApp hrB; unfold StepApp at LA LB; have SAA := sx_alloc SA.out (.cells #[.int .i64 0, .slice none 0 0, .slice none 0 0] 27); have hs7 := BX7.out.size; have hs9 := BX9.out.size; have hg := HGQ.out; have N9 := row_keep (ON7.out.alloc (.cells #[.int .i64 0, .slice none 0 0, .slice none 0 0] 27)) M9.out.bl; have tA : wA.heap[w7.heap.size]? = some (.cells #[.int .i64 0, .slice none 0 0, .slice none 0 0] 27) := (KA.out _ (by omega) (by have := M9.out.bl.size; simp at this; omega)).trans ((M9.out.bl.block _ (by simp)).trans (heap_alloc_new _ _)); have FA : FinW wa w7.heap.size #[.int .i64 0, .slice none 0 0, .slice none 0 0] (.slice p7 (n + R) c7) (.slice pA (rl + R) cA) _ _ wA := ⟨BA.out, tA, NA.out _ _ _ N9, IA.out.monoV (fun b hb _ => ⟨fun e => by subst e; rcases hb with hb | hb | hb; have := HFL.out _ hb; omega; have := (M9.out.fl _ hb).1; simp at this; omega; exact TA.out _ _ tA hb, by rcases hb with hb | hb | hb; exact (HFL.out _ hb).2; (have := (M9.out.fl _ hb).1; simp at this; omega); exact OA.out _ hb⟩), by omega⟩; have fA0 : wA.cell? ⟨w7.heap.size, 0, none⟩ = some (.int .i64 0) := Lib.cell_of_heap FA.ht 0; have fA1 : wA.cell? ⟨w7.heap.size, 1, none⟩ = some (.slice none 0 0) := Lib.cell_of_heap FA.ht 1; have fA2 : wA.cell? ⟨w7.heap.size, 2, none⟩ = some (.slice none 0 0) := Lib.cell_of_heap FA.ht 2; have zA : ∀ k, wA.frozen? ⟨w7.heap.size, k, none⟩ = false := (fun k => by unfold World.frozen?; rw [FA.ht]; simp); have zA0 := zA 0; have zA1 := zA 1; have zA2 := zA 2; clear zA; have SE1 := sx_set3 w7.heap.size SA.out (by omega) (by omega) (.int .i64 st) (.slice p7 (n + R) c7) (.slice pA (rl + R) cA))); (try dsimp only))
      refine hK.out _ _ ?_ (fun hHeld => ?_)
      · (try dsimp only); (first | with_reducible exact S0.out | with_reducible exact SDA | with_reducible exact S7 | with_reducible exact S7A | with_reducible exact S9 | with_reducible exact S9A | with_reducible exact SA.out | with_reducible exact SAA | with_reducible exact SB2.out | with_reducible exact SE1 | with_reducible exact SE3 | with_reducible exact SC | exact S0.out)
      clear hK K
      refine wpAnyH_ready (rs := [10, 12]) (by kernel_rfl) (by simp) ?_
      refine AllReadyH.cons rfl (fun K hK => ?_) ?_
      · (first | ((with_reducible refine LA _ _ _ _ _ _ ?_ ?_ ?_ ?_); rfl; exact ⟨_, _, rfl, rfl, rfl⟩; rfl) | ((with_reducible refine LB _ _ _ _ _ _ ?_ ?_ ?_ ?_); rfl; exact ⟨_, _, rfl, rfl, rfl⟩; rfl))
        refine hK.out _ _ ?_ (fun hHeld => ?_)
        · (try dsimp only); (first | with_reducible exact S0.out | with_reducible exact SDA | with_reducible exact S7 | with_reducible exact S7A | with_reducible exact S9 | with_reducible exact S9A | with_reducible exact SA.out | with_reducible exact SAA | with_reducible exact SB2.out | with_reducible exact SE1 | with_reducible exact SE3 | with_reducible exact SC | exact S0.out)
        clear hK K
        refine wpAnyH_take (i := 11) (oi := _) (v := ?_) rfl (by kernel_rfl) (by kernel_rfl) (by kernel_rfl) (fun _ _ _ h => h) (Or.inl ⟨by rfl, ?_⟩) (by assumption) ?_
        rotate_left
        · intro w' hSw; (try dsimp only at hSw); go_simp; (try with_reducible rfl)
        simp only [Act.put, List.setIfInBounds_toArray, List.set_cons_zero, List.set_cons_succ]
        refine wpAnyH_ready (rs := [12]) (by kernel_rfl) (by simp) ?_
        refine AllReadyH.cons rfl (fun K hK => ?_) ?_
        · go_simp
          refine hK.out _ _ ?_ (fun hHeld => ?_)
          · (try dsimp only); (first | with_reducible exact S0.out | with_reducible exact SDA | with_reducible exact S7 | with_reducible exact S7A | with_reducible exact S9 | with_reducible exact S9A | with_reducible exact SA.out | with_reducible exact SAA | with_reducible exact SB2.out | with_reducible exact SE1 | with_reducible exact SE3 | with_reducible exact SC | exact S0.out)
          clear hK K
          refine wpAnyH_ready (rs := [13]) (by kernel_rfl) (by simp) ?_
          refine AllReadyH.cons rfl (fun K hK => ?_) ?_
          · go_simp
            refine hK.out _ _ ?_ (fun hHeld => ?_)
            · (try dsimp only); (first | with_reducible exact S0.out | with_reducible exact SDA | with_reducible exact S7 | with_reducible exact S7A | with_reducible exact S9 | with_reducible exact S9A | with_reducible exact SA.out | with_reducible exact SAA | with_reducible exact SB2.out | with_reducible exact SE1 | with_reducible exact SE3 | with_reducible exact SC | exact S0.out)
            clear hK K
            refine wpAnyH_done (by kernel_rfl) ?_ _
            refine NoPanic.normal ?_
            (first | (obtain ⟨pZ, cZ, E, tb, hpz, hcz, hE, htb, FW⟩ : ∃ pZ cZ E tb, pZ = pA ∧ cZ = cA ∧ E = wA.alloc (.cells #[.int .i64 st, .slice p7 (n + R) c7, .slice pA (rl + R) cA] 27) ∧ tb = wA.heap.size ∧ Hid (FinW wa tb #[.int .i64 st, .slice p7 (n + R) c7, .slice pZ (rl + R) cZ] (.slice p7 (n + R) c7) (.slice pZ (rl + R) cZ) (g.names ++ freshT D g.names m) (cutR n 0 g.rules ++ restR n 0 (rowsR g.rules)) E) := ⟨_, _, _, _, rfl, rfl, rfl, rfl, FC⟩; rw [← hE, ← htb, ← hpz, ← hcz]; clear hE htb hpz hcz) | (obtain ⟨pZ, cZ, E, tb, hpz, hcz, hE, htb, FW⟩ : ∃ pZ cZ E tb, pZ = pB ∧ cZ = cB ∧ E = (((wB.setCell ⟨w9.heap.size, 0, none⟩ (.int .i64 st)).setCell ⟨w9.heap.size, 1, none⟩ (.slice p7 (n + R) c7)).setCell ⟨w9.heap.size, 2, none⟩ (.slice pB (rl + R) cB)) ∧ tb = w9.heap.size ∧ Hid (FinW wa tb #[.int .i64 st, .slice p7 (n + R) c7, .slice pZ (rl + R) cZ] (.slice p7 (n + R) c7) (.slice pZ (rl + R) cZ) (g.names ++ freshT D g.names m) (cutR n 0 g.rules ++ restR n 0 (rowsR g.rules)) E) := ⟨_, _, _, _, rfl, rfl, rfl, rfl, ((FB.set 0 _).set 1 _).set 2 _⟩; rw [← hE, ← htb, ← hpz, ← hcz]; clear hE htb hpz hcz) | (obtain ⟨pZ, cZ, E, tb, hpz, hcz, hE, htb, FW⟩ : ∃ pZ cZ E tb, pZ = pA ∧ cZ = cA ∧ E = (((wA.setCell ⟨w7.heap.size, 0, none⟩ (.int .i64 st)).setCell ⟨w7.heap.size, 1, none⟩ (.slice p7 (n + R) c7)).setCell ⟨w7.heap.size, 2, none⟩ (.slice pA (rl + R) cA)) ∧ tb = w7.heap.size ∧ Hid (FinW wa tb #[.int .i64 st, .slice p7 (n + R) c7, .slice pZ (rl + R) cZ] (.slice p7 (n + R) c7) (.slice pZ (rl + R) cZ) (g.names ++ freshT D g.names m) (cutR n 0 g.rules ++ restR n 0 (rowsR g.rules)) E) := ⟨_, _, _, _, rfl, rfl, rfl, rfl, ((FA.set 0 _).set 1 _).set 2 _⟩; rw [← hE, ← htb, ← hpz, ← hcz]; clear hE htb hpz hcz) | (obtain ⟨pZ, cZ, E, tb, hpz, hcz, hE, htb, FW⟩ : ∃ pZ cZ E tb, pZ = pA ∧ cZ = cA ∧ E = (((wA.setCell ⟨X2.heap.size, 0, none⟩ (.int .i64 st)).setCell ⟨X2.heap.size, 1, none⟩ (.slice p7 (n + R) c7)).setCell ⟨X2.heap.size, 2, none⟩ (.slice pA (rl + R) cA)) ∧ tb = X2.heap.size ∧ Hid (FinW wa tb #[.int .i64 st, .slice p7 (n + R) c7, .slice pZ (rl + R) cZ] (.slice p7 (n + R) c7) (.slice pZ (rl + R) cZ) (g.names ++ freshT D g.names m) (cutR n 0 g.rules ++ restR n 0 (rowsR g.rules)) E) := ⟨_, _, _, _, rfl, rfl, rfl, rfl, ((FA.set 0 _).set 1 _).set 2 _⟩; rw [← hE, ← htb, ← hpz, ← hcz]; clear hE htb hpz hcz))
            have e0 : E.cell? ⟨tb, 0, none⟩ = some (.int .i64 st) := Lib.cell_of_heap FW.out.ht 0
            have e1 : E.cell? ⟨tb, 1, none⟩ = some (.slice p7 (n + R) c7) := Lib.cell_of_heap FW.out.ht 1
            have e2 : E.cell? ⟨tb, 2, none⟩ = some (.slice pZ (rl + R) cZ) := Lib.cell_of_heap FW.out.ht 2
            have zt : tb < E.heap.size := block_lt FW.out.ht
            have HGE : Hid (GrIs E Any (.slice p7 (n + R) c7) (.slice pZ (rl + R) cZ) (binG D g m)) := by
              refine ⟨Reads.of FW.out.hn (fun _ _ => trivial), ?_⟩
              unfold binG
              rw [← HN.out]
              exact FW.out.hr.monoV (fun _ _ _ => trivial)
            have KM2 := may_any (binG D g m) (.slice p7 (n + R) c7) (.slice pZ (rl + R) cZ) E HGE.out (fun s hs => by
              rcases List.mem_append.1 hs with h | h
              · exact HNS.out s h
              · have := fresh_small HDS.out m HM7.out.2 s h
                unfold maxLen
                omega) (fun r hr c hc => by
              rcases List.mem_append.1 hr with h | h
              · have := cutR_two _ _ _ r h c hc; omega
              · have := restR_two _ _ _ r h c hc; omega)
            rw [show (binG D g m).start = st from HST.out.symm] at KM2
            have HWE : Hid (Below wa.heap.size wa E) := FW.out.hb
            have HGO : Hid (GrIs E (fun i => i ≠ ob) (.slice p7 (n + R) c7) (.slice pZ (rl + R) cZ) (binG D g m)) := by
              have hob := block_lt HOA.out
              refine ⟨Reads.of FW.out.hn (fun b hb e => by have := (FW.out.hn.lt b hb).1; omega), ?_⟩
              unfold binG
              rw [← HN.out]
              exact FW.out.hr.monoV (fun b hb _ e => by have := hb.2; omega)
            have HM8 : Hid ((freshT D g.names m).length = (rowsR g.rules).length) := by show _ = _; rw [← HR.out]; exact HM7.out.1
            clear FW HM7 ON7 B7 BX7 BX7A M9 IA IB TA TB BA BB KA KB NA NB ZA ZB SA LA LB hrA hrB K7 K9 K10
            cases hmB : mayG (binG D g m) with
            | true =>
              rw [hmB] at KM2
              go_upto_region 8 with (go_at_call 13; refine KM2.mono ?_; rintro e wm ⟨rfl, bm⟩)
              have HOM : wm.heap[ob]? = some (.cells #[.int .i64 0, .slice none 0 0, .slice none 0 0] 27) := (bm.block ob (by have := HWE.out.size; have := block_lt HOA.out; omega)).trans ((HWE.out.block ob (block_lt HOA.out)).trans HOA.out)
              have HGM : Hid (GrIs ((wm.setCell ⟨ob, 0, none⟩ (.int .i64 st)).setCell ⟨ob, 1, none⟩ (.slice p7 (n + R) c7) |>.setCell ⟨ob, 2, none⟩ (.slice pZ (rl + R) cZ)) Any (.slice p7 (n + R) c7) (.slice pZ (rl + R) cZ) (binG D g m)) := by
                have hst : Stay (fun i => i ≠ ob) wm ((wm.setCell ⟨ob, 0, none⟩ (.int .i64 st)).setCell ⟨ob, 1, none⟩ (.slice p7 (n + R) c7) |>.setCell ⟨ob, 2, none⟩ (.slice pZ (rl + R) cZ)) := by
                  refine ⟨by simp [World.setCell], fun b hb => ?_⟩
                  rw [Go.Deep.blk_setCell_other _ ⟨ob, 2, none⟩ _ b hb, Go.Deep.blk_setCell_other _ ⟨ob, 1, none⟩ _ b hb, Go.Deep.blk_setCell_other _ ⟨ob, 0, none⟩ _ b hb]
                have hk : Stay (fun i => i ≠ ob ∧ i < E.heap.size) E wm := ⟨bm.size, fun b hb => bm.block b hb.2⟩
                exact ⟨Reads.keep (Reads.keep (Reads.mono HGO.out.1 (F' := fun i => i ≠ ob ∧ i < E.heap.size) (fun b h1 h2 => ⟨h1, h2⟩)) hk (F' := fun i => i ≠ ob) (fun b h => h.1)) hst (fun _ _ => trivial), ((HGO.out.2.monoV (F' := fun i => i ≠ ob ∧ i < E.heap.size) (fun b h1 h2 => ⟨h1, h2⟩)).keep hk (F' := fun i => i ≠ ob) (fun b h => h.1)).keep hst (fun _ _ => trivial)⟩
              have HBM : Hid (Below w.heap.size w ((wm.setCell ⟨ob, 0, none⟩ (.int .i64 st)).setCell ⟨ob, 1, none⟩ (.slice p7 (n + R) c7) |>.setCell ⟨ob, 2, none⟩ (.slice pZ (rl + R) cZ))) := ((((HWA.out.trans (HWE.out.mono HWA.out.size)).trans (bm.mono (by have := HWA.out.size; have := HWE.out.size; omega))).setCell (p := ⟨ob, 0, none⟩) HOB.out _).setCell (p := ⟨ob, 1, none⟩) HOB.out _).setCell (p := ⟨ob, 2, none⟩) HOB.out _
              have m0 := (bm.cell (p := ⟨tb, 0, none⟩) zt).trans e0
              have m1 := (bm.cell (p := ⟨tb, 1, none⟩) zt).trans e1
              have m2 := (bm.cell (p := ⟨tb, 2, none⟩) zt).trans e2
              have o0 : wm.cell? ⟨ob, 0, none⟩ = some (.int .i64 0) := Lib.cell_of_heap HOM 0
              have o1 : wm.cell? ⟨ob, 1, none⟩ = some (.slice none 0 0) := Lib.cell_of_heap HOM 1
              have o2 : wm.cell? ⟨ob, 2, none⟩ = some (.slice none 0 0) := Lib.cell_of_heap HOM 2
              have zf : ∀ k, wm.frozen? ⟨ob, k, none⟩ = false := fun k => by unfold World.frozen?; rw [HOM]; simp
              have z0 := zf 0
              have z1 := zf 1
              have z2 := zf 2
              have zo : ob < wm.heap.size := block_lt HOM
              have zt2 : tb < wm.heap.size := Nat.lt_of_lt_of_le zt bm.size
              clear e0 e1 e2 zf HOM bm
              have HMB : Hid (mayG (binG D g m) = true) := hmB
              clear hmB KM2
              go_wp2
              (try simp only [Exit.inBlock, Exit.then])
              refine bodyPost_ret (v := .tuple #[.agg #[.int .i64 st, .slice p7 (n + R) c7, .slice pZ (rl + R) cZ], .int .i64 0]) ?_ rfl ?_
              · rw [results_cell_tmpB rfl]
                go_simp
              · first
                  | exact ⟨m, 0, st, _, _, rfl, HM8, Or.inl ⟨rfl, rfl, HMB.out, HGM.out⟩, HBM⟩
                  | exact ⟨m, _, _, _, _, rfl, HM8, Or.inl ⟨rfl, rfl, HMB.out, HGM.out⟩, HBM⟩
            | false =>
              rw [hmB] at KM2
              go_upto_region 7 with (go_at_call 13; refine KM2.mono ?_; rintro e wm ⟨rfl, bm⟩)
              have HOM : wm.heap[ob]? = some (.cells #[.int .i64 0, .slice none 0 0, .slice none 0 0] 27) := (bm.block ob (by have := HWE.out.size; have := block_lt HOA.out; omega)).trans ((HWE.out.block ob (block_lt HOA.out)).trans HOA.out)
              have HBM : Hid (Below w.heap.size w ((wm.setCell ⟨ob, 0, none⟩ (.int .i64 0)).setCell ⟨ob, 1, none⟩ (.slice none 0 0) |>.setCell ⟨ob, 2, none⟩ (.slice none 0 0))) := ((((HWA.out.trans (HWE.out.mono HWA.out.size)).trans (bm.mono (by have := HWA.out.size; have := HWE.out.size; omega))).setCell (p := ⟨ob, 0, none⟩) HOB.out _).setCell (p := ⟨ob, 1, none⟩) HOB.out _).setCell (p := ⟨ob, 2, none⟩) HOB.out _
              have o0 : wm.cell? ⟨ob, 0, none⟩ = some (.int .i64 0) := Lib.cell_of_heap HOM 0
              have o1 : wm.cell? ⟨ob, 1, none⟩ = some (.slice none 0 0) := Lib.cell_of_heap HOM 1
              have o2 : wm.cell? ⟨ob, 2, none⟩ = some (.slice none 0 0) := Lib.cell_of_heap HOM 2
              have zf : ∀ k, wm.frozen? ⟨ob, k, none⟩ = false := fun k => by unfold World.frozen?; rw [HOM]; simp
              have z0 := zf 0
              have z1 := zf 1
              have z2 := zf 2
              have zo : ob < wm.heap.size := block_lt HOM
              clear e0 e1 e2 zf HOM bm
              have HMB : Hid (mayG (binG D g m) = false) := hmB
              clear hmB KM2
              go_wp2
              (try simp only [Exit.inBlock, Exit.then])
              refine bodyPost_ret (v := .tuple #[.agg #[.int .i64 0, .slice none 0 0, .slice none 0 0], .int .i64 1401]) ?_ rfl ?_
              · rw [results_cell_tmpB rfl]
                go_simp
              · exact ⟨m, 1401, 0, _, _, rfl, HM8, Or.inr ⟨rfl, HMB.out, rfl, rfl, rfl⟩, HBM⟩
          exact AllReadyH.nil
        exact AllReadyH.nil
      refine AllReadyH.cons rfl (fun K hK => ?_) ?_
      · go_simp
        refine hK.out _ _ ?_ (fun hHeld => ?_)
        · (try dsimp only); (first | with_reducible exact S0.out | with_reducible exact SDA | with_reducible exact S7 | with_reducible exact S7A | with_reducible exact S9 | with_reducible exact S9A | with_reducible exact SA.out | with_reducible exact SAA | with_reducible exact SB2.out | with_reducible exact SE1 | with_reducible exact SE3 | with_reducible exact SC | exact S0.out)
        clear hK K
        refine wpAnyH_ready (rs := [10]) (by kernel_rfl) (by simp) ?_
        refine AllReadyH.cons rfl (fun K hK => ?_) ?_
        · (first | ((with_reducible refine LA _ _ _ _ _ _ ?_ ?_ ?_ ?_); rfl; exact ⟨_, _, rfl, rfl, rfl⟩; rfl) | ((with_reducible refine LB _ _ _ _ _ _ ?_ ?_ ?_ ?_); rfl; exact ⟨_, _, rfl, rfl, rfl⟩; rfl))
          refine hK.out _ _ ?_ (fun hHeld => ?_)
          · (try dsimp only); (first | with_reducible exact S0.out | with_reducible exact SDA | with_reducible exact S7 | with_reducible exact S7A | with_reducible exact S9 | with_reducible exact S9A | with_reducible exact SA.out | with_reducible exact SAA | with_reducible exact SB2.out | with_reducible exact SE1 | with_reducible exact SE3 | with_reducible exact SC | exact S0.out)
          clear hK K
          refine wpAnyH_take (i := 11) (oi := _) (v := ?_) rfl (by kernel_rfl) (by kernel_rfl) (by kernel_rfl) (fun _ _ _ h => h) (Or.inl ⟨by rfl, ?_⟩) (by assumption) ?_
          rotate_left
          · intro w' hSw; (try dsimp only at hSw); go_simp; (try with_reducible rfl)
          simp only [Act.put, List.setIfInBounds_toArray, List.set_cons_zero, List.set_cons_succ]
          refine wpAnyH_ready (rs := [13]) (by kernel_rfl) (by simp) ?_
          refine AllReadyH.cons rfl (fun K hK => ?_) ?_
          · go_simp
            refine hK.out _ _ ?_ (fun hHeld => ?_)
            · (try dsimp only); (first | with_reducible exact S0.out | with_reducible exact SDA | with_reducible exact S7 | with_reducible exact S7A | with_reducible exact S9 | with_reducible exact S9A | with_reducible exact SA.out | with_reducible exact SAA | with_reducible exact SB2.out | with_reducible exact SE1 | with_reducible exact SE3 | with_reducible exact SC | exact S0.out)
            clear hK K
            refine wpAnyH_done (by kernel_rfl) ?_ _
            refine NoPanic.normal ?_
            (first | (obtain ⟨pZ, cZ, E, tb, hpz, hcz, hE, htb, FW⟩ : ∃ pZ cZ E tb, pZ = pA ∧ cZ = cA ∧ E = wA.alloc (.cells #[.int .i64 st, .slice p7 (n + R) c7, .slice pA (rl + R) cA] 27) ∧ tb = wA.heap.size ∧ Hid (FinW wa tb #[.int .i64 st, .slice p7 (n + R) c7, .slice pZ (rl + R) cZ] (.slice p7 (n + R) c7) (.slice pZ (rl + R) cZ) (g.names ++ freshT D g.names m) (cutR n 0 g.rules ++ restR n 0 (rowsR g.rules)) E) := ⟨_, _, _, _, rfl, rfl, rfl, rfl, FC⟩; rw [← hE, ← htb, ← hpz, ← hcz]; clear hE htb hpz hcz) | (obtain ⟨pZ, cZ, E, tb, hpz, hcz, hE, htb, FW⟩ : ∃ pZ cZ E tb, pZ = pB ∧ cZ = cB ∧ E = (((wB.setCell ⟨w9.heap.size, 0, none⟩ (.int .i64 st)).setCell ⟨w9.heap.size, 1, none⟩ (.slice p7 (n + R) c7)).setCell ⟨w9.heap.size, 2, none⟩ (.slice pB (rl + R) cB)) ∧ tb = w9.heap.size ∧ Hid (FinW wa tb #[.int .i64 st, .slice p7 (n + R) c7, .slice pZ (rl + R) cZ] (.slice p7 (n + R) c7) (.slice pZ (rl + R) cZ) (g.names ++ freshT D g.names m) (cutR n 0 g.rules ++ restR n 0 (rowsR g.rules)) E) := ⟨_, _, _, _, rfl, rfl, rfl, rfl, ((FB.set 0 _).set 1 _).set 2 _⟩; rw [← hE, ← htb, ← hpz, ← hcz]; clear hE htb hpz hcz) | (obtain ⟨pZ, cZ, E, tb, hpz, hcz, hE, htb, FW⟩ : ∃ pZ cZ E tb, pZ = pA ∧ cZ = cA ∧ E = (((wA.setCell ⟨w7.heap.size, 0, none⟩ (.int .i64 st)).setCell ⟨w7.heap.size, 1, none⟩ (.slice p7 (n + R) c7)).setCell ⟨w7.heap.size, 2, none⟩ (.slice pA (rl + R) cA)) ∧ tb = w7.heap.size ∧ Hid (FinW wa tb #[.int .i64 st, .slice p7 (n + R) c7, .slice pZ (rl + R) cZ] (.slice p7 (n + R) c7) (.slice pZ (rl + R) cZ) (g.names ++ freshT D g.names m) (cutR n 0 g.rules ++ restR n 0 (rowsR g.rules)) E) := ⟨_, _, _, _, rfl, rfl, rfl, rfl, ((FA.set 0 _).set 1 _).set 2 _⟩; rw [← hE, ← htb, ← hpz, ← hcz]; clear hE htb hpz hcz) | (obtain ⟨pZ, cZ, E, tb, hpz, hcz, hE, htb, FW⟩ : ∃ pZ cZ E tb, pZ = pA ∧ cZ = cA ∧ E = (((wA.setCell ⟨X2.heap.size, 0, none⟩ (.int .i64 st)).setCell ⟨X2.heap.size, 1, none⟩ (.slice p7 (n + R) c7)).setCell ⟨X2.heap.size, 2, none⟩ (.slice pA (rl + R) cA)) ∧ tb = X2.heap.size ∧ Hid (FinW wa tb #[.int .i64 st, .slice p7 (n + R) c7, .slice pZ (rl + R) cZ] (.slice p7 (n + R) c7) (.slice pZ (rl + R) cZ) (g.names ++ freshT D g.names m) (cutR n 0 g.rules ++ restR n 0 (rowsR g.rules)) E) := ⟨_, _, _, _, rfl, rfl, rfl, rfl, ((FA.set 0 _).set 1 _).set 2 _⟩; rw [← hE, ← htb, ← hpz, ← hcz]; clear hE htb hpz hcz))
            have e0 : E.cell? ⟨tb, 0, none⟩ = some (.int .i64 st) := Lib.cell_of_heap FW.out.ht 0
            have e1 : E.cell? ⟨tb, 1, none⟩ = some (.slice p7 (n + R) c7) := Lib.cell_of_heap FW.out.ht 1
            have e2 : E.cell? ⟨tb, 2, none⟩ = some (.slice pZ (rl + R) cZ) := Lib.cell_of_heap FW.out.ht 2
            have zt : tb < E.heap.size := block_lt FW.out.ht
            have HGE : Hid (GrIs E Any (.slice p7 (n + R) c7) (.slice pZ (rl + R) cZ) (binG D g m)) := by
              refine ⟨Reads.of FW.out.hn (fun _ _ => trivial), ?_⟩
              unfold binG
              rw [← HN.out]
              exact FW.out.hr.monoV (fun _ _ _ => trivial)
            have KM2 := may_any (binG D g m) (.slice p7 (n + R) c7) (.slice pZ (rl + R) cZ) E HGE.out (fun s hs => by
              rcases List.mem_append.1 hs with h | h
              · exact HNS.out s h
              · have := fresh_small HDS.out m HM7.out.2 s h
                unfold maxLen
                omega) (fun r hr c hc => by
              rcases List.mem_append.1 hr with h | h
              · have := cutR_two _ _ _ r h c hc; omega
              · have := restR_two _ _ _ r h c hc; omega)
            rw [show (binG D g m).start = st from HST.out.symm] at KM2
            have HWE : Hid (Below wa.heap.size wa E) := FW.out.hb
            have HGO : Hid (GrIs E (fun i => i ≠ ob) (.slice p7 (n + R) c7) (.slice pZ (rl + R) cZ) (binG D g m)) := by
              have hob := block_lt HOA.out
              refine ⟨Reads.of FW.out.hn (fun b hb e => by have := (FW.out.hn.lt b hb).1; omega), ?_⟩
              unfold binG
              rw [← HN.out]
              exact FW.out.hr.monoV (fun b hb _ e => by have := hb.2; omega)
            have HM8 : Hid ((freshT D g.names m).length = (rowsR g.rules).length) := by show _ = _; rw [← HR.out]; exact HM7.out.1
            clear FW HM7 ON7 B7 BX7 BX7A M9 IA IB TA TB BA BB KA KB NA NB ZA ZB SA LA LB hrA hrB K7 K9 K10
            cases hmB : mayG (binG D g m) with
            | true =>
              rw [hmB] at KM2
              go_upto_region 8 with (go_at_call 13; refine KM2.mono ?_; rintro e wm ⟨rfl, bm⟩)
              have HOM : wm.heap[ob]? = some (.cells #[.int .i64 0, .slice none 0 0, .slice none 0 0] 27) := (bm.block ob (by have := HWE.out.size; have := block_lt HOA.out; omega)).trans ((HWE.out.block ob (block_lt HOA.out)).trans HOA.out)
              have HGM : Hid (GrIs ((wm.setCell ⟨ob, 0, none⟩ (.int .i64 st)).setCell ⟨ob, 1, none⟩ (.slice p7 (n + R) c7) |>.setCell ⟨ob, 2, none⟩ (.slice pZ (rl + R) cZ)) Any (.slice p7 (n + R) c7) (.slice pZ (rl + R) cZ) (binG D g m)) := by
                have hst : Stay (fun i => i ≠ ob) wm ((wm.setCell ⟨ob, 0, none⟩ (.int .i64 st)).setCell ⟨ob, 1, none⟩ (.slice p7 (n + R) c7) |>.setCell ⟨ob, 2, none⟩ (.slice pZ (rl + R) cZ)) := by
                  refine ⟨by simp [World.setCell], fun b hb => ?_⟩
                  rw [Go.Deep.blk_setCell_other _ ⟨ob, 2, none⟩ _ b hb, Go.Deep.blk_setCell_other _ ⟨ob, 1, none⟩ _ b hb, Go.Deep.blk_setCell_other _ ⟨ob, 0, none⟩ _ b hb]
                have hk : Stay (fun i => i ≠ ob ∧ i < E.heap.size) E wm := ⟨bm.size, fun b hb => bm.block b hb.2⟩
                exact ⟨Reads.keep (Reads.keep (Reads.mono HGO.out.1 (F' := fun i => i ≠ ob ∧ i < E.heap.size) (fun b h1 h2 => ⟨h1, h2⟩)) hk (F' := fun i => i ≠ ob) (fun b h => h.1)) hst (fun _ _ => trivial), ((HGO.out.2.monoV (F' := fun i => i ≠ ob ∧ i < E.heap.size) (fun b h1 h2 => ⟨h1, h2⟩)).keep hk (F' := fun i => i ≠ ob) (fun b h => h.1)).keep hst (fun _ _ => trivial)⟩
              have HBM : Hid (Below w.heap.size w ((wm.setCell ⟨ob, 0, none⟩ (.int .i64 st)).setCell ⟨ob, 1, none⟩ (.slice p7 (n + R) c7) |>.setCell ⟨ob, 2, none⟩ (.slice pZ (rl + R) cZ))) := ((((HWA.out.trans (HWE.out.mono HWA.out.size)).trans (bm.mono (by have := HWA.out.size; have := HWE.out.size; omega))).setCell (p := ⟨ob, 0, none⟩) HOB.out _).setCell (p := ⟨ob, 1, none⟩) HOB.out _).setCell (p := ⟨ob, 2, none⟩) HOB.out _
              have m0 := (bm.cell (p := ⟨tb, 0, none⟩) zt).trans e0
              have m1 := (bm.cell (p := ⟨tb, 1, none⟩) zt).trans e1
              have m2 := (bm.cell (p := ⟨tb, 2, none⟩) zt).trans e2
              have o0 : wm.cell? ⟨ob, 0, none⟩ = some (.int .i64 0) := Lib.cell_of_heap HOM 0
              have o1 : wm.cell? ⟨ob, 1, none⟩ = some (.slice none 0 0) := Lib.cell_of_heap HOM 1
              have o2 : wm.cell? ⟨ob, 2, none⟩ = some (.slice none 0 0) := Lib.cell_of_heap HOM 2
              have zf : ∀ k, wm.frozen? ⟨ob, k, none⟩ = false := fun k => by unfold World.frozen?; rw [HOM]; simp
              have z0 := zf 0
              have z1 := zf 1
              have z2 := zf 2
              have zo : ob < wm.heap.size := block_lt HOM
              have zt2 : tb < wm.heap.size := Nat.lt_of_lt_of_le zt bm.size
              clear e0 e1 e2 zf HOM bm
              have HMB : Hid (mayG (binG D g m) = true) := hmB
              clear hmB KM2
              go_wp2
              (try simp only [Exit.inBlock, Exit.then])
              refine bodyPost_ret (v := .tuple #[.agg #[.int .i64 st, .slice p7 (n + R) c7, .slice pZ (rl + R) cZ], .int .i64 0]) ?_ rfl ?_
              · rw [results_cell_tmpB rfl]
                go_simp
              · first
                  | exact ⟨m, 0, st, _, _, rfl, HM8, Or.inl ⟨rfl, rfl, HMB.out, HGM.out⟩, HBM⟩
                  | exact ⟨m, _, _, _, _, rfl, HM8, Or.inl ⟨rfl, rfl, HMB.out, HGM.out⟩, HBM⟩
            | false =>
              rw [hmB] at KM2
              go_upto_region 7 with (go_at_call 13; refine KM2.mono ?_; rintro e wm ⟨rfl, bm⟩)
              have HOM : wm.heap[ob]? = some (.cells #[.int .i64 0, .slice none 0 0, .slice none 0 0] 27) := (bm.block ob (by have := HWE.out.size; have := block_lt HOA.out; omega)).trans ((HWE.out.block ob (block_lt HOA.out)).trans HOA.out)
              have HBM : Hid (Below w.heap.size w ((wm.setCell ⟨ob, 0, none⟩ (.int .i64 0)).setCell ⟨ob, 1, none⟩ (.slice none 0 0) |>.setCell ⟨ob, 2, none⟩ (.slice none 0 0))) := ((((HWA.out.trans (HWE.out.mono HWA.out.size)).trans (bm.mono (by have := HWA.out.size; have := HWE.out.size; omega))).setCell (p := ⟨ob, 0, none⟩) HOB.out _).setCell (p := ⟨ob, 1, none⟩) HOB.out _).setCell (p := ⟨ob, 2, none⟩) HOB.out _
              have o0 : wm.cell? ⟨ob, 0, none⟩ = some (.int .i64 0) := Lib.cell_of_heap HOM 0
              have o1 : wm.cell? ⟨ob, 1, none⟩ = some (.slice none 0 0) := Lib.cell_of_heap HOM 1
              have o2 : wm.cell? ⟨ob, 2, none⟩ = some (.slice none 0 0) := Lib.cell_of_heap HOM 2
              have zf : ∀ k, wm.frozen? ⟨ob, k, none⟩ = false := fun k => by unfold World.frozen?; rw [HOM]; simp
              have z0 := zf 0
              have z1 := zf 1
              have z2 := zf 2
              have zo : ob < wm.heap.size := block_lt HOM
              clear e0 e1 e2 zf HOM bm
              have HMB : Hid (mayG (binG D g m) = false) := hmB
              clear hmB KM2
              go_wp2
              (try simp only [Exit.inBlock, Exit.then])
              refine bodyPost_ret (v := .tuple #[.agg #[.int .i64 0, .slice none 0 0, .slice none 0 0], .int .i64 1401]) ?_ rfl ?_
              · rw [results_cell_tmpB rfl]
                go_simp
              · exact ⟨m, 1401, 0, _, _, rfl, HM8, Or.inr ⟨rfl, HMB.out, rfl, rfl, rfl⟩, HBM⟩
          exact AllReadyH.nil
        exact AllReadyH.nil
      exact AllReadyH.nil
    refine AllReadyH.cons rfl (fun K hK => ?_) ?_
    · go_simp
      refine hK.out _ _ ?_ (fun hHeld => ?_)
      · (try dsimp only); (first | with_reducible exact S0.out | with_reducible exact SDA | with_reducible exact S7 | with_reducible exact S7A | with_reducible exact S9 | with_reducible exact S9A | with_reducible exact SA.out | with_reducible exact SAA | with_reducible exact SB2.out | with_reducible exact SE1 | with_reducible exact SE3 | with_reducible exact SC | exact S0.out)
      clear hK K
      refine wpAnyH_ready (rs := [9]) (by kernel_rfl) (by simp) ?_
      refine AllReadyH.cons rfl (fun K hK => ?_) ?_
      · (go_simp; (first | (have B9 : Hid (Below X2.heap.size X2 w7) := BX7.out; refine (K9.out w7 B9.out).mono ?_; rintro e w9 ⟨p9, c9, F9, us9, rfl, M9⟩; have BX9 : Hid (Below X2.heap.size X2 w9) := B9.out.trans (M9.out.bl.mono B9.out.size); have BX9A : Hid (Below X2.heap.size X2 (w9.alloc (.cells #[.int .i64 0, .slice none 0 0, .slice none 0 0] 27))) := BX9.out.alloc BX9.out.size _; have S9 := SB.out w9 BX9.out; have S9A := SB.out _ BX9A.out; obtain ⟨pA, cA, wA, hrA, IA, TA, BA, KA, NA, ZA, SA, OA⟩ := K10.out _ w9 _ _ _ _ B9.out M9.out; obtain ⟨pB, cB, wB, hrB, IB, TB, BB, KB, NB, ZB, SB2, OB⟩ := K10.out _ (w9.alloc (.cells #[.int .i64 0, .slice none 0 0, .slice none 0 0] 27)) _ _ _ _ B9.out (M9.out.keep (bel1 _ _)); have LA := stepApp hrA; have LB := stepApp hrB; unfold StepApp at LA LB; have SAA := sx_alloc SA.out (.cells #[.int .i64 0, .slice none 0 0, .slice none 0 0] 27); have hs7 := BX7.out.size; have hs9 := BX9.out.size; have hg := HGQ.out; have N9 := row_keep ON7.out M9.out.bl; have FC := FinW.new (arr := #[.int .i64 st, .slice p7 (n + R) c7, .slice pA (rl + R) cA]) BA.out (NA.out _ _ _ N9) IA.out (fun b hb => by rcases hb with hb | hb | hb; exact (HFL.out _ hb).2; (have := (M9.out.fl _ hb).1; omega); exact OA.out _ hb); have SC := sx_alloc SA.out (.cells #[.int .i64 st, .slice p7 (n + R) c7, .slice pA (rl + R) cA] 27); have tB : wB.heap[w9.heap.size]? = some (.cells #[.int .i64 0, .slice none 0 0, .slice none 0 0] 27) := (KB.out _ (by omega) (by simp)).trans (heap_alloc_new _ _); have FB : FinW wa w9.heap.size #[.int .i64 0, .slice none 0 0, .slice none 0 0] (.slice p7 (n + R) c7) (.slice pB (rl + R) cB) _ _ wB := ⟨BB.out, tB, NB.out _ _ _ (N9.alloc _), IB.out.monoV (fun b hb _ => ⟨fun e => by subst e; rcases hb with hb | hb | hb; have := HFL.out _ hb; omega; have := (M9.out.fl _ hb).2; omega; exact TB.out _ _ tB hb, by rcases hb with hb | hb | hb; exact (HFL.out _ hb).2; (have := (M9.out.fl _ hb).1; omega); exact OB.out _ hb⟩), by omega⟩; have fB0 : wB.cell? ⟨w9.heap.size, 0, none⟩ = some (.int .i64 0) := Lib.cell_of_heap FB.ht 0; have fB1 : wB.cell? ⟨w9.heap.size, 1, none⟩ = some (.slice none 0 0) := Lib.cell_of_heap FB.ht 1; have fB2 : wB.cell? ⟨w9.heap.size, 2, none⟩ = some (.slice none 0 0) := Lib.cell_of_heap FB.ht 2; have zB : ∀ k, wB.frozen? ⟨w9.heap.size, k, none⟩ = false := (fun k => by unfold World.frozen?; rw [FB.ht]; simp); have zB0 := zB 0; have zB1 := zB 1; have zB2 := zB 2; clear zB; have SE3 := sx_set3 w9.heap.size SB2.out (by omega) (by omega) (.int .i64 st) (.slice p7 (n + R) c7) (.slice pB (rl + R) cB); (try (have tA : wA.heap[X2.heap.size]? = some (.cells #[.int .i64 0, .slice none 0 0, .slice none 0 0] 27) := (KA.out _ (Nat.le_refl _) (by have := block_lt T7.out; have := M9.out.bl.size; omega)).trans ((M9.out.bl.block _ (block_lt T7.out)).trans T7.out); have FA : FinW wa X2.heap.size #[.int .i64 0, .slice none 0 0, .slice none 0 0] (.slice p7 (n + R) c7) (.slice pA (rl + R) cA) _ _ wA := ⟨BA.out, tA, NA.out _ _ _ N9, IA.out.monoV (fun b hb _ => ⟨fun e => by subst e; rcases hb with hb | hb | hb; have := HFL.out _ hb; omega; have := (M9.out.fl _ hb).1; have := block_lt T7.out; omega; exact TA.out _ _ tA hb, by rcases hb with hb | hb | hb; exact (HFL.out _ hb).2; (have := (M9.out.fl _ hb).1; omega); exact OA.out _ hb⟩), by omega⟩; have fA0 : wA.cell? ⟨X2.heap.size, 0, none⟩ = some (.int .i64 0) := Lib.cell_of_heap FA.ht 0; have fA1 : wA.cell? ⟨X2.heap.size, 1, none⟩ = some (.slice none 0 0) := Lib.cell_of_heap FA.ht 1; have fA2 : wA.cell? ⟨X2.heap.size, 2, none⟩ = some (.slice none 0 0) := Lib.cell_of_heap FA.ht 2; have zA : ∀ k, wA.frozen? ⟨X2.heap.size, k, none⟩ = false := (fun k => by unfold World.frozen?; rw [FA.ht]; simp); have zA0 := zA 0; have zA1 := zA 1; have zA2 := zA 2; clear zA; have SE1 := sx_set3 X2.heap.size SA.out (by omega) (by omega) (.int .i64 st) (.slice p7 (n + R) c7) (.slice pA (rl + R) cA)))) | (have B9 : Hid (Below X2.heap.size X2 (w7.alloc (.cells #[.int .i64 0, .slice none 0 0, .slice none 0 0] 27))) := BX7A.out; refine (K9.out (w7.alloc (.cells #[.int .i64 0, .slice none 0 0, .slice none 0 0] 27)) B9.out).mono ?_; rintro e w9 ⟨p9, c9, F9, us9, rfl, M9⟩; have BX9 : Hid (Below X2.heap.size X2 w9) := B9.out.trans (M9.out.bl.mono B9.out.size); have BX9A : Hid (Below X2.heap.size X2 (w9.alloc (.cells #[.int .i64 0, .slice none 0 0, .slice none 0 0] 27))) := BX9.out.alloc BX9.out.size _; have S9 := SB.out w9 BX9.out; have S9A := SB.out _ BX9A.out; obtain ⟨pA, cA, wA, hrA, IA, TA, BA, KA, NA, ZA, SA, OA⟩ := K10.out _ w9 _ _ _ _ B9.out M9.out; obtain ⟨pB, cB, wB, hrB, IB, TB, BB, KB, NB, ZB, SB2, OB⟩ := K10.out _ (w9.alloc (.cells #[.int .i64 0, .slice none 0 0, .slice none 0 0] 27)) _ _ _ _ B9.out (M9.out.keep (bel1 _ _)); have LA := stepApp hrA; have LB := stepApp hrB; unfold StepApp at LA LB; have SAA := sx_alloc SA.out (.cells #[.int .i64 0, .slice none 0 0, .slice none 0 0] 27); have hs7 := BX7.out.size; have hs9 := BX9.out.size; have hg := HGQ.out; have N9 := row_keep (ON7.out.alloc (.cells #[.int .i64 0, .slice none 0 0, .slice none 0 0] 27)) M9.out.bl; have tA : wA.heap[w7.heap.size]? = some (.cells #[.int .i64 0, .slice none 0 0, .slice none 0 0] 27) := (KA.out _ (by omega) (by have := M9.out.bl.size; simp at this; omega)).trans ((M9.out.bl.block _ (by simp)).trans (heap_alloc_new _ _)); have FA : FinW wa w7.heap.size #[.int .i64 0, .slice none 0 0, .slice none 0 0] (.slice p7 (n + R) c7) (.slice pA (rl + R) cA) _ _ wA := ⟨BA.out, tA, NA.out _ _ _ N9, IA.out.monoV (fun b hb _ => ⟨fun e => by subst e; rcases hb with hb | hb | hb; have := HFL.out _ hb; omega; have := (M9.out.fl _ hb).1; simp at this; omega; exact TA.out _ _ tA hb, by rcases hb with hb | hb | hb; exact (HFL.out _ hb).2; (have := (M9.out.fl _ hb).1; simp at this; omega); exact OA.out _ hb⟩), by omega⟩; have fA0 : wA.cell? ⟨w7.heap.size, 0, none⟩ = some (.int .i64 0) := Lib.cell_of_heap FA.ht 0; have fA1 : wA.cell? ⟨w7.heap.size, 1, none⟩ = some (.slice none 0 0) := Lib.cell_of_heap FA.ht 1; have fA2 : wA.cell? ⟨w7.heap.size, 2, none⟩ = some (.slice none 0 0) := Lib.cell_of_heap FA.ht 2; have zA : ∀ k, wA.frozen? ⟨w7.heap.size, k, none⟩ = false := (fun k => by unfold World.frozen?; rw [FA.ht]; simp); have zA0 := zA 0; have zA1 := zA 1; have zA2 := zA 2; clear zA; have SE1 := sx_set3 w7.heap.size SA.out (by omega) (by omega) (.int .i64 st) (.slice p7 (n + R) c7) (.slice pA (rl + R) cA))); (try dsimp only))
        refine hK.out _ _ ?_ (fun hHeld => ?_)
        · (try dsimp only); (first | with_reducible exact S0.out | with_reducible exact SDA | with_reducible exact S7 | with_reducible exact S7A | with_reducible exact S9 | with_reducible exact S9A | with_reducible exact SA.out | with_reducible exact SAA | with_reducible exact SB2.out | with_reducible exact SE1 | with_reducible exact SE3 | with_reducible exact SC | exact S0.out)
        clear hK K
        refine wpAnyH_ready (rs := [10]) (by kernel_rfl) (by simp) ?_
        refine AllReadyH.cons rfl (fun K hK => ?_) ?_
        · (first | ((with_reducible refine LA _ _ _ _ _ _ ?_ ?_ ?_ ?_); rfl; exact ⟨_, _, rfl, rfl, rfl⟩; rfl) | ((with_reducible refine LB _ _ _ _ _ _ ?_ ?_ ?_ ?_); rfl; exact ⟨_, _, rfl, rfl, rfl⟩; rfl))
          refine hK.out _ _ ?_ (fun hHeld => ?_)
          · (try dsimp only); (first | with_reducible exact S0.out | with_reducible exact SDA | with_reducible exact S7 | with_reducible exact S7A | with_reducible exact S9 | with_reducible exact S9A | with_reducible exact SA.out | with_reducible exact SAA | with_reducible exact SB2.out | with_reducible exact SE1 | with_reducible exact SE3 | with_reducible exact SC | exact S0.out)
          clear hK K
          refine wpAnyH_take (i := 11) (oi := _) (v := ?_) rfl (by kernel_rfl) (by kernel_rfl) (by kernel_rfl) (fun _ _ _ h => h) (Or.inl ⟨by rfl, ?_⟩) (by assumption) ?_
          rotate_left
          · intro w' hSw; (try dsimp only at hSw); go_simp; (try with_reducible rfl)
          simp only [Act.put, List.setIfInBounds_toArray, List.set_cons_zero, List.set_cons_succ]
          refine wpAnyH_ready (rs := [13]) (by kernel_rfl) (by simp) ?_
          refine AllReadyH.cons rfl (fun K hK => ?_) ?_
          · go_simp
            refine hK.out _ _ ?_ (fun hHeld => ?_)
            · (try dsimp only); (first | with_reducible exact S0.out | with_reducible exact SDA | with_reducible exact S7 | with_reducible exact S7A | with_reducible exact S9 | with_reducible exact S9A | with_reducible exact SA.out | with_reducible exact SAA | with_reducible exact SB2.out | with_reducible exact SE1 | with_reducible exact SE3 | with_reducible exact SC | exact S0.out)
            clear hK K
            refine wpAnyH_done (by kernel_rfl) ?_ _
            refine NoPanic.normal ?_
            (first | (obtain ⟨pZ, cZ, E, tb, hpz, hcz, hE, htb, FW⟩ : ∃ pZ cZ E tb, pZ = pA ∧ cZ = cA ∧ E = wA.alloc (.cells #[.int .i64 st, .slice p7 (n + R) c7, .slice pA (rl + R) cA] 27) ∧ tb = wA.heap.size ∧ Hid (FinW wa tb #[.int .i64 st, .slice p7 (n + R) c7, .slice pZ (rl + R) cZ] (.slice p7 (n + R) c7) (.slice pZ (rl + R) cZ) (g.names ++ freshT D g.names m) (cutR n 0 g.rules ++ restR n 0 (rowsR g.rules)) E) := ⟨_, _, _, _, rfl, rfl, rfl, rfl, FC⟩; rw [← hE, ← htb, ← hpz, ← hcz]; clear hE htb hpz hcz) | (obtain ⟨pZ, cZ, E, tb, hpz, hcz, hE, htb, FW⟩ : ∃ pZ cZ E tb, pZ = pB ∧ cZ = cB ∧ E = (((wB.setCell ⟨w9.heap.size, 0, none⟩ (.int .i64 st)).setCell ⟨w9.heap.size, 1, none⟩ (.slice p7 (n + R) c7)).setCell ⟨w9.heap.size, 2, none⟩ (.slice pB (rl + R) cB)) ∧ tb = w9.heap.size ∧ Hid (FinW wa tb #[.int .i64 st, .slice p7 (n + R) c7, .slice pZ (rl + R) cZ] (.slice p7 (n + R) c7) (.slice pZ (rl + R) cZ) (g.names ++ freshT D g.names m) (cutR n 0 g.rules ++ restR n 0 (rowsR g.rules)) E) := ⟨_, _, _, _, rfl, rfl, rfl, rfl, ((FB.set 0 _).set 1 _).set 2 _⟩; rw [← hE, ← htb, ← hpz, ← hcz]; clear hE htb hpz hcz) | (obtain ⟨pZ, cZ, E, tb, hpz, hcz, hE, htb, FW⟩ : ∃ pZ cZ E tb, pZ = pA ∧ cZ = cA ∧ E = (((wA.setCell ⟨w7.heap.size, 0, none⟩ (.int .i64 st)).setCell ⟨w7.heap.size, 1, none⟩ (.slice p7 (n + R) c7)).setCell ⟨w7.heap.size, 2, none⟩ (.slice pA (rl + R) cA)) ∧ tb = w7.heap.size ∧ Hid (FinW wa tb #[.int .i64 st, .slice p7 (n + R) c7, .slice pZ (rl + R) cZ] (.slice p7 (n + R) c7) (.slice pZ (rl + R) cZ) (g.names ++ freshT D g.names m) (cutR n 0 g.rules ++ restR n 0 (rowsR g.rules)) E) := ⟨_, _, _, _, rfl, rfl, rfl, rfl, ((FA.set 0 _).set 1 _).set 2 _⟩; rw [← hE, ← htb, ← hpz, ← hcz]; clear hE htb hpz hcz) | (obtain ⟨pZ, cZ, E, tb, hpz, hcz, hE, htb, FW⟩ : ∃ pZ cZ E tb, pZ = pA ∧ cZ = cA ∧ E = (((wA.setCell ⟨X2.heap.size, 0, none⟩ (.int .i64 st)).setCell ⟨X2.heap.size, 1, none⟩ (.slice p7 (n + R) c7)).setCell ⟨X2.heap.size, 2, none⟩ (.slice pA (rl + R) cA)) ∧ tb = X2.heap.size ∧ Hid (FinW wa tb #[.int .i64 st, .slice p7 (n + R) c7, .slice pZ (rl + R) cZ] (.slice p7 (n + R) c7) (.slice pZ (rl + R) cZ) (g.names ++ freshT D g.names m) (cutR n 0 g.rules ++ restR n 0 (rowsR g.rules)) E) := ⟨_, _, _, _, rfl, rfl, rfl, rfl, ((FA.set 0 _).set 1 _).set 2 _⟩; rw [← hE, ← htb, ← hpz, ← hcz]; clear hE htb hpz hcz))
            have e0 : E.cell? ⟨tb, 0, none⟩ = some (.int .i64 st) := Lib.cell_of_heap FW.out.ht 0
            have e1 : E.cell? ⟨tb, 1, none⟩ = some (.slice p7 (n + R) c7) := Lib.cell_of_heap FW.out.ht 1
            have e2 : E.cell? ⟨tb, 2, none⟩ = some (.slice pZ (rl + R) cZ) := Lib.cell_of_heap FW.out.ht 2
            have zt : tb < E.heap.size := block_lt FW.out.ht
            have HGE : Hid (GrIs E Any (.slice p7 (n + R) c7) (.slice pZ (rl + R) cZ) (binG D g m)) := by
              refine ⟨Reads.of FW.out.hn (fun _ _ => trivial), ?_⟩
              unfold binG
              rw [← HN.out]
              exact FW.out.hr.monoV (fun _ _ _ => trivial)
            have KM2 := may_any (binG D g m) (.slice p7 (n + R) c7) (.slice pZ (rl + R) cZ) E HGE.out (fun s hs => by
              rcases List.mem_append.1 hs with h | h
              · exact HNS.out s h
              · have := fresh_small HDS.out m HM7.out.2 s h
                unfold maxLen
                omega) (fun r hr c hc => by
              rcases List.mem_append.1 hr with h | h
              · have := cutR_two _ _ _ r h c hc; omega
              · have := restR_two _ _ _ r h c hc; omega)
            rw [show (binG D g m).start = st from HST.out.symm] at KM2
            have HWE : Hid (Below wa.heap.size wa E) := FW.out.hb
            have HGO : Hid (GrIs E (fun i => i ≠ ob) (.slice p7 (n + R) c7) (.slice pZ (rl + R) cZ) (binG D g m)) := by
              have hob := block_lt HOA.out
              refine ⟨Reads.of FW.out.hn (fun b hb e => by have := (FW.out.hn.lt b hb).1; omega), ?_⟩
              unfold binG
              rw [← HN.out]
              exact FW.out.hr.monoV (fun b hb _ e => by have := hb.2; omega)
            have HM8 : Hid ((freshT D g.names m).length = (rowsR g.rules).length) := by show _ = _; rw [← HR.out]; exact HM7.out.1
            clear FW HM7 ON7 B7 BX7 BX7A M9 IA IB TA TB BA BB KA KB NA NB ZA ZB SA LA LB hrA hrB K7 K9 K10
            cases hmB : mayG (binG D g m) with
            | true =>
              rw [hmB] at KM2
              go_upto_region 8 with (go_at_call 13; refine KM2.mono ?_; rintro e wm ⟨rfl, bm⟩)
              have HOM : wm.heap[ob]? = some (.cells #[.int .i64 0, .slice none 0 0, .slice none 0 0] 27) := (bm.block ob (by have := HWE.out.size; have := block_lt HOA.out; omega)).trans ((HWE.out.block ob (block_lt HOA.out)).trans HOA.out)
              have HGM : Hid (GrIs ((wm.setCell ⟨ob, 0, none⟩ (.int .i64 st)).setCell ⟨ob, 1, none⟩ (.slice p7 (n + R) c7) |>.setCell ⟨ob, 2, none⟩ (.slice pZ (rl + R) cZ)) Any (.slice p7 (n + R) c7) (.slice pZ (rl + R) cZ) (binG D g m)) := by
                have hst : Stay (fun i => i ≠ ob) wm ((wm.setCell ⟨ob, 0, none⟩ (.int .i64 st)).setCell ⟨ob, 1, none⟩ (.slice p7 (n + R) c7) |>.setCell ⟨ob, 2, none⟩ (.slice pZ (rl + R) cZ)) := by
                  refine ⟨by simp [World.setCell], fun b hb => ?_⟩
                  rw [Go.Deep.blk_setCell_other _ ⟨ob, 2, none⟩ _ b hb, Go.Deep.blk_setCell_other _ ⟨ob, 1, none⟩ _ b hb, Go.Deep.blk_setCell_other _ ⟨ob, 0, none⟩ _ b hb]
                have hk : Stay (fun i => i ≠ ob ∧ i < E.heap.size) E wm := ⟨bm.size, fun b hb => bm.block b hb.2⟩
                exact ⟨Reads.keep (Reads.keep (Reads.mono HGO.out.1 (F' := fun i => i ≠ ob ∧ i < E.heap.size) (fun b h1 h2 => ⟨h1, h2⟩)) hk (F' := fun i => i ≠ ob) (fun b h => h.1)) hst (fun _ _ => trivial), ((HGO.out.2.monoV (F' := fun i => i ≠ ob ∧ i < E.heap.size) (fun b h1 h2 => ⟨h1, h2⟩)).keep hk (F' := fun i => i ≠ ob) (fun b h => h.1)).keep hst (fun _ _ => trivial)⟩
              have HBM : Hid (Below w.heap.size w ((wm.setCell ⟨ob, 0, none⟩ (.int .i64 st)).setCell ⟨ob, 1, none⟩ (.slice p7 (n + R) c7) |>.setCell ⟨ob, 2, none⟩ (.slice pZ (rl + R) cZ))) := ((((HWA.out.trans (HWE.out.mono HWA.out.size)).trans (bm.mono (by have := HWA.out.size; have := HWE.out.size; omega))).setCell (p := ⟨ob, 0, none⟩) HOB.out _).setCell (p := ⟨ob, 1, none⟩) HOB.out _).setCell (p := ⟨ob, 2, none⟩) HOB.out _
              have m0 := (bm.cell (p := ⟨tb, 0, none⟩) zt).trans e0
              have m1 := (bm.cell (p := ⟨tb, 1, none⟩) zt).trans e1
              have m2 := (bm.cell (p := ⟨tb, 2, none⟩) zt).trans e2
              have o0 : wm.cell? ⟨ob, 0, none⟩ = some (.int .i64 0) := Lib.cell_of_heap HOM 0
              have o1 : wm.cell? ⟨ob, 1, none⟩ = some (.slice none 0 0) := Lib.cell_of_heap HOM 1
              have o2 : wm.cell? ⟨ob, 2, none⟩ = some (.slice none 0 0) := Lib.cell_of_heap HOM 2
              have zf : ∀ k, wm.frozen? ⟨ob, k, none⟩ = false := fun k => by unfold World.frozen?; rw [HOM]; simp
              have z0 := zf 0
              have z1 := zf 1
              have z2 := zf 2
              have zo : ob < wm.heap.size := block_lt HOM
              have zt2 : tb < wm.heap.size := Nat.lt_of_lt_of_le zt bm.size
              clear e0 e1 e2 zf HOM bm
              have HMB : Hid (mayG (binG D g m) = true) := hmB
              clear hmB KM2
              go_wp2
              (try simp only [Exit.inBlock, Exit.then])
              refine bodyPost_ret (v := .tuple #[.agg #[.int .i64 st, .slice p7 (n + R) c7, .slice pZ (rl + R) cZ], .int .i64 0]) ?_ rfl ?_
              · rw [results_cell_tmpB rfl]
                go_simp
              · first
                  | exact ⟨m, 0, st, _, _, rfl, HM8, Or.inl ⟨rfl, rfl, HMB.out, HGM.out⟩, HBM⟩
                  | exact ⟨m, _, _, _, _, rfl, HM8, Or.inl ⟨rfl, rfl, HMB.out, HGM.out⟩, HBM⟩
            | false =>
              rw [hmB] at KM2
              go_upto_region 7 with (go_at_call 13; refine KM2.mono ?_; rintro e wm ⟨rfl, bm⟩)
              have HOM : wm.heap[ob]? = some (.cells #[.int .i64 0, .slice none 0 0, .slice none 0 0] 27) := (bm.block ob (by have := HWE.out.size; have := block_lt HOA.out; omega)).trans ((HWE.out.block ob (block_lt HOA.out)).trans HOA.out)
              have HBM : Hid (Below w.heap.size w ((wm.setCell ⟨ob, 0, none⟩ (.int .i64 0)).setCell ⟨ob, 1, none⟩ (.slice none 0 0) |>.setCell ⟨ob, 2, none⟩ (.slice none 0 0))) := ((((HWA.out.trans (HWE.out.mono HWA.out.size)).trans (bm.mono (by have := HWA.out.size; have := HWE.out.size; omega))).setCell (p := ⟨ob, 0, none⟩) HOB.out _).setCell (p := ⟨ob, 1, none⟩) HOB.out _).setCell (p := ⟨ob, 2, none⟩) HOB.out _
              have o0 : wm.cell? ⟨ob, 0, none⟩ = some (.int .i64 0) := Lib.cell_of_heap HOM 0
              have o1 : wm.cell? ⟨ob, 1, none⟩ = some (.slice none 0 0) := Lib.cell_of_heap HOM 1
              have o2 : wm.cell? ⟨ob, 2, none⟩ = some (.slice none 0 0) := Lib.cell_of_heap HOM 2
              have zf : ∀ k, wm.frozen? ⟨ob, k, none⟩ = false := fun k => by unfold World.frozen?; rw [HOM]; simp
              have z0 := zf 0
              have z1 := zf 1
              have z2 := zf 2
              have zo : ob < wm.heap.size := block_lt HOM
              clear e0 e1 e2 zf HOM bm
              have HMB : Hid (mayG (binG D g m) = false) := hmB
              clear hmB KM2
              go_wp2
              (try simp only [Exit.inBlock, Exit.then])
              refine bodyPost_ret (v := .tuple #[.agg #[.int .i64 0, .slice none 0 0, .slice none 0 0], .int .i64 1401]) ?_ rfl ?_
              · rw [results_cell_tmpB rfl]
                go_simp
              · exact ⟨m, 1401, 0, _, _, rfl, HM8, Or.inr ⟨rfl, HMB.out, rfl, rfl, rfl⟩, HBM⟩
          exact AllReadyH.nil
        exact AllReadyH.nil
      exact AllReadyH.nil
    exact AllReadyH.nil
  refine AllReadyH.cons rfl (fun K hK => ?_) ?_
  · go_simp
    refine hK.out _ _ ?_ (fun hHeld => ?_)
    · (try dsimp only); (first | with_reducible exact S0.out | with_reducible exact SDA | with_reducible exact S7 | with_reducible exact S7A | with_reducible exact S9 | with_reducible exact S9A | with_reducible exact SA.out | with_reducible exact SAA | with_reducible exact SB2.out | with_reducible exact SE1 | with_reducible exact SE3 | with_reducible exact SC | exact S0.out)
    clear hK K
    refine wpAnyH_ready (rs := [7]) (by kernel_rfl) (by simp) ?_
    refine AllReadyH.cons rfl (fun K hK => ?_) ?_
    · (go_simp; (first | (refine (K7.out X2.drew BD.out).mono ?_; rintro e w7 ⟨p7, c7, m, rfl, HM7, ON7, B7⟩; have BX7 : Hid (Below X2.heap.size X2 w7) := BD.out.trans (B7.out.mono BD.out.size)) | (refine (K7.out (X2.alloc (.cells #[.int .i64 0, .slice none 0 0, .slice none 0 0] 27)).drew BDA.out).mono ?_; rintro e w7 ⟨p7, c7, m, rfl, HM7, ON7, B7⟩; have BX7 : Hid (Below X2.heap.size X2 w7) := BDA.out.trans (B7.out.mono BDA.out.size); have T7 : Hid (w7.heap[X2.heap.size]? = some (.cells #[.int .i64 0, .slice none 0 0, .slice none 0 0] 27)) := (B7.out.block X2.heap.size (by show _ < (X2.alloc _).heap.size; simp)).trans (show (X2.alloc (.cells #[.int .i64 0, .slice none 0 0, .slice none 0 0] 27)).heap[X2.heap.size]? = _ from heap_alloc_new _ _))); have BX7A : Hid (Below X2.heap.size X2 (w7.alloc (.cells #[.int .i64 0, .slice none 0 0, .slice none 0 0] 27))) := BX7.out.alloc BX7.out.size _; have S7 := SB.out w7 BX7.out; have S7A := SB.out _ BX7A.out; (try dsimp only))
      refine hK.out _ _ ?_ (fun hHeld => ?_)
      · (try dsimp only); (first | with_reducible exact S0.out | with_reducible exact SDA | with_reducible exact S7 | with_reducible exact S7A | with_reducible exact S9 | with_reducible exact S9A | with_reducible exact SA.out | with_reducible exact SAA | with_reducible exact SB2.out | with_reducible exact SE1 | with_reducible exact SE3 | with_reducible exact SC | exact S0.out)
      clear hK K
      refine wpAnyH_ready (rs := [9]) (by kernel_rfl) (by simp) ?_
      refine AllReadyH.cons rfl (fun K hK => ?_) ?_
      · (go_simp; (first | (have B9 : Hid (Below X2.heap.size X2 w7) := BX7.out; refine (K9.out w7 B9.out).mono ?_; rintro e w9 ⟨p9, c9, F9, us9, rfl, M9⟩; have BX9 : Hid (Below X2.heap.size X2 w9) := B9.out.trans (M9.out.bl.mono B9.out.size); have BX9A : Hid (Below X2.heap.size X2 (w9.alloc (.cells #[.int .i64 0, .slice none 0 0, .slice none 0 0] 27))) := BX9.out.alloc BX9.out.size _; have S9 := SB.out w9 BX9.out; have S9A := SB.out _ BX9A.out; obtain ⟨pA, cA, wA, hrA, IA, TA, BA, KA, NA, ZA, SA, OA⟩ := K10.out _ w9 _ _ _ _ B9.out M9.out; obtain ⟨pB, cB, wB, hrB, IB, TB, BB, KB, NB, ZB, SB2, OB⟩ := K10.out _ (w9.alloc (.cells #[.int .i64 0, .slice none 0 0, .slice none 0 0] 27)) _ _ _ _ B9.out (M9.out.keep (bel1 _ _)); have LA := stepApp hrA; have LB := stepApp hrB; unfold StepApp at LA LB; have SAA := sx_alloc SA.out (.cells #[.int .i64 0, .slice none 0 0, .slice none 0 0] 27); have hs7 := BX7.out.size; have hs9 := BX9.out.size; have hg := HGQ.out; have N9 := row_keep ON7.out M9.out.bl; have FC := FinW.new (arr := #[.int .i64 st, .slice p7 (n + R) c7, .slice pA (rl + R) cA]) BA.out (NA.out _ _ _ N9) IA.out (fun b hb => by rcases hb with hb | hb | hb; exact (HFL.out _ hb).2; (have := (M9.out.fl _ hb).1; omega); exact OA.out _ hb); have SC := sx_alloc SA.out (.cells #[.int .i64 st, .slice p7 (n + R) c7, .slice pA (rl + R) cA] 27); have tB : wB.heap[w9.heap.size]? = some (.cells #[.int .i64 0, .slice none 0 0, .slice none 0 0] 27) := (KB.out _ (by omega) (by simp)).trans (heap_alloc_new _ _); have FB : FinW wa w9.heap.size #[.int .i64 0, .slice none 0 0, .slice none 0 0] (.slice p7 (n + R) c7) (.slice pB (rl + R) cB) _ _ wB := ⟨BB.out, tB, NB.out _ _ _ (N9.alloc _), IB.out.monoV (fun b hb _ => ⟨fun e => by subst e; rcases hb with hb | hb | hb; have := HFL.out _ hb; omega; have := (M9.out.fl _ hb).2; omega; exact TB.out _ _ tB hb, by rcases hb with hb | hb | hb; exact (HFL.out _ hb).2; (have := (M9.out.fl _ hb).1; omega); exact OB.out _ hb⟩), by omega⟩; have fB0 : wB.cell? ⟨w9.heap.size, 0, none⟩ = some (.int .i64 0) := Lib.cell_of_heap FB.ht 0; have fB1 : wB.cell? ⟨w9.heap.size, 1, none⟩ = some (.slice none 0 0) := Lib.cell_of_heap FB.ht 1; have fB2 : wB.cell? ⟨w9.heap.size, 2, none⟩ = some (.slice none 0 0) := Lib.cell_of_heap FB.ht 2; have zB : ∀ k, wB.frozen? ⟨w9.heap.size, k, none⟩ = false := (fun k => by unfold World.frozen?; rw [FB.ht]; simp); have zB0 := zB 0; have zB1 := zB 1; have zB2 := zB 2; clear zB; have SE3 := sx_set3 w9.heap.size SB2.out (by omega) (by omega) (.int .i64 st) (.slice p7 (n + R) c7) (.slice pB (rl + R) cB); (try (have tA : wA.heap[X2.heap.size]? = some (.cells #[.int .i64 0, .slice none 0 0, .slice none 0 0] 27) := (KA.out _ (Nat.le_refl _) (by have := block_lt T7.out; have := M9.out.bl.size; omega)).trans ((M9.out.bl.block _ (block_lt T7.out)).trans T7.out); have FA : FinW wa X2.heap.size #[.int .i64 0, .slice none 0 0, .slice none 0 0] (.slice p7 (n + R) c7) (.slice pA (rl + R) cA) _ _ wA := ⟨BA.out, tA, NA.out _ _ _ N9, IA.out.monoV (fun b hb _ => ⟨fun e => by subst e; rcases hb with hb | hb | hb; have := HFL.out _ hb; omega; have := (M9.out.fl _ hb).1; have := block_lt T7.out; omega; exact TA.out _ _ tA hb, by rcases hb with hb | hb | hb; exact (HFL.out _ hb).2; (have := (M9.out.fl _ hb).1; omega); exact OA.out _ hb⟩), by omega⟩; have fA0 : wA.cell? ⟨X2.heap.size, 0, none⟩ = some (.int .i64 0) := Lib.cell_of_heap FA.ht 0; have fA1 : wA.cell? ⟨X2.heap.size, 1, none⟩ = some (.slice none 0 0) := Lib.cell_of_heap FA.ht 1; have fA2 : wA.cell? ⟨X2.heap.size, 2, none⟩ = some (.slice none 0 0) := Lib.cell_of_heap FA.ht 2; have zA : ∀ k, wA.frozen? ⟨X2.heap.size, k, none⟩ = false := (fun k => by unfold World.frozen?; rw [FA.ht]; simp); have zA0 := zA 0; have zA1 := zA 1; have zA2 := zA 2; clear zA; have SE1 := sx_set3 X2.heap.size SA.out (by omega) (by omega) (.int .i64 st) (.slice p7 (n + R) c7) (.slice pA (rl + R) cA)))) | (have B9 : Hid (Below X2.heap.size X2 (w7.alloc (.cells #[.int .i64 0, .slice none 0 0, .slice none 0 0] 27))) := BX7A.out; refine (K9.out (w7.alloc (.cells #[.int .i64 0, .slice none 0 0, .slice none 0 0] 27)) B9.out).mono ?_; rintro e w9 ⟨p9, c9, F9, us9, rfl, M9⟩; have BX9 : Hid (Below X2.heap.size X2 w9) := B9.out.trans (M9.out.bl.mono B9.out.size); have BX9A : Hid (Below X2.heap.size X2 (w9.alloc (.cells #[.int .i64 0, .slice none 0 0, .slice none 0 0] 27))) := BX9.out.alloc BX9.out.size _; have S9 := SB.out w9 BX9.out; have S9A := SB.out _ BX9A.out; obtain ⟨pA, cA, wA, hrA, IA, TA, BA, KA, NA, ZA, SA, OA⟩ := K10.out _ w9 _ _ _ _ B9.out M9.out; obtain ⟨pB, cB, wB, hrB, IB, TB, BB, KB, NB, ZB, SB2, OB⟩ := K10.out _ (w9.alloc (.cells #[.int .i64 0, .slice none 0 0, .slice none 0 0] 27)) _ _ _ _ B9.out (M9.out.keep (bel1 _ _)); have LA := stepApp hrA; have LB := stepApp hrB; unfold StepApp at LA LB; have SAA := sx_alloc SA.out (.cells #[.int .i64 0, .slice none 0 0, .slice none 0 0] 27); have hs7 := BX7.out.size; have hs9 := BX9.out.size; have hg := HGQ.out; have N9 := row_keep (ON7.out.alloc (.cells #[.int .i64 0, .slice none 0 0, .slice none 0 0] 27)) M9.out.bl; have tA : wA.heap[w7.heap.size]? = some (.cells #[.int .i64 0, .slice none 0 0, .slice none 0 0] 27) := (KA.out _ (by omega) (by have := M9.out.bl.size; simp at this; omega)).trans ((M9.out.bl.block _ (by simp)).trans (heap_alloc_new _ _)); have FA : FinW wa w7.heap.size #[.int .i64 0, .slice none 0 0, .slice none 0 0] (.slice p7 (n + R) c7) (.slice pA (rl + R) cA) _ _ wA := ⟨BA.out, tA, NA.out _ _ _ N9, IA.out.monoV (fun b hb _ => ⟨fun e => by subst e; rcases hb with hb | hb | hb; have := HFL.out _ hb; omega; have := (M9.out.fl _ hb).1; simp at this; omega; exact TA.out _ _ tA hb, by rcases hb with hb | hb | hb; exact (HFL.out _ hb).2; (have := (M9.out.fl _ hb).1; simp at this; omega); exact OA.out _ hb⟩), by omega⟩; have fA0 : wA.cell? ⟨w7.heap.size, 0, none⟩ = some (.int .i64 0) := Lib.cell_of_heap FA.ht 0; have fA1 : wA.cell? ⟨w7.heap.size, 1, none⟩ = some (.slice none 0 0) := Lib.cell_of_heap FA.ht 1; have fA2 : wA.cell? ⟨w7.heap.size, 2, none⟩ = some (.slice none 0 0) := Lib.cell_of_heap FA.ht 2; have zA : ∀ k, wA.frozen? ⟨w7.heap.size, k, none⟩ = false := (fun k => by unfold World.frozen?; rw [FA.ht]; simp); have zA0 := zA 0; have zA1 := zA 1; have zA2 := zA 2; clear zA; have SE1 := sx_set3 w7.heap.size SA.out (by omega) (by omega) (.int .i64 st) (.slice p7 (n + R) c7) (.slice pA (rl + R) cA))); (try dsimp only))
        refine hK.out _ _ ?_ (fun hHeld => ?_)
        · (try dsimp only); (first | with_reducible exact S0.out | with_reducible exact SDA | with_reducible exact S7 | with_reducible exact S7A | with_reducible exact S9 | with_reducible exact S9A | with_reducible exact SA.out | with_reducible exact SAA | with_reducible exact SB2.out | with_reducible exact SE1 | with_reducible exact SE3 | with_reducible exact SC | exact S0.out)
        clear hK K
        refine wpAnyH_ready (rs := [10]) (by kernel_rfl) (by simp) ?_
        refine AllReadyH.cons rfl (fun K hK => ?_) ?_
        · (first | ((with_reducible refine LA _ _ _ _ _ _ ?_ ?_ ?_ ?_); rfl; exact ⟨_, _, rfl, rfl, rfl⟩; rfl) | ((with_reducible refine LB _ _ _ _ _ _ ?_ ?_ ?_ ?_); rfl; exact ⟨_, _, rfl, rfl, rfl⟩; rfl))
          refine hK.out _ _ ?_ (fun hHeld => ?_)
          · (try dsimp only); (first | with_reducible exact S0.out | with_reducible exact SDA | with_reducible exact S7 | with_reducible exact S7A | with_reducible exact S9 | with_reducible exact S9A | with_reducible exact SA.out | with_reducible exact SAA | with_reducible exact SB2.out | with_reducible exact SE1 | with_reducible exact SE3 | with_reducible exact SC | exact S0.out)
          clear hK K
          refine wpAnyH_take (i := 11) (oi := _) (v := ?_) rfl (by kernel_rfl) (by kernel_rfl) (by kernel_rfl) (fun _ _ _ h => h) (Or.inl ⟨by rfl, ?_⟩) (by assumption) ?_
          rotate_left
          · intro w' hSw; (try dsimp only at hSw); go_simp; (try with_reducible rfl)
          simp only [Act.put, List.setIfInBounds_toArray, List.set_cons_zero, List.set_cons_succ]
          refine wpAnyH_ready (rs := [13]) (by kernel_rfl) (by simp) ?_
          refine AllReadyH.cons rfl (fun K hK => ?_) ?_
          · go_simp
            refine hK.out _ _ ?_ (fun hHeld => ?_)
            · (try dsimp only); (first | with_reducible exact S0.out | with_reducible exact SDA | with_reducible exact S7 | with_reducible exact S7A | with_reducible exact S9 | with_reducible exact S9A | with_reducible exact SA.out | with_reducible exact SAA | with_reducible exact SB2.out | with_reducible exact SE1 | with_reducible exact SE3 | with_reducible exact SC | exact S0.out)
            clear hK K
            refine wpAnyH_done (by kernel_rfl) ?_ _
            refine NoPanic.normal ?_
            (first | (obtain ⟨pZ, cZ, E, tb, hpz, hcz, hE, htb, FW⟩ : ∃ pZ cZ E tb, pZ = pA ∧ cZ = cA ∧ E = wA.alloc (.cells #[.int .i64 st, .slice p7 (n + R) c7, .slice pA (rl + R) cA] 27) ∧ tb = wA.heap.size ∧ Hid (FinW wa tb #[.int .i64 st, .slice p7 (n + R) c7, .slice pZ (rl + R) cZ] (.slice p7 (n + R) c7) (.slice pZ (rl + R) cZ) (g.names ++ freshT D g.names m) (cutR n 0 g.rules ++ restR n 0 (rowsR g.rules)) E) := ⟨_, _, _, _, rfl, rfl, rfl, rfl, FC⟩; rw [← hE, ← htb, ← hpz, ← hcz]; clear hE htb hpz hcz) | (obtain ⟨pZ, cZ, E, tb, hpz, hcz, hE, htb, FW⟩ : ∃ pZ cZ E tb, pZ = pB ∧ cZ = cB ∧ E = (((wB.setCell ⟨w9.heap.size, 0, none⟩ (.int .i64 st)).setCell ⟨w9.heap.size, 1, none⟩ (.slice p7 (n + R) c7)).setCell ⟨w9.heap.size, 2, none⟩ (.slice pB (rl + R) cB)) ∧ tb = w9.heap.size ∧ Hid (FinW wa tb #[.int .i64 st, .slice p7 (n + R) c7, .slice pZ (rl + R) cZ] (.slice p7 (n + R) c7) (.slice pZ (rl + R) cZ) (g.names ++ freshT D g.names m) (cutR n 0 g.rules ++ restR n 0 (rowsR g.rules)) E) := ⟨_, _, _, _, rfl, rfl, rfl, rfl, ((FB.set 0 _).set 1 _).set 2 _⟩; rw [← hE, ← htb, ← hpz, ← hcz]; clear hE htb hpz hcz) | (obtain ⟨pZ, cZ, E, tb, hpz, hcz, hE, htb, FW⟩ : ∃ pZ cZ E tb, pZ = pA ∧ cZ = cA ∧ E = (((wA.setCell ⟨w7.heap.size, 0, none⟩ (.int .i64 st)).setCell ⟨w7.heap.size, 1, none⟩ (.slice p7 (n + R) c7)).setCell ⟨w7.heap.size, 2, none⟩ (.slice pA (rl + R) cA)) ∧ tb = w7.heap.size ∧ Hid (FinW wa tb #[.int .i64 st, .slice p7 (n + R) c7, .slice pZ (rl + R) cZ] (.slice p7 (n + R) c7) (.slice pZ (rl + R) cZ) (g.names ++ freshT D g.names m) (cutR n 0 g.rules ++ restR n 0 (rowsR g.rules)) E) := ⟨_, _, _, _, rfl, rfl, rfl, rfl, ((FA.set 0 _).set 1 _).set 2 _⟩; rw [← hE, ← htb, ← hpz, ← hcz]; clear hE htb hpz hcz) | (obtain ⟨pZ, cZ, E, tb, hpz, hcz, hE, htb, FW⟩ : ∃ pZ cZ E tb, pZ = pA ∧ cZ = cA ∧ E = (((wA.setCell ⟨X2.heap.size, 0, none⟩ (.int .i64 st)).setCell ⟨X2.heap.size, 1, none⟩ (.slice p7 (n + R) c7)).setCell ⟨X2.heap.size, 2, none⟩ (.slice pA (rl + R) cA)) ∧ tb = X2.heap.size ∧ Hid (FinW wa tb #[.int .i64 st, .slice p7 (n + R) c7, .slice pZ (rl + R) cZ] (.slice p7 (n + R) c7) (.slice pZ (rl + R) cZ) (g.names ++ freshT D g.names m) (cutR n 0 g.rules ++ restR n 0 (rowsR g.rules)) E) := ⟨_, _, _, _, rfl, rfl, rfl, rfl, ((FA.set 0 _).set 1 _).set 2 _⟩; rw [← hE, ← htb, ← hpz, ← hcz]; clear hE htb hpz hcz))
            have e0 : E.cell? ⟨tb, 0, none⟩ = some (.int .i64 st) := Lib.cell_of_heap FW.out.ht 0
            have e1 : E.cell? ⟨tb, 1, none⟩ = some (.slice p7 (n + R) c7) := Lib.cell_of_heap FW.out.ht 1
            have e2 : E.cell? ⟨tb, 2, none⟩ = some (.slice pZ (rl + R) cZ) := Lib.cell_of_heap FW.out.ht 2
            have zt : tb < E.heap.size := block_lt FW.out.ht
            have HGE : Hid (GrIs E Any (.slice p7 (n + R) c7) (.slice pZ (rl + R) cZ) (binG D g m)) := by
              refine ⟨Reads.of FW.out.hn (fun _ _ => trivial), ?_⟩
              unfold binG
              rw [← HN.out]
              exact FW.out.hr.monoV (fun _ _ _ => trivial)
            have KM2 := may_any (binG D g m) (.slice p7 (n + R) c7) (.slice pZ (rl + R) cZ) E HGE.out (fun s hs => by
              rcases List.mem_append.1 hs with h | h
              · exact HNS.out s h
              · have := fresh_small HDS.out m HM7.out.2 s h
                unfold maxLen
                omega) (fun r hr c hc => by
              rcases List.mem_append.1 hr with h | h
              · have := cutR_two _ _ _ r h c hc; omega
              · have := restR_two _ _ _ r h c hc; omega)
            rw [show (binG D g m).start = st from HST.out.symm] at KM2
            have HWE : Hid (Below wa.heap.size wa E) := FW.out.hb
            have HGO : Hid (GrIs E (fun i => i ≠ ob) (.slice p7 (n + R) c7) (.slice pZ (rl + R) cZ) (binG D g m)) := by
              have hob := block_lt HOA.out
              refine ⟨Reads.of FW.out.hn (fun b hb e => by have := (FW.out.hn.lt b hb).1; omega), ?_⟩
              unfold binG
              rw [← HN.out]
              exact FW.out.hr.monoV (fun b hb _ e => by have := hb.2; omega)
            have HM8 : Hid ((freshT D g.names m).length = (rowsR g.rules).length) := by show _ = _; rw [← HR.out]; exact HM7.out.1
            clear FW HM7 ON7 B7 BX7 BX7A M9 IA IB TA TB BA BB KA KB NA NB ZA ZB SA LA LB hrA hrB K7 K9 K10
            cases hmB : mayG (binG D g m) with
            | true =>
              rw [hmB] at KM2
              go_upto_region 8 with (go_at_call 13; refine KM2.mono ?_; rintro e wm ⟨rfl, bm⟩)
              have HOM : wm.heap[ob]? = some (.cells #[.int .i64 0, .slice none 0 0, .slice none 0 0] 27) := (bm.block ob (by have := HWE.out.size; have := block_lt HOA.out; omega)).trans ((HWE.out.block ob (block_lt HOA.out)).trans HOA.out)
              have HGM : Hid (GrIs ((wm.setCell ⟨ob, 0, none⟩ (.int .i64 st)).setCell ⟨ob, 1, none⟩ (.slice p7 (n + R) c7) |>.setCell ⟨ob, 2, none⟩ (.slice pZ (rl + R) cZ)) Any (.slice p7 (n + R) c7) (.slice pZ (rl + R) cZ) (binG D g m)) := by
                have hst : Stay (fun i => i ≠ ob) wm ((wm.setCell ⟨ob, 0, none⟩ (.int .i64 st)).setCell ⟨ob, 1, none⟩ (.slice p7 (n + R) c7) |>.setCell ⟨ob, 2, none⟩ (.slice pZ (rl + R) cZ)) := by
                  refine ⟨by simp [World.setCell], fun b hb => ?_⟩
                  rw [Go.Deep.blk_setCell_other _ ⟨ob, 2, none⟩ _ b hb, Go.Deep.blk_setCell_other _ ⟨ob, 1, none⟩ _ b hb, Go.Deep.blk_setCell_other _ ⟨ob, 0, none⟩ _ b hb]
                have hk : Stay (fun i => i ≠ ob ∧ i < E.heap.size) E wm := ⟨bm.size, fun b hb => bm.block b hb.2⟩
                exact ⟨Reads.keep (Reads.keep (Reads.mono HGO.out.1 (F' := fun i => i ≠ ob ∧ i < E.heap.size) (fun b h1 h2 => ⟨h1, h2⟩)) hk (F' := fun i => i ≠ ob) (fun b h => h.1)) hst (fun _ _ => trivial), ((HGO.out.2.monoV (F' := fun i => i ≠ ob ∧ i < E.heap.size) (fun b h1 h2 => ⟨h1, h2⟩)).keep hk (F' := fun i => i ≠ ob) (fun b h => h.1)).keep hst (fun _ _ => trivial)⟩
              have HBM : Hid (Below w.heap.size w ((wm.setCell ⟨ob, 0, none⟩ (.int .i64 st)).setCell ⟨ob, 1, none⟩ (.slice p7 (n + R) c7) |>.setCell ⟨ob, 2, none⟩ (.slice pZ (rl + R) cZ))) := ((((HWA.out.trans (HWE.out.mono HWA.out.size)).trans (bm.mono (by have := HWA.out.size; have := HWE.out.size; omega))).setCell (p := ⟨ob, 0, none⟩) HOB.out _).setCell (p := ⟨ob, 1, none⟩) HOB.out _).setCell (p := ⟨ob, 2, none⟩) HOB.out _
              have m0 := (bm.cell (p := ⟨tb, 0, none⟩) zt).trans e0
              have m1 := (bm.cell (p := ⟨tb, 1, none⟩) zt).trans e1
              have m2 := (bm.cell (p := ⟨tb, 2, none⟩) zt).trans e2
              have o0 : wm.cell? ⟨ob, 0, none⟩ = some (.int .i64 0) := Lib.cell_of_heap HOM 0
              have o1 : wm.cell? ⟨ob, 1, none⟩ = some (.slice none 0 0) := Lib.cell_of_heap HOM 1
              have o2 : wm.cell? ⟨ob, 2, none⟩ = some (.slice none 0 0) := Lib.cell_of_heap HOM 2
              have zf : ∀ k, wm.frozen? ⟨ob, k, none⟩ = false := fun k => by unfold World.frozen?; rw [HOM]; simp
              have z0 := zf 0
              have z1 := zf 1
              have z2 := zf 2
              have zo : ob < wm.heap.size := block_lt HOM
              have zt2 : tb < wm.heap.size := Nat.lt_of_lt_of_le zt bm.size
              clear e0 e1 e2 zf HOM bm
              have HMB : Hid (mayG (binG D g m) = true) := hmB
              clear hmB KM2
              go_wp2
              (try simp only [Exit.inBlock, Exit.then])
              refine bodyPost_ret (v := .tuple #[.agg #[.int .i64 st, .slice p7 (n + R) c7, .slice pZ (rl + R) cZ], .int .i64 0]) ?_ rfl ?_
              · rw [results_cell_tmpB rfl]
                go_simp
              · first
                  | exact ⟨m, 0, st, _, _, rfl, HM8, Or.inl ⟨rfl, rfl, HMB.out, HGM.out⟩, HBM⟩
                  | exact ⟨m, _, _, _, _, rfl, HM8, Or.inl ⟨rfl, rfl, HMB.out, HGM.out⟩, HBM⟩
            | false =>
              rw [hmB] at KM2
              go_upto_region 7 with (go_at_call 13; refine KM2.mono ?_; rintro e wm ⟨rfl, bm⟩)
              have HOM : wm.heap[ob]? = some (.cells #[.int .i64 0, .slice none 0 0, .slice none 0 0] 27) := (bm.block ob (by have := HWE.out.size; have := block_lt HOA.out; omega)).trans ((HWE.out.block ob (block_lt HOA.out)).trans HOA.out)
              have HBM : Hid (Below w.heap.size w ((wm.setCell ⟨ob, 0, none⟩ (.int .i64 0)).setCell ⟨ob, 1, none⟩ (.slice none 0 0) |>.setCell ⟨ob, 2, none⟩ (.slice none 0 0))) := ((((HWA.out.trans (HWE.out.mono HWA.out.size)).trans (bm.mono (by have := HWA.out.size; have := HWE.out.size; omega))).setCell (p := ⟨ob, 0, none⟩) HOB.out _).setCell (p := ⟨ob, 1, none⟩) HOB.out _).setCell (p := ⟨ob, 2, none⟩) HOB.out _
              have o0 : wm.cell? ⟨ob, 0, none⟩ = some (.int .i64 0) := Lib.cell_of_heap HOM 0
              have o1 : wm.cell? ⟨ob, 1, none⟩ = some (.slice none 0 0) := Lib.cell_of_heap HOM 1
              have o2 : wm.cell? ⟨ob, 2, none⟩ = some (.slice none 0 0) := Lib.cell_of_heap HOM 2
              have zf : ∀ k, wm.frozen? ⟨ob, k, none⟩ = false := fun k => by unfold World.frozen?; rw [HOM]; simp
              have z0 := zf 0
              have z1 := zf 1
              have z2 := zf 2
              have zo : ob < wm.heap.size := block_lt HOM
              clear e0 e1 e2 zf HOM bm
              have HMB : Hid (mayG (binG D g m) = false) := hmB
              clear hmB KM2
              go_wp2
              (try simp only [Exit.inBlock, Exit.then])
              refine bodyPost_ret (v := .tuple #[.agg #[.int .i64 0, .slice none 0 0, .slice none 0 0], .int .i64 1401]) ?_ rfl ?_
              · rw [results_cell_tmpB rfl]
                go_simp
              · exact ⟨m, 1401, 0, _, _, rfl, HM8, Or.inr ⟨rfl, HMB.out, rfl, rfl, rfl⟩, HBM⟩
          exact AllReadyH.nil
        exact AllReadyH.nil
      exact AllReadyH.nil
    exact AllReadyH.nil
  exact AllReadyH.nil
end Go.Proofs.YtgpklcpmabafmaaDoor
