/- ahead (package first): what may come where a symbol stands ahead of what is coming. -/
import Derived.Test.YtopokicdgdjgkaaFirN
import Derived.Test.YtopokicdgdjgkaaJoin
import Derived.Test.YtopokicdgdjgkaaRange
import Derived.Deep.RegionHeld3
namespace Go.Proofs.Ytopokicdgdjgkaa
set_option linter.unusedVariables false
set_option linter.unusedSimpArgs false
open Go.ChangeShapes Go.WideShapes Go.ChangeAt Go.RowKit

/-- A set of bytes as a value. -/
abbrev bv (a : Nat → Nat) : Value := .agg #[.int .u64 ((a 0 : Nat) : Int), .int .u64 ((a 1 : Nat) : Int), .int .u64 ((a 2 : Nat) : Int), .int .u64 ((a 3 : Nat) : Int)]
/-- Rows of sets: cells one by one. -/
def bysA (n : Nat) (B : Nat → Nat → Nat) : Array Value := ((List.range (n * 4)).map fun j => Value.int .u64 ((B (j / 4) (j % 4) : Nat) : Int)).toArray
def ByAt (w : World) (b n : Nat) (B : Nat → Nat → Nat) : Prop := w.heap[b]? = some (.cells (bysA n B) 39)
theorem bysA_at {n : Nat} (B : Nat → Nat → Nat) {k j : Nat} (hk : k < n) (hj : j < 4) : (bysA n B)[k * 4 + j]? = some (.int .u64 ((B k j : Nat) : Int)) := by
  unfold bysA
  have h : k * 4 + j < n * 4 := by omega
  simp only [List.getElem?_toArray, List.getElem?_map, List.getElem?_range h, Option.map_some]
  rw [show (k * 4 + j) / 4 = k by omega, show (k * 4 + j) % 4 = j by omega]
theorem ByAt.cell {w : World} {b n : Nat} {B : Nat → Nat → Nat} (h : ByAt w b n B) {k j : Nat} (hk : k < n) (hj : j < 4) : w.cell? ⟨b, k * 4 + j, none⟩ = some (.int .u64 ((B k j : Nat) : Int)) := (Lib.cell_of_heap h _).trans (bysA_at B hk hj)
/-- What may come: bytes, and the end or none. -/
def aheadT (E : Nat → Bool) (B : Nat → Nat → Nat) (s : Sy) (c : (Nat → Nat) × Bool) : (Nat → Nat) × Bool :=
  if s.name = -1 then (rngB s.lo s.hi, false) else if E s.name.toNat = false then (B s.name.toNat, false) else (orB (B s.name.toNat) c.1, c.2)
/-- What may come, as a value: five cells in a row. -/
abbrev fv (c : (Nat → Nat) × Bool) : Value := .agg #[.int .u64 ((c.1 0 : Nat) : Int), .int .u64 ((c.1 1 : Nat) : Int), .int .u64 ((c.1 2 : Nat) : Int), .int .u64 ((c.1 3 : Nat) : Int), .bool c.2]
def ahP (eb bb n : Nat) (nm lo hi : Int) (c : (Nat → Nat) × Bool) : List Obj :=
  [.cells #[.slice (some ⟨eb, 0, none⟩) n n, .slice (some ⟨bb, 0, none⟩) n n] 67, .cells #[.int .i64 nm, .int .i64 lo, .int .i64 hi] 36,
   .cells #[.int .u64 ((c.1 0 : Nat) : Int), .int .u64 ((c.1 1 : Nat) : Int), .int .u64 ((c.1 2 : Nat) : Int), .int .u64 ((c.1 3 : Nat) : Int), .bool c.2] 55, .cells #[.int .u64 0, .int .u64 0, .int .u64 0, .int .u64 0, .bool false] 55]
theorem results_cellF {fn : Func} {p : Tmp} {ty : TypeId} (h : fn.results = #[.cell p ty]) (tmps : Array Value) (P : Program) (w : World) :
    (results fn tmps).run P w = ((asAddr (tmps.getD p undef)).run P w).andThen fun a w₁ => (loadVar ty a).run P w₁ := by
  simp only [results, h]
  simp [Sem.run_bind, Result.andThen]
theorem four_set {w : World} {b : Nat} {x0 x1 x2 x3 x4 y0 y1 y2 y3 y4 : Value} {t : TypeId} (h : w.heap[b]? = some (.cells #[x0, x1, x2, x3, x4] t)) :
    (((((w.setCell ⟨b, 0, none⟩ y0).setCell ⟨b, 1, none⟩ y1).setCell ⟨b, 2, none⟩ y2).setCell ⟨b, 3, none⟩ y3).setCell ⟨b, 4, none⟩ y4).heap[b]? = some (.cells #[y0, y1, y2, y3, y4] t) := by
  have h0 := heap_setCell_same w b 0 _ _ y0 h
  have h1 := heap_setCell_same _ b 1 _ _ y1 h0
  have h2 := heap_setCell_same _ b 2 _ _ y2 h1
  have h3 := heap_setCell_same _ b 3 _ _ y3 h2
  exact heap_setCell_same _ b 4 _ _ y4 h3
theorem but_setF {B x o : Nat} {a w : World} (h : But B x a w) (u : Value) : But B x a (w.setCell ⟨x, o, none⟩ u) := h.setCell (p := ⟨x, o, none⟩) rfl u
set_option maxHeartbeats 4000000 in
set_option maxRecDepth 100000 in
theorem ahead_any (E : Nat → Bool) (B : Nat → Nat → Nat) (n eb bb : Nat) (s : Sy) (c : (Nat → Nat) × Bool) (w : World) (hn : n ≤ 64) (hE : BlAt w eb n E) (hB : ByAt w bb n B) (hs : maySym n s = true) (okB' : ∀ k, okB (B k)) (okc : okB c.1) :
    Calls Try.prog 36 #[.agg #[.slice (some ⟨eb, 0, none⟩) n n, .slice (some ⟨bb, 0, none⟩) n n], .agg #[.int .i64 s.name, .int .i64 s.lo, .int .i64 s.hi], fv c] w fun e w' => e = .returned (fv (aheadT E B s c)) ∧ Hid (Below w.heap.size w w') := by
  obtain ⟨nm, lo, hi⟩ := s
  obtain ⟨V, hV⟩ : ∃ V, V = blks w (ahP eb bb n nm lo hi c) := ⟨_, rfl⟩
  have hb : ∀ k o, (ahP eb bb n nm lo hi c)[k]? = some o → V.heap[w.heap.size + k]? = some o := fun k o ho => by rw [hV]; exact blks_at _ w k o ho
  have HBV : Hid (Below w.heap.size w V) := by rw [hV]; exact blks_below _ _
  have hVs : V.heap.size = w.heap.size + 4 := by rw [hV]; simp [blks, ahP]
  have hV2 : ((((w.alloc (.cells #[.slice (some ⟨eb, 0, none⟩) n n, .slice (some ⟨bb, 0, none⟩) n n] 67)).alloc (.cells #[.int .i64 nm, .int .i64 lo, .int .i64 hi] 36)).alloc (.cells #[.int .u64 ((c.1 0 : Nat) : Int), .int .u64 ((c.1 1 : Nat) : Int), .int .u64 ((c.1 2 : Nat) : Int), .int .u64 ((c.1 3 : Nat) : Int), .bool c.2] 55)).alloc (.cells #[.int .u64 0, .int .u64 0, .int .u64 0, .int .u64 0, .bool false] 55)) = V := hV.symm
  obtain ⟨gb, hgb⟩ : ∃ b, b = w.heap.size := ⟨_, rfl⟩
  obtain ⟨sb, hsb⟩ : ∃ b, b = w.heap.size + 1 := ⟨_, rfl⟩
  obtain ⟨cb, hcb⟩ : ∃ b, b = w.heap.size + 1 + 1 := ⟨_, rfl⟩
  obtain ⟨rb, hrb⟩ : ∃ b, b = w.heap.size + 1 + 1 + 1 := ⟨_, rfl⟩
  have k0 : V.heap[gb]? = some (.cells #[.slice (some ⟨eb, 0, none⟩) n n, .slice (some ⟨bb, 0, none⟩) n n] 67) := by rw [hgb]; exact hb 0 _ rfl
  have k1 : V.heap[sb]? = some (.cells #[.int .i64 nm, .int .i64 lo, .int .i64 hi] 36) := by rw [hsb]; exact hb 1 _ rfl
  have k2 : V.heap[cb]? = some (.cells #[.int .u64 ((c.1 0 : Nat) : Int), .int .u64 ((c.1 1 : Nat) : Int), .int .u64 ((c.1 2 : Nat) : Int), .int .u64 ((c.1 3 : Nat) : Int), .bool c.2] 55) := by rw [hcb]; exact hb 2 _ rfl
  have k3 : V.heap[rb]? = some (.cells #[.int .u64 0, .int .u64 0, .int .u64 0, .int .u64 0, .bool false] 55) := by rw [hrb]; exact hb 3 _ rfl
  have HRB : Hid (∀ w', Below V.heap.size V w' → w'.heap[rb]? = some (.cells #[.int .u64 0, .int .u64 0, .int .u64 0, .int .u64 0, .bool false] 55)) := fun w' h => (h.block rb (block_lt k3)).trans k3
  have HWR : Hid (w.heap.size ≤ rb) := by show _ ≤ _; omega
  have s0 : V.cell? ⟨sb, 0, none⟩ = some (.int .i64 nm) := Lib.cell_of_heap k1 0
  have s1 : V.cell? ⟨sb, 1, none⟩ = some (.int .i64 lo) := Lib.cell_of_heap k1 1
  have s2 : V.cell? ⟨sb, 2, none⟩ = some (.int .i64 hi) := Lib.cell_of_heap k1 2
  by_cases hnm : nm = -1
  · subst hnm
    unfold maySym at hs
    rw [if_pos rfl] at hs
    simp only [Bool.and_eq_true, decide_eq_true_eq] at hs
    have e1 : aheadT E B ⟨-1, lo, hi⟩ c = (rngB lo hi, false) := by unfold aheadT; rw [if_pos rfl]
    rw [e1]
    have KR := range_yes lo hi V hs.1 hs.2.2 hs.2.1
    obtain ⟨r, hr⟩ : ∃ r, r = rngB lo hi := ⟨_, rfl⟩
    rw [← hr] at KR ⊢
    clear e1 hr hs hE hB hb hV k0 k1 k2 k3 hVs
    go_enter Try.func36, Try.ntmps36
    go_upto_region 1 with fail
    rw [← hrb, ← hcb, ← hsb, ← hgb]
    clear hV2 hrb hcb hsb hgb
    go_wp2_with (go_at_call 47; refine KR.mono ?_; rintro e w2 ⟨rfl, b2⟩; have hr2 := HRB.out w2 b2; have r0 : w2.cell? ⟨rb, 0, none⟩ = some (.int .u64 0) := Lib.cell_of_heap hr2 0; have r1 : w2.cell? ⟨rb, 1, none⟩ = some (.int .u64 0) := Lib.cell_of_heap hr2 1; have r2 : w2.cell? ⟨rb, 2, none⟩ = some (.int .u64 0) := Lib.cell_of_heap hr2 2; have r3 : w2.cell? ⟨rb, 3, none⟩ = some (.int .u64 0) := Lib.cell_of_heap hr2 3; have r4 : w2.cell? ⟨rb, 4, none⟩ = some (.bool false) := Lib.cell_of_heap hr2 4; have fz : ∀ k, w2.frozen? ⟨rb, k, none⟩ = false := fun k => frzV hr2 k; have f0 := fz 0; have f1 := fz 1; have f2 := fz 2; have f3 := fz 3; have f4 := fz 4; have rl : rb < w2.heap.size := block_lt hr2; have B2 : Hid (Below V.heap.size V w2) := b2; have HR2 : Hid (w2.heap[rb]? = some (.cells #[.int .u64 0, .int .u64 0, .int .u64 0, .int .u64 0, .bool false] 55)) := hr2; clear hr2 fz b2)
    refine bodyPost_ret (v := fv (r, false)) ?_ rfl ⟨rfl, ?_⟩
    · rw [results_cellF rfl]
      go_simp
    · exact ((((((HBV.out.trans (B2.out.mono HBV.out.size)).setCell (p := ⟨rb, 0, none⟩) HWR.out _).setCell (p := ⟨rb, 1, none⟩) HWR.out _).setCell (p := ⟨rb, 2, none⟩) HWR.out _).setCell (p := ⟨rb, 3, none⟩) HWR.out _).setCell (p := ⟨rb, 4, none⟩) HWR.out _).alloc (by simp [World.setCell]; exact (HBV.out.trans (B2.out.mono HBV.out.size)).size) _
  · obtain ⟨k, rfl⟩ : ∃ k : Nat, nm = (k : Int) := by
      unfold maySym at hs
      rw [if_neg (by show ¬ nm = -1; exact hnm)] at hs
      simp only [Bool.and_eq_true] at hs
      have h2 := hs.1
      unfold isNum at h2
      simp only [Bool.and_eq_true, decide_eq_true_eq] at h2
      exact ⟨nm.toNat, by omega⟩
    have hk : k < n := by
      unfold maySym at hs
      rw [if_neg (by show ¬ (k : Int) = -1; exact hnm)] at hs
      simp only [Bool.and_eq_true] at hs
      have h2 := hs.1
      unfold isNum at h2
      simp only [Bool.and_eq_true, decide_eq_true_eq] at h2
      omega
    have hkI : (k : Int) < (n : Int) := by omega
    have hnD : ((k : Int) == -1) = false := by rw [beq_eq_false_iff_ne]; omega
    have g0 : V.cell? ⟨gb, 0, none⟩ = some (.slice (some ⟨eb, 0, none⟩) n n) := Lib.cell_of_heap k0 0
    have g1 : V.cell? ⟨gb, 1, none⟩ = some (.slice (some ⟨bb, 0, none⟩) n n) := Lib.cell_of_heap k0 1
    have ce := (hE.keep HBV.out).cell hk
    have hB2 : ByAt V bb n B := (HBV.out.block bb (block_lt hB)).trans hB
    have b0 := hB2.cell hk (j := 0) (by omega)
    have b1 := hB2.cell hk (j := 1) (by omega)
    have b2 := hB2.cell hk (j := 2) (by omega)
    have b3 := hB2.cell hk (j := 3) (by omega)
    rw [Nat.add_zero] at b0
    have hr2 := HRB.out V (Below.refl _ _)
    have r0 : V.cell? ⟨rb, 0, none⟩ = some (.int .u64 0) := Lib.cell_of_heap hr2 0
    have r1 : V.cell? ⟨rb, 1, none⟩ = some (.int .u64 0) := Lib.cell_of_heap hr2 1
    have r2 : V.cell? ⟨rb, 2, none⟩ = some (.int .u64 0) := Lib.cell_of_heap hr2 2
    have r3 : V.cell? ⟨rb, 3, none⟩ = some (.int .u64 0) := Lib.cell_of_heap hr2 3
    have r4 : V.cell? ⟨rb, 4, none⟩ = some (.bool false) := Lib.cell_of_heap hr2 4
    have f0 : V.frozen? ⟨rb, 0, none⟩ = false := frzV hr2 0
    have f1 : V.frozen? ⟨rb, 1, none⟩ = false := frzV hr2 1
    have f2 : V.frozen? ⟨rb, 2, none⟩ = false := frzV hr2 2
    have f3 : V.frozen? ⟨rb, 3, none⟩ = false := frzV hr2 3
    have f4 : V.frozen? ⟨rb, 4, none⟩ = false := frzV hr2 4
    have rl : rb < V.heap.size := block_lt hr2
    cases hEk : E k with
    | false =>
      have e1 : aheadT E B ⟨(k : Int), lo, hi⟩ c = (B k, false) := by
        unfold aheadT
        rw [if_neg (by show ¬ (k : Int) = -1; exact hnm)]
        show (if E k = false then _ else _) = _
        rw [if_pos hEk]
        rfl
      rw [e1]
      rw [hEk] at ce
      clear e1 hs hE hB hB2 hb hV k0 k1 k2 k3 hVs hr2 hEk
      go_enter Try.func36, Try.ntmps36
      go_upto_region 1 with fail
      rw [← hrb, ← hcb, ← hsb, ← hgb]
      clear hV2 hrb hcb hsb hgb
      go_wp2
      refine bodyPost_ret (v := fv (B k, false)) ?_ rfl ⟨rfl, ?_⟩
      · rw [results_cellF rfl]
        go_simp
      · exact ((((HBV.out.setCell (p := ⟨rb, 0, none⟩) HWR.out _).setCell (p := ⟨rb, 1, none⟩) HWR.out _).setCell (p := ⟨rb, 2, none⟩) HWR.out _).setCell (p := ⟨rb, 3, none⟩) HWR.out _).setCell (p := ⟨rb, 4, none⟩) HWR.out _
    | true =>
      have e1 : aheadT E B ⟨(k : Int), lo, hi⟩ c = (orB (B k) c.1, c.2) := by
        unfold aheadT
        rw [if_neg (by show ¬ (k : Int) = -1; exact hnm)]
        show (if E k = false then _ else _) = _
        rw [if_neg (by rw [hEk]; decide)]
        rfl
      rw [e1]
      rw [hEk] at ce
      obtain ⟨ca, ce2⟩ := c
      obtain ⟨r, hr⟩ : ∃ r, r = orB (B k) ca := ⟨_, rfl⟩
      have KO := or_any (B k) ca V.drew (okB' k) okc
      rw [← hr] at KO
      show Calls _ _ _ _ fun e w' => e = .returned (fv (orB (B k) ca, ce2)) ∧ _
      rw [← hr]
      have c0 : V.cell? ⟨cb, 0, none⟩ = some (.int .u64 ((ca 0 : Nat) : Int)) := Lib.cell_of_heap k2 0
      have c1 : V.cell? ⟨cb, 1, none⟩ = some (.int .u64 ((ca 1 : Nat) : Int)) := Lib.cell_of_heap k2 1
      have c2 : V.cell? ⟨cb, 2, none⟩ = some (.int .u64 ((ca 2 : Nat) : Int)) := Lib.cell_of_heap k2 2
      have c3 : V.cell? ⟨cb, 3, none⟩ = some (.int .u64 ((ca 3 : Nat) : Int)) := Lib.cell_of_heap k2 3
      have c4 : V.cell? ⟨cb, 4, none⟩ = some (.bool ce2) := Lib.cell_of_heap k2 4
      have HSS : Hid (∀ w', But V.heap.size rb V w' → But V.heap.size rb V w' ∧ w'.cell? ⟨gb, 1, none⟩ = some (.slice (some ⟨bb, 0, none⟩) n n) ∧ w'.cell? ⟨sb, 0, none⟩ = some (.int .i64 (k : Int)) ∧ w'.cell? ⟨bb, k * 4, none⟩ = some (.int .u64 ((B k 0 : Nat) : Int)) ∧ w'.cell? ⟨bb, k * 4 + 1, none⟩ = some (.int .u64 ((B k 1 : Nat) : Int)) ∧ w'.cell? ⟨bb, k * 4 + 2, none⟩ = some (.int .u64 ((B k 2 : Nat) : Int)) ∧ w'.cell? ⟨bb, k * 4 + 3, none⟩ = some (.int .u64 ((B k 3 : Nat) : Int)) ∧ w'.cell? ⟨cb, 0, none⟩ = some (.int .u64 ((ca 0 : Nat) : Int)) ∧ w'.cell? ⟨cb, 1, none⟩ = some (.int .u64 ((ca 1 : Nat) : Int)) ∧ w'.cell? ⟨cb, 2, none⟩ = some (.int .u64 ((ca 2 : Nat) : Int)) ∧ w'.cell? ⟨cb, 3, none⟩ = some (.int .u64 ((ca 3 : Nat) : Int)) ∧ w'.cell? ⟨cb, 4, none⟩ = some (.bool ce2)) := fun w' h => by
        have T : ∀ {b o : Nat} {v : Value}, V.cell? ⟨b, o, none⟩ = some v → b ≠ rb → w'.cell? ⟨b, o, none⟩ = some v := fun hc hne => (h.cell (p := ⟨_, _, none⟩) (cell_in hc) hne).trans hc
        have ngb : gb ≠ rb := by omega
        have nsb : sb ≠ rb := by omega
        have ncb : cb ≠ rb := by omega
        have nbb : bb ≠ rb := by have := block_lt hB; omega
        exact ⟨h, T g1 ngb, T s0 nsb, T b0 nbb, T b1 nbb, T b2 nbb, T b3 nbb, T c0 ncb, T c1 ncb, T c2 ncb, T c3 ncb, T c4 ncb⟩
      clear e1 hs hE hB hB2 hb hV k0 k1 k2 k3 hVs hr2 hEk hr
      go_enter Try.func36, Try.ntmps36
      go_upto_region 1 with fail
      rw [← hrb, ← hcb, ← hsb, ← hgb]
      clear hV2 hrb hcb hsb hgb
      go_upto_region 6 with fail
      clear r0 r1 r2 r3 r4 f0 f1 f2 f3 f4 rl
      go_region_held3 (fun w' => But V.heap.size rb V w' ∧ w'.cell? ⟨gb, 1, none⟩ = some (.slice (some ⟨bb, 0, none⟩) n n) ∧ w'.cell? ⟨sb, 0, none⟩ = some (.int .i64 (k : Int)) ∧ w'.cell? ⟨bb, k * 4, none⟩ = some (.int .u64 ((B k 0 : Nat) : Int)) ∧ w'.cell? ⟨bb, k * 4 + 1, none⟩ = some (.int .u64 ((B k 1 : Nat) : Int)) ∧ w'.cell? ⟨bb, k * 4 + 2, none⟩ = some (.int .u64 ((B k 2 : Nat) : Int)) ∧ w'.cell? ⟨bb, k * 4 + 3, none⟩ = some (.int .u64 ((B k 3 : Nat) : Int)) ∧ w'.cell? ⟨cb, 0, none⟩ = some (.int .u64 ((ca 0 : Nat) : Int)) ∧ w'.cell? ⟨cb, 1, none⟩ = some (.int .u64 ((ca 1 : Nat) : Int)) ∧ w'.cell? ⟨cb, 2, none⟩ = some (.int .u64 ((ca 2 : Nat) : Int)) ∧ w'.cell? ⟨cb, 3, none⟩ = some (.int .u64 ((ca 3 : Nat) : Int)) ∧ w'.cell? ⟨cb, 4, none⟩ = some (.bool ce2))
        ((refine HSS.out _ ?_; (repeat' (first | with_reducible assumption | with_reducible exact But.refl _ _ _ | with_reducible apply But.drew | with_reducible apply but_setF))))
        (first | (go_at_call 37; refine KO.mono ?_; rintro e w2 ⟨rfl, b2'⟩; have hb2 : Below V.heap.size V w2 := (Below.refl _ _).drew.trans b2'; have hu2 : But V.heap.size rb V w2 := But.of hb2; have HB2 : Hid (Below V.heap.size V w2) := hb2; have hr2 := HRB.out w2 hb2; have r0 : w2.cell? ⟨rb, 0, none⟩ = some (.int .u64 0) := Lib.cell_of_heap hr2 0; have r1 : w2.cell? ⟨rb, 1, none⟩ = some (.int .u64 0) := Lib.cell_of_heap hr2 1; have r2 : w2.cell? ⟨rb, 2, none⟩ = some (.int .u64 0) := Lib.cell_of_heap hr2 2; have r3 : w2.cell? ⟨rb, 3, none⟩ = some (.int .u64 0) := Lib.cell_of_heap hr2 3; have r4 : w2.cell? ⟨rb, 4, none⟩ = some (.bool false) := Lib.cell_of_heap hr2 4; have f0 : w2.frozen? ⟨rb, 0, none⟩ = false := frzV hr2 0; have f1 : w2.frozen? ⟨rb, 1, none⟩ = false := frzV hr2 1; have f2 : w2.frozen? ⟨rb, 2, none⟩ = false := frzV hr2 2; have f3 : w2.frozen? ⟨rb, 3, none⟩ = false := frzV hr2 3; have f4 : w2.frozen? ⟨rb, 4, none⟩ = false := frzV hr2 4; have rl : rb < w2.heap.size := block_lt hr2; clear hr2))
      all_goals
        go_wp2
        refine bodyPost_ret (v := fv (r, ce2)) ?_ rfl ⟨rfl, ?_⟩
        · rw [results_cellF rfl]
          go_simp
        · exact (((((HBV.out.trans (HB2.out.mono HBV.out.size)).setCell (p := ⟨rb, 0, none⟩) HWR.out _).setCell (p := ⟨rb, 1, none⟩) HWR.out _).setCell (p := ⟨rb, 2, none⟩) HWR.out _).setCell (p := ⟨rb, 3, none⟩) HWR.out _).setCell (p := ⟨rb, 4, none⟩) HWR.out _
end Go.Proofs.Ytopokicdgdjgkaa
