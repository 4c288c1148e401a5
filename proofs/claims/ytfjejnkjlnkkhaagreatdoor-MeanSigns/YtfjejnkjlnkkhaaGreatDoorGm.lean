import Derived.Test.YtfjejnkjlnkkhaaGreatDoorGl
import Derived.Test.YtfjejnkjlnkkhaaGreatDoorGi
import Derived.Test.YtfjejnkjlnkkhaaGreatDoorGc
import Derived.Test.YtfjejnkjlnkkhaaGreatDoorGj
/- Ranks in memory; rank, isGiven, give of the program. -/
namespace Go.Proofs.YtfjejnkjlnkkhaaGreatDoor
set_option linter.unusedVariables false
set_option linter.unusedSimpArgs false
open Go.ChangeShapes Go.WideShapes Go.ChangeAt Go.RowKit

/-- Block b is Z ranks. -/
structure RkAt (w : World) (b Z : Nat) (K : Nat → Nat) : Prop where
  lt : b < w.heap.size
  cl : ∀ z, z < Z → w.cell? ⟨b, z, none⟩ = some (.int .i32 ((K z : Nat) : Int))
  fz : ∀ k, w.frozen? ⟨b, k, none⟩ = false
section
variable {w w' : World} {b Z : Nat} {K : Nat → Nat}
theorem RkAt.blk (h : RkAt w b Z K) (hs : w.heap.size ≤ w'.heap.size) (hb : w'.heap[b]? = w.heap[b]?) : RkAt w' b Z K :=
  ⟨Nat.lt_of_lt_of_le h.lt hs, fun z hz => (World.cell?_of_block (a := ⟨b, _, none⟩) hb).trans (h.cl z hz), fun k => (World.frozen?_of_block (a := ⟨b, _, none⟩) hb).trans (h.fz k)⟩
theorem RkAt.any (h : RkAt w b Z K) (hb : Below w.heap.size w w') : RkAt w' b Z K := h.blk hb.size (hb.block b h.lt)
theorem RkAt.put (h : RkAt w b Z K) {z : Nat} (hz : z < Z) (v : Nat) : RkAt (w.setCell ⟨b, z, none⟩ (.int .i32 ((v : Nat) : Int))) b Z (putK K z v) := by
  refine ⟨by rw [Go.Deep.nblk_setCell]; exact h.lt, fun y hy => ?_, fun k => (World.frozen?_setCell _ _ _ _).trans (h.fz k)⟩
  unfold putK
  by_cases e : y = z
  · subst e; rw [if_pos rfl]; exact World.cell?_setCell_same _ _ _ (h.cl y hy)
  · rw [if_neg e, World.cell?_setCell_other _ _ _ _ (by intro e9; injection e9 with _ e9; exact e e9.symm)]; exact h.cl y hy
end
set_option maxHeartbeats 1000000 in
set_option maxRecDepth 100000 in
theorem rankP_any {w : World} {tb rb A n : Nat} (t0 : w.cell? ⟨tb, 0, none⟩ = some (.int .i64 (n : Int))) (t4 : w.cell? ⟨tb, 4, none⟩ = some (.slice (some ⟨rb, 0, none⟩) (A * (n + 1) * (n + 1)) (A * (n + 1) * (n + 1)))) (y i j : Nat) (hy : y < A) (hi : i ≤ n) (hj : j ≤ n) (hn : n ≤ 32) (hA : A ≤ 200000) :
    Calls Tryz.prog 34 #[.pointer (some ⟨tb, 0, none⟩), .int .i64 (y : Int), .int .i64 (i : Int), .int .i64 (j : Int)] w fun e w' => e = .returned (.pointer (some ⟨rb, idx n y i j, none⟩)) ∧ w = w' := by
  have hlt := idx_lt (A := A) hy hi hj
  have h1 : y * (n + 1) ≤ 200000 * 33 := Nat.mul_le_mul (by omega) (by omega)
  have h2 : (y * (n + 1) + i) * (n + 1) ≤ (200000 * 33 + 32) * 33 := Nat.mul_le_mul (by omega) (by omega)
  have h3 : idx n y i j = (y * (n + 1) + i) * (n + 1) + j := rfl
  have e1 : (y : Int) * ((n : Int) + 1) = ((y * (n + 1) : Nat) : Int) := by push_cast; rfl
  have e2 : (((y * (n + 1) : Nat) : Int) + (i : Int)) = ((y * (n + 1) + i : Nat) : Int) := by push_cast; rfl
  have e3 : ((y * (n + 1) + i : Nat) : Int) * ((n : Int) + 1) = (((y * (n + 1) + i) * (n + 1) : Nat) : Int) := by push_cast; rfl
  have e4 : (((y * (n + 1) + i) * (n + 1) : Nat) : Int) + (j : Int) = ((idx n y i j : Nat) : Int) := by rw [h3]; push_cast; rfl
  obtain ⟨a1, ha1⟩ : ∃ a1, a1 = y * (n + 1) := ⟨_, rfl⟩
  obtain ⟨a2, ha2⟩ : ∃ a2, a2 = (y * (n + 1) + i) * (n + 1) := ⟨_, rfl⟩
  obtain ⟨a3, ha3⟩ : ∃ a3, a3 = y * (n + 1) + i := ⟨_, rfl⟩
  obtain ⟨ix, hix⟩ : ∃ ix, ix = idx n y i j := ⟨_, rfl⟩
  obtain ⟨Z, hZ⟩ : ∃ Z, Z = A * (n + 1) * (n + 1) := ⟨_, rfl⟩
  rw [← ha2] at h2 e3 e4
  rw [← ha3] at e2 e3
  rw [← ha1] at h1 e1 e2
  rw [← hix] at hlt e4 ⊢
  rw [← hZ] at hlt t4
  have hi3 : a3 ≤ 10000000 := by omega
  have hix9 : ix ≤ 1000000000 := by omega
  have w1 : IntKind.i64.wrap ((y : Int) * ((n : Int) + 1)) = (a1 : Int) := by rw [e1, IntKind.wrap_i64]; omega
  have w2 : IntKind.i64.wrap ((a1 : Int) + (i : Int)) = (a3 : Int) := by rw [e2, IntKind.wrap_i64]; omega
  have w3 : IntKind.i64.wrap ((a3 : Int) * ((n : Int) + 1)) = (a2 : Int) := by rw [e3, IntKind.wrap_i64]; omega
  have w4 : IntKind.i64.wrap ((a2 : Int) + (j : Int)) = (ix : Int) := by rw [e4, IntKind.wrap_i64]; omega
  have hltI : (ix : Int) < (Z : Int) := by omega
  clear ha1 ha2 ha3 hix hZ e1 e2 e3 e4 h3 h1 h2 hy
  go_enter Tryz.func34, Tryz.ntmps34
  go_wp2
  go_ret
  exact ⟨rfl, rfl⟩
def fcsV : List Fct → List Value
  | [] => []
  | e :: l => .int .i64 (e.1 : Int) :: .int .i64 (e.2.1 : Int) :: .int .i64 (e.2.2 : Int) :: fcsV l
theorem fcsV_append : ∀ l m : List Fct, fcsV (l ++ m) = fcsV l ++ fcsV m
  | [], _ => rfl
  | i :: l, m => by simp [fcsV, fcsV_append l m]
theorem fcsV_at : ∀ (l : List Fct) (k : Nat) (s : Fct), l[k]? = some s → (fcsV l)[k * 3]? = some (.int .i64 (s.1 : Int)) ∧ (fcsV l)[k * 3 + 1]? = some (.int .i64 (s.2.1 : Int)) ∧ (fcsV l)[k * 3 + 2]? = some (.int .i64 (s.2.2 : Int))
  | [], k, i, h => by simp at h
  | q :: l, 0, i, h => by
    obtain rfl : q = i := by simpa using h
    exact ⟨rfl, rfl, rfl⟩
  | q :: l, k + 1, i, h => by
    have := fcsV_at l k i (by simpa using h)
    rw [show (k + 1) * 3 = k * 3 + 1 + 1 + 1 by omega]
    simpa [fcsV] using this
/-- How many ranks there are. -/
def rkZ (g : Gr) (W : ByteArray) : Nat := allN g * (W.size + 1) * (W.size + 1)
def givK (K : Nat → Nat) (z t : Nat) : Nat → Nat := if K z = 0 then putK K z t else K
def givF (K : Nat → Nat) (z : Nat) (fd : List Fct) (e : Fct) : List Fct := if K z = 0 then fd ++ [e] else fd
/-- The rounds in memory. -/
structure Rs (g : Gr) (W : ByteArray) (D : Md) (X : World) (R t : Nat) (K : Nat → Nat) (fd : List Fct) (w' : World) : Prop where
  bu : Bu D.rb X w'
  rk : RkAt w' D.rb (rkZ g W) K
  r0 : w'.cell? ⟨R, 0, none⟩ = some (.pointer (some ⟨D.kb, 0, none⟩))
  r1 : w'.cell? ⟨R, 1, none⟩ = some (.int .i32 (t : Int))
  rr : ∃ p c, w'.cell? ⟨R, 2, none⟩ = some (.slice p fd.length c) ∧ w'.ownsRow (R + 1) 109 3 (.slice p fd.length c) fd.length (fcsV fd)
  fz : ∀ k, w'.frozen? ⟨R, k, none⟩ = false
  xr : X.heap.size ≤ R
  ln : fd.length ≤ cntS (fun z => decide (K z ≠ 0)) (rkZ g W)
/-- What stays of the work through the rounds. -/
structure Ws (F : Nat → Prop) (g : Gr) (W : ByteArray) (D : Md) (T : SpM) (X : World) : Prop where
  wm : Wm F g W D X
  fm : Fm F D
  ha : HasAt X D.hb (allN g) T
  hm : W.size ≤ 32
  hA : allN g ≤ 200000
theorem Ws.at {F : Nat → Prop} {g : Gr} {W : ByteArray} {D : Md} {T : SpM} {X w' : World} (h : Ws F g W D T X) (hb : Bu D.rb X w') : Wm F g W D w' ∧ HasAt w' D.hb (allN g) T :=
  ⟨h.wm.keep (hb.stay fun i hi => ⟨Nat.lt_of_lt_of_le (h.fm.lt i hi) h.wm.lo, fun e => h.fm.nr (e ▸ hi)⟩), h.ha.blk hb.size (hb.block _ h.ha.lt h.fm.hr)⟩
theorem rkZ_le {g : Gr} {W : ByteArray} (hm : W.size ≤ 32) (hA : allN g ≤ 200000) : rkZ g W ≤ 217800000 := by
  unfold rkZ
  have h1 : allN g * (W.size + 1) ≤ 200000 * 33 := Nat.mul_le_mul hA (by omega)
  exact Nat.le_trans (Nat.mul_le_mul h1 (show W.size + 1 ≤ 33 by omega)) (by omega)
set_option maxHeartbeats 1000000 in
set_option maxRecDepth 100000 in
theorem isGiven_any {F : Nat → Prop} {g : Gr} {W : ByteArray} {D : Md} {T : SpM} {X w : World} {R t : Nat} {K : Nat → Nat} {fd : List Fct} (hs : Ws F g W D T X) (h : Rs g W D X R t K fd w) (y i j : Nat) (hy : y < allN g) (hi : i ≤ W.size) (hj : j ≤ W.size) :
    Calls Tryz.prog 97 #[.pointer (some ⟨R, 0, none⟩), .int .i64 (y : Int), .int .i64 (i : Int), .int .i64 (j : Int)] w fun e w' => e = .returned (.bool (decide (K (idx W.size y i j) ≠ 0) && decide (K (idx W.size y i j) < t))) ∧ w = w' := by
  obtain ⟨hW, -⟩ := hs.at h.bu
  have KR := rankP_any hW.t0 hW.t4 y i j hy hi hj hs.hm hs.hA
  have c0 := h.rk.cl (idx W.size y i j) (idx_lt hy hi hj)
  have r0 := h.r0
  have r1 := h.r1
  have k0 := hW.k0
  generalize idx W.size y i j = z at *
  obtain ⟨kz, hkz⟩ : ∃ kz, kz = K z := ⟨_, rfl⟩
  rw [← hkz] at c0 ⊢
  clear h hs hW hkz
  by_cases hz : kz = 0
  · subst hz
    go_enter Tryz.func97, Tryz.ntmps97
    go_wp2_with (go_at_call 34; refine KR.mono ?_; rintro e w2 ⟨rfl, rfl⟩)
    go_ret
    exact ⟨rfl, rfl⟩
  · have n1 : ((kz : Int) == 0) = false := by rw [beq_eq_false_iff_ne]; omega
    have n2 : ¬ (kz : Int) = 0 := by omega
    have n3 : decide (kz ≠ 0) = true := decide_eq_true hz
    rw [n3, Bool.true_and]
    clear n3 hz
    go_enter Tryz.func97, Tryz.ntmps97
    go_wp2_with (go_at_call 34; refine KR.mono ?_; rintro e w2 ⟨rfl, rfl⟩)
    go_ret
    exact ⟨ret_boolM (by rw [show ((kz : Int) != 0) = true by rw [bne, n1]; rfl, Bool.true_and]), rfl⟩
/-- The block of the row of what is found. -/
def OwnR (w : World) (R k : Nat) : Prop := ∃ v, w.cell? ⟨R, 2, none⟩ = some v ∧ v.ownBlock = some k
/-- All that was there stays, but for the ranks, the rounds' own cells, and the row of what is found. -/
structure Kq (R rb : Nat) (w w' : World) : Prop where
  size : w.heap.size ≤ w'.heap.size
  same : ∀ k, k < w.heap.size → k ≠ rb → k ≠ R → ¬ OwnR w R k → w'.heap[k]? = w.heap[k]?
  own : ∀ k, OwnR w' R k → OwnR w R k ∨ w.heap.size ≤ k
theorem Kq.refl (R rb : Nat) (w : World) : Kq R rb w w := ⟨Nat.le_refl _, fun _ _ _ _ _ => rfl, fun _ h => Or.inl h⟩
theorem Kq.trans {R rb : Nat} {u v w : World} (h : Kq R rb u v) (k : Kq R rb v w) : Kq R rb u w :=
  ⟨Nat.le_trans h.size k.size, fun i hi h1 h2 h3 => (k.same i (Nat.lt_of_lt_of_le hi h.size) h1 h2 (fun ho => (h.own i ho).elim h3 (by omega))).trans (h.same i hi h1 h2 h3), fun i ho => (k.own i ho).elim (h.own i) (fun hk => Or.inr (Nat.le_trans h.size hk))⟩
theorem Kq.of {R rb : Nat} {w w' : World} (hb : Below w.heap.size w w') (hR : R < w.heap.size) : Kq R rb w w' :=
  ⟨hb.size, fun i hi _ _ _ => hb.block i hi, fun i ⟨v, h1, h2⟩ => Or.inl ⟨v, (hb.cell (p := ⟨R, 2, none⟩) hR).symm.trans h1, h2⟩⟩
theorem Kq.cell {R rb : Nat} {w w' : World} (h : Kq R rb w w') {k o : Nat} {v : Value} (h1 : k ≠ rb) (h2 : k ≠ R) (h3 : ¬ OwnR w R k) (hc : w.cell? ⟨k, o, none⟩ = some v) : w'.cell? ⟨k, o, none⟩ = some v :=
  (World.cell?_of_block (a := ⟨k, o, none⟩) (h.same k (block_lt_of_cell hc) h1 h2 h3)).trans hc
theorem Tryz.infoFct : (Tryz.prog.info? 109).map (fun i => (i.zero, i.size, i.bytes)) = some (some (.agg #[.int .i64 0, .int .i64 0, .int .i64 0]), 3, 24) := by kernel_rfl
set_option maxHeartbeats 2000000 in
set_option maxRecDepth 100000 in
theorem give_any {F : Nat → Prop} {g : Gr} {W : ByteArray} {D : Md} {T : SpM} {X w : World} {R t : Nat} {K : Nat → Nat} {fd : List Fct} (hs : Ws F g W D T X) (h : Rs g W D X R t K fd w) (ht : t ≠ 0) (y i j : Nat) (hy : y < allN g) (hi : i ≤ W.size) (hj : j ≤ W.size) :
    Calls Tryz.prog 94 #[.pointer (some ⟨R, 0, none⟩), .int .i64 (y : Int), .int .i64 (i : Int), .int .i64 (j : Int)] w fun e w' => e = .returned (.tuple #[]) ∧ Hid (Rs g W D X R t (givK K (idx W.size y i j) t) (givF K (idx W.size y i j) fd (y, i, j)) w') ∧ Hid (Kq R D.rb w w') := by
  obtain ⟨hW, -⟩ := hs.at h.bu
  have KR := rankP_any hW.t0 hW.t4 y i j hy hi hj hs.hm hs.hA
  have hlt : idx W.size y i j < rkZ g W := idx_lt hy hi hj
  have c0 := h.rk.cl (idx W.size y i j) hlt
  have cf := h.rk.fz (idx W.size y i j)
  have r0 := h.r0
  have r1 := h.r1
  have k0 := hW.k0
  have hzl := rkZ_le hs.hm hs.hA
  have hrb : D.rb < X.heap.size := Nat.lt_of_lt_of_le hs.fm.rB hs.wm.lo
  have hRr : R ≠ D.rb := by have := h.xr; omega
  have HRs : Hid (Rs g W D X R t K fd w) := h
  generalize idx W.size y i j = z at *
  obtain ⟨kz, hkz⟩ : ∃ kz, kz = K z := ⟨_, rfl⟩
  by_cases hz : K z = 0
  · have e1 : givK K z t = putK K z t := if_pos hz
    have e2 : givF K z fd (y, i, j) = fd ++ [(y, i, j)] := if_pos hz
    rw [e1, e2]
    rw [hz] at c0
    -- the rank is stored
    obtain ⟨V, hV⟩ : ∃ V, V = w.setCell ⟨D.rb, z, none⟩ (.int .i32 ((t : Nat) : Int)) := ⟨_, rfl⟩
    have hVb : ∀ k, k ≠ D.rb → V.heap[k]? = w.heap[k]? := fun k hk => by rw [hV]; exact Go.Deep.blk_setCell_other w ⟨D.rb, z, none⟩ _ k hk
    have hVs : V.heap.size = w.heap.size := by rw [hV]; exact Go.Deep.nblk_setCell _ _ _
    have hVk : RkAt V D.rb (rkZ g W) (putK K z t) := by rw [hV]; exact h.rk.put hlt t
    have hVu : Bu D.rb X V := by rw [hV]; exact h.bu.set z _
    obtain ⟨p, c, r2, ow⟩ := h.rr
    have owV : V.ownsRow (R + 1) 109 3 (.slice p fd.length c) fd.length (fcsV fd) := by
      rw [hV]
      exact ownsRow_setCell_other (a := ⟨D.rb, z, none⟩) ow (fun e => by have h9 : R + 1 ≤ D.rb := (ow.lt D.rb e).1; have := h.xr; omega) _
    have v0 : V.cell? ⟨R, 0, none⟩ = some (.pointer (some ⟨D.kb, 0, none⟩)) := (World.cell?_of_block (a := ⟨R, 0, none⟩) (hVb R hRr)).trans r0
    have v2 : V.cell? ⟨R, 2, none⟩ = some (.slice p fd.length c) := (World.cell?_of_block (a := ⟨R, 2, none⟩) (hVb R hRr)).trans r2
    have v1 : V.cell? ⟨R, 1, none⟩ = some (.int .i32 (t : Int)) := (World.cell?_of_block (a := ⟨R, 1, none⟩) (hVb R hRr)).trans r1
    have vf : ∀ k, V.frozen? ⟨R, k, none⟩ = false := fun k => (World.frozen?_of_block (a := ⟨R, k, none⟩) (hVb R hRr)).trans (h.fz k)
    have hRl : R < V.heap.size := block_lt_of_cell v0
    have hfl : fd.length < 300000000 := by have := h.ln; have := cnt_le (fun z => decide (K z ≠ 0)) (rkZ g W); omega
    obtain ⟨i0, hi0, hz0, hz1, hz2⟩ := info_partsP Tryz.infoFct
    obtain ⟨gg, cap, w2, hrun, hown, hgrow, hat, _⟩ := run_append_lies (P := Tryz.prog) (V.alloc (.cells #[.int .i64 (y : Int), .int .i64 (i : Int), .int .i64 (j : Int)] 109)) 105 105 (R + 1) 109 i0 _ 3 24 Tryz.underlying105 hi0 hz0 hz1 hz2 rfl (by omega) (.slice p fd.length c) fd.length (fcsV fd) (owV.alloc _) ⟨V.heap.size, 0, none⟩ 1 1 [.int .i64 (y : Int), .int .i64 (i : Int), .int .i64 (j : Int)] rfl
      (World.news_of_block (cs := #[.int .i64 (y : Int), .int .i64 (i : Int), .int .i64 (j : Int)]) (t := 109) (fr := (0, 0)) (heap_alloc_new V _)) (by intro u hu; simp at hu; rcases hu with rfl | rfl | rfl <;> rfl) (by omega) (by unfold maxLen; omega) (by omega) (by simp; omega) (V.heap.size + 1) (by simp)
    have hblk : ∀ k, k < V.heap.size → k ≤ R → w2.heap[k]? = V.heap[k]? := fun k hk hk2 => (hgrow.block k (by simp; omega) (fun e => by have := (owV.lt k e.symm).1; omega)).trans (Below.heap_alloc V _ k hk)
    have y2 : w2.cell? ⟨R, 2, none⟩ = some (.slice p fd.length c) := (World.cell?_of_block (a := ⟨R, 2, none⟩) (hblk R hRl (Nat.le_refl _))).trans v2
    have yf : w2.frozen? ⟨R, 2, none⟩ = false := (World.frozen?_of_block (a := ⟨R, 2, none⟩) (hblk R hRl (Nat.le_refl _))).trans (vf 2)
    have hw2s : V.heap.size ≤ w2.heap.size := by have := hgrow.size; simp at this; omega
    have HFIN : Hid (Rs g W D X R t (putK K z t) (fd ++ [(y, i, j)]) (w2.setCell ⟨R, 2, none⟩ (.slice (some ⟨gg, 0, none⟩) (fd.length + 1) cap))) := by
      have hb2 : ∀ k, k ≠ R → (w2.setCell ⟨R, 2, none⟩ (.slice (some ⟨gg, 0, none⟩) (fd.length + 1) cap)).heap[k]? = w2.heap[k]? := fun k hk => Go.Deep.blk_setCell_other w2 ⟨R, 2, none⟩ _ k hk
      have e9 : (fd ++ [(y, i, j)]).length = fd.length + 1 := by simp
      refine ⟨⟨hgrow.os.trans hVu.os, hgrow.tape.trans hVu.tape, hgrow.output.trans hVu.output, ?_, fun k hk hkb => ?_⟩, ?_, ?_, ?_, ⟨some ⟨gg, 0, none⟩, cap, ?_, ?_⟩, fun k => ?_, h.xr, ?_⟩
      · rw [Go.Deep.nblk_setCell]; exact Nat.le_trans hVu.size hw2s
      · rw [hb2 k (by have := h.xr; omega), hblk k (Nat.lt_of_lt_of_le hk hVu.size) (by have := h.xr; omega)]; exact hVu.block k hk hkb
      · refine hVk.blk (by rw [Go.Deep.nblk_setCell]; exact hw2s) ?_
        rw [hb2 _ (Ne.symm hRr)]; exact hblk _ hVk.lt (by have := h.xr; omega)
      · rw [World.cell?_setCell_other _ _ _ _ (by intro e; injection e with _ e; omega)]; exact (World.cell?_of_block (a := ⟨R, 0, none⟩) (hblk R hRl (Nat.le_refl _))).trans v0
      · rw [World.cell?_setCell_other _ _ _ _ (by intro e; injection e with _ e; omega)]; exact (World.cell?_of_block (a := ⟨R, 1, none⟩) (hblk R hRl (Nat.le_refl _))).trans v1
      · rw [e9]; exact World.cell?_setCell_same _ _ _ y2
      · rw [e9, fcsV_append]; exact ownsRow_setCell_other (a := ⟨R, 2, none⟩) hown (fun e => by have h9 : R + 1 ≤ R := (hown.lt R e).1; omega) _
      · rw [World.frozen?_setCell]; exact (World.frozen?_of_block (a := ⟨R, k, none⟩) (hblk R hRl (Nat.le_refl _))).trans (vf k)
      · rw [e9]
        have c1 := cnt_lt (s := fun z => decide (K z ≠ 0)) (t := fun x => decide (putK K z t x ≠ 0)) (fun x hx => by
          simp only [decide_eq_true_eq] at hx ⊢; exact putK_up ht x hx) (k := z) (by simp [hz]) (by simp [putK, ht]) (rkZ g W) hlt
        have := h.ln
        omega
    have HKQ : Hid (Kq R D.rb w (w2.setCell ⟨R, 2, none⟩ (.slice (some ⟨gg, 0, none⟩) (fd.length + 1) cap))) := by
      have hlt2 : ∀ k, k < w.heap.size → k < V.heap.size := fun k hk => by rw [hVs]; exact hk
      refine ⟨by rw [Go.Deep.nblk_setCell, ← hVs]; exact hw2s, fun k hk h1 h2 h3 => ?_, fun k ⟨v, e1, e2⟩ => ?_⟩
      · rw [Go.Deep.blk_setCell_other w2 ⟨R, 2, none⟩ _ k h2, hgrow.block k (by have := hlt2 k hk; simp; omega) (fun e => h3 ⟨_, r2, e.symm⟩), Below.heap_alloc V _ k (hlt2 k hk)]
        exact hVb k h1
      · rw [World.cell?_setCell_same _ _ _ y2] at e1
        injection e1 with e1
        rw [← e1] at e2
        have e3 : gg = k := by simpa [Value.ownBlock] using e2
        rcases hat with ha | ha
        · exact Or.inl ⟨_, r2, by rw [ha, e3]⟩
        · exact Or.inr (by rw [← e3, ha, ← hVs]; exact Nat.le_succ _)
    have HRUN : Hid ((Builtin.append_ #[105, 105] 105 #[.slice p fd.length c, .slice (some ⟨V.heap.size, 0, none⟩) 1 1]).run Tryz.prog (V.alloc (.cells #[.int .i64 (y : Int), .int .i64 (i : Int), .int .i64 (j : Int)] 109)) = .ok (.slice (some ⟨gg, 0, none⟩) (fd.length + 1) cap) w2) := hrun
    generalize fd ++ [(y, i, j)] = fd2 at HFIN ⊢
    generalize fd.length = fl at *
    clear h hs hW hVb hVk hVu owV hVs ow hown hgrow hat hblk vf HRs hkz hrun r2 hi0 hz0 hz1 hz2 hfl
    go_enter Tryz.func94, Tryz.ntmps94
    go_upto_region 3 with (go_at_call 34; refine KR.mono ?_; rintro e w3 ⟨rfl, rfl⟩)
    rw [← hV]
    clear hV r0 r1 k0 c0 cf
    go_wp2_with (at_builtin; refine wpList_run_appendP rfl _ _ 105 rfl _ _ rfl rfl HRUN.out ?_)
    go_end0
    exact ⟨rfl, HFIN, HKQ⟩
  · have e1 : givK K z t = K := if_neg hz
    have e2 : givF K z fd (y, i, j) = fd := if_neg hz
    rw [e1, e2]
    rw [← hkz] at c0 hz
    have n1 : ((kz : Int) == 0) = false := by rw [beq_eq_false_iff_ne]; omega
    have n2 : ¬ (kz : Int) = 0 := by omega
    clear h hs hW hkz hz
    go_enter Tryz.func94, Tryz.ntmps94
    go_wp2_with (go_at_call 34; refine KR.mono ?_; rintro e w3 ⟨rfl, rfl⟩)
    go_end0
    exact ⟨rfl, HRs, Kq.refl _ _ _⟩
end Go.Proofs.YtfjejnkjlnkkhaaGreatDoor
/- The map from places to numbers, in memory. -/
namespace Go.Proofs.YtfjejnkjlnkkhaaGreatDoor
set_option linter.unusedVariables false
open Go.RowKit Go.Maps

def plA (e : Plc) : Value := .agg #[.int .i64 e.1, .int .i64 e.2.1, .int .i64 e.2.2]
def plLit (e : Plc) : Lit := .string (keyBytes [.int .i64 e.1, .int .i64 e.2.1, .int .i64 e.2.2])
def okPc (e : Plc) : Prop := (Lit.int .i64 e.1).wf = true ∧ (Lit.int .i64 e.2.1).wf = true ∧ (Lit.int .i64 e.2.2).wf = true
set_option maxRecDepth 100000 in
theorem Tryz.rowPl : (56 : TypeId) < Tryz.prog.types.size := of_decide_eq_true (by kernel_rfl)
theorem Tryz.widePl : (match Tryz.prog.underlying 56 with | some (.array _ _) | some (.struct _) => true | _ => false) = true := by kernel_rfl
theorem Tryz.ktaPl : Tryz.prog.keyTypeAt 2 56 = true := by kernel_rfl
set_option maxRecDepth 100000 in
theorem Tryz.lawPl : WideMaps.KeyLaw Tryz.prog 56 := deep_law_laid Tryz.laidOut (m := 2) (by omega) Tryz.rowPl Tryz.ktaPl Tryz.widePl
theorem Tryz.keyedPl : Keyed Tryz.prog 56 := Keyed.of_law Tryz.lawPl
theorem Tryz.keyPl : Tryz.prog.keyType 56 = true := by kernel_rfl
theorem Tryz.cellsPl : Tryz.prog.cellsOf 56 = 3 := by kernel_rfl
theorem key_pl (e : Plc) (h : okPc e) : keyOf Tryz.prog 56 (plA e) = some (plLit e) := by
  obtain ⟨m, hm⟩ := Tryz.sizeTypes
  unfold keyOf plA
  simp only [Tryz.underlying56]
  rw [if_pos (by simp [Tryz.keyPl, Value.formed, Tryz.underlying56, Tryz.cellsPl]), hm]
  unfold Program.keyLits
  simp only [Tryz.underlying56, Value.cells]
  rw [if_pos (by rw [Tryz.cellsPl]; exact ⟨rfl, by kernel_rfl⟩)]
  simp [Program.keyLits, Tryz.underlying3, Tryz.cellsInt, h.1, h.2.1, h.2.2, plLit]
theorem plLit_inj {a b : Plc} (ha : okPc a) (hb : okPc b) (h : plLit a = plLit b) : a = b := by
  have k := Tryz.keyedPl.inj (key_pl a ha) (h ▸ key_pl b hb)
  unfold plA at k
  injection k with k
  injection k with k
  simp only [List.cons.injEq, Value.int.injEq, true_and, and_true] at k
  exact Prod.ext k.1 (Prod.ext k.2.1 k.2.2)
/-- Block M is the map of the places l to the numbers from N on. -/
def PlMap (w : World) (M N : Nat) (l : List Plc) : Prop :=
  ∃ D : DataW Unit, w.ownsMap Tryz.prog 56 (plainElem Tryz.prog 3) M l.length D ∧ IsMap D ∧ (∀ e : Plc, okPc e → Maps.has D (plLit e) = decide (e ∈ l)) ∧ ∀ k (e : Plc), l[k]? = some e → D.atKey (plLit e) (.lit (.int .i64 0)) = .lit (.int .i64 ((N + k : Nat) : Int))
theorem PlMap.new (w : World) (N : Nat) : PlMap (w.alloc (.map #[] 0)) w.heap.size N [] :=
  ⟨.map [], World.ownsMap_made _ _ _ _, isMap_empty, fun s _ => by simp; rfl, fun k e h => by simp at h⟩
theorem PlMap.put {w' : World} {M N : Nat} {l : List Plc} {s : Plc} {D : DataW Unit} (hm : IsMap D) (hd : ∀ e : Plc, okPc e → Maps.has D (plLit e) = decide (e ∈ l)) (hd2 : ∀ k (e : Plc), l[k]? = some e → D.atKey (plLit e) (.lit (.int .i64 0)) = .lit (.int .i64 ((N + k : Nat) : Int))) (hs : okPc s) (hll : ∀ e, e ∈ l → okPc e) (hn : s ∉ l)
    (hown : w'.ownsMap Tryz.prog 56 (plainElem Tryz.prog 3) M (l.length + 1) (D.put (plLit s) (.lit (.int .i64 ((N + l.length : Nat) : Int))))) : PlMap w' M N (l ++ [s]) := by
  refine ⟨_, by rw [List.length_append]; exact hown, hm.put _ _, fun t ht => ?_, fun k e hk => ?_⟩
  · by_cases e : s = t
    · subst e
      refine (has_put_same hm (k := plLit s) (by unfold plLit; trivial) _).trans ?_
      simp
    · have ne : plLit t ≠ plLit s := fun h => e (plLit_inj ht hs h).symm
      refine (has_put_other ne _).trans ((hd t ht).trans ?_)
      simp [Ne.symm e]
  · by_cases hlt : k < l.length
    · rw [List.getElem?_append_left hlt] at hk
      have hmem := List.mem_of_getElem? hk
      have ne : plLit e ≠ plLit s := fun h => hn (plLit_inj (hll e hmem) hs h ▸ hmem)
      exact (atKey_put_other ne _ _).trans (hd2 k e hk)
    · rw [List.getElem?_append_right (by omega)] at hk
      have hk0 : k = l.length := by have := (List.getElem?_eq_some_iff.1 hk).1; simp at this; omega
      subst hk0
      rw [Nat.sub_self] at hk
      have : s = e := by simpa using hk
      subst this
      exact atKey_put_same hm (k := plLit s) (by unfold plLit; trivial) _ _
theorem PlMap.keep {w w' : World} {M N : Nat} {l : List Plc} (h : PlMap w M N l) (hb : w'.heap[M]? = w.heap[M]?) : PlMap w' M N l := by
  obtain ⟨D, ⟨es, clock, h1, h2⟩, h3⟩ := h
  exact ⟨D, ⟨es, clock, hb.trans h1, h2⟩, h3⟩
theorem PlMap.lt {w : World} {M N : Nat} {l : List Plc} (h : PlMap w M N l) : M < w.heap.size := by
  obtain ⟨D, ⟨es, clock, h1, h2⟩, h3⟩ := h
  exact (Array.getElem?_eq_some_iff.1 h1).1
theorem Tryz.zeroIntM (w : World) : (zeroValue 3).run Tryz.prog w = .ok (.int .i64 0) w := by kernel_rfl
theorem Tryz.underPl : Tryz.prog.underlying 73 = some (.map 56 3) := by kernel_rfl
/-- No place stands twice. -/
theorem ruP_once {L : List Ru} {i j : Nat} {e : Plc} (hi : (ruP 0 L)[i]? = some e) (hj : (ruP 0 L)[j]? = some e) : i = j := by
  obtain ⟨q, c, r, d, p, h1, h2, h3, h4, h5⟩ := ruP_num hi
  obtain ⟨q', c', r', d', p', k1, k2, k3, k4, k5⟩ := ruP_num hj
  rw [h5] at k5
  simp only [Prod.mk.injEq] at k5
  obtain ⟨e1, e2, e3⟩ := k5
  have e1 : q = q' := by omega
  have e2 : c = c' := by omega
  have e3 : p = p' := by omega
  subst e1 e2 e3
  rw [h4, k4]
theorem ruP_new {L : List Ru} {m : Nat} {e : Plc} (h : (ruP 0 L)[m]? = some e) : e ∉ (ruP 0 L).take m := fun hm => by
  obtain ⟨i, hi⟩ := List.mem_iff_getElem?.1 hm
  have hlt : i < m := by have := (List.getElem?_eq_some_iff.1 hi).1; simp at this; omega
  rw [List.getElem?_take_of_lt hlt] at hi
  have := ruP_once hi h
  omega
end Go.Proofs.YtfjejnkjlnkkhaaGreatDoor
/- A table that is done: what its methods answer. -/
namespace Go.Proofs.YtfjejnkjlnkkhaaGreatDoor
set_option linter.unusedVariables false
set_option linter.unusedSimpArgs false
open Go.ChangeShapes Go.WideShapes Go.ChangeAt Go.RowKit Go.Maps

/-- A span and a name that are there; a place. -/
def okS (m : Nat) (i j : Int) : Bool := decide (0 ≤ i) && (decide (i ≤ j) && decide (j ≤ (m : Int)))
def okN (g : Gr) (x : Int) : Bool := decide (0 ≤ x) && decide (x < (g.names.length : Int))
def okP (g : Gr) (q c p : Int) : Bool := decide (0 ≤ q) && (decide (0 ≤ c) && (decide (0 ≤ p) && (match g.rules[q.toNat]? with | none => false | some r => match r.conj[c.toNat]? with | none => false | some d => decide (p.toNat ≤ d.seq.length))))
/-- A rank by rounds of any numbers, or 0. -/
def rkF (g : Gr) (W : ByteArray) (M : SpM) (n : Nat) (x i j : Int) : Int := if okS W.size i j && okN g x then ((rnkN (btsW W) g.rules M n x.toNat i.toNat j.toNat : Nat) : Int) else 0
def rrF (g : Gr) (W : ByteArray) (M : SpM) (n : Nat) (q c p i j : Int) : Int := if okS W.size i j && okP g q c p then ((rnkR (btsW W) g.rules M n q.toNat c.toNat p.toNat i.toNat j.toNat : Nat) : Int) else 0
/-- All that is in has a rank by then. -/
structure RkFull (g : Gr) (W : ByteArray) (M : SpM) (n : Nat) : Prop where
  nm : ∀ x i j, x < g.names.length → i ≤ j → j ≤ W.size → ((rkS (btsW W) g.rules M n).1 x i j = M x i j)
  rs : ∀ q c r d p i j, g.rules[q]? = some r → r.conj[c]? = some d → p ≤ d.seq.length → i ≤ j → j ≤ W.size → ((rkS (btsW W) g.rules M n).2 q c p i j = restB (btsW W) M (d.seq.drop p) i j)
theorem okS_iff {m : Nat} {i j : Int} : okS m i j = true ↔ 0 ≤ i ∧ i ≤ j ∧ j ≤ (m : Int) := by unfold okS; simp only [Bool.and_eq_true, decide_eq_true_eq]
theorem okN_iff {g : Gr} {x : Int} : okN g x = true ↔ 0 ≤ x ∧ x < (g.names.length : Int) := by unfold okN; simp only [Bool.and_eq_true, decide_eq_true_eq]
theorem okP_iff {g : Gr} {q c p : Int} : okP g q c p = true ↔ ∃ (q' c' p' : Nat) (r : Ru) (d : Cn), q = (q' : Int) ∧ c = (c' : Int) ∧ p = (p' : Int) ∧ g.rules[q']? = some r ∧ r.conj[c']? = some d ∧ p' ≤ d.seq.length := by
  unfold okP
  simp only [Bool.and_eq_true, decide_eq_true_eq]
  constructor
  · rintro ⟨h1, h2, h3, h4⟩
    cases hr : g.rules[q.toNat]? with
    | none => rw [hr] at h4; cases h4
    | some r =>
      rw [hr] at h4
      cases hd : r.conj[c.toNat]? with
      | none => simp only [hd] at h4; cases h4
      | some d =>
        simp only [hd, decide_eq_true_eq] at h4
        exact ⟨q.toNat, c.toNat, p.toNat, r, d, by omega, by omega, by omega, hr, hd, h4⟩
  · rintro ⟨q', c', p', r, d, rfl, rfl, rfl, hr, hd, hp⟩
    refine ⟨by omega, by omega, by omega, ?_⟩
    simp only [Int.toNat_natCast, hr, hd, decide_eq_true_eq]
    exact hp
theorem okP_mem {g : Gr} {q c p : Int} : okP g q c p = decide ((q, c, p) ∈ ruP 0 g.rules) := by
  rw [Bool.eq_iff_iff, okP_iff, decide_eq_true_eq]
  constructor
  · rintro ⟨q', c', p', r, d, rfl, rfl, rfl, hr, hd, hp⟩
    have := List.mem_of_getElem? (ruP_at (i := 0) hr hd hp)
    rw [Nat.zero_add] at this
    exact this
  · intro h
    obtain ⟨k, hk⟩ := List.mem_iff_getElem?.1 h
    obtain ⟨q', c', r, d, p', h1, h2, h3, h4, h5⟩ := ruP_num hk
    rw [Nat.zero_add] at h5
    simp only [Prod.mk.injEq] at h5
    exact ⟨q', c', p', r, d, h5.1, h5.2.1, h5.2.2, h1, h2, h3⟩
/-- What is known of a table's numbers. -/
structure Tk (g : Gr) (W : ByteArray) (T : SpM) (t : Nat) (K : Nat → Nat) : Prop where
  hT : MnOk (btsW W) W.size g.names.length g.rules T
  hk : Rk (btsW W) W.size g.names.length g.rules (nmT g.names.length T) t t K []
  t1 : 1 ≤ t
  tl : t ≤ 300000000
  pl : PlIn g.rules
  nn : g.names.length ≤ 64
  nm : NmIn g.names.length g.rules
  hm : W.size ≤ 32
section
variable {g : Gr} {W : ByteArray} {T : SpM} {t : Nat} {K : Nat → Nat}
theorem Tk.hA (h : Tk g W T t K) : allN g ≤ 200000 := by have := h.pl.len; have := h.nn; unfold allN; omega
theorem Tk.le (h : Tk g W T t K) {y i j : Nat} (hi : i ≤ j) (hj : j ≤ W.size) : K (idx W.size y i j) ≤ 300000000 := by
  by_cases e : K (idx W.size y i j) = 0
  · omega
  · have := (h.hk.ok y i j hi hj e).1; have := h.tl; omega
theorem Tk.full (h : Tk g W T t K) : RkFull g W (nmT g.names.length T) t := by
  have hst := h.hk.still h.nm h.t1
  refine ⟨fun x i j hx hi hj => ?_, fun q c r d p i j hr hd hp hi hj => ?_⟩
  · rw [Bool.eq_iff_iff]
    exact ⟨fun g => ((at_name hx).2 ⟨⟨hi, hj⟩, g⟩ : At (btsW W) W.size _ _ _ t x i j).inM hx, fun g => full_name h.nm h.hT.stb hst g⟩
  · rw [Bool.eq_iff_iff]
    exact ⟨fun g => ((at_rest hr hd hp).2 ⟨⟨hi, hj⟩, g⟩ : At (btsW W) W.size _ _ _ t _ i j).inR h.nm hr hd hp, fun g => full_rest h.nm h.hT.stb hst hr hd _ p rfl hp i j hi hj g⟩
theorem Tk.has (h : Tk g W T t K) {x i j : Nat} (hx : x < g.names.length) (hi : i ≤ j) (hj : j ≤ W.size) : T x i j = decide (0 < rkF g W (nmT g.names.length T) t (x : Int) (i : Int) (j : Int)) := by
  unfold rkF
  rw [if_pos (by rw [Bool.and_eq_true, okS_iff, okN_iff]; omega)]
  simp only [Int.toNat_natCast]
  rw [← nmT_at (N := g.names.length) (T := T) hx, ← h.full.nm x i j hx hi hj, Bool.eq_iff_iff, decide_eq_true_eq]
  have := fstAt_pos (f := fun k => (rkS (btsW W) g.rules (nmT g.names.length T) k).1 x i j) (rkN_up x i j) rfl t
  unfold rnkN
  rw [← this]
  omega
theorem Tk.rest (h : Tk g W T t K) {q c p i j : Nat} {r : Ru} {d : Cn} (hr : g.rules[q]? = some r) (hd : r.conj[c]? = some d) (hp : p ≤ d.seq.length) (hi : i ≤ j) (hj : j ≤ W.size) : T (g.names.length + ofRu g.rules q c + p) i j = decide (0 < rrF g W (nmT g.names.length T) t (q : Int) (c : Int) (p : Int) (i : Int) (j : Int)) := by
  unfold rrF
  rw [if_pos (by rw [Bool.and_eq_true, okS_iff, okP_iff]; exact ⟨by omega, q, c, p, r, d, rfl, rfl, rfl, hr, hd, hp⟩)]
  simp only [Int.toNat_natCast]
  have e1 : T (g.names.length + ofRu g.rules q c + p) i j = restB (btsW W) (nmT g.names.length T) (d.seq.drop p) i j := h.hT.rs q c p i j r d hr hd hp hi hj
  rw [e1, ← h.full.rs q c r d p i j hr hd hp hi hj, Bool.eq_iff_iff, decide_eq_true_eq]
  have := fstAt_pos (f := fun k => (rkS (btsW W) g.rules (nmT g.names.length T) k).2 q c p i j) (rkR_up q c p i j) rfl t
  unfold rnkR
  rw [← this]
  omega
theorem Tk.rk (h : Tk g W T t K) {x i j : Nat} (hx : x < g.names.length) (hi : i ≤ j) (hj : j ≤ W.size) : ((K (idx W.size x i j) : Nat) : Int) = rkF g W (nmT g.names.length T) t (x : Int) (i : Int) (j : Int) := by
  unfold rkF
  rw [if_pos (by rw [Bool.and_eq_true, okS_iff, okN_iff]; omega)]
  simp only [Int.toNat_natCast]
  rw [h.hk.name hx hi hj]
theorem Tk.rr (h : Tk g W T t K) {q c p i j : Nat} {r : Ru} {d : Cn} (hr : g.rules[q]? = some r) (hd : r.conj[c]? = some d) (hp : p ≤ d.seq.length) (hi : i ≤ j) (hj : j ≤ W.size) : ((K (idx W.size (g.names.length + ofRu g.rules q c + p) i j) : Nat) : Int) = rrF g W (nmT g.names.length T) t (q : Int) (c : Int) (p : Int) (i : Int) (j : Int) := by
  unfold rrF
  rw [if_pos (by rw [Bool.and_eq_true, okS_iff, okP_iff]; exact ⟨by omega, q, c, p, r, d, rfl, rfl, rfl, hr, hd, hp⟩)]
  simp only [Int.toNat_natCast]
  rw [h.hk.rest hr hd hp hi hj]
end
/-- A table in memory. -/
structure Tm (g : Gr) (W : ByteArray) (T : SpM) (t : Nat) (K : Nat → Nat) (tb hb rb mb : Nat) (w : World) : Prop where
  t0 : w.cell? ⟨tb, 0, none⟩ = some (.int .i64 (W.size : Int))
  t1 : w.cell? ⟨tb, 1, none⟩ = some (.int .i64 (g.names.length : Int))
  t2 : w.cell? ⟨tb, 2, none⟩ = some (.map (some mb))
  t3 : w.cell? ⟨tb, 3, none⟩ = some (.slice (some ⟨hb, 0, none⟩) (allN g) (allN g))
  t4 : w.cell? ⟨tb, 4, none⟩ = some (.slice (some ⟨rb, 0, none⟩) (allN g * (W.size + 1) * (W.size + 1)) (allN g * (W.size + 1) * (W.size + 1)))
  mp : PlMap w mb g.names.length (ruP 0 g.rules)
  ha : HasAt w hb (allN g) T
  rk : RkAt w rb (rkZ g W) K
  tk : Tk g W T t K
theorem Tm.any {g : Gr} {W : ByteArray} {T : SpM} {t : Nat} {K : Nat → Nat} {tb hb rb mb : Nat} {w w' : World} (h : Tm g W T t K tb hb rb mb w) (hb' : Below w.heap.size w w') : Tm g W T t K tb hb rb mb w' := by
  have hl := block_lt_of_cell h.t0
  exact ⟨(hb'.cell (p := ⟨tb, 0, none⟩) hl).trans h.t0, (hb'.cell (p := ⟨tb, 1, none⟩) hl).trans h.t1, (hb'.cell (p := ⟨tb, 2, none⟩) hl).trans h.t2, (hb'.cell (p := ⟨tb, 3, none⟩) hl).trans h.t3, (hb'.cell (p := ⟨tb, 4, none⟩) hl).trans h.t4, h.mp.keep (hb'.block _ h.mp.lt), h.ha.any hb', h.rk.any hb', h.tk⟩
set_option maxRecDepth 100000 in
theorem look_pl {w : World} {M N : Nat} {l : List Plc} (h : PlMap w M N l) (e : Plc) (he : okPc e) : ∃ z : Int, (∀ w' : World, w'.heap[M]? = w.heap[M]? → (Instr.lookup 73 (.map (some M)) (plA e) true).run Tryz.prog w' = .ok (.tuple #[.int .i64 z, .bool (decide (e ∈ l))]) w' ∧ (Instr.lookup 73 (.map (some M)) (plA e) false).run Tryz.prog w' = .ok (.int .i64 z) w') ∧ ∀ k, l[k]? = some e → z = ((N + k : Nat) : Int) := by
  obtain ⟨D, ho, hm, hd, hd2⟩ := h
  have key : ∀ w' : World, w'.heap[M]? = w.heap[M]? → ∃ z : Int, ((Instr.lookup 73 (.map (some M)) (plA e) true).run Tryz.prog w' = .ok (.tuple #[.int .i64 z, .bool (decide (e ∈ l))]) w' ∧ (Instr.lookup 73 (.map (some M)) (plA e) false).run Tryz.prog w' = .ok (.int .i64 z) w') ∧ D.atKey (plLit e) (.lit (.int .i64 0)) = .lit (.int .i64 z) := fun w' hb => by
    have ho' : w'.ownsMap Tryz.prog 56 (plainElem Tryz.prog 3) M l.length D := by
      obtain ⟨es, clock, h1, h2⟩ := ho
      exact ⟨es, clock, hb.trans h1, h2⟩
    obtain ⟨v, ps, hr, hv⟩ := ho'.look_ok Tryz.keyedPl Tryz.underPl (Tryz.zeroIntM w') (plainElem_int Tryz.underlying3 (by decide)) (key_pl e he)
    obtain ⟨v2, ps2, hr2, hv2⟩ := ho'.lookup Tryz.keyedPl Tryz.underPl (Tryz.zeroIntM w') (plainElem_int Tryz.underlying3 (by decide)) (key_pl e he)
    obtain ⟨c, rfl, hc, -⟩ := plainElem_int_inv Tryz.underlying3 hv
    obtain ⟨c2, rfl, hc2, -⟩ := plainElem_int_inv Tryz.underlying3 hv2
    simp only [Prod.mk.injEq] at hc hc2
    have e9 : c2 = c := by
      have := hc2.1.symm.trans hc.1
      injection this with this
      injection this
    subst e9
    exact ⟨c2, ⟨by rw [hr, hd e he], hr2⟩, hc.1⟩
  obtain ⟨z, hz, hat⟩ := key w rfl
  refine ⟨z, fun w' hb => ?_, fun k hk => ?_⟩
  · obtain ⟨z', hz', hat'⟩ := key w' hb
    have e9 : z' = z := by
      have := hat'.symm.trans hat
      injection this with this
      injection this
    rw [← e9]
    exact hz'
  · have := (hd2 k e hk).symm.trans hat
    injection this with this
    injection this with _ this
    exact this.symm
set_option maxHeartbeats 1000000 in
set_option maxRecDepth 100000 in
theorem isSpan_any {m tb : Nat} (w : World) (t0 : w.cell? ⟨tb, 0, none⟩ = some (.int .i64 (m : Int))) (i j : Int) :
    Calls Tryz.prog 31 #[.pointer (some ⟨tb, 0, none⟩), .int .i64 i, .int .i64 j] w fun e w' => e = .returned (.bool (okS m i j)) ∧ w = w' := by
  unfold okS
  by_cases h1 : 0 ≤ i
  · rw [decide_eq_true h1, Bool.true_and]
    by_cases h2 : i ≤ j
    · rw [decide_eq_true h2, Bool.true_and]
      go_enter Tryz.func31, Tryz.ntmps31
      go_wp2
      go_ret
      exact ⟨rfl, rfl⟩
    · rw [decide_eq_false h2, Bool.false_and]
      go_enter Tryz.func31, Tryz.ntmps31
      go_wp2
      go_ret
      exact ⟨rfl, rfl⟩
  · rw [decide_eq_false h1, Bool.false_and]
    go_enter Tryz.func31, Tryz.ntmps31
    go_wp2
    go_ret
    exact ⟨rfl, rfl⟩
section
variable {g : Gr} {W : ByteArray} {T : SpM} {t : Nat} {K : Nat → Nat} {tb hb rb mb : Nat} {w : World}
theorem rkF_no {M : SpM} {n : Nat} {x i j : Int} (h : ¬ (okS W.size i j && okN g x) = true) : rkF g W M n x i j = 0 := if_neg h
theorem rrF_no {M : SpM} {n : Nat} {q c p i j : Int} (h : ¬ (okS W.size i j && okP g q c p) = true) : rrF g W M n q c p i j = 0 := if_neg h
end
set_option maxHeartbeats 2000000 in
set_option maxRecDepth 100000 in
theorem hasT_any {g : Gr} {W : ByteArray} {T : SpM} {t : Nat} {K : Nat → Nat} {tb hb rb mb : Nat} (w : World) (h : Tm g W T t K tb hb rb mb w) (x i j : Int) :
    Calls Tryz.prog 16 #[.pointer (some ⟨tb, 0, none⟩), .int .i64 x, .int .i64 i, .int .i64 j] w fun e w' => e = .returned (.bool (decide (0 < rkF g W (nmT g.names.length T) t x i j))) ∧ w = w' := by
  have KS := isSpan_any w h.t0 i j
  have t1 := h.t1
  have t3 := h.t3
  cases hS : okS W.size i j with
  | false =>
    rw [hS] at KS
    rw [rkF_no (by rw [hS]; simp)]
    clear h hS
    go_enter Tryz.func16, Tryz.ntmps16
    go_wp2_with (go_at_call 31; refine KS.mono ?_; rintro e w2 ⟨rfl, rfl⟩)
    go_ret
    exact ⟨rfl, rfl⟩
  | true =>
    rw [hS] at KS
    by_cases h1 : 0 ≤ x
    · by_cases h2 : x < (g.names.length : Int)
      · obtain ⟨s1, s2, s3⟩ := okS_iff.1 hS
        obtain ⟨y, rfl⟩ : ∃ y : Nat, x = (y : Int) := ⟨x.toNat, by omega⟩
        obtain ⟨a, rfl⟩ : ∃ a : Nat, i = (a : Int) := ⟨i.toNat, by omega⟩
        obtain ⟨b, rfl⟩ : ∃ b : Nat, j = (b : Int) := ⟨j.toNat, by omega⟩
        have hm := h.tk.hm
        have KC := hasSp_any y a b h.ha (by unfold allN; omega) (by omega) (by omega)
        rw [← h.tk.has (x := y) (i := a) (j := b) (by omega) (by omega) (by omega)]
        generalize T y a b = v at KC ⊢
        have hyA : (y : Int) < ((allN g : Nat) : Int) := by unfold allN; omega
        generalize allN g = A at t3 hyA
        generalize g.names.length = N at *
        clear h hS hm
        go_enter Tryz.func16, Tryz.ntmps16
        go_wp2_with (first
          | (go_at_call 31; refine KS.mono ?_; rintro e w2 ⟨rfl, rfl⟩)
          | (go_at_call 32; refine KC.mono ?_; rintro e w2 ⟨rfl, rfl⟩))
        go_ret
        exact ⟨rfl, rfl⟩
      · rw [rkF_no (by rw [Bool.and_eq_true, okN_iff]; rintro ⟨_, h9⟩; omega)]
        generalize g.names.length = N at *
        clear h hS
        go_enter Tryz.func16, Tryz.ntmps16
        go_wp2_with (go_at_call 31; refine KS.mono ?_; rintro e w2 ⟨rfl, rfl⟩)
        go_ret
        exact ⟨rfl, rfl⟩
    · rw [rkF_no (by rw [Bool.and_eq_true, okN_iff]; rintro ⟨_, h9⟩; omega)]
      clear h hS
      go_enter Tryz.func16, Tryz.ntmps16
      go_wp2_with (go_at_call 31; refine KS.mono ?_; rintro e w2 ⟨rfl, rfl⟩)
      go_ret
      exact ⟨rfl, rfl⟩
set_option maxHeartbeats 2000000 in
set_option maxRecDepth 100000 in
theorem rankT_any {g : Gr} {W : ByteArray} {T : SpM} {t : Nat} {K : Nat → Nat} {tb hb rb mb : Nat} (w : World) (h : Tm g W T t K tb hb rb mb w) (x i j : Int) :
    Calls Tryz.prog 19 #[.pointer (some ⟨tb, 0, none⟩), .int .i64 x, .int .i64 i, .int .i64 j] w fun e w' => e = .returned (.int .i64 (rkF g W (nmT g.names.length T) t x i j)) ∧ w = w' := by
  have KH := hasT_any w h x i j
  by_cases h0 : 0 < rkF g W (nmT g.names.length T) t x i j
  · have hok : (okS W.size i j && okN g x) = true := Classical.byContradiction fun hn => by rw [rkF_no hn] at h0; omega
    rw [Bool.and_eq_true, okS_iff, okN_iff] at hok
    obtain ⟨y, rfl⟩ : ∃ y : Nat, x = (y : Int) := ⟨x.toNat, by omega⟩
    obtain ⟨a, rfl⟩ : ∃ a : Nat, i = (a : Int) := ⟨i.toNat, by omega⟩
    obtain ⟨b, rfl⟩ : ∃ b : Nat, j = (b : Int) := ⟨j.toNat, by omega⟩
    have KR := rankP_any h.t0 h.t4 y a b (by unfold allN; omega) (by omega) (by omega) h.tk.hm h.tk.hA
    have c0 := h.rk.cl (idx W.size y a b) (idx_lt (by unfold allN; omega) (by omega) (by omega))
    have hv := h.tk.rk (x := y) (i := a) (j := b) (by omega) (by omega) (by omega)
    rw [decide_eq_true h0] at KH
    rw [← hv]
    have hi32 : K (idx W.size y a b) ≤ 300000000 := h.tk.le (by omega) (by omega)
    generalize idx W.size y a b = z at *
    obtain ⟨kz, hkz⟩ : ∃ kz, kz = K z := ⟨_, rfl⟩
    rw [← hkz] at c0 hi32 ⊢
    have hwk : IntKind.i64.wrap (kz : Int) = (kz : Int) := by rw [IntKind.wrap_i64]; omega
    clear h hok hv hkz h0
    go_enter Tryz.func19, Tryz.ntmps19
    go_wp2_with (first
      | (go_at_call 16; refine KH.mono ?_; rintro e w2 ⟨rfl, rfl⟩)
      | (go_at_call 34; refine KR.mono ?_; rintro e w2 ⟨rfl, rfl⟩))
    go_ret
    exact ⟨by go_num, rfl⟩
  · have e0 : rkF g W (nmT g.names.length T) t x i j = 0 := by
      unfold rkF at h0 ⊢
      split
      · rename_i hh; rw [if_pos hh] at h0; omega
      · rfl
    rw [decide_eq_false h0] at KH
    rw [e0]
    clear h h0 e0
    go_enter Tryz.func19, Tryz.ntmps19
    go_wp2_with (go_at_call 16; refine KH.mono ?_; rintro e w2 ⟨rfl, rfl⟩)
    go_ret
    exact ⟨rfl, rfl⟩
set_option maxHeartbeats 4000000 in
set_option maxRecDepth 100000 in
theorem restT_any {g : Gr} {W : ByteArray} {T : SpM} {t : Nat} {K : Nat → Nat} {tb hb rb mb : Nat} (w : World) (h : Tm g W T t K tb hb rb mb w) (q c p i j : Int) (hpc : okPc (q, c, p)) :
    Calls Tryz.prog 24 #[.pointer (some ⟨tb, 0, none⟩), .agg #[.int .i64 q, .int .i64 c, .int .i64 p], .int .i64 i, .int .i64 j] w fun e w' => e = .returned (.bool (decide (0 < rrF g W (nmT g.names.length T) t q c p i j))) ∧ Hid (Below w.heap.size w w') := by
  obtain ⟨V, hV⟩ : ∃ V, V = w.alloc (.cells #[.int .i64 q, .int .i64 c, .int .i64 p] 56) := ⟨_, rfl⟩
  obtain ⟨nb, hnb⟩ : ∃ nb, nb = w.heap.size := ⟨_, rfl⟩
  have hVb : Below w.heap.size w V := by rw [hV]; exact bel1 _ _
  have HVB : Hid (Below w.heap.size w V) := hVb
  have v0 : V.cell? ⟨nb, 0, none⟩ = some (.int .i64 q) := by rw [hnb, hV]; exact World.cell?_alloc_at _ _ _ _ rfl
  have v1 : V.cell? ⟨nb, 1, none⟩ = some (.int .i64 c) := by rw [hnb, hV]; exact World.cell?_alloc_at _ _ _ _ rfl
  have v2 : V.cell? ⟨nb, 2, none⟩ = some (.int .i64 p) := by rw [hnb, hV]; exact World.cell?_alloc_at _ _ _ _ rfl
  have hVT := h.any hVb
  have KS := isSpan_any V hVT.t0 i j
  cases hS : okS W.size i j with
  | false =>
    rw [hS] at KS
    rw [rrF_no (by rw [hS]; simp)]
    clear h hS hVT hVb v0 v1 v2
    go_enter Tryz.func24, Tryz.ntmps24
    go_upto_region 1 with fail
    rw [← hV, ← hnb]
    clear hV hnb
    go_wp2_with (go_at_call 31; refine KS.mono ?_; rintro e w2 ⟨rfl, rfl⟩)
    go_ret
    exact ⟨rfl, HVB⟩
  | true =>
    rw [hS] at KS
    obtain ⟨z, hz, hzk⟩ := look_pl hVT.mp (q, c, p) hpc
    have nl : nb < V.heap.size := block_lt_of_cell v0
    have tl : tb < V.heap.size := block_lt_of_cell hVT.t0
    have HSS : Hid (∀ w', Below V.heap.size V w' → (Below V.heap.size V w' ∧ w'.cell? ⟨tb, 2, none⟩ = some (.map (some mb)) ∧ w'.cell? ⟨tb, 3, none⟩ = some (.slice (some ⟨hb, 0, none⟩) (allN g) (allN g)) ∧ w'.cell? ⟨nb, 0, none⟩ = some (.int .i64 q) ∧ w'.cell? ⟨nb, 1, none⟩ = some (.int .i64 c) ∧ w'.cell? ⟨nb, 2, none⟩ = some (.int .i64 p) ∧ (Instr.lookup 73 (.map (some mb)) (.agg #[.int .i64 q, .int .i64 c, .int .i64 p]) true).run Tryz.prog w' = .ok (.tuple #[.int .i64 z, .bool (okP g q c p)]) w')) := fun w' hb' => by
      rw [okP_mem]
      exact ⟨hb', (hVT.any hb').t2, (hVT.any hb').t3, (hb'.cell (p := ⟨_, _, none⟩) nl).trans v0, (hb'.cell (p := ⟨_, _, none⟩) nl).trans v1, (hb'.cell (p := ⟨_, _, none⟩) nl).trans v2, (hz w' (hb'.block _ hVT.mp.lt)).1⟩
    have HW2 : Hid (∀ w', Below V.heap.size V w' → Below w.heap.size w w') := fun w' hb' => hVb.trans (hb'.mono hVb.size)
    obtain ⟨s1, s2, s3⟩ := okS_iff.1 hS
    cases hP : okP g q c p with
    | false =>
      rw [hP] at HSS
      rw [rrF_no (by rw [hS, hP]; simp)]
      clear h hS hVT hVb v0 v1 v2 hz hzk hP
      go_enter Tryz.func24, Tryz.ntmps24
      go_upto_region 1 with fail
      rw [← hV, ← hnb]
      clear hV hnb
      go_wp2_with (go_at_call 31; refine KS.mono ?_; rintro e w2 ⟨rfl, rfl⟩)
      go_region_held3 (fun w' => Below V.heap.size V w' ∧ w'.cell? ⟨tb, 2, none⟩ = some (.map (some mb)) ∧ w'.cell? ⟨tb, 3, none⟩ = some (.slice (some ⟨hb, 0, none⟩) (allN g) (allN g)) ∧ w'.cell? ⟨nb, 0, none⟩ = some (.int .i64 q) ∧ w'.cell? ⟨nb, 1, none⟩ = some (.int .i64 c) ∧ w'.cell? ⟨nb, 2, none⟩ = some (.int .i64 p) ∧ (Instr.lookup 73 (.map (some mb)) (.agg #[.int .i64 q, .int .i64 c, .int .i64 p]) true).run Tryz.prog w' = .ok (.tuple #[.int .i64 z, .bool false]) w')
        ((exact HSS.out _ (Below.refl _ V).drew))
        (fail)
      all_goals
        go_wp2
        go_ret
        exact ⟨rfl, HW2.out _ (Below.refl _ V).drew⟩
    | true =>
      rw [hP] at HSS
      obtain ⟨q', c', p', r, d, rfl, rfl, rfl, hr, hd, hp⟩ := okP_iff.1 hP
      have hat := ruP_at (i := 0) hr hd hp
      rw [Nat.zero_add] at hat
      have hzv := hzk _ hat
      obtain ⟨a, rfl⟩ : ∃ a : Nat, i = (a : Int) := ⟨i.toNat, by omega⟩
      obtain ⟨b, rfl⟩ : ∃ b : Nat, j = (b : Int) := ⟨j.toNat, by omega⟩
      have hm := h.tk.hm
      have hlt := ofRu_lt hr hd hp
      obtain ⟨y, hy⟩ : ∃ y, y = g.names.length + (ofRu g.rules q' c' + p') := ⟨_, rfl⟩
      rw [← hy] at hzv
      have hyA : (y : Int) < ((allN g : Nat) : Int) := by unfold allN; omega
      have KC : Hid (∀ w', Below V.heap.size V w' → Calls Tryz.prog 32 #[.pointer (some ⟨hb, y * 66, none⟩), .int .i64 (a : Int), .int .i64 (b : Int)] w' fun e w'' => e = .returned (.bool (T y a b)) ∧ w' = w'') := fun w' hb' => hasSp_any y a b (hVT.any hb').ha (by omega) (by omega) (by omega)
      rw [← h.tk.rest hr hd hp (i := a) (j := b) (by omega) (by omega), show g.names.length + ofRu g.rules q' c' + p' = y by omega]
      generalize T y a b = v at KC ⊢
      generalize allN g = A at HSS hyA
      rw [hzv] at HSS
      clear h hS hVT hVb v0 v1 v2 hz hzk hP hr hd hp hat hzv hlt hy
      go_enter Tryz.func24, Tryz.ntmps24
      go_upto_region 1 with fail
      rw [← hV, ← hnb]
      clear hV hnb
      go_wp2_with (go_at_call 31; refine KS.mono ?_; rintro e w2 ⟨rfl, rfl⟩)
      go_region_held3 (fun w' => Below V.heap.size V w' ∧ w'.cell? ⟨tb, 2, none⟩ = some (.map (some mb)) ∧ w'.cell? ⟨tb, 3, none⟩ = some (.slice (some ⟨hb, 0, none⟩) A A) ∧ w'.cell? ⟨nb, 0, none⟩ = some (.int .i64 (q' : Int)) ∧ w'.cell? ⟨nb, 1, none⟩ = some (.int .i64 (c' : Int)) ∧ w'.cell? ⟨nb, 2, none⟩ = some (.int .i64 (p' : Int)) ∧ (Instr.lookup 73 (.map (some mb)) (.agg #[.int .i64 (q' : Int), .int .i64 (c' : Int), .int .i64 (p' : Int)]) true).run Tryz.prog w' = .ok (.tuple #[.int .i64 (y : Int), .bool true]) w')
        ((exact HSS.out _ (Below.refl _ V).drew))
        (fail)
      all_goals
        obtain ⟨-, -, u3, -, -, -, -⟩ := HSS.out _ (Below.refl _ V).drew
        go_wp2_with (go_at_call 32; refine (KC.out _ (Below.refl _ V).drew).mono ?_; rintro e w2 ⟨rfl, rfl⟩)
        go_ret
        exact ⟨rfl, HW2.out _ (Below.refl _ V).drew⟩
set_option maxHeartbeats 4000000 in
set_option maxRecDepth 100000 in
theorem restRankT_any {g : Gr} {W : ByteArray} {T : SpM} {t : Nat} {K : Nat → Nat} {tb hb rb mb : Nat} (w : World) (h : Tm g W T t K tb hb rb mb w) (q c p i j : Int) (hpc : okPc (q, c, p)) :
    Calls Tryz.prog 25 #[.pointer (some ⟨tb, 0, none⟩), .agg #[.int .i64 q, .int .i64 c, .int .i64 p], .int .i64 i, .int .i64 j] w fun e w' => e = .returned (.int .i64 (rrF g W (nmT g.names.length T) t q c p i j)) ∧ Hid (Below w.heap.size w w') := by
  obtain ⟨V, hV⟩ : ∃ V, V = w.alloc (.cells #[.int .i64 q, .int .i64 c, .int .i64 p] 56) := ⟨_, rfl⟩
  obtain ⟨nb, hnb⟩ : ∃ nb, nb = w.heap.size := ⟨_, rfl⟩
  have hVb : Below w.heap.size w V := by rw [hV]; exact bel1 _ _
  have HVB : Hid (Below w.heap.size w V) := hVb
  have v0 : V.cell? ⟨nb, 0, none⟩ = some (.int .i64 q) := by rw [hnb, hV]; exact World.cell?_alloc_at _ _ _ _ rfl
  have v1 : V.cell? ⟨nb, 1, none⟩ = some (.int .i64 c) := by rw [hnb, hV]; exact World.cell?_alloc_at _ _ _ _ rfl
  have v2 : V.cell? ⟨nb, 2, none⟩ = some (.int .i64 p) := by rw [hnb, hV]; exact World.cell?_alloc_at _ _ _ _ rfl
  have hVT := h.any hVb
  have KR0 := restT_any V hVT q c p i j hpc
  have HW2 : Hid (∀ w', Below V.heap.size V w' → Below w.heap.size w w') := fun w' hb' => hVb.trans (hb'.mono hVb.size)
  by_cases h0 : 0 < rrF g W (nmT g.names.length T) t q c p i j
  · have hok : (okS W.size i j && okP g q c p) = true := Classical.byContradiction fun hn => by rw [rrF_no hn] at h0; omega
    rw [Bool.and_eq_true, okS_iff] at hok
    obtain ⟨⟨s1, s2, s3⟩, hP⟩ := hok
    rw [decide_eq_true h0] at KR0
    obtain ⟨z, hz, hzk⟩ := look_pl hVT.mp (q, c, p) hpc
    obtain ⟨q', c', p', r, d, rfl, rfl, rfl, hr, hd, hp⟩ := okP_iff.1 hP
    have hat := ruP_at (i := 0) hr hd hp
    rw [Nat.zero_add] at hat
    have hzv := hzk _ hat
    obtain ⟨a, rfl⟩ : ∃ a : Nat, i = (a : Int) := ⟨i.toNat, by omega⟩
    obtain ⟨b, rfl⟩ : ∃ b : Nat, j = (b : Int) := ⟨j.toNat, by omega⟩
    have hlt := ofRu_lt hr hd hp
    have hv := h.tk.rr hr hd hp (i := a) (j := b) (by omega) (by omega)
    have hi32 : K (idx W.size (g.names.length + ofRu g.rules q' c' + p') a b) ≤ 300000000 := h.tk.le (by omega) (by omega)
    obtain ⟨y, hy⟩ : ∃ y, y = g.names.length + (ofRu g.rules q' c' + p') := ⟨_, rfl⟩
    rw [← hy] at hzv
    rw [show g.names.length + ofRu g.rules q' c' + p' = y by omega] at hv hi32
    rw [← hv]
    have hyA : y < allN g := by unfold allN; omega
    have nl : nb < V.heap.size := block_lt_of_cell v0
    have KR : Hid (∀ w', Below V.heap.size V w' → Calls Tryz.prog 34 #[.pointer (some ⟨tb, 0, none⟩), .int .i64 (y : Int), .int .i64 (a : Int), .int .i64 (b : Int)] w' fun e w'' => e = .returned (.pointer (some ⟨rb, idx W.size y a b, none⟩)) ∧ w' = w'') := fun w' hb' => rankP_any (hVT.any hb').t0 (hVT.any hb').t4 y a b hyA (by omega) (by omega) h.tk.hm h.tk.hA
    have HSS : Hid (∀ w', Below V.heap.size V w' → (Below V.heap.size V w' ∧ w'.cell? ⟨tb, 2, none⟩ = some (.map (some mb)) ∧ w'.cell? ⟨rb, idx W.size y a b, none⟩ = some (.int .i32 ((K (idx W.size y a b) : Nat) : Int)) ∧ w'.cell? ⟨nb, 0, none⟩ = some (.int .i64 (q' : Int)) ∧ w'.cell? ⟨nb, 1, none⟩ = some (.int .i64 (c' : Int)) ∧ w'.cell? ⟨nb, 2, none⟩ = some (.int .i64 (p' : Int)) ∧ (Instr.lookup 73 (.map (some mb)) (.agg #[.int .i64 (q' : Int), .int .i64 (c' : Int), .int .i64 (p' : Int)]) false).run Tryz.prog w' = .ok (.int .i64 (y : Int)) w')) := fun w' hb' => by
      rw [← hzv]
      exact ⟨hb', (hVT.any hb').t2, (hVT.any hb').rk.cl _ (idx_lt hyA (by omega) (by omega)), (hb'.cell (p := ⟨_, _, none⟩) nl).trans v0, (hb'.cell (p := ⟨_, _, none⟩) nl).trans v1, (hb'.cell (p := ⟨_, _, none⟩) nl).trans v2, (hz w' (hb'.block _ hVT.mp.lt)).2⟩
    generalize idx W.size y a b = zi at *
    obtain ⟨kz, hkz⟩ : ∃ kz, kz = K zi := ⟨_, rfl⟩
    rw [← hkz] at HSS hi32 ⊢
    have hwk : IntKind.i64.wrap (kz : Int) = (kz : Int) := by rw [IntKind.wrap_i64]; omega
    clear h hVT hVb hz hzk hP hr hd hp hat hzv hlt hy hv h0 hyA hkz
    go_enter Tryz.func25, Tryz.ntmps25
    go_upto_region 1 with fail
    rw [← hV, ← hnb]
    clear hV hnb
    go_wp2_with (go_at_call 24; refine KR0.mono ?_; rintro e w2 ⟨rfl, b2⟩)
    have B2 : Hid (Below V.heap.size V w2) := b2
    clear b2 v0 v1 v2 KR0
    go_region_held3 (fun w' => Below V.heap.size V w' ∧ w'.cell? ⟨tb, 2, none⟩ = some (.map (some mb)) ∧ w'.cell? ⟨rb, zi, none⟩ = some (.int .i32 ((kz : Nat) : Int)) ∧ w'.cell? ⟨nb, 0, none⟩ = some (.int .i64 (q' : Int)) ∧ w'.cell? ⟨nb, 1, none⟩ = some (.int .i64 (c' : Int)) ∧ w'.cell? ⟨nb, 2, none⟩ = some (.int .i64 (p' : Int)) ∧ (Instr.lookup 73 (.map (some mb)) (.agg #[.int .i64 (q' : Int), .int .i64 (c' : Int), .int .i64 (p' : Int)]) false).run Tryz.prog w' = .ok (.int .i64 (y : Int)) w')
      ((exact HSS.out _ B2.out.drew))
      ((go_at_call 34; refine (KR.out _ B2.out.drew).mono ?_; rintro e w3 ⟨rfl, rfl⟩))
    all_goals
      go_wp2
      go_ret
      exact ⟨by go_num, HW2.out _ B2.out.drew⟩
  · have e0 : rrF g W (nmT g.names.length T) t q c p i j = 0 := by
      unfold rrF at h0 ⊢
      split
      · rename_i hh; rw [if_pos hh] at h0; omega
      · rfl
    rw [decide_eq_false h0] at KR0
    rw [e0]
    clear h h0 e0 hVT hVb
    go_enter Tryz.func25, Tryz.ntmps25
    go_upto_region 1 with fail
    rw [← hV, ← hnb]
    clear hV hnb
    go_wp2_with (go_at_call 24; refine KR0.mono ?_; rintro e w2 ⟨rfl, b2⟩)
    go_ret
    exact ⟨rfl, HW2.out _ b2.out⟩
end Go.Proofs.YtfjejnkjlnkkhaaGreatDoor
