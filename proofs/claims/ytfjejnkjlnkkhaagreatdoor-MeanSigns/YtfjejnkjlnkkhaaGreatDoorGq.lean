import Derived.Test.YtfjejnkjlnkkhaaGreatDoorMeaFi
import Derived.Deep.LoopGhost
import Derived.Test.YtfjejnkjlnkkhaaGreatDoorMeaBp
/- rankAll of the program: round by round. -/
namespace Go.Proofs.YtfjejnkjlnkkhaaGreatDoor
set_option linter.unusedVariables false
set_option linter.unusedSimpArgs false
open Go.ChangeShapes Go.WideShapes Go.ChangeAt Go.RowKit Go.Shelf

/-- At the head of a round. -/
structure Hd (g : Gr) (W : ByteArray) (D : Md) (T : SpM) (X : World) (R t : Nat) (K : Nat → Nat) (fd : List Fct) (w' : World) : Prop where
  rs : Rs g W D X R t K fd w'
  rk : Rk (btsW W) W.size g.names.length g.rules (nmT g.names.length T) t t K fd
  t1 : 1 ≤ t
  tc : fd ≠ [] → t ≤ cntS (fun z => decide (K z ≠ 0)) (rkZ g W)
  tl : t ≤ cntS (fun z => decide (K z ≠ 0)) (rkZ g W) + 1
theorem Rk.grew {b : Nat → Nat} {n N : Nat} {L : List Ru} {M : SpM} {t : Nat} {K K' : Nat → Nat} {fd fd' : List Fct} (h : Rk b n N L M t t K fd) (h' : Rk b n N L M (t + 1) (t + 1) K' fd') (hu : Up K K') (hne : fd' ≠ []) : cntS (fun z => decide (K z ≠ 0)) ((N + (ruP 0 L).length) * (n + 1) * (n + 1)) < cntS (fun z => decide (K' z ≠ 0)) ((N + (ruP 0 L).length) * (n + 1) * (n + 1)) := by
  obtain ⟨⟨y, i, j⟩, l, rfl⟩ : ∃ e l, fd' = e :: l := by
    cases fd' with
    | nil => exact absurd rfl hne
    | cons e l => exact ⟨e, l, rfl⟩
  obtain ⟨h1, h2, h3, h4⟩ := h'.f1 y i j (by simp)
  obtain ⟨-, -, h7⟩ := h'.ok y i j h1 h2 (by omega)
  rw [h3, Nat.add_sub_cancel] at h7
  have hk : K (idx n y i j) = 0 := Classical.byContradiction fun hk => by
    obtain ⟨k1, k2, -⟩ := h.ok y i j h1 h2 hk
    exact h7 (k2.up k1)
  exact cnt_lt (s := fun z => decide (K z ≠ 0)) (t := fun z => decide (K' z ≠ 0)) (fun z hz => by simp only [decide_eq_true_eq] at hz ⊢; exact hu z hz) (k := idx n y i j) (by simp [hk]) (by simp [h3]) _ (idx_lt h4 (by omega) h2)
set_option maxHeartbeats 4000000 in
set_option maxRecDepth 100000 in
theorem rankAll_any {F : Nat → Prop} {g : Gr} {W : ByteArray} {D : Md} {T : SpM} (w : World) (hs : Ws F g W D T w) (hT : MnOk (btsW W) W.size g.names.length g.rules T) {f : Nat → Nat} (hgo : GrOk g f) (hG : TabG w) (hrb : 0 < D.rb) (hz : RkAt w D.rb (rkZ g W) (fun _ => 0)) :
    Calls Tryz.prog 30 #[.pointer (some ⟨D.kb, 0, none⟩)] w fun e w' => e = .returned (.tuple #[]) ∧ Hid (∃ K t, RkAt w' D.rb (rkZ g W) K ∧ (1 ≤ t ∧ t ≤ 300000000) ∧ Rk (btsW W) W.size g.names.length g.rules (nmT g.names.length T) t t K [] ∧ Bu D.rb w w') := by
  obtain ⟨Y, hY⟩ : ∃ Y, Y = w.alloc (.cells #[.pointer (some ⟨D.kb, 0, none⟩), .int .i32 1, .slice none 0 0] 107) := ⟨_, rfl⟩
  obtain ⟨R, hR⟩ : ∃ R, R = w.heap.size := ⟨_, rfl⟩
  have hYb : Below w.heap.size w Y := by rw [hY]; exact bel1 _ _
  have y0 : Y.cell? ⟨R, 0, none⟩ = some (.pointer (some ⟨D.kb, 0, none⟩)) := by rw [hR, hY]; exact World.cell?_alloc_at _ _ _ _ rfl
  have y1 : Y.cell? ⟨R, 1, none⟩ = some (.int .i32 1) := by rw [hR, hY]; exact World.cell?_alloc_at _ _ _ _ rfl
  have y2 : Y.cell? ⟨R, 2, none⟩ = some (.slice none 0 0) := by rw [hR, hY]; exact World.cell?_alloc_at _ _ _ _ rfl
  have yf : ∀ k, Y.frozen? ⟨R, k, none⟩ = false := fun k => by rw [hR, hY]; exact World.frozen?_alloc_at _ _ _ _ rfl
  have HR0 : R = w.heap.size := hR
  have hS0 : Sx g W D T w R 0 (fun _ => 0) [] Y := ⟨⟨Bu.of hYb, hz.any hYb, y0, by simpa using y1, ⟨none, 0, y2, World.ownsRow_nil _ _ _ _⟩, yf, by omega, Nat.zero_le _⟩, Rk.zero⟩
  have HS : Hid (Ws F g W D T w) := hs
  have HT : Hid (MnOk (btsW W) W.size g.names.length g.rules T) := hT
  have HGO : Hid (GrOk g f) := hgo
  have HG : Hid (TabG w) := hG
  have K1 := first_any Y hs hT hgo hS0
  have HZ := rkZ_le hs.hm hs.hA
  have HF1 : Hid (∀ w', Gives g W D T w R 0 (fun _ => 0) (fun K' => FrA g W (ruP 0 g.rules).length K' ∧ FrB g W T g.rules.length K') Y w' → ∃ K fd, Hd g W D T w R 1 K fd w') := fun w' ⟨K', fd', h1, h2, h3, h4⟩ => by
    have hrk := h1.rk.first HGO.out.nm (fun q c r d i a1 a2 a3 => h3.1 q c r d i a1 a2 (ofRu_lt a1 a2 (Nat.le_refl _)) a3) (fun q r i j a1 a2 a3 a4 a5 => h3.2 q r i j (List.getElem?_eq_some_iff.1 a1).1 a1 a2 a3 a4 a5)
    refine ⟨K', fd', h1.rs, hrk, Nat.le_refl _, fun hne => ?_, by omega⟩
    cases fd' with
    | nil => exact absurd rfl hne
    | cons e l =>
      have h9 := h1.rs.ln
      rw [List.length_cons] at h9
      omega
  have HR1 : Hid (w.heap.size ≤ R) := by show _ ≤ _; omega
  -- a round's beginning
  have HNX : Hid (∀ t K fd wr, Hd g W D T w R t K fd wr → ∃ p c, wr.cell? ⟨R, 2, none⟩ = some (.slice p fd.length c) ∧ wr.cell? ⟨R, 1, none⟩ = some (.int .i32 (t : Int)) ∧ wr.frozen? ⟨R, 1, none⟩ = false ∧ wr.frozen? ⟨R, 2, none⟩ = false ∧ t < 300000000 ∧ fd.length < 300000000 ∧
      Sx g W D T w R t K [] ((wr.setCell ⟨R, 2, none⟩ (.slice none 0 0)).setCell ⟨R, 1, none⟩ (.int .i32 ((t : Int) + 1))) ∧
      ∀ k e, fd[k]? = some e → ∃ gp, p = some ⟨gp, 0, none⟩ ∧ ∀ w', Kq R D.rb ((wr.setCell ⟨R, 2, none⟩ (.slice none 0 0)).setCell ⟨R, 1, none⟩ (.int .i32 ((t : Int) + 1))) w' → w'.cell? ⟨gp, k * 3, none⟩ = some (.int .i64 (e.1 : Int)) ∧ w'.cell? ⟨gp, k * 3 + 1, none⟩ = some (.int .i64 (e.2.1 : Int)) ∧ w'.cell? ⟨gp, k * 3 + 2, none⟩ = some (.int .i64 (e.2.2 : Int))) := fun t K fd wr h => by
    obtain ⟨p, c, r2, ow⟩ := h.rs.rr
    have hfl : fd.length < 300000000 := by have := h.rs.ln; have := cnt_le (fun z => decide (K z ≠ 0)) (rkZ g W); omega
    have htl : t < 300000000 := by have := h.tl; have := cnt_le (fun z => decide (K z ≠ 0)) (rkZ g W); omega
    obtain ⟨V, hV⟩ : ∃ V, V = (wr.setCell ⟨R, 2, none⟩ (.slice none 0 0)).setCell ⟨R, 1, none⟩ (.int .i32 ((t : Int) + 1)) := ⟨_, rfl⟩
    rw [← hV]
    have hVk : ∀ k, k ≠ R → V.heap[k]? = wr.heap[k]? := fun k hk => by rw [hV, Go.Deep.blk_setCell_other _ ⟨R, 1, none⟩ _ k hk, Go.Deep.blk_setCell_other _ ⟨R, 2, none⟩ _ k hk]
    have hVs : V.heap.size = wr.heap.size := by rw [hV, Go.Deep.nblk_setCell, Go.Deep.nblk_setCell]
    have v2 : V.cell? ⟨R, 2, none⟩ = some (.slice none 0 0) := by rw [hV, World.cell?_setCell_other _ _ _ _ (by simp)]; exact World.cell?_setCell_same _ _ _ r2
    have v1 : V.cell? ⟨R, 1, none⟩ = some (.int .i32 ((t : Int) + 1)) := by rw [hV]; exact World.cell?_setCell_same _ _ _ ((World.cell?_setCell_other _ _ _ _ (by simp)).trans h.rs.r1)
    have v0 : V.cell? ⟨R, 0, none⟩ = some (.pointer (some ⟨D.kb, 0, none⟩)) := by rw [hV, World.cell?_setCell_other _ _ _ _ (by simp), World.cell?_setCell_other _ _ _ _ (by simp)]; exact h.rs.r0
    have hrb2 : D.rb ≠ R := by have := HS.out.fm.rB; have := HS.out.wm.lo; have := HR1.out; omega
    refine ⟨p, c, r2, h.rs.r1, h.rs.fz 1, h.rs.fz 2, htl, hfl, ⟨⟨⟨?_, ?_, ?_, ?_, fun k hk hkb => ?_⟩, ?_, v0, ?_, ⟨none, 0, v2, World.ownsRow_nil _ _ _ _⟩, fun k => ?_, h.rs.xr, Nat.zero_le _⟩, h.rk.next⟩, fun k e hk => ?_⟩
    · rw [hV]; exact h.rs.bu.os
    · rw [hV]; exact h.rs.bu.tape
    · rw [hV]; exact h.rs.bu.output
    · rw [hVs]; exact h.rs.bu.size
    · rw [hVk k (by have := HR1.out; omega)]; exact h.rs.bu.block k hk hkb
    · exact h.rs.rk.blk (Nat.le_of_eq hVs.symm) (hVk _ hrb2)
    · rw [v1]; simp
    · rw [hV, World.frozen?_setCell, World.frozen?_setCell]; exact h.rs.fz k
    · have hlt := (List.getElem?_eq_some_iff.1 hk).1
      rcases ow.2 with ⟨e1, e2⟩ | ⟨gp, cap, cur, e1, hb, hgg, hn, hcm, hcs, htk⟩
      · omega
      · injection e1 with e1 _ _
        refine ⟨gp, e1, fun w' hq => ?_⟩
        have hgp : w'.heap[gp]? = wr.heap[gp]? := by
          have hgl : gp < V.heap.size := by rw [hVs]; exact (Array.getElem?_eq_some_iff.1 hgg).1
          refine (hq.same gp hgl ?_ (by omega) ?_).trans (hVk gp (by omega))
          · have := HS.out.fm.rB; have := HS.out.wm.lo; have := HR1.out; omega
          · rintro ⟨v, a1, a2⟩
            rw [v2] at a1
            injection a1 with a1
            rw [← a1] at a2
            cases a2
        have key : ∀ z v, z < fd.length * 3 → (fcsV fd)[z]? = some v → w'.cell? ⟨gp, z, none⟩ = some v := fun z v hz hv => by
          rw [Lib.cell_of_heap (hgp.trans hgg), ← hv, ← htk, List.getElem?_take_of_lt hz]
          simp
        obtain ⟨a0, a1, a2⟩ := fcsV_at fd k e hk
        exact ⟨key _ _ (by omega) a0, key _ _ (by omega) a1, key _ _ (by omega) a2⟩
  obtain ⟨PC, hPC⟩ : ∃ PC : Nat → List Fct → Nat → (Nat → Nat) → Prop, PC = fun t fd k K' => ∀ j e, j < k → fd[j]? = some e → Cons (btsW W) W.size g.names.length g.rules (nmT g.names.length T) t K' e.1 e.2.1 e.2.2 := ⟨_, rfl⟩
  have HPC : Hid (PC = fun t fd k K' => ∀ j e, j < k → fd[j]? = some e → Cons (btsW W) W.size g.names.length g.rules (nmT g.names.length T) t K' e.1 e.2.1 e.2.2) := hPC
  have KF : Hid (∀ t K fd wr V k e w', Hd g W D T w R t K fd wr → fd[k]? = some e → Gives g W D T w R t K (PC t fd k) V w' → Calls Tryz.prog 49 #[.pointer (some ⟨R, 0, none⟩), .agg #[.int .i64 (e.1 : Int), .int .i64 (e.2.1 : Int), .int .i64 (e.2.2 : Int)]] w' fun x w'' => x = .returned (.tuple #[]) ∧ Hid (Gives g W D T w R t K (PC t fd (k + 1)) V w'')) := fun t K fd wr V k e w' hh hk hg => by
    obtain ⟨K', fd', h1, h2, h3, h4⟩ := hg
    obtain ⟨y, i, j⟩ := e
    obtain ⟨f1, f2, f3, f4⟩ := hh.rk.f1 y i j (List.mem_of_getElem? hk)
    have hat : AtM g W T t y i j := by
      have := (hh.rk.ok y i j f1 f2 (by have := hh.t1; omega)).2.1
      rw [f3] at this
      exact this
    refine (follow_any w' HS.out HT.out HGO.out h1 HG.out hrb y i j hat).mono ?_
    rintro x w'' ⟨rfl, hx⟩
    obtain ⟨K2, fd2, k1, k2, k3, k4⟩ := hx.out
    refine ⟨rfl, K2, fd2, k1, h2.trans k2, ?_, h4.trans k4⟩
    rw [HPC.out] at h3 ⊢
    intro j' e' hj' he'
    by_cases ej : j' = k
    · subst ej; rw [hk] at he'; injection he' with he'; subst he'; exact k3
    · exact (h3 j' e' (by omega) he').up k2
  have HDN : Hid (∀ t K fd wr V w' gk, Hd g W D T w R t K fd wr → fd ≠ [] → rkZ g W + 1 ≤ cntS (fun z => decide (K z ≠ 0)) (rkZ g W) + gk → Gives g W D T w R t K (PC t fd fd.length) V w' → 1 ≤ gk ∧ ∃ K' fd', Hd g W D T w R (t + 1) K' fd' w' ∧ rkZ g W + 1 ≤ cntS (fun z => decide (K' z ≠ 0)) (rkZ g W) + (gk - 1) + (if fd' = [] then 1 else 0)) := fun t K fd wr V w' gk hh hne hc ⟨K', fd', h1, h2, h3, h4⟩ => by
    have hcl := cnt_le (fun z => decide (K z ≠ 0)) (rkZ g W)
    rw [HPC.out] at h3
    have hrk := Rk.done HGO.out.nm hh.t1 hh.rk h1.rk (fun y i j hm => by
      obtain ⟨k, hk⟩ := List.mem_iff_getElem?.1 hm
      exact h3 k _ (List.getElem?_eq_some_iff.1 hk).1 hk)
    have hmo : cntS (fun z => decide (K z ≠ 0)) (rkZ g W) ≤ cntS (fun z => decide (K' z ≠ 0)) (rkZ g W) := cnt_mono (fun z hz => by simp only [decide_eq_true_eq] at hz ⊢; exact h2 z hz) _
    refine ⟨by omega, K', fd', ⟨h1.rs, hrk, by omega, fun hn' => ?_, ?_⟩, ?_⟩
    · have hgr : cntS (fun z => decide (K z ≠ 0)) (rkZ g W) < cntS (fun z => decide (K' z ≠ 0)) (rkZ g W) := Rk.grew hh.rk hrk h2 hn'
      have := hh.tc hne
      omega
    · have := hh.tc hne
      omega
    · by_cases hn' : fd' = []
      · rw [if_pos hn']; omega
      · rw [if_neg hn']
        have hgr : cntS (fun z => decide (K z ≠ 0)) (rkZ g W) < cntS (fun z => decide (K' z ≠ 0)) (rkZ g W) := Rk.grew hh.rk hrk h2 hn'
        omega
  have HG0 : Hid (∀ t K fd V, Sx g W D T w R t K [] V → Gives g W D T w R t K (PC t fd 0) V V) := fun t K fd V h => ⟨K, [], h, Up.refl _, by rw [HPC.out]; intro j e h; omega, Kq.refl _ _ _⟩
  have HBEL : Hid (∀ t K P V w1 w2, Gives g W D T w R t K P V w1 → Below w1.heap.size w1 w2 → Gives g W D T w R t K P V w2) := fun t K P V w1 w2 ⟨K', fd', h1, h2, h3, h4⟩ hb => ⟨K', fd', h1.any hb, h2, h3, h4.trans (Kq.of hb (block_lt_of_cell h1.rs.r0))⟩
  have HFN : Hid (∀ t K wr, Hd g W D T w R t K [] wr → ∃ K t, RkAt wr D.rb (rkZ g W) K ∧ (1 ≤ t ∧ t ≤ 300000000) ∧ Rk (btsW W) W.size g.names.length g.rules (nmT g.names.length T) t t K [] ∧ Bu D.rb w wr) := fun t K wr h => ⟨K, t, h.rs.rk, ⟨h.t1, by have := h.tl; have := cnt_le (fun z => decide (K z ≠ 0)) (rkZ g W); omega⟩, h.rk, h.rs.bu⟩
  have HGN : Hid (∀ t K P V w1, Gives g W D T w R t K P V w1 → Kq R D.rb V w1) := fun t K P V w1 ⟨K', fd', h1, h2, h3, h4⟩ => h4
  obtain ⟨Z, hZ⟩ : ∃ Z, Z = rkZ g W := ⟨_, rfl⟩
  obtain ⟨cn, hcn⟩ : ∃ cn : (Nat → Nat) → Nat, cn = fun K => cntS (fun z => decide (K z ≠ 0)) (rkZ g W) := ⟨_, rfl⟩
  have HD2 : Hid (∀ t K fd wr V w' gk, Hd g W D T w R t K fd wr → fd ≠ [] → Z + 1 ≤ cn K + gk → Gives g W D T w R t K (PC t fd fd.length) V w' → 1 ≤ gk ∧ ∃ K' fd', Hd g W D T w R (t + 1) K' fd' w' ∧ Z + 1 ≤ cn K' + (gk - 1) + (if fd' = [] then 1 else 0)) := by
    have := HDN.out
    intro t K fd wr V w' gk h1 h2 h3 h4
    rw [hZ, hcn] at h3 ⊢
    exact this t K fd wr V w' gk h1 h2 h3 h4
  clear hs hT hgo hG hz hS0 y0 y1 y2 yf hYb HPC hPC HDN hZ hcn
  go_enter Tryz.func30, Tryz.ntmps30
  go_upto_region 1 with fail
  rw [← hY, ← hR]
  clear hY hR HR0
  go_wp2_with (go_at_call 48; refine K1.mono ?_; rintro e w1 ⟨rfl, G1⟩)
  obtain ⟨K0, fd0, hh0⟩ := HF1.out w1 G1.out
  have HH0 : Hid (Hd g W D T w R 1 K0 fd0 w1) := hh0
  clear hh0 G1 K1 HF1
  go_loopg [3] (Z + 1) (fun gk x wq => ∃ (t : Nat) (K : Nat → Nat) (fd : List Fct), Z + 1 ≤ cn K + gk + (if fd = [] then 1 else 0) ∧ Hid (Hd g W D T w R t K fd wq))
  case atStart => exact ⟨1, K0, fd0, by omega, HH0⟩
  case round =>
    clear HH0
    obtain ⟨t, K, fd, hcn, HH⟩ := hrel
    obtain ⟨p, c, r2, r1, f1, f2, ht, hfl, hSx, hrow⟩ := HNX.out t K fd wr HH.out
    by_cases hne : fd = []
    · subst hne
      have FIN : Hid (∃ K t, RkAt wr D.rb (rkZ g W) K ∧ (1 ≤ t ∧ t ≤ 300000000) ∧ Rk (btsW W) W.size g.names.length g.rules (nmT g.names.length T) t t K [] ∧ Bu D.rb w wr) := HFN.out t K wr HH.out
      clear hSx hrow hcn HH
      dsimp only [List.length_nil] at r2
      go_wp2
      go_end0
      exact ⟨rfl, FIN⟩
    · rw [if_neg hne] at hcn
      have HCN : Hid (Z + 1 ≤ cn K + gk) := hcn
      have HNE : Hid (fd ≠ []) := hne
      have hpos : 0 < fd.length := List.length_pos_iff.2 hne
      obtain ⟨n, hn⟩ : ∃ n, n = fd.length := ⟨_, rfl⟩
      have HN : Hid (n = fd.length) := hn
      rw [← hn] at r2 hfl hpos
      have d1 : decide ((0 : Int) < (n : Int)) = true := decide_eq_true (by omega)
      have hwt : IntKind.i32.wrap ((t : Int) + 1) = (t : Int) + 1 := by rw [IntKind.wrap_i32]; omega
      obtain ⟨V, hV⟩ : ∃ V, V = (wr.setCell ⟨R, 2, none⟩ (.slice none 0 0)).setCell ⟨R, 1, none⟩ (.int .i32 ((t : Int) + 1)) := ⟨_, rfl⟩
      rw [← hV] at hSx hrow
      have G0 : Hid (Gives g W D T w R t K (PC t fd 0) V V) := HG0.out t K fd V hSx
      have HRW : Hid (∀ k e, fd[k]? = some e → ∃ gp, p = some ⟨gp, 0, none⟩ ∧ ∀ w', Kq R D.rb V w' → w'.cell? ⟨gp, k * 3, none⟩ = some (.int .i64 (e.1 : Int)) ∧ w'.cell? ⟨gp, k * 3 + 1, none⟩ = some (.int .i64 (e.2.1 : Int)) ∧ w'.cell? ⟨gp, k * 3 + 2, none⟩ = some (.int .i64 (e.2.2 : Int))) := hrow
      clear hSx hrow hne hcn hn
      go_upto_region 6 with fail
      rw [← hV]
      clear hV r1 r2 f1 f2
      go_wp2
      go_loopw [33] (fun x wq => ∃ k : Nat, k ≤ n ∧ x = .int .i64 (k : Int) ∧ Hid (Gives g W D T w R t K (PC t fd k) V wq)) (fun x _ => n - (intOf x).toNat)
      case atStart => exact ⟨0, Nat.zero_le _, rfl, G0⟩
      case round =>
        clear G0
        obtain ⟨k, hk, rfl, HGk⟩ := hrel
        by_cases hlt : k < n
        · obtain ⟨e, he⟩ : ∃ e, fd[k]? = some e := ⟨_, List.getElem?_eq_getElem (by rw [← HN.out]; exact hlt)⟩
          obtain ⟨gp, rfl, hcell⟩ := HRW.out k e he
          obtain ⟨a0, a1, a2⟩ := hcell wr (HGN.out _ _ _ _ _ HGk.out)
          have K2 : Hid (Calls Tryz.prog 49 #[.pointer (some ⟨R, 0, none⟩), .agg #[.int .i64 (e.1 : Int), .int .i64 (e.2.1 : Int), .int .i64 (e.2.2 : Int)]] (wr.alloc (.cells #[.int .i64 (e.1 : Int), .int .i64 (e.2.1 : Int), .int .i64 (e.2.2 : Int)] 109)) fun x w'' => x = .returned (.tuple #[]) ∧ Hid (Gives g W D T w R t K (PC t fd (k + 1)) V w'')) := KF.out t K fd _ V k e _ HH.out he (HBEL.out _ _ _ _ _ _ HGk.out (bel1 _ _))
          obtain ⟨e1, e2, e3⟩ := e
          dsimp only at a0 a1 a2 K2
          clear he hcell HGk
          go_wp2_with (go_at_call 49; refine K2.out.mono ?_; rintro e w5 ⟨rfl, G5⟩)
          go_roundw
          case rel => exact ⟨k + 1, by omega, by go_num, G5⟩
          case measure => simp [intOf]; omega
        · obtain rfl : k = n := by omega
          obtain ⟨hg1, K', fd', hh, hc⟩ := HD2.out t K fd _ V wr gk HH.out HNE.out HCN.out (by rw [← HN.out]; exact HGk.out)
          have HH2 : Hid (Hd g W D T w R (t + 1) K' fd' wr) := hh
          clear hh HGk
          go_wp2
          go_roundg (gk - 1)
          case measure => omega
          case rel => exact ⟨t + 1, K', fd', hc, HH2⟩
end Go.Proofs.YtfjejnkjlnkkhaaGreatDoor
/- New of the program, given begin's contract: a table that is done. -/
namespace Go.Proofs.YtfjejnkjlnkkhaaGreatDoor
set_option linter.unusedVariables false
set_option linter.unusedSimpArgs false
open Go.ChangeShapes Go.WideShapes Go.ChangeAt Go.RowKit Go.Maps

/-- A table of g and W is there. -/
def TmIs (g : Gr) (W : ByteArray) (tb : Nat) (w' : World) : Prop := ∃ T t K hb rb mb, Tm g W T t K tb hb rb mb w'
theorem grOk_of {g : Gr} (hM : mayG g = true) (hc : (edgesT g).find? (badE g.names.length (edgesT g)) = none) : GrOk g (levT g.names.length (edgesT g)) ∧ ∀ i, i < g.names.length → levT g.names.length (edgesT g) i < 64 := by
  have hme := mayE_edges hM
  have hcl := clean_of (mayE_all hme).2.2 hc
  have hn64 : g.names.length ≤ 64 := mayG_names hM
  refine ⟨⟨mayG_plIn hM, hn64, fun r hr => ⟨by have := mayG_head hM r hr; omega, fun c hcc s hs hn => ?_⟩, fun r hr => (mayG_head hM r hr).1, fun r hr c hcc s hs => mayG_sym hM r hr c hcc s hs, str_of (lev_sol (mayE_all hme).2.2 hcl)⟩, fun i hi => by have := lev_lt (mayE_all hme).2.2 hcl hi; omega⟩
  have := mayG_sym hM r hr c hcc s hs
  omega
set_option maxHeartbeats 4000000 in
set_option maxRecDepth 100000 in
theorem new_ok (g : Gr) (W : ByteArray) (v1 v2 : Value) (w : World) {F : Nat → Prop} (hg : GrIs w F v1 v2 g) (hl : ∀ s, s ∈ g.names → s.size ≤ maxLen) (hSh : Short g.rules) (hM : mayG g = true) (hc : (edgesT g).find? (badE g.names.length (edgesT g)) = none) (hn : W.size ≤ 32) (hG : TabG w)
    (KB : ∀ w', Below w.heap.size w w' → Calls Tryz.prog 28 #[.agg #[.int .i64 g.start, v1, v2], .string W] w' fun e w'' => ∃ (F' : Nat → Prop) (D : Md) (mb : Nat), e = .returned (.pointer (some ⟨D.kb, 0, none⟩)) ∧ Hid (Be F' g W D mb w' w'')) :
    Calls Tryz.prog 14 #[.agg #[.int .i64 g.start, v1, v2], .string W] w fun e w' => ∃ tb, e = .returned (.tuple #[.pointer (some ⟨tb, 0, none⟩), .int .i64 0]) ∧ Hid (TmIs g W tb w') ∧ Hid (Below w.heap.size w w') := by
  obtain ⟨hgo, hf64⟩ := grOk_of hM hc
  obtain ⟨V, hV⟩ : ∃ V, V = w.alloc (.cells #[.int .i64 g.start, v1, v2] 25) := ⟨_, rfl⟩
  obtain ⟨gb, hgb⟩ : ∃ gb, gb = w.heap.size := ⟨_, rfl⟩
  have hVb : Below w.heap.size w V := by rw [hV]; exact bel1 _ _
  have HVB : Hid (Below w.heap.size w V) := hVb
  have u0 : V.cell? ⟨gb, 0, none⟩ = some (.int .i64 g.start) := by rw [hgb, hV]; exact World.cell?_alloc_at _ _ _ _ rfl
  have u1 : V.cell? ⟨gb, 1, none⟩ = some v1 := by rw [hgb, hV]; exact World.cell?_alloc_at _ _ _ _ rfl
  have u2 : V.cell? ⟨gb, 2, none⟩ = some v2 := by rw [hgb, hV]; exact World.cell?_alloc_at _ _ _ _ rfl
  have hgl : gb < V.heap.size := block_lt_of_cell u0
  have K1 := strata_ok g v1 v2 V (hg.any hVb) hl hSh hM hc
  obtain ⟨f, hf⟩ : ∃ f, f = levT g.names.length (edgesT g) := ⟨_, rfl⟩
  rw [← hf] at K1 hgo hf64
  have HGO : Hid (GrOk g f) := hgo
  have HG : Hid (TabG w) := hG
  have HCB : Hid (∀ w1, Below V.heap.size V w1 → w1.cell? ⟨gb, 0, none⟩ = some (.int .i64 g.start) ∧ w1.cell? ⟨gb, 1, none⟩ = some v1 ∧ w1.cell? ⟨gb, 2, none⟩ = some v2) := fun w1 hb => ⟨(hb.cell (p := ⟨gb, 0, none⟩) hgl).trans u0, (hb.cell (p := ⟨gb, 1, none⟩) hgl).trans u1, (hb.cell (p := ⟨gb, 2, none⟩) hgl).trans u2⟩
  have HKB : Hid (∀ w1, Below V.heap.size V w1 → Calls Tryz.prog 28 #[.agg #[.int .i64 g.start, v1, v2], .string W] w1 fun e w'' => ∃ (F' : Nat → Prop) (D : Md) (mb : Nat), e = .returned (.pointer (some ⟨D.kb, 0, none⟩)) ∧ Hid (Be F' g W D mb w1 w'')) := fun w1 hb => KB w1 (HVB.out.trans (hb.mono HVB.out.size))
  have HKS : Hid (∀ (w1 w2 : World) (u : Value) (F' : Nat → Prop) (D : Md) (mb : Nat), IsInts w1 (fun i => V.heap.size ≤ i) u (levL g.names.length f) → Be F' g W D mb w1 w2 → Calls Tryz.prog 29 #[.pointer (some ⟨D.kb, 0, none⟩), u] w2 fun e w' => e = .returned (.tuple #[]) ∧ Hid (∃ T', HasAt w' D.hb (allN g) T' ∧ MnOk (btsW W) W.size g.names.length g.rules T' ∧ Bu D.hb w2 w')) := fun w1 w2 u F' D mb hu hbe => by
    have hu2 : IsInts w2 (fun i => i < w1.heap.size) u (levL g.names.length f) := Reads.keep (Reads.low hu (F' := fun i => i < w1.heap.size) (fun i _ h => h)) ⟨hbe.be.size, fun i hi => hbe.be.block i hi⟩ (fun _ h => h)
    exact settleAll_any F' g W D w2 hbe.wm hbe.fm hbe.ha f HGO.out u hu2 (fun i hi e => by have := hbe.lh; omega) (mayG_pos hM) hf64 hn
  have HKR : Hid (∀ (w1 w2 w3 : World) (F' : Nat → Prop) (D : Md) (mb : Nat) (T' : SpM), Below V.heap.size V w1 → Be F' g W D mb w1 w2 → HasAt w3 D.hb (allN g) T' → MnOk (btsW W) W.size g.names.length g.rules T' → Bu D.hb w2 w3 → Calls Tryz.prog 30 #[.pointer (some ⟨D.kb, 0, none⟩)] w3 fun e w' => e = .returned (.tuple #[]) ∧ Hid (∃ tb, w'.cell? ⟨D.kb, 0, none⟩ = some (.pointer (some ⟨tb, 0, none⟩)) ∧ TmIs g W tb w' ∧ Below w.heap.size w w')) := fun w1 w2 w3 F' D mb T' hb1 hbe hha hmn hbu => by
    have hA : allN g ≤ 200000 := by have := HGO.out.pl.len; have := HGO.out.nn; unfold allN; omega
    have hw1 : Below w.heap.size w w1 := HVB.out.trans (hb1.mono HVB.out.size)
    have hws : Ws F' g W D T' w3 := ⟨hbe.wm.bu hbe.fm hbu, hbe.fm, hha, hn, hA⟩
    have h0w : 0 < w.heap.size := block_lt_of_cell (HG.out 0 (by decide))
    have hrb0 : 0 < D.rb := by have := hbe.lr; have := hw1.size; omega
    have hhb0 : 0 < D.hb := by have := hbe.lh; have := hw1.size; omega
    have hG2 : TabG w2 := (Kg.ofB (hw1.trans (hbe.be.mono hw1.size))).tab HG.out
    have hG3 : TabG w3 := hG2.bu hhb0 hbu
    have hrk3 : RkAt w3 D.rb (rkZ g W) (fun _ => 0) := hbe.rk.blk hbu.size (hbu.block _ hbe.rk.lt (Ne.symm hbe.fm.hr))
    refine (rankAll_any w3 hws hmn HGO.out hG3 hrb0 hrk3).mono ?_
    rintro e w4 ⟨rfl, hx⟩
    obtain ⟨K, t, hk, ht, hrk, hbu4⟩ := hx.out
    obtain ⟨hW4, hH4⟩ := hws.at hbu4
    have hft : F' D.tb := hbe.wm.ft
    have b3 : w3.heap[D.tb]? = w2.heap[D.tb]? := hbu.block _ (block_lt_of_cell hbe.t2) (fun e => hbe.fm.nh (e ▸ hft))
    have b4 : w4.heap[D.tb]? = w3.heap[D.tb]? := hbu4.block _ (Nat.lt_of_lt_of_le (block_lt_of_cell hbe.t2) hbu.size) (fun e => hbe.fm.nr (e ▸ hft))
    have m3 : w3.heap[mb]? = w2.heap[mb]? := hbu.block _ hbe.mp.lt hbe.mh
    have m4 : w4.heap[mb]? = w3.heap[mb]? := hbu4.block _ (Nat.lt_of_lt_of_le hbe.mp.lt hbu.size) hbe.mr
    refine ⟨rfl, D.tb, hW4.k0, ⟨T', t, K, D.hb, D.rb, mb, hW4.t0, hW4.t1, (World.cell?_of_block (a := ⟨D.tb, 2, none⟩) (b4.trans b3)).trans hbe.t2, hW4.t3, hW4.t4, hbe.mp.keep (m4.trans m3), hH4, hk, ⟨hmn, hrk, ht.1, ht.2, HGO.out.pl, HGO.out.nn, HGO.out.nm, hn⟩⟩, ?_⟩
    have s1 := hw1.size
    have s2 := hbe.be.size
    have s3 := hbu.size
    exact ((hw1.trans (hbe.be.mono s1)).trans (hbu.below (by have := hbe.lh; omega) (by omega))).trans (hbu4.below (by have := hbe.lr; omega) (by omega))
  have hnI : ¬ (32 : Int) < (W.size : Int) := by omega
  have hd1 : decide ((32 : Int) < (W.size : Int)) = false := decide_eq_false hnI
  obtain ⟨p1, c1, e1, -⟩ := hg.1
  obtain ⟨p2, c2, e2⟩ := lngR hg.2
  generalize g.rules.length = nr at e2
  subst e1 e2
  clear hg hl hSh hM hc KB hgo hf64 hf hVb hG
  go_enter Tryz.func14, Tryz.ntmps14
  go_upto_region 1 with fail
  rw [← hV, ← hgb]
  clear hV hgb
  go_wp2_with (first
    | (go_at_call 27; refine K1.mono ?_; rintro e w1 ⟨u, rfl, I1, B1⟩; obtain ⟨x0, x1, x2⟩ := HCB.out w1 B1.out; have K2 := HKB.out w1 B1.out; clear K1)
    | (go_at_call 28; refine K2.mono ?_; rintro e w2 ⟨F', D, mb, rfl, E2⟩; have K3 := HKS.out w1 w2 u F' D mb I1.out E2.out; clear K2)
    | (go_at_call 29; refine K3.mono ?_; rintro e w3 ⟨rfl, X3⟩; obtain ⟨T', a1, a2, a3⟩ := X3.out; have K4 := HKR.out w1 w2 w3 F' D mb T' B1.out E2.out a1 a2 a3; clear K3 X3 a1 a2 a3)
    | (go_at_call 30; refine K4.mono ?_; rintro e w4 ⟨rfl, X4⟩; obtain ⟨tb, y0, y1, y2⟩ := X4.out; have Y1 : Hid (TmIs g W tb w4) := y1; have Y2 : Hid (Below w.heap.size w w4) := y2; clear K4 X4 y1 y2))
  go_ret2
  exact ⟨tb, rfl, Y1, Y2⟩
set_option maxHeartbeats 1000000 in
set_option maxRecDepth 100000 in
/-- A text that is too long. -/
theorem new_long (st : Int) (W : ByteArray) (v1 v2 : Value) (w : World) (hn : 32 < W.size) :
    Calls Tryz.prog 14 #[.agg #[.int .i64 st, v1, v2], .string W] w fun e w' => e = .returned (.tuple #[.pointer none, .int .i64 1100]) ∧ Hid (Below w.heap.size w w') := by
  have HB : Hid (Below w.heap.size w (w.alloc (.cells #[.int .i64 st, v1, v2] 25))) := bel1 _ _
  have hnI : (32 : Int) < (W.size : Int) := by omega
  have hd1 : decide ((32 : Int) < (W.size : Int)) = true := decide_eq_true hnI
  go_enter Tryz.func14, Tryz.ntmps14
  go_wp2
  go_ret2
  exact ⟨rfl, HB⟩
set_option maxHeartbeats 1000000 in
set_option maxRecDepth 100000 in
/-- A grammar that has no levels. -/
theorem new_none (g : Gr) (W : ByteArray) (v1 v2 : Value) (w : World) (hn : W.size ≤ 32) (a b : Value) (z : Int) (hz : z ≠ 0) (KS : ∀ w', Below w.heap.size w w' → Calls Tryz.prog 27 #[.agg #[.int .i64 g.start, v1, v2]] w' fun e w'' => (∃ a b, e = .returned (.tuple #[a, b, .int .i64 z])) ∧ Hid (Below w'.heap.size w' w'')) :
    Calls Tryz.prog 14 #[.agg #[.int .i64 g.start, v1, v2], .string W] w fun e w' => e = .returned (.tuple #[.pointer none, .int .i64 1100]) ∧ Hid (Below w.heap.size w w') := by
  obtain ⟨V, hV⟩ : ∃ V, V = w.alloc (.cells #[.int .i64 g.start, v1, v2] 25) := ⟨_, rfl⟩
  obtain ⟨gb, hgb⟩ : ∃ gb, gb = w.heap.size := ⟨_, rfl⟩
  have hVb : Below w.heap.size w V := by rw [hV]; exact bel1 _ _
  have HVB : Hid (Below w.heap.size w V) := hVb
  have u0 : V.cell? ⟨gb, 0, none⟩ = some (.int .i64 g.start) := by rw [hgb, hV]; exact World.cell?_alloc_at _ _ _ _ rfl
  have u1 : V.cell? ⟨gb, 1, none⟩ = some v1 := by rw [hgb, hV]; exact World.cell?_alloc_at _ _ _ _ rfl
  have u2 : V.cell? ⟨gb, 2, none⟩ = some v2 := by rw [hgb, hV]; exact World.cell?_alloc_at _ _ _ _ rfl
  have K1 := KS V hVb
  have hnI : ¬ (32 : Int) < (W.size : Int) := by omega
  have hd1 : decide ((32 : Int) < (W.size : Int)) = false := decide_eq_false hnI
  have n1 : (z == 0) = false := by rw [beq_eq_false_iff_ne]; exact hz
  clear KS hVb
  go_enter Tryz.func14, Tryz.ntmps14
  go_upto_region 1 with fail
  rw [← hV, ← hgb]
  clear hV hgb
  go_wp2_with (go_at_call 27; refine K1.mono ?_; rintro e w1 ⟨⟨a, b, rfl⟩, B1⟩)
  go_ret2
  exact ⟨rfl, HVB.out.trans (B1.out.mono HVB.out.size)⟩
theorem new_no (g : Gr) (W : ByteArray) (v1 v2 : Value) (w : World) {F : Nat → Prop} (hg : GrIs w F v1 v2 g) (hl : ∀ s, s ∈ g.names → s.size ≤ maxLen) (hSh : Short g.rules) (hn : W.size ≤ 32) (hM : mayG g = false ∨ (mayG g = true ∧ ∃ t, (edgesT g).find? (badE g.names.length (edgesT g)) = some t)) :
    Calls Tryz.prog 14 #[.agg #[.int .i64 g.start, v1, v2], .string W] w fun e w' => e = .returned (.tuple #[.pointer none, .int .i64 1100]) ∧ Hid (Below w.heap.size w w') := by
  rcases hM with hM | ⟨hM, t, ht⟩
  · exact new_none g W v1 v2 w hn (.slice none 0 0) (.slice none 0 0) 800 (by decide) fun w' hb => (strata_no g v1 v2 w' (hg.any hb) hl hSh hM).mono fun e w'' ⟨h1, h2⟩ => ⟨⟨_, _, h1⟩, h2⟩
  · exact new_none g W v1 v2 w hn (.slice none 0 0) (.slice none 0 0) 801 (by decide) fun w' hb => (strata_cyc g v1 v2 w' (hg.any hb) hl hSh hM t ht).mono fun e w'' ⟨u, f, h1, h2, h3, h4⟩ => ⟨⟨_, _, h1⟩, h4⟩
end Go.Proofs.YtfjejnkjlnkkhaaGreatDoor
/- A table that is done, as the statements ask it: by its meaning. -/
namespace Go.Proofs.YtfjejnkjlnkkhaaGreatDoor
set_option linter.unusedVariables false
set_option linter.unusedSimpArgs false
open Go.ChangeShapes Go.WideShapes Go.ChangeAt Go.RowKit Go.Maps

/-- A table of g and W whose names mean M, in n rounds. -/
def TbM (g : Gr) (W : ByteArray) (M : SpM) (n : Nat) (tb : Nat) (w : World) : Prop := ∃ T K hb rb mb, Tm g W T n K tb hb rb mb w ∧ M = nmT g.names.length T
theorem TmIs.tbM {g : Gr} {W : ByteArray} {tb : Nat} {w : World} (h : TmIs g W tb w) : ∃ M n, TbM g W M n tb w := by
  obtain ⟨T, t, K, hb, rb, mb, h⟩ := h
  exact ⟨_, t, T, K, hb, rb, mb, h, rfl⟩
section
variable {g : Gr} {W : ByteArray} {M : SpM} {n tb : Nat} {w w' : World}
theorem TbM.any (h : TbM g W M n tb w) (hb : Below w.heap.size w w') : TbM g W M n tb w' := by
  obtain ⟨T, K, h1, h2, h3, h4, h5⟩ := h
  exact ⟨T, K, h1, h2, h3, h4.any hb, h5⟩
theorem TbM.stb (h : TbM g W M n tb w) : Stb3 (btsW W) W.size g.rules M := by
  obtain ⟨T, K, h1, h2, h3, h4, rfl⟩ := h
  exact h4.tk.hT.stb
theorem TbM.full (h : TbM g W M n tb w) : RkFull g W M n := by
  obtain ⟨T, K, h1, h2, h3, h4, rfl⟩ := h
  exact h4.tk.full
theorem TbM.nm (h : TbM g W M n tb w) : NmIn g.names.length g.rules := by
  obtain ⟨T, K, h1, h2, h3, h4, rfl⟩ := h
  exact h4.tk.nm
theorem TbM.hm (h : TbM g W M n tb w) : W.size ≤ 32 := by
  obtain ⟨T, K, h1, h2, h3, h4, rfl⟩ := h
  exact h4.tk.hm
theorem TbM.pl (h : TbM g W M n tb w) : PlIn g.rules := by
  obtain ⟨T, K, h1, h2, h3, h4, rfl⟩ := h
  exact h4.tk.pl
theorem TbM.nn (h : TbM g W M n tb w) : g.names.length ≤ 64 := by
  obtain ⟨T, K, h1, h2, h3, h4, rfl⟩ := h
  exact h4.tk.nn
theorem has_tb (w : World) (h : TbM g W M n tb w) {x i j : Nat} (hx : x < g.names.length) (hi : i ≤ j) (hj : j ≤ W.size) :
    Calls Tryz.prog 16 #[.pointer (some ⟨tb, 0, none⟩), .int .i64 (x : Int), .int .i64 (i : Int), .int .i64 (j : Int)] w fun e w' => e = .returned (.bool (M x i j)) ∧ w = w' := by
  obtain ⟨T, K, h1, h2, h3, h4, rfl⟩ := h
  have := hasT_any w h4 (x : Int) (i : Int) (j : Int)
  rw [← h4.tk.has hx hi hj, ← nmT_at (T := T) hx i j] at this
  exact this
theorem rest_tb (w : World) (h : TbM g W M n tb w) {q c p i j : Nat} {r : Ru} {d : Cn} (hr : g.rules[q]? = some r) (hd : r.conj[c]? = some d) (hp : p ≤ d.seq.length) (hi : i ≤ j) (hj : j ≤ W.size) :
    Calls Tryz.prog 24 #[.pointer (some ⟨tb, 0, none⟩), .agg #[.int .i64 (q : Int), .int .i64 (c : Int), .int .i64 (p : Int)], .int .i64 (i : Int), .int .i64 (j : Int)] w fun e w' => e = .returned (.bool (restB (btsW W) M (d.seq.drop p) i j)) ∧ Hid (Below w.heap.size w w') := by
  obtain ⟨T, K, h1, h2, h3, h4, rfl⟩ := h
  have hat := ruP_at (i := 0) hr hd hp
  have := restT_any w h4 (q : Int) (c : Int) (p : Int) (i : Int) (j : Int) (okPc_all h4.tk.pl (by rw [Nat.zero_add] at hat; exact hat))
  rw [← h4.tk.rest hr hd hp hi hj] at this
  have e2 := h4.tk.hT.rs q c p i j r d hr hd hp hi hj
  unfold rsT at e2
  rw [e2] at this
  exact this
theorem rank_tb (w : World) (h : TbM g W M n tb w) {x i j : Nat} (hx : x < g.names.length) (hi : i ≤ j) (hj : j ≤ W.size) :
    Calls Tryz.prog 19 #[.pointer (some ⟨tb, 0, none⟩), .int .i64 (x : Int), .int .i64 (i : Int), .int .i64 (j : Int)] w fun e w' => e = .returned (.int .i64 ((rnkN (btsW W) g.rules M n x i j : Nat) : Int)) ∧ w = w' := by
  obtain ⟨T, K, h1, h2, h3, h4, rfl⟩ := h
  have := rankT_any w h4 (x : Int) (i : Int) (j : Int)
  unfold rkF at this
  rw [if_pos (by rw [Bool.and_eq_true]; exact ⟨okS_iff.2 ⟨by omega, by omega, by omega⟩, okN_iff.2 ⟨by omega, by omega⟩⟩)] at this
  simpa using this
theorem restRank_tb (w : World) (h : TbM g W M n tb w) {q c p i j : Nat} {r : Ru} {d : Cn} (hr : g.rules[q]? = some r) (hd : r.conj[c]? = some d) (hp : p ≤ d.seq.length) (hi : i ≤ j) (hj : j ≤ W.size) :
    Calls Tryz.prog 25 #[.pointer (some ⟨tb, 0, none⟩), .agg #[.int .i64 (q : Int), .int .i64 (c : Int), .int .i64 (p : Int)], .int .i64 (i : Int), .int .i64 (j : Int)] w fun e w' => e = .returned (.int .i64 ((rnkR (btsW W) g.rules M n q c p i j : Nat) : Int)) ∧ Hid (Below w.heap.size w w') := by
  obtain ⟨T, K, h1, h2, h3, h4, rfl⟩ := h
  have hat := ruP_at (i := 0) hr hd hp
  have := restRankT_any w h4 (q : Int) (c : Int) (p : Int) (i : Int) (j : Int) (okPc_all h4.tk.pl (by rw [Nat.zero_add] at hat; exact hat))
  unfold rrF at this
  rw [if_pos (by rw [Bool.and_eq_true]; exact ⟨okS_iff.2 ⟨by omega, by omega, by omega⟩, okP_iff.2 ⟨q, c, p, r, d, rfl, rfl, rfl, hr, hd, hp⟩⟩)] at this
  simpa using this
end
end Go.Proofs.YtfjejnkjlnkkhaaGreatDoor
