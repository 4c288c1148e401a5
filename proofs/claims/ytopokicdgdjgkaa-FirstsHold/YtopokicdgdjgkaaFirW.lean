/- follows (package first): what may come behind each name. -/
import Derived.Test.YtopokicdgdjgkaaFirP
import Derived.Test.YtopokicdgdjgkaaFirF
namespace Go.Proofs.Ytopokicdgdjgkaa
set_option linter.unusedVariables false
set_option linter.unusedSimpArgs false
open Go.ChangeShapes Go.WideShapes Go.ChangeAt Go.RowKit

theorem made_fos (n : Nat) : madeCells #[.int .u64 0, .int .u64 0, .int .u64 0, .int .u64 0, .bool false] (n * 5) = fosA n (fun _ => (zB, false)) := by
  apply Array.ext_getElem?
  intro i
  rw [fosA_get]
  by_cases h : i < n * 5
  · rw [if_pos h]
    have h4 : i % 5 = 0 ∨ i % 5 = 1 ∨ i % 5 = 2 ∨ i % 5 = 3 ∨ i % 5 = 4 := by omega
    rcases h4 with e | e | e | e | e <;> simp [madeCells, h, e, zB, foV]
  · rw [if_neg h, Array.getElem?_eq_none (by rw [size_madeCells]; omega)]
theorem Try.infoFollow : (Try.prog.info? 55).map (fun i => (i.zero, i.size, i.bytes)) = some (some (.agg #[.int .u64 0, .int .u64 0, .int .u64 0, .int .u64 0, .bool false]), 5, 40) := by kernel_rfl
theorem make_fos (n : Nat) (hn : n ≤ 64) (w : World) : (Instr.makeSlice 50 (.int .i64 (n : Int)) (.int .i64 (n : Int))).run Try.prog w = .ok (.slice (some ⟨w.heap.size, 0, none⟩) n n) (w.alloc (.cells (fosA n (fun _ => (zB, false))) 55)) := by
  obtain ⟨i, hi, hz, hs, hb⟩ := info_parts Try.infoFollow
  have h := run_make (P := Try.prog) w 50 55 i _ Try.underlying50 hi hz .i64 .i64 (n : Int) (n : Int) (by omega) (Int.le_refl _) (by rw [hb]; omega) (by omega)
  simp only [Int.toNat_natCast, hs] at h
  rw [← made_fos]
  exact h
theorem fosA_end {n k : Nat} (B : Nat → Fo) (hk : k < n) : (fosA n B).setIfInBounds (k * 5 + 4) (.bool true) = fosA n (updF B k ((B k).1, true)) := by
  apply Array.ext_getElem?
  intro i
  simp only [Array.getElem?_setIfInBounds, fosA_size, fosA_get]
  by_cases h4 : k * 5 + 4 = i
  · subst h4
    rw [if_pos rfl, if_pos (by omega), if_pos (by omega), show (k * 5 + 4) / 5 = k by omega, show (k * 5 + 4) % 5 = 4 by omega]
    unfold updF foV
    rw [if_pos rfl, if_pos rfl]
  · rw [if_neg h4]
    by_cases hi : i < n * 5
    · rw [if_pos hi, if_pos hi]
      unfold updF
      by_cases e : i / 5 = k
      · rw [if_pos e, e]
        unfold foV
        rw [if_neg (by omega), if_neg (by omega)]
      · rw [if_neg e]
    · rw [if_neg hi, if_neg hi]
set_option maxHeartbeats 8000000 in
set_option maxRecDepth 100000 in
theorem follows_any (g : Gr) (v1 v2 : Value) (w : World) {F : Nat → Prop} (hg : GrIs w F v1 v2 g) (hM : mayG g = true) (E : Nat → Bool) (B : Nat → Nat → Nat) (eb bb : Nat) (hE : BlAt w eb g.names.length E) (hB : ByAt w bb g.names.length B) (okB' : ∀ k, okB (B k)) :
    Calls Try.prog 23 #[.agg #[.int .i64 g.start, v1, v2], .agg #[.slice (some ⟨eb, 0, none⟩) g.names.length g.names.length, .slice (some ⟨bb, 0, none⟩) g.names.length g.names.length]] w fun e w' => ∃ fb D, e = .returned (.slice (some ⟨fb, 0, none⟩) g.names.length g.names.length) ∧ w.heap.size ≤ fb ∧ Hid (FoAt w' fb g.names.length D) ∧ Hid (okF D) ∧ Hid (ClosF g E B D) ∧ Hid (LeastF g E B D) ∧ Hid (Below w.heap.size w w') := by
  obtain ⟨p1, p2, p3, p4, p5⟩ := may_partsY hM
  have hn64 : g.names.length ≤ 64 := by unfold mayNames at p1; simp only [Bool.and_eq_true, decide_eq_true_eq] at p1; omega
  have hhd := may_headF hM
  have hsy := may_symF hM
  obtain ⟨m, hm⟩ : ∃ m : Nat, g.start = (m : Int) ∧ m < g.names.length := by
    have h := p2
    unfold isNum at h
    simp only [Bool.and_eq_true, decide_eq_true_eq] at h
    exact ⟨g.start.toNat, by omega⟩
  have HL : Hid (IsRus w F v2 g.rules) := hg.2
  obtain ⟨q1, c1, e1, -⟩ := hg.1
  obtain ⟨q2, c2, e2⟩ := lngRF hg.2
  have HCF : ∀ D, ClosF g E B D → True := fun _ _ => trivial
  obtain ⟨n, hn⟩ : ∃ n, n = g.names.length := ⟨_, rfl⟩
  obtain ⟨rl, hrl⟩ : ∃ rl, rl = g.rules.length := ⟨_, rfl⟩
  rw [← hn] at e1 hn64 hhd hsy hE hB hm p5 ⊢
  rw [← hrl] at e2
  rw [hm.1]
  have HST : Hid (g.start.toNat = m) := by show _ = _; rw [hm.1, Int.toNat_natCast]
  have HMN : Hid (m < n) := hm.2
  have hmI : (m : Int) < (n : Int) := by have := hm.2; omega
  clear hm
  subst e1 e2
  have hmk := make_fos n hn64
  obtain ⟨W2, hW2⟩ : ∃ x, x = (((w.alloc (.cells #[.int .i64 (m : Int), .slice q1 n c1, .slice q2 rl c2] 27)).alloc (.cells #[.slice (some ⟨eb, 0, none⟩) n n, .slice (some ⟨bb, 0, none⟩) n n] 67)).alloc (.cells (fosA n (fun _ => (zB, false))) 55)).alloc (.cells #[.slice (some ⟨w.heap.size + 1 + 1, 0, none⟩) n n] 50) := ⟨_, rfl⟩
  obtain ⟨gb, hgb⟩ : ∃ b, b = w.heap.size := ⟨_, rfl⟩
  obtain ⟨z, hz⟩ : ∃ b, b = w.heap.size + 1 := ⟨_, rfl⟩
  obtain ⟨fb, hfb⟩ : ∃ y, y = w.heap.size + 1 + 1 := ⟨_, rfl⟩
  obtain ⟨y, hy⟩ : ∃ y, y = w.heap.size + 1 + 1 + 1 := ⟨_, rfl⟩
  have s2 : W2.heap.size = w.heap.size + 4 := by rw [hW2]; simp
  have B2 : Hid (Below w.heap.size w W2) := by rw [hW2]; exact (((bel1 w _).alloc (by simp) _).alloc (by simp; omega) _).alloc (by simp; omega) _
  have kg : W2.heap[gb]? = some (.cells #[.int .i64 (m : Int), .slice q1 n c1, .slice q2 rl c2] 27) := by rw [hgb, hW2]; exact (heap_alloc_old _ (by simp; omega)).trans ((heap_alloc_old _ (by simp; omega)).trans ((heap_alloc_old _ (by simp)).trans (heap_alloc_new _ _)))
  have kz : W2.heap[z]? = some (.cells #[.slice (some ⟨eb, 0, none⟩) n n, .slice (some ⟨bb, 0, none⟩) n n] 67) := by rw [hz, hW2]; exact (heap_alloc_old _ (by simp)).trans ((heap_alloc_old _ (by simp)).trans (new2V w _ _))
  have kf : FoAt W2 fb n (fun _ => (zB, false)) := by rw [hfb, hW2]; exact (heap_alloc_old _ (by simp)).trans (new3V w _ _ _)
  have ky : W2.heap[y]? = some (.cells #[.slice (some ⟨fb, 0, none⟩) n n] 50) := by
    rw [hy, hfb, hW2]
    have := heap_alloc_new ((((w.alloc (.cells #[.int .i64 (m : Int), .slice q1 n c1, .slice q2 rl c2] 27)).alloc (.cells #[.slice (some ⟨eb, 0, none⟩) n n, .slice (some ⟨bb, 0, none⟩) n n] 67)).alloc (.cells (fosA n (fun _ => (zB, false))) 55))) (.cells #[.slice (some ⟨w.heap.size + 1 + 1, 0, none⟩) n n] 50)
    simpa using this
  -- the start has the end
  obtain ⟨W3, hW3⟩ : ∃ x, x = W2.setCell ⟨fb, m * 5 + 4, none⟩ (.bool true) := ⟨_, rfl⟩
  obtain ⟨D0, hD0⟩ : ∃ D : Nat → Fo, D = updF (fun _ => (zB, false)) m (zB, true) := ⟨_, rfl⟩
  have HF3 : Hid (FoAt W3 fb n D0) := by
    show _ = _
    rw [hW3, hD0, ← fosA_end (fun _ => (zB, false)) HMN.out]
    exact heap_setCell_same _ _ _ _ _ _ kf
  have hB3 : But W2.heap.size fb W2 W3 := by rw [hW3]; exact (But.refl _ _ _).setCell (p := ⟨fb, m * 5 + 4, none⟩) rfl _
  have HB3 : Hid (But W2.heap.size fb W2 W3) := hB3
  have kg3 : W3.heap[gb]? = _ := (hB3.block gb (by omega) (by omega)).trans kg
  have kz3 : W3.heap[z]? = _ := (hB3.block z (by omega) (by omega)).trans kz
  have ky3 : W3.heap[y]? = _ := (hB3.block y (by omega) (by omega)).trans ky
  have heW : eb < w.heap.size := block_lt hE
  have hbW : bb < w.heap.size := block_lt hB
  have HJ3 : Hid (JG n eb bb fb y z E B W3) := ⟨Lib.cell_of_heap kz3 0, Lib.cell_of_heap kz3 1, Lib.cell_of_heap ky3 0, (hB3.block eb (by omega) (by omega)).trans ((B2.out.block eb heW).trans hE), (hB3.block bb (by omega) (by omega)).trans ((B2.out.block bb hbW).trans hB)⟩
  have okD0 : okF D0 := fun k => by rw [hD0]; unfold updF; split <;> exact okB_zB
  have hs3 : W3.heap.size = w.heap.size + 4 := by rw [hW3, Go.Deep.nblk_setCell]; exact s2
  have hD0s : (D0 g.start.toNat).2 = true := by rw [HST.out, hD0]; unfold updF; rw [if_pos rfl]
  have hD0l : LeastF g E B D0 := fun C hC k => by
    rw [hD0]; unfold updF
    split
    · rename_i e; subst e
      refine ⟨leB_zero _, fun _ => ?_⟩
      have := hC.1
      rw [HST.out] at this; exact this
    · exact ⟨leB_zero _, fun e => by cases e⟩
  have HLW : Hid (IsRus W3 (fun c => F c ∧ c < w.heap.size) (.slice q2 rl c2) g.rules) := ((HL.out.low fun c h1 h2 => ⟨h1, h2⟩).any B2.out).keep (hB3.stay fun b h => ⟨by have := h.2; omega, by have := h.2; omega⟩) (fun _ h => h)
  have KS := settleF (trG E ⟨B, okB'⟩) (fun s => offF n s.1) (fun s h l e => trG_no e) (m : Int) (.slice q1 n c1) (.slice q2 rl c2) g.rules W3 (F := fun c => F c ∧ c < w.heap.size) fb (by omega) HLW.out (fun c h e => by have := h.2; omega) (q1, n, c1) rfl
    (fun s r c hr hc e => trG_yes (hsy r hr c hc) e) (by omega) (fun r hr => by have := (p5 r hr).1; omega) y z
    (fun s w' => Hid (JG n eb bb fb y z E B w' ∧ FoAt w' fb n s.1) ∧ (LeastF g E B s.1 ∧ (s.1 g.start.toNat).2 = true))
    (fun s u u' hJ hb' => ⟨⟨hJ.1.out.1.keep (X := fun _ => False) (BuE.ofB hb') (fun h => h) (fun h => h) (fun h => h) (fun h => h), (hb'.block fb (block_lt hJ.1.out.2)).trans hJ.1.out.2⟩, hJ.2⟩)
    (fun s u r c v hr hc hJ hbut hsys => by
      have h1 := hhd r hr
      obtain ⟨k, hk⟩ : ∃ k : Nat, r.head = (k : Int) := ⟨r.head.toNat, by omega⟩
      have hrow := (p5 r hr).2 c hc
      unfold mayRow at hrow
      simp only [Bool.and_eq_true, decide_eq_true_eq, List.all_eq_true] at hrow
      have h2 := turnF_any E B s.1 n eb bb fb y z k v c.seq u (by omega) hn64 hsys (fun b h => h.2) hrow.1 hrow.2 (by omega) (by omega) hJ.1.out.1 hJ.1.out.2 okB' s.2
      have h3 := leastF_tr hJ.2.1 hr hc
      have h9 : (s.1 g.start.toNat).2 = true → ((trF E B s.1 r.head c.seq).2 g.start.toNat).2 = true := (folF_up E B s.1 _ c.seq _).2
      have hne : eb ≠ fb ∧ bb ≠ fb := ⟨by omega, by omega⟩
      show Calls Try.prog _ _ u fun e w' => e = .returned (.bool (trF E B s.1 r.head c.seq).1) ∧ Hid (Hid (JG n eb bb fb y z E B w' ∧ FoAt w' fb n (trF E B s.1 r.head c.seq).2) ∧ _) ∧ Hid (But u.heap.size fb u w')
      rw [hk] at h3 h9 ⊢
      refine h2.mono ?_
      rintro e u' ⟨h4, h5, h6⟩
      exact ⟨h4, ⟨⟨hJ.1.out.1.keep (X := fun k => k = fb) (BuE.of h6.out rfl) (by omega) (by omega) hne.1 hne.2, h5.out⟩, h3, h9 hJ.2.2⟩, h6⟩)
    ⟨D0, okD0⟩ ⟨⟨HJ3.out, HF3.out⟩, hD0l, hD0s⟩
  have HSI : Hid (w.heap.size ≤ fb ∧ fb < W3.heap.size ∧ fb < W2.heap.size) := ⟨by omega, by omega, by omega⟩
  have g0 : W2.cell? ⟨gb, 0, none⟩ = some (.int .i64 (m : Int)) := Lib.cell_of_heap kg 0
  have g1 : W2.cell? ⟨gb, 1, none⟩ = some (.slice q1 n c1) := Lib.cell_of_heap kg 1
  have y0 : W2.cell? ⟨y, 0, none⟩ = some (.slice (some ⟨fb, 0, none⟩) n n) := Lib.cell_of_heap ky 0
  have f0 : W2.cell? ⟨fb, m * 5 + 4, none⟩ = some (.bool false) := kf.cell (j := 4) HMN.out (by omega)
  have ff : W2.frozen? ⟨fb, m * 5 + 4, none⟩ = false := frzV kf _
  have fl : fb < W2.heap.size := by omega
  have g30 : W3.cell? ⟨gb, 0, none⟩ = some (.int .i64 (m : Int)) := Lib.cell_of_heap kg3 0
  have g31 : W3.cell? ⟨gb, 1, none⟩ = some (.slice q1 n c1) := Lib.cell_of_heap kg3 1
  have g32 : W3.cell? ⟨gb, 2, none⟩ = some (.slice q2 rl c2) := Lib.cell_of_heap kg3 2
  have HYK : Hid (∀ V, But W3.heap.size fb W3 V → V.cell? ⟨y, 0, none⟩ = some (.slice (some ⟨fb, 0, none⟩) n n)) := fun V h => (h.cell (p := ⟨y, 0, none⟩) (block_lt ky3) (by show y ≠ fb; omega)).trans (Lib.cell_of_heap ky3 0)
  have hmf : ∀ (fn : Fn) (first cap : Array Value) (w : World), (Instr.makeFunc fn first cap).run Try.prog w = .ok (.func fn first cap) w := fun _ _ _ _ => rfl
  clear hD0l hD0s okD0 hs3 HLW HF3 HJ3 kg kz kf ky kg3 kz3 ky3 hB3 hE hB hhd hsy p1 p2 p3 p4 p5 hM hg hD0 HCF s2 heW hbW hn hrl
  go_enter Try.func23, Try.ntmps23
  go_upto_region 2 with fail
  rw [← hW2, ← hy, ← hfb, ← hz, ← hgb]
  clear hW2 hy hfb hz hgb hmk
  go_upto_region 3 with fail
  rw [← hW3]
  clear hW3 g0 g1 y0 f0 ff fl
  go_wp2_with (go_at_call 31; refine KS.mono ?_; rintro e w3 ⟨rfl, s, HS, HJ, HB⟩; have y0 := HYK.out w3 HB.out; clear KS)
  refine bodyPost_ret (v := .slice (some ⟨fb, 0, none⟩) n n) (results_tmp (t := 4) rfl _ _ _) rfl ?_
  obtain ⟨j1, j2, j3⟩ := HSI.out
  exact ⟨fb, s.1, rfl, j1, HJ.out.1.out.2, s.2, still_closF HJ.out.2.2 (fun r hr c hc => HS.out r hr c hc), HJ.out.2.1, B2.out.trans (((HB3.out.below (by omega)).mono j1).trans ((HB.out.below (by omega)).mono j1))⟩
end Go.Proofs.Ytopokicdgdjgkaa
