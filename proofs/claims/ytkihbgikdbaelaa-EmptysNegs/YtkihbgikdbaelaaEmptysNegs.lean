import Derived.Test.YtkihbgikdbaelaaNulCop
import Derived.Test.YtkihbgikdbaelaaRefMayE
import Derived.Test.YtkihbgikdbaelaaRefMayG
import Derived.BigQuiet
import Derived.Test.YtkihbgikdbaelaaGramOpen
import Derived.Test.YtkihbgikdbaelaaLawOpen
/- EmptysNegs: a name that is another one's negation has the empty text just if that one has not; the others stay: at every argument, with no condition. -/
namespace Go.Proofs.Ytkihbgikdbaelaa
set_option linter.unusedVariables false
open Go.ChangeShapes Go.WideShapes Go.ChangeAt Go.RowKit

set_option maxHeartbeats 4000000 in
set_option maxRecDepth 100000 in
theorem emptysNegs_no (W : World) (s : Int) (v1 v2 : Value) (nm : Int) (k1 k2 : Option Addr × Nat × Nat) (e1 : v1 = .slice k1.1 k1.2.1 k1.2.2) (e2 : v2 = .slice k2.1 k2.2.1 k2.2.2)
    (KN : ∀ w, Below W.heap.size W w → Calls Try.prog 8 #[.agg #[.int .i64 s, v1, v2]] w fun e w' => e = .returned (.tuple #[.slice none 0 0, .int .i64 900]) ∧ Hid (Below w.heap.size w w')) :
    Calls Try.prog 4 #[.agg #[.int .i64 s, v1, v2], .int .i64 nm] W fun e W' => e = .returned (.bool true) ∧ Below W.heap.size W W' := by
  have HX1 : Hid (Bx W s v1 v2 (W.alloc (.cells #[.int .i64 s, v1, v2] 25))) := Bx.new _ _ _ _
  have HS := hid_of KN
  subst e1 e2
  clear KN
  go_enter Try.func4, Try.ntmps4
  go_wp2_with (first
    | (go_at_call 7; refine (awake9_any _).mono ?_; rintro e wa ⟨rfl, ba⟩; have XA : Hid (Bx _ _ _ _ wa) := HX1.out.any ba.out; obtain ⟨-, z1, c0, c1, c2⟩ := XA.out)
    | (go_at_call 8; refine (HS.out _ XA.out.1).mono ?_; rintro e wb ⟨rfl, bb⟩; have XB : Hid (Bx _ _ _ _ wb) := XA.out.any bb.out; clear z1 c0 c1 c2)
    | (go_at_call 9; refine (num_any _ _).mono ?_; rintro e wn ⟨rfl, rfl⟩))
  go_ret
  exact ⟨rfl, XB.out.1⟩
set_option maxHeartbeats 8000000 in
set_option maxRecDepth 100000 in
theorem emptysNegs_core (W : World) (g : Gr) (v1 v2 : Value) (nm : Int) (hwf : (Lit.int .i64 nm).wf = true) (n : Nat) (hnl : n = g.names.length) (h0 : 0 < n) (hn : n ≤ 64) (hrl : g.rules.length ≤ 256) (k1 : Option Addr × Nat) (k2 : Option Addr × Nat × Nat) (e1 : v1 = .slice k1.1 n k1.2) (e2 : v2 = .slice k2.1 k2.2.1 k2.2.2)
    (KN : ∀ w, Below W.heap.size W w → Calls Try.prog 8 #[.agg #[.int .i64 g.start, v1, v2]] w fun e w' => ∃ b M, e = .returned (.tuple #[.slice (some ⟨b, 0, none⟩) n n, .int .i64 0]) ∧ w.heap.size ≤ b ∧ Hid (Stb g.rules M) ∧ Hid (BlAt w' b n M) ∧ Hid (Below w.heap.size w w'))
    (KC : ∀ w, Below W.heap.size W w → Calls Try.prog 11 #[.agg #[.int .i64 g.start, v1, v2]] w fun e w' => ∃ u1 u2, e = .returned (.agg #[.int .i64 g.start, u1, u2]) ∧ Hid (Below w.heap.size w w') ∧ Hid (Cp w g u1 u2 w'))
    (KH : ∀ (M : Nat → Bool) (k : Nat) (u1 u2 : Value) w, Stb g.rules M → k < n → GrIs w Any u1 u2 (overG g k true n0t) → (Calls Try.prog 8 #[.agg #[.int .i64 g.start, u1, u2]] w fun e w' => ∃ b, e = .returned (.tuple #[.slice (some ⟨b, 0, none⟩) (n + 1) (n + 1), .int .i64 0]) ∧ Hid (BlAt w' b (n + 1) (overM n k M)) ∧ Hid (Below w.heap.size w w')) ∨
      ((Calls Try.prog 8 #[.agg #[.int .i64 g.start, u1, u2]] w fun e w' => e = .returned (.tuple #[.slice none 0 0, .int .i64 900]) ∧ Hid (Below w.heap.size w w')) ∧ ∀ w2, Below w.heap.size w w2 → Calls Try.prog 10 #[.agg #[.int .i64 g.start, u1, u2]] w2 fun e w' => e = .returned (.bool false) ∧ Hid (Below w2.heap.size w2 w'))) :
    Calls Try.prog 4 #[.agg #[.int .i64 g.start, v1, v2], .int .i64 nm] W fun e W' => e = .returned (.bool true) ∧ Below W.heap.size W W' := by
  have HX1 : Hid (Bx W g.start v1 v2 (W.alloc (.cells #[.int .i64 g.start, v1, v2] 25))) := Bx.new _ _ _ _
  have HS := hid_of KN
  have HC := hid_of KC
  have HKH := hid_of KH
  have HNL := hid_of hnl
  subst e1 e2
  clear KN KC KH hnl
  go_enter Try.func4, Try.ntmps4
  go_upto_region 4 with (first
    | (go_at_call 7; refine (awake9_any _).mono ?_; rintro e wa ⟨rfl, ba⟩; have XA : Hid (Bx _ _ _ _ wa) := HX1.out.any ba.out; obtain ⟨-, z1, c0, c1, c2⟩ := XA.out)
    | (go_at_call 8; refine (HS.out _ XA.out.1).mono ?_; rintro e wb ⟨b, M, rfl, -, HST, HZB, bb⟩; have XB : Hid (Bx _ _ _ _ wb) := XA.out.any bb.out; clear z1 c0 c1 c2))
  obtain ⟨-, z1, c0, c1, c2⟩ := XB.out
  have n1 : ((n : Int) == 0) = false := by rw [beq_eq_false_iff_ne]; omega
  have n2 : ¬ n = 0 := by omega
  have n3 : decide ((n : Int) = 0) = false := by simpa using n2
  obtain ⟨k, hk, hkm⟩ : ∃ k : Nat, k < n ∧ Int.tmod (IntKind.u64.wrap nm) (n : Int) = (k : Int) := by
    have hp : 0 ≤ IntKind.u64.wrap nm := by rw [IntKind.wrap_u64]; omega
    have h1 := Int.tmod_nonneg (n : Int) hp
    have h2 : Int.tmod (IntKind.u64.wrap nm) (n : Int) < (n : Int) := Int.tmod_lt_of_pos _ (by omega)
    exact ⟨(Int.tmod (IntKind.u64.wrap nm) (n : Int)).toNat, by omega, by omega⟩
  have hkw : wrap64 (k : Int) = (k : Int) := by unfold wrap64; omega
  go_upto_region 7 with (go_at_call 9; refine (num_any _ _).mono ?_; rintro e wn ⟨rfl, rfl⟩)
  clear hkm hkw hwf
  go_upto_region 8 with (go_at_call 11; refine (HC.out _ XB.out.1).mono ?_; rintro e wc ⟨u1, u2, rfl, bc, CP⟩; obtain ⟨B, F, us, hBb, GV0⟩ := CP.out.gv; obtain ⟨p1', l1', hu1⟩ := row_slice GV0.on; obtain ⟨p2', l2', hu2⟩ := row_slice GV0.m0.oo; rw [← HNL.out] at hu1; subst hu1 hu2; have HGV0 : Hid _ := hid_of GV0; clear GV0)
  obtain ⟨Y0, hY0⟩ : ∃ Y, Y = wc.alloc (.cells #[.int .i64 g.start, .slice p1' n l1', .slice p2' g.rules.length l2'] 25) := ⟨_, rfl⟩
  rw [← hY0] at HGV0 ⊢
  obtain ⟨g1, cap1, w1, hr1, GV1, x1, y1⟩ := HGV0.out.appName n0t (by rw [← HNL.out]; omega)
  have q1 : Y0.cell? ⟨wc.heap.size, 1, none⟩ = some (.slice p1' n l1') := Lib.cell_of_heap HGV0.out.vb 1
  have hz0 : wc.heap.size < Y0.heap.size := block_lt HGV0.out.vb
  rw [← HNL.out] at hr1 GV1
  obtain ⟨hb9, hhb⟩ : ∃ b, b = wc.heap.size := ⟨_, rfl⟩
  rw [← hhb] at GV1 x1 y1 q1 hz0 ⊢
  have HBB : Hid (Below wb.heap.size wb B) := hBb
  clear hY0 hhb CP c0 c1 c2 z1 HGV0 hBb
  go_upto_region 9 with (at_builtin; refine wpList_run_append rfl _ _ 22 rfl _ _ rfl rfl hr1 ?_)
  obtain ⟨X2, hX2⟩ : ∃ X, X = w1.setCell ⟨hb9, 1, none⟩ (.slice (some ⟨g1, 0, none⟩) (n + 1) cap1) := ⟨_, rfl⟩
  rw [← hX2] at GV1 ⊢
  have HX2 : Hid (Below wb.heap.size wb X2) := HBB.out.trans (GV1.m0.bl.mono HBB.out.size)
  have XC : Hid (Bx _ _ _ _ X2) := XB.out.any HX2.out
  obtain ⟨-, z1, c0, c1, c2⟩ := XC.out
  have q2 : X2.cell? ⟨hb9, 2, none⟩ = some (.slice p2' g.rules.length l2') := Lib.cell_of_heap GV1.vb 2
  have zb : hb9 < X2.heap.size := block_lt GV1.vb
  obtain ⟨Y2, hY2⟩ : ∃ Y, Y = (X2.alloc (.cells #[.int .i64 (k : Int), .int .i64 0, .int .i64 0] 40)).alloc (.cells #[.bool true, .slice (some ⟨X2.heap.size, 0, none⟩) 1 1] 38) := ⟨_, rfl⟩
  have bY2 : Below X2.heap.size X2 Y2 := by rw [hY2]; exact bel_alloc (bel1 _ _)
  have sY2 : Y2.heap.size = X2.heap.size + 1 + 1 := by rw [hY2]; simp
  have hs0 : Y2.heap[X2.heap.size]? = some (.cells #[.int .i64 (k : Int), .int .i64 0, .int .i64 0] 40) := by
    rw [hY2]
    exact (heap_alloc_old _ (by simp)).trans (heap_alloc_new _ _)
  have hc0 : Y2.heap[X2.heap.size + 1]? = some (.cells #[.bool true, .slice (some ⟨X2.heap.size, 0, none⟩) 1 1] 38) := by
    rw [hY2]
    have h9 := heap_alloc_new (X2.alloc (.cells #[.int .i64 (k : Int), .int .i64 0, .int .i64 0] 40)) (.cells #[.bool true, .slice (some ⟨X2.heap.size, 0, none⟩) 1 1] 38)
    rw [show (X2.alloc (.cells #[.int .i64 (k : Int), .int .i64 0, .int .i64 0] 40)).heap.size = X2.heap.size + 1 by simp] at h9
    exact h9
  have hcn : IsCns Y2 (fun b => X2.heap.size ≤ b) (.slice (some ⟨X2.heap.size + 1, 0, none⟩) 1 1) [⟨true, [⟨(k : Int), 0, 0⟩]⟩] := by
    have i2 : IsSys Y2 (fun b => X2.heap.size ≤ b) (.slice (some ⟨X2.heap.size, 0, none⟩) 1 1) [⟨(k : Int), 0, 0⟩] := reads_at (reads_laid hs0 le11 rfl) (Nat.le_refl _)
    have r2 : Reads Y2 (fun b => X2.heap.size ≤ b) (.slice (some ⟨X2.heap.size + 1, 0, none⟩) 1 1) 1 [.bool true, .slice (some ⟨X2.heap.size, 0, none⟩) 1 1] := reads_at (reads_laid hc0 le11 rfl) (Nat.le_succ _)
    exact ⟨[_], r2, (CnsIn.nil _ _).snoc (c := ⟨true, [⟨(k : Int), 0, 0⟩]⟩) i2⟩
  obtain ⟨g2, cap2, w2, F2, hr2, GV2, x2, y2⟩ := GV1.appRule bY2 (h := (n : Int)) hcn (fun b h => h) rfl (by omega)
  rw [sY2] at hr2
  rw [hY2] at hr2
  obtain ⟨X3, hX3⟩ : ∃ X, X = w2.setCell ⟨hb9, 2, none⟩ (.slice (some ⟨g2, 0, none⟩) (g.rules.length + 1) cap2) := ⟨_, rfl⟩
  rw [← hX3] at GV2
  have HX3 : Hid (Below wb.heap.size wb X3) := HBB.out.trans (GV2.m0.bl.mono HBB.out.size)
  have XD : Hid (Bx _ _ _ _ X3) := XB.out.any HX3.out
  have HG2 : Hid (GrIs X3 Any (.slice (some ⟨g1, 0, none⟩) (n + 1) cap1) (.slice (some ⟨g2, 0, none⟩) (g.rules.length + 1) cap2) (overG g k true n0t)) := by
    have h9 := GV2.gr
    unfold overG
    rw [← HNL.out]; exact h9
  have t0 : X3.cell? ⟨hb9, 0, none⟩ = some (.int .i64 g.start) := Lib.cell_of_heap GV2.vb 0
  have t1 : X3.cell? ⟨hb9, 1, none⟩ = some (.slice (some ⟨g1, 0, none⟩) (n + 1) cap1) := Lib.cell_of_heap GV2.vb 1
  have t2 : X3.cell? ⟨hb9, 2, none⟩ = some (.slice (some ⟨g2, 0, none⟩) (g.rules.length + 1) cap2) := Lib.cell_of_heap GV2.vb 2
  have zt : hb9 < X3.heap.size := block_lt GV2.vb
  clear GV1 GV2 hY2 bY2 sY2 hs0 hc0 hcn hX2 x1 y1 hr1 hz0 q1
  go_upto_region 10 with (at_builtin; refine wpList_run_append rfl _ _ 23 rfl _ _ rfl rfl hr2 ?_)
  rw [← hX3]
  clear hX3 hr2 x2 y2 q2 zb c0 c1 c2 z1
  have HZ3 : Hid (BlAt X3 b n M) := HZB.out.keep HX3.out
  rcases HKH.out M k _ _ X3 HST.out hk HG2.out with KA | ⟨KA, KM⟩
  · go_upto_region 13 with (first
      | (go_at_call 8; refine KA.mono ?_; rintro e wd ⟨b2, rfl, HZ4, bd⟩)
      | (go_at_call 9; refine (num_any _ _).mono ?_; rintro e wn ⟨rfl, rfl⟩))
    have HZ5 : Hid (BlAt wd b n M) := HZ3.out.keep bd.out
    have XE : Hid (Bx _ _ _ _ wd) := XD.out.any bd.out
    obtain ⟨-, z1, -, c1, -⟩ := XE.out
    have ck := HZ5.out.cell hk
    have cn := HZ4.out.cell (show n < n + 1 by omega)
    rw [overM_new] at cn
    have I5 : Hid (IsBls wd Any (.slice (some ⟨b, 0, none⟩) n n) (bolL n M)) := HZ5.out.bls trivial (by unfold maxLen; omega)
    have I4 : Hid (IsBls wd Any (.slice (some ⟨b2, 0, none⟩) n (n + 1)) (bolL n M)) := by
      have h := HZ4.out.bls (F := Any) trivial (by unfold maxLen; omega)
      have e : bolL (n + 1) (overM n k M) = bolL n M ++ [!M k] := by
        unfold bolL
        rw [List.range_succ, List.map_append]
        congr 1
        · exact List.map_congr_left fun i hi => overM_old (List.mem_range.1 hi)
        · show [overM n k M n] = _
          rw [overM_new]
      rw [e] at h
      exact h.front (bolL_length _ _).symm
    have SB : ∀ m, Calls Try.prog 12 #[.slice (some ⟨b2, 0, none⟩) n (n + 1), .slice (some ⟨b, 0, none⟩) n n] (wd.drewN m) fun e w' => e = .returned (.bool true) ∧ ∃ q, w' = (wd.drewN m).drewN q := fun m => sameBls_q _ _ (bolL n M) _ (I4.out.any (drewN_below wd m)) (I5.out.any (drewN_below wd m))
    have m1 : (n : Int) ≤ ((n + 1 : Nat) : Int) := by omega
    have m2 : (n : Int) < ((n + 1 : Nat) : Int) := by omega
    have m3 : (0 : Int) ≤ (n : Int) := by omega
    have m4 : (k : Int) < (n : Int) := by omega
    have HWd : Hid (Below W.heap.size W wd) := XE.out.1
    obtain ⟨mk, hmk⟩ : ∃ mk, mk = M k := ⟨_, rfl⟩
    rw [← hmk] at ck cn
    clear hmk HZ3 HZ5 HZ4 I4 I5 HST XE
    have m5 : (((n + 1 : Nat) : Int) == (n : Int) + 1) = true := by rw [beq_iff_eq]; omega
    have m6 : decide (((n + 1 : Nat) : Int) = (n : Int) + 1) = true := by rw [decide_eq_true_iff]; omega
    have m7 : ((n : Int) == (n : Int)) = true := beq_self_eq_true _
    cases mk with
    | false =>
      go_quiet ((go_at_call 12; exact Calls.quiet_of (SB _)))
      go_wp2
      go_ret
      exact ⟨rfl, below_drewN HWd.out _⟩
    | true =>
      go_quiet ((go_at_call 12; exact Calls.quiet_of (SB _)))
      go_wp2
      go_ret
      exact ⟨rfl, below_drewN HWd.out _⟩
  · have HKM := hid_of KM
    clear KM
    go_wp2_with (first
      | (go_at_call 8; refine KA.mono ?_; rintro e wd ⟨rfl, bd⟩; have s0 := (bd.out.cell (p := ⟨hb9, 0, none⟩) zt).trans t0; have s1 := (bd.out.cell (p := ⟨hb9, 1, none⟩) zt).trans t1; have s2 := (bd.out.cell (p := ⟨hb9, 2, none⟩) zt).trans t2)
      | (go_at_call 10; refine (HKM.out _ bd.out).mono ?_; rintro e we ⟨rfl, be⟩)
      | (go_at_call 9; refine (num_any _ _).mono ?_; rintro e wn ⟨rfl, rfl⟩))
    go_ret
    exact ⟨rfl, XD.out.1.trans ((bd.out.trans (be.out.mono bd.out.size)).mono XD.out.1.size)⟩
end Go.Proofs.Ytkihbgikdbaelaa
/- EmptysNegs: a name that is another one's negation has the empty text just if that one has not; the others stay: at every argument, with no condition. -/
namespace Go.Proofs.Ytkihbgikdbaelaa
set_option linter.unusedVariables false
open Go.ChangeShapes Go.WideShapes Go.ChangeAt Go.RowKit

theorem emptysNegs_walk (W : World) (g : Gr) (v1 v2 : Value) (ga : GrIs W Any v1 v2 g) (gn : ∀ s, s ∈ g.names → s.size ≤ maxLen ∧ s.size ≤ reachBytes) (gz : g.names.length * 16 ≤ reachBytes ∧ g.rules.length * 32 ≤ reachBytes ∧ ∀ r, r ∈ g.rules → r.conj.length * 32 ≤ reachBytes ∧ ∀ c, c ∈ r.conj → c.seq.length * 24 ≤ reachBytes) (w0 : (Lit.int .i64 g.start).wf = true) (nm : Int) (hwf : (Lit.int .i64 nm).wf = true) :
    Calls Try.prog 4 #[.agg #[.int .i64 g.start, v1, v2], .int .i64 nm] W fun e W' => e = .returned (.bool true) ∧ Below W.heap.size W W' := by
  have hS : Short g.rules := fun r hr c hc => by have := (gz.2.2 r hr).2 c hc; unfold reachBytes at this; omega
  have hN : ∀ s, s ∈ g.names → s.size ≤ maxLen := fun s h => (gn s h).1
  have gz' : GSz reachBytes g := gz
  obtain ⟨p1, l1, hv1⟩ : ∃ p c, v1 = .slice p g.names.length c := by obtain ⟨p, c, e, _⟩ := ga.1; exact ⟨_, _, e⟩
  obtain ⟨p2, c2, hv2⟩ := ga.2.slc
  by_cases hMc : mayG g = true ∧ (edgesT g).find? (badE g.names.length (edgesT g)) = none
  · obtain ⟨hM, hc⟩ := hMc
    have hm := mayE_edges hM
    obtain ⟨h0, h1, hl⟩ := mayE_all hm
    have hcl := clean_of hl hc
    refine emptysNegs_core W g v1 v2 nm hwf g.names.length rfl (mayG_pos hM) (mayG_names hM) (mayG_rules hM) (p1, l1) (p2, g.rules.length, c2) hv1 hv2 (fun w hb => nulls_ok g v1 v2 w (ga.any hb) hN hS hM hc)
      (fun w hb => (copyGr_own g v1 v2 w (ga.any hb) gz').mono fun e w' ⟨u1, u2, h1, _, h3, h4⟩ => ⟨u1, u2, h1, h3, h4⟩) ?_
    intro M k u1 u2 w hSt hk hg
    have hN2 : ∀ s, s ∈ (overG g k true n0t).names → s.size ≤ maxLen := fun s hs => by
      rcases List.mem_append.1 hs with hs | hs
      · exact hN s hs
      · obtain rfl : s = n0t := by simpa using hs
        show 3 ≤ maxLen
        unfold maxLen; omega
    have hS2 : Short (overG g k true n0t).rules := fun r hr c hc => by
      rcases List.mem_append.1 hr with hr | hr
      · exact hS r hr c hc
      · obtain rfl : r = ⟨(g.names.length : Int), [⟨true, [⟨(k : Int), 0, 0⟩]⟩]⟩ := by simpa using hr
        obtain rfl : c = ⟨true, [⟨(k : Int), 0, 0⟩]⟩ := by simpa using hc
        simp
    cases hM2 : mayG (overG g k true n0t) with
    | true =>
      left
      have he := over_edges (k := k) (neg := true) (s := n0t) hM hl
      have hnl : (overG g k true n0t).names.length = g.names.length + 1 := by simp [overG]
      have hb2 : (edgesT (overG g k true n0t)).find? (badE (overG g k true n0t).names.length (edgesT (overG g k true n0t))) = none := by
        rw [he, hnl]
        exact not_bad (over_eds hl hk) (over_clean hl hk hcl)
      have h := nulls_ok (overG g k true n0t) u1 u2 w hg hN2 hS2 hM2 hb2
      refine h.mono fun e w' ⟨b, N, h1, _, h3, h4, h5⟩ => ?_
      rw [hnl] at h1 h4
      have hN9 := over_nul hM hl hcl hk hSt h3.out
      rw [hN9] at h4
      exact ⟨b, h1, h4, h5⟩
    | false =>
      right
      refine ⟨nulls_no (overG g k true n0t) u1 u2 w hg hN2 hS2 (Or.inl hM2), fun w2 hb => ?_⟩
      have h := mayG_ref (overG g k true n0t) u1 u2 w2 (hg.any hb) hN2
      rw [refMay_eq, hM2] at h
      exact h
  · refine emptysNegs_no W g.start v1 v2 nm (p1, g.names.length, l1) (p2, g.rules.length, c2) hv1 hv2 (fun w hb => nulls_no g v1 v2 w (ga.any hb) hN hS ?_)
    cases hm : mayG g with
    | false => exact Or.inl rfl
    | true =>
      right
      cases hf : (edgesT g).find? (badE g.names.length (edgesT g)) with
      | none => exact absurd ⟨hm, hf⟩ hMc
      | some t => exact ⟨t, rfl⟩

set_option linter.unusedVariables false
theorem emptysNegs_own : ownKnob Try.prog.godebug = none := by kernel_rfl
set_option maxRecDepth 100000 in
theorem emptysNegs_lifted (os : Os) (started : os.Started) (H : Type) (enc : TypeId × Value → H) :
    ReturnsInHanded {} Try.checked os 4 .any (Rows.emptysNegsSpec.pre6 enc Try.prog Try.f4 Rows.emptysNegsRow.domain false) (Rows.emptysNegsSpec.post enc Try.prog Try.f4 false true false false) := by
  refine returnsInHanded_of_change_sized (C := Try.checked) emptysNegs_own started (by kernel_rfl) Try.func4
    (ChangeSpec.witness6 (enc := enc) (C := Try.checked) false ⟨#[], #[.agg #[.int .i64 0, .slice none 0 0, .slice none 0 0], .int .i64 0], []⟩ 8 (by kernel_rfl) (by kernel_rfl) (by kernel_rfl) (by kernel_rfl)) ?_
  intro W base args ds gs before hval0 hW hcnd hsz0 _
  have hsz : (DataW.weightsEach Try.prog (Try.f4.params.toList ++ Rows.emptysNegsSpec.plain.varTypes Try.prog) (ds ++ gs)).all (· ≤ reachBytes) = true := hsz0
  have hval : ∀ (j : Nat) t v, Try.f4.params[j]? = some t → args[j]? = some v → Value.okWide Try.prog W .any base t v := hval0
  have hW' := hW
  obtain ⟨p, q, hA0, hV, rfl, hfz, hnd⟩ := hW
  have hA : DataW.TrodAll enc Try.prog W 0 (fun _ => true) true Try.f4.params.toList args.toList ds p := hA0
  rw [Try.params4] at hA hval hsz
  obtain ⟨v0, vs0, d0, ds0, p0, q0, hargs, rfl, rfl, h0, r0⟩ := trodAll_cons hA
  obtain ⟨v1, vs1, d1, ds1, p1, q1, rfl, rfl, rfl, h1, r1⟩ := trodAll_cons r0
  obtain ⟨rfl, rfl, rfl⟩ := trodAll_nil r1
  obtain rfl : args = #[v0, v1] := by cases args; simp_all
  obtain ⟨rfl, rfl⟩ := trodVars_none hV
  clear hA0 hval0 hsz0
  have k0 := h0
  have lt0 : ∀ x ∈ p0, x.block < W.heap.size := fun x hx => by have := hW'.lt x (by simp [hx]); simpa using this
  have k1 := h1
  have lt1 : ∀ x ∈ p1, x.block < W.heap.size := fun x hx => by have := hW'.lt x (by simp [hx]); simpa using this
  obtain ⟨cs0, rfl, op0⟩ := open_agg (j := 0) Try.structGr (hval 0 25 v0 rfl rfl) h0 (fun b o hm => hfz b o (by simp [hm])) hsz rfl rfl
  obtain ⟨g0, ga0, gb0, rfl, gi0, gn0, gs0, w0⟩ := op_gramZ op0
  obtain ⟨a1, rfl, rfl, rfl, w1⟩ := open_int Try.underlying3 (hval 1 3 v1 rfl rfl) h1
  refine (emptysNegs_walk W g0 ga0 gb0 gi0 gn0 gs0 w0 a1 w1).mono fun e W' ⟨he, bel⟩ => ?_
  subst he
  exact ⟨_, rfl, _, _, _, [], _, [], hW', trodAll_mk1 (shut_bool Try.underlying4 _), (trodAll_cons_mk (Below.trod Try.laidOutB (by kernel_rfl) (of_decide_eq_true (by kernel_rfl)) k0 bel lt0) (trodAll_cons_mk (Below.trod Try.laidOutB (by kernel_rfl) (of_decide_eq_true (by kernel_rfl)) k1 bel lt1) trodAll_mk0)), rfl, bel.frame _, fun h => by cases h⟩

set_option maxHeartbeats 8000000 in
theorem emptysNegs_closed : joinedFacts Try.checked.prog 4 Try.f4 Rows.emptysNegsSpec Rows.emptysNegsRow = true := by
  unfold joinedFacts
  iterate 31 (refine and_ok ?_ ?_)
  all_goals first | (with_reducible exact enter_ok) | (rw [lifts_no]; rfl) | (rw [make_cut]; rfl) | as_aux_lemma => kernel_rfl
theorem emptysNegs_holds : Rows.EmptysNegsSaid :=
  OpenClaim.holds_of_wide 4 Try.f4 rfl rfl rfl rfl rfl rfl rfl ⟨rfl, rfl, rfl, rfl, rfl⟩ rfl rfl rfl rfl rfl (by kernel_rfl) Try.func4 emptysNegs_closed
    (of_decide_eq_true (by kernel_rfl)) (by unfold Func.isWrapper; first | (rw [if_pos (by decide +kernel)]; kernel_rfl) | (rw [if_neg (by decide +kernel)]; exact ⟨rfl, rfl⟩))
    (fun os started H enc _ => emptysNegs_lifted os started H enc)
#print axioms emptysNegs_holds
end Go.Proofs.Ytkihbgikdbaelaa
