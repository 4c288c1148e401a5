/- ParseJoins, walked: both texts declare something. -/
import Derived.Test.YtbpkpfnjgljilaaJoinsApp
import Derived.Test.YtbpkpfnjgljilaaLawOpen
import Derived.Deep.CutRange
import Derived.Deep.RegionHeldLaw
namespace Go.Proofs.Ytbpkpfnjgljilaa
set_option linter.unusedVariables false
set_option linter.unusedSimpArgs false
open Go.ChangeShapes Go.WideShapes Go.ChangeAt Go.RowKit

structure Pk (W : World) (b : Nat) (vS vD : Value) (r : Rw) (X : World) : Prop where
  c0 : X.cell? ⟨b, 0, none⟩ = some vS
  c1 : X.cell? ⟨b, 1, none⟩ = some vD
  raw : RawIs X Any vS vD r
  bl : Below W.heap.size W X
  lt : b < X.heap.size
theorem Pk.put {W w : World} {b : Nat} {vS vD : Value} {ra rb : Rw} {ua ub : List Value} {F1 F2 : Nat → Prop} {n1 n2 : Nat} (h : JJ W (some b) vS n1 (txV ra.starts ++ txV rb.starts) vD n2 (dfsV ra.defs ua ++ dfsV rb.defs ub) w) (e1 : n1 = ra.starts.length + rb.starts.length) (e2 : n2 = ra.defs.length + rb.defs.length)
    (ha : DefsIn W F1 ra.defs ua) (hb : DefsIn W F2 rb.defs ub) (f1 : ∀ g, F1 g → g < W.heap.size) (f2 : ∀ g, F2 g → g < W.heap.size) : Pk W b vS vD ⟨ra.starts ++ rb.starts, ra.defs ++ rb.defs⟩ ((w.setCell ⟨b, 0, none⟩ vS).setCell ⟨b, 1, none⟩ vD) := by
  obtain ⟨x0, x1, -, -⟩ := box_cells (h.bx b rfl).2
  have hle := (h.bx b rfl).1
  have hl := blk_lt (h.bx b rfl).2
  exact ⟨(World.cell?_setCell_other _ _ _ _ (ne_off (by decide))).trans (World.cell?_setCell_same _ _ _ x0), World.cell?_setCell_same _ _ _ ((World.cell?_setCell_other _ _ _ _ (ne_off (by decide))).trans x1), (h.raw e1 e2 ha hb f1 f2).put, (h.bl.setCell (p := ⟨b, 0, none⟩) hle _).setCell (p := ⟨b, 1, none⟩) hle _, by simp [World.setCell]; exact hl⟩
theorem Pk.new {W w : World} {vS vD : Value} {ra rb : Rw} {ua ub : List Value} {F1 F2 : Nat → Prop} {n1 n2 : Nat} (h : JJ W none vS n1 (txV ra.starts ++ txV rb.starts) vD n2 (dfsV ra.defs ua ++ dfsV rb.defs ub) w) (e1 : n1 = ra.starts.length + rb.starts.length) (e2 : n2 = ra.defs.length + rb.defs.length)
    (ha : DefsIn W F1 ra.defs ua) (hb : DefsIn W F2 rb.defs ub) (f1 : ∀ g, F1 g → g < W.heap.size) (f2 : ∀ g, F2 g → g < W.heap.size) : Pk W w.heap.size vS vD ⟨ra.starts ++ rb.starts, ra.defs ++ rb.defs⟩ (w.alloc (.cells #[vS, vD] 26)) := by
  have hr := (h.raw e1 e2 ha hb f1 f2).any (bel1 w (.cells #[vS, vD] 26))
  have hs : ∀ F : Nat → Prop, Stay F (w.alloc (.cells #[vS, vD] 26)) (w.alloc (.cells #[vS, vD] 26)) := fun F => ⟨Nat.le_refl _, fun _ _ => rfl⟩
  exact ⟨World.cell?_alloc_at _ _ _ _ rfl, World.cell?_alloc_at _ _ _ _ rfl, ⟨hr.1.keep (hs _) (fun _ _ => trivial), hr.2.keep (hs _) (fun _ _ => trivial)⟩, h.bl.alloc h.bl.size _, by simp⟩

set_option maxHeartbeats 16000000 in
set_option maxRecDepth 100000 in
theorem pjoins_d (w : World) (s t : ByteArray) (hz : s.size + t.size < 65536) (ra rb : Rw) (hA : parseT s = .ok ra) (hB : parseT t = .ok rb) :
    Calls Try.prog 3 #[.string s, .string t] w fun e w' => e = .returned (.bool true) ∧ Below w.heap.size w w' := by
  have hj : parseT ((s ++ ⟨#[10]⟩) ++ t) = .ok ⟨ra.starts ++ rb.starts, ra.defs ++ rb.defs⟩ := by rw [parse_join hA (by omega), hB]; rfl
  have P1 := fun w => parse_ok hA (by unfold maxLen; omega) w
  have P2 := fun w => parse_ok hB (by unfold maxLen; omega) w
  have P3 := fun w => parse_ok hj (by unfold maxLen; simp only [ByteArray.size_append]; show s.size + 1 + t.size ≤ _; omega) w
  simp only [List.length_append] at P3
  have ML1 : Hid (ra.starts.length ≤ 65536) := (parse_len hA).1
  have ML2 : Hid (ra.defs.length ≤ 65536) := (parse_len hA).2
  have ML3 : Hid (rb.starts.length ≤ 65536) := (parse_len hB).1
  have ML4 : Hid (rb.defs.length ≤ 65536) := (parse_len hB).2
  have ML5 : Hid (0 + ra.starts.length ≤ 65536) := by show _ ≤ _; have := (parse_len hA).1; omega
  have ML6 : Hid (0 + ra.defs.length ≤ 65536) := by show _ ≤ _; have := (parse_len hA).2; omega
  obtain ⟨i, hi0, hz0, hz1, hz2⟩ := info_parts Try.infoStr
  have HI : Hid (Try.prog.info? 9 = some i ∧ i.zero = some (.string ⟨#[]⟩) ∧ i.size = 1 ∧ i.bytes = 16) := ⟨hi0, hz0, hz1, hz2⟩
  obtain ⟨i2, hj0, hj1, hj2, hj3⟩ := info_parts Try.infoDef
  have HJ : Hid (Try.prog.info? 41 = some i2 ∧ i2.zero = some (.agg #[.string ⟨#[]⟩, .slice none 0 0]) ∧ i2.size = 2 ∧ i2.bytes = 40) := ⟨hj0, hj1, hj2, hj3⟩
  clear hi0 hz0 hz1 hz2 hj0 hj1 hj2 hj3
  clear hA hB hj
  go_enter Try.func3, Try.ntmps3
  go_wp2_with (first | (go_at_call 4; refine (awake3_any _).mono ?_; rintro e wa ⟨rfl, ha⟩; have B0 : Hid (Below w.heap.size w wa) := ha; clear ha) | (go_at_call 5; first | (have hh := B2; clear hh; refine (P3 _).mono ?_; rintro e w3 ⟨p5, c5, p6, c6, F3, rfl, hF3, hR3, b3⟩; have B3 : Hid (Below w.heap.size w w3) := (B2.out.alloc B2.out.size _).trans (b3.mono (Nat.le_trans B2.out.size (le_alloc _ _))); have FF1 : ∀ g, F1 g → g < w3.heap.size := fun g h => Nat.lt_of_lt_of_le (Nat.lt_of_lt_of_le (EE1.out g h) (le_alloc _ _)) b3.size; have FF2 : ∀ g, F2 g → g < w3.heap.size := fun g h => Nat.lt_of_lt_of_le (Nat.lt_of_lt_of_le (EE2.out g h) (le_alloc _ _)) b3.size; have R1 : Hid (RawIs w3 F1 (.slice p1 ra.starts.length c1) (.slice p2 ra.defs.length c2) ra) := (Q2.out.any (bel1 _ _)).any b3; have R2 : Hid (RawIs w3 F2 (.slice p3 rb.starts.length c3) (.slice p4 rb.defs.length c4) rb) := (T2.out.any (bel1 _ _)).any b3; have R3 : Hid (RawIs w3 F3 (.slice p5 (ra.starts.length + rb.starts.length) c5) (.slice p6 (ra.defs.length + rb.defs.length) c6) ⟨ra.starts ++ rb.starts, ra.defs ++ rb.defs⟩) := hR3; have y0 := old2 b3 hv1 x0; have y1 := old2 b3 hv1 x1; obtain ⟨z0, z1, hv3⟩ := var2 b3; have hv2 : w1.heap.size < w3.heap.size := Nat.lt_of_lt_of_le hv1 (Nat.le_trans (le_alloc _ _) b3.size); clear b3 hR3 hF3 Q2 T2 x0 x1) | (have hh := B1; clear hh; refine (P2 _).mono ?_; rintro e w2 ⟨p3, c3, p4, c4, F2, rfl, hF2, hR2, b2⟩; have B2 : Hid (Below w.heap.size w w2) := (B1.out.alloc B1.out.size _).trans (b2.mono (Nat.le_trans B1.out.size (le_alloc _ _))); have EE2 : Hid (∀ g, F2 g → g < w2.heap.size) := fun g h => (hF2 g h).2; have EE1 : Hid (∀ g, F1 g → g < w2.heap.size) := fun g h => Nat.lt_of_lt_of_le (Nat.lt_of_lt_of_le (DE1.out g h) (le_alloc _ _)) b2.size; have Q2 : Hid (RawIs w2 F1 (.slice p1 ra.starts.length c1) (.slice p2 ra.defs.length c2) ra) := (Q1.out.any (bel1 _ _)).any b2; have T2 : Hid (RawIs w2 F2 (.slice p3 rb.starts.length c3) (.slice p4 rb.defs.length c4) rb) := hR2; obtain ⟨x0, x1, hv1⟩ := var2 b2; clear b2 hR2 hF2 Q1) | (refine (P1 _).mono ?_; rintro e w1 ⟨p1, c1, p2, c2, F1, rfl, hF1, hR1, b1⟩; have B1 : Hid (Below w.heap.size w w1) := B0.out.trans (b1.mono B0.out.size); have DE1 : Hid (∀ g, F1 g → g < w1.heap.size) := fun g h => (hF1 g h).2; have Q1 : Hid (RawIs w1 F1 (.slice p1 ra.starts.length c1) (.slice p2 ra.defs.length c2) ra) := hR1; clear b1 hR1 hF1)) | (go_at_call 6; refine (num_any _ _).mono ?_; rintro e wn ⟨rfl, rfl⟩))
  have b4 := bel1 w3 (.cells #[.slice p5 (ra.starts.length + rb.starts.length) c5, .slice p6 (ra.defs.length + rb.defs.length) c6] 26)
  obtain ⟨d0, d1, hv4⟩ := var2 (Below.refl (w3.alloc (.cells #[.slice p5 (ra.starts.length + rb.starts.length) c5, .slice p6 (ra.defs.length + rb.defs.length) c6] 26)).heap.size _)
  have a0 := (b4.cell (p := ⟨_, _, none⟩) hv2).trans y0
  have a1 := (b4.cell (p := ⟨_, _, none⟩) hv2).trans y1
  have e0 := (b4.cell (p := ⟨_, _, none⟩) hv3).trans z0
  have e1 := (b4.cell (p := ⟨_, _, none⟩) hv3).trans z1
  have S1 : Hid (RawIs (w3.alloc (.cells #[.slice p5 (ra.starts.length + rb.starts.length) c5, .slice p6 (ra.defs.length + rb.defs.length) c6] 26)) F1 (.slice p1 ra.starts.length c1) (.slice p2 ra.defs.length c2) ra) := R1.out.any b4
  have S2 : Hid (RawIs (w3.alloc (.cells #[.slice p5 (ra.starts.length + rb.starts.length) c5, .slice p6 (ra.defs.length + rb.defs.length) c6] 26)) F2 (.slice p3 rb.starts.length c3) (.slice p4 rb.defs.length c4) rb) := R2.out.any b4
  have S3 : Hid (RawIs (w3.alloc (.cells #[.slice p5 (ra.starts.length + rb.starts.length) c5, .slice p6 (ra.defs.length + rb.defs.length) c6] 26)) F3 (.slice p5 (ra.starts.length + rb.starts.length) c5) (.slice p6 (ra.defs.length + rb.defs.length) c6) ⟨ra.starts ++ rb.starts, ra.defs ++ rb.defs⟩) := R3.out.any b4
  have BW : Hid (Below w.heap.size w (w3.alloc (.cells #[.slice p5 (ra.starts.length + rb.starts.length) c5, .slice p6 (ra.defs.length + rb.defs.length) c6] 26))) := B3.out.alloc B3.out.size _
  have hva : w1.heap.size < (w3.alloc (.cells #[.slice p5 (ra.starts.length + rb.starts.length) c5, .slice p6 (ra.defs.length + rb.defs.length) c6] 26)).heap.size := Nat.lt_of_lt_of_le hv2 b4.size
  have hvb : w2.heap.size < (w3.alloc (.cells #[.slice p5 (ra.starts.length + rb.starts.length) c5, .slice p6 (ra.defs.length + rb.defs.length) c6] 26)).heap.size := Nat.lt_of_lt_of_le hv3 b4.size
  have G1 : Hid (∀ g, F1 g → g < w3.heap.size) := FF1
  have G2 : Hid (∀ g, F2 g → g < w3.heap.size) := FF2
  have f1 : ∀ g, F1 g → g < (w3.alloc (.cells #[.slice p5 (ra.starts.length + rb.starts.length) c5, .slice p6 (ra.defs.length + rb.defs.length) c6] 26)).heap.size := fun g h => Nat.lt_of_lt_of_le (FF1 g h) b4.size
  have f2 : ∀ g, F2 g → g < (w3.alloc (.cells #[.slice p5 (ra.starts.length + rb.starts.length) c5, .slice p6 (ra.defs.length + rb.defs.length) c6] 26)).heap.size := fun g h => Nat.lt_of_lt_of_le (FF2 g h) b4.size
  clear b4 y0 y1 z0 z1 hv2 hv3 R1 R2 R3 B3 G1 G2 FF1 FF2
  generalize w3.alloc (.cells #[.slice p5 (ra.starts.length + rb.starts.length) c5, .slice p6 (ra.defs.length + rb.defs.length) c6] 26) = W at *
  have a0' : W.cell? ⟨w1.heap.size, 0, none⟩ = some (.slice p1 ra.starts.length c1) := a0
  have a1' : W.cell? ⟨w1.heap.size, 1, none⟩ = some (.slice p2 ra.defs.length c2) := a1
  have e0' : W.cell? ⟨w2.heap.size, 0, none⟩ = some (.slice p3 rb.starts.length c3) := e0
  have e1' : W.cell? ⟨w2.heap.size, 1, none⟩ = some (.slice p4 rb.defs.length c4) := e1
  clear a0 a1 e0 e1
  have H1 : Hid (∀ g, F1 g → g < W.heap.size) := f1
  have H2 : Hid (∀ g, F2 g → g < W.heap.size) := f2
  obtain ⟨ua, da1, da2⟩ := id S1.out.2
  obtain ⟨ub, db1, db2⟩ := id S2.out.2
  have RS1 : Hid (Reads W F1 (.slice p1 ra.starts.length c1) ra.starts.length (txV ra.starts)) := S1.out.1
  have RS2 : Hid (Reads W F2 (.slice p3 rb.starts.length c3) rb.starts.length (txV rb.starts)) := S2.out.1
  have RD1 : Hid (Reads W F1 (.slice p2 ra.defs.length c2) ra.defs.length (dfsV ra.defs ua)) := da1
  have RD2 : Hid (Reads W F2 (.slice p4 rb.defs.length c4) rb.defs.length (dfsV rb.defs ub)) := db1
  have DD1 : Hid (DefsIn W F1 ra.defs ua) := da2
  have DD2 : Hid (DefsIn W F2 rb.defs ub) := db2
  have LS1 : Hid ((txV ra.starts).length = ra.starts.length) := List.length_map ..
  have LS2 : Hid ((txV rb.starts).length = rb.starts.length) := List.length_map ..
  have LD1 : Hid ((dfsV ra.defs ua).length = ra.defs.length * 2) := dfsV_length _ _ da2.1
  have LD2 : Hid ((dfsV rb.defs ub).length = rb.defs.length * 2) := dfsV_length _ _ db2.1
  have OD1 : Hid (∀ u ∈ dfsV ra.defs ua, u.oneCell' = true) := dfs_one _ _ (alts_one da2)
  have OD2 : Hid (∀ u ∈ dfsV rb.defs ub, u.oneCell' = true) := dfs_one _ _ (alts_one db2)
  have J0 : Hid (JJ W none (.slice none 0 0) 0 [] (.slice none 0 0) 0 [] W) := JJ.nil W
  clear da1 da2 db1 db2 f1 f2 S1 S2 hz P1 P2 P3 hv1
  have ka1 := Nat.lt_succ_of_lt hva
  have ka2 := Nat.lt_succ_of_lt ka1
  have ka3 := Nat.lt_succ_of_lt ka2
  have kb1 := Nat.lt_succ_of_lt hvb
  have kb2 := Nat.lt_succ_of_lt kb1
  have kb3 := Nat.lt_succ_of_lt kb2
  go_cut [14] from 78 (fun x wc => ∃ b pb capb pd capd, x = .pointer (some ⟨b, 0, none⟩) ∧ Hid (Pk W b (.slice pb (ra.starts.length + rb.starts.length) capb) (.slice pd (ra.defs.length + rb.defs.length) capd) ⟨ra.starts ++ rb.starts, ra.defs ++ rb.defs⟩ wc))
  case first =>
    have HSS : Hid (∀ w', Below W.heap.size W w' → Below W.heap.size W w' ∧ w'.cell? ⟨w1.heap.size, 0, none⟩ = some (.slice p1 ra.starts.length c1) ∧ w'.cell? ⟨w1.heap.size, 1, none⟩ = some (.slice p2 ra.defs.length c2) ∧ w'.cell? ⟨w2.heap.size, 0, none⟩ = some (.slice p3 rb.starts.length c3) ∧ w'.cell? ⟨w2.heap.size, 1, none⟩ = some (.slice p4 rb.defs.length c4)) := fun w' hb => ⟨hb, (hb.cell (p := ⟨_, _, none⟩) hva).trans a0', (hb.cell (p := ⟨_, _, none⟩) hva).trans a1', (hb.cell (p := ⟨_, _, none⟩) hvb).trans e0', (hb.cell (p := ⟨_, _, none⟩) hvb).trans e1'⟩
    clear a0' a1' e0' e1'
    refine wp_region_held_drew (S := fun w' => Below W.heap.size W w' ∧ w'.cell? ⟨w1.heap.size, 0, none⟩ = some (.slice p1 ra.starts.length c1) ∧ w'.cell? ⟨w1.heap.size, 1, none⟩ = some (.slice p2 ra.defs.length c2) ∧ w'.cell? ⟨w2.heap.size, 0, none⟩ = some (.slice p3 rb.starts.length c3) ∧ w'.cell? ⟨w2.heap.size, 1, none⟩ = some (.slice p4 rb.defs.length c4)) (by kernel_rfl) ?_ (fun hHeld => ?_)
    · exact HSS.out _ J0.out.drew.bl
    refine wpAnyH_take (i := 1) (oi := _) (v := ?_) rfl (by kernel_rfl) (by kernel_rfl) (by kernel_rfl) (fun _ _ _ h => h) (Or.inl ⟨by rfl, ?_⟩) (by assumption) ?_
    rotate_left
    · intro w' hSw; (try dsimp only at hSw); go_simp; (try with_reducible rfl)
    simp only [Act.put, List.setIfInBounds_toArray, List.set_cons_zero, List.set_cons_succ]
    refine wpAnyH_take (i := 2) (oi := _) (v := ?_) rfl (by kernel_rfl) (by kernel_rfl) (by kernel_rfl) (fun _ _ _ h => h) (Or.inl ⟨by rfl, ?_⟩) (by assumption) ?_
    rotate_left
    · intro w' hSw; (try dsimp only at hSw); go_simp; (try with_reducible rfl)
    simp only [Act.put, List.setIfInBounds_toArray, List.set_cons_zero, List.set_cons_succ]
    refine wpAnyH_take (i := 4) (oi := _) (v := ?_) rfl (by kernel_rfl) (by kernel_rfl) (by kernel_rfl) (fun _ _ _ h => h) (Or.inl ⟨by rfl, ?_⟩) (by assumption) ?_
    rotate_left
    · intro w' hSw; (try dsimp only at hSw); go_simp; (try with_reducible rfl)
    simp only [Act.put, List.setIfInBounds_toArray, List.set_cons_zero, List.set_cons_succ]
    refine wpAnyH_take (i := 5) (oi := _) (v := ?_) rfl (by kernel_rfl) (by kernel_rfl) (by kernel_rfl) (fun _ _ _ h => h) (Or.inl ⟨by rfl, ?_⟩) (by assumption) ?_
    rotate_left
    · intro w' hSw; (try dsimp only at hSw); go_simp; (try with_reducible rfl)
    simp only [Act.put, List.setIfInBounds_toArray, List.set_cons_zero, List.set_cons_succ]
    refine wpAnyH_take (i := 8) (oi := _) (v := ?_) rfl (by kernel_rfl) (by kernel_rfl) (by kernel_rfl) (fun _ _ _ h => h) (Or.inl ⟨by rfl, ?_⟩) (by assumption) ?_
    rotate_left
    · intro w' hSw; (try dsimp only at hSw); go_simp; (try with_reducible rfl)
    simp only [Act.put, List.setIfInBounds_toArray, List.set_cons_zero, List.set_cons_succ]
    refine wpAnyH_take (i := 9) (oi := _) (v := ?_) rfl (by kernel_rfl) (by kernel_rfl) (by kernel_rfl) (fun _ _ _ h => h) (Or.inl ⟨by rfl, ?_⟩) (by assumption) ?_
    rotate_left
    · intro w' hSw; (try dsimp only at hSw); go_simp; (try with_reducible rfl)
    simp only [Act.put, List.setIfInBounds_toArray, List.set_cons_zero, List.set_cons_succ]
    refine wpAnyH_take (i := 11) (oi := _) (v := ?_) rfl (by kernel_rfl) (by kernel_rfl) (by kernel_rfl) (fun _ _ _ h => h) (Or.inl ⟨by rfl, ?_⟩) (by assumption) ?_
    rotate_left
    · intro w' hSw; (try dsimp only at hSw); go_simp; (try with_reducible rfl)
    simp only [Act.put, List.setIfInBounds_toArray, List.set_cons_zero, List.set_cons_succ]
    refine wpAnyH_take (i := 12) (oi := _) (v := ?_) rfl (by kernel_rfl) (by kernel_rfl) (by kernel_rfl) (fun _ _ _ h => h) (Or.inl ⟨by rfl, ?_⟩) (by assumption) ?_
    rotate_left
    · intro w' hSw; (try dsimp only at hSw); go_simp; (try with_reducible rfl)
    simp only [Act.put, List.setIfInBounds_toArray, List.set_cons_zero, List.set_cons_succ]
    refine wpAnyH_ready (rs := [0, 7, 15]) (by kernel_rfl) (by simp) ?_
    refine AllReadyH.cons rfl (fun K hK => ?_) ?_
    · go_simp
      refine hK.out _ _ ?_ (fun hHeld => ?_)
      · exact HSS.out _ (J0.out.bsS.drew).bl
      clear hK K
      refine wpAnyH_ready (rs := [3, 7, 15]) (by kernel_rfl) (by simp) ?_
      refine AllReadyH.cons rfl (fun K hK => ?_) ?_
      · refine stepS (W := W) (by rfl) _ _ _ (by rfl) i Try.underlying23 HI.out (J0.out.bsS.drew) (by first | rfl | (simp only [sz1]; rfl)) (.slice p1 ra.starts.length c1) ra.starts.length (txV ra.starts) F1 (by rfl) RS1.out LS1.out (tx_one _) (Nat.zero_le _) ML1.out ?_
        intro pd1 capd1 wd1 JD
        rw [Nat.zero_add, List.nil_append] at JD
        (try simp only [sz1] at JD)
        have J1 : Hid (JJ W _ _ _ _ _ _ _ wd1) := JD
        clear JD
        rw [Nat.zero_add]
        refine hK.out _ _ ?_ (fun hHeld => ?_)
        · exact HSS.out _ (J1.out).bl
        clear hK K
        refine wpAnyH_ready (rs := [6, 7, 15]) (by kernel_rfl) (by simp) ?_
        refine AllReadyH.cons rfl (fun K hK => ?_) ?_
        · refine stepS (W := W) (by rfl) _ _ _ (by rfl) i Try.underlying23 HI.out (J1.out) (by first | rfl | (simp only [sz1]; rfl)) (.slice p3 rb.starts.length c3) rb.starts.length (txV rb.starts) F2 (by rfl) RS2.out LS2.out (tx_one _) ML1.out ML3.out ?_
          intro pd2 capd2 wd2 JD
          (try simp only [sz1] at JD)
          have J2 : Hid (JJ W _ _ _ _ _ _ _ wd2) := JD
          clear JD
          refine hK.out _ _ ?_ (fun hHeld => ?_)
          · exact HSS.out _ (J2.out).bl
          clear hK K
          refine wpAnyH_ready (rs := [7, 15]) (by kernel_rfl) (by simp) ?_
          refine AllReadyH.cons rfl (fun K hK => ?_) ?_
          · go_simp
            refine hK.out _ _ ?_ (fun hHeld => ?_)
            · exact HSS.out _ (J2.out.bsD).bl
            clear hK K
            refine wpAnyH_ready (rs := [10, 15]) (by kernel_rfl) (by simp) ?_
            refine AllReadyH.cons rfl (fun K hK => ?_) ?_
            · refine stepD (W := W) (by rfl) _ _ _ (by rfl) i2 Try.underlying24 HJ.out (J2.out.bsD) (by first | rfl | (simp only [sz1]; rfl)) (.slice p2 ra.defs.length c2) ra.defs.length (dfsV ra.defs ua) F1 (by rfl) RD1.out LD1.out OD1.out (Nat.zero_le _) ML2.out ?_
              intro pd4 capd4 wd4 JD
              rw [Nat.zero_add, List.nil_append] at JD
              (try simp only [sz1] at JD)
              have J4 : Hid (JJ W _ _ _ _ _ _ _ wd4) := JD
              clear JD
              rw [Nat.zero_add]
              refine hK.out _ _ ?_ (fun hHeld => ?_)
              · exact HSS.out _ (J4.out).bl
              clear hK K
              refine wpAnyH_ready (rs := [13, 15]) (by kernel_rfl) (by simp) ?_
              refine AllReadyH.cons rfl (fun K hK => ?_) ?_
              · refine stepD (W := W) (by rfl) _ _ _ (by rfl) i2 Try.underlying24 HJ.out (J4.out) (by first | rfl | (simp only [sz1]; rfl)) (.slice p4 rb.defs.length c4) rb.defs.length (dfsV rb.defs ub) F2 (by rfl) RD2.out LD2.out OD2.out ML2.out ML4.out ?_
                intro pd5 capd5 wd5 JD
                (try simp only [sz1] at JD)
                have J5 : Hid (JJ W _ _ _ _ _ _ _ wd5) := JD
                clear JD
                refine hK.out _ _ ?_ (fun hHeld => ?_)
                · exact HSS.out _ (J5.out).bl
                clear hK K
                refine wpAnyH_take (i := 14) (oi := _) (v := ?_) rfl (by kernel_rfl) (by kernel_rfl) (by kernel_rfl) (fun _ _ _ h => h) (Or.inl ⟨by rfl, ?_⟩) (by assumption) ?_
                rotate_left
                · intro w' hSw; (try dsimp only at hSw); go_simp; (try with_reducible rfl)
                simp only [Act.put, List.setIfInBounds_toArray, List.set_cons_zero, List.set_cons_succ]
                refine wpAnyH_ready (rs := [15]) (by kernel_rfl) (by simp) ?_
                refine AllReadyH.cons rfl (fun K hK => ?_) ?_
                · go_simp
                  refine hK.out _ _ ?_ (fun hHeld => ?_)
                  · exact HSS.out _ (J5.out.box).bl
                  clear hK K
                  refine wpAnyH_ready (rs := [16]) (by kernel_rfl) (by simp) ?_
                  refine AllReadyH.cons rfl (fun K hK => ?_) ?_
                  · go_simp
                    refine hK.out _ _ ?_ (fun hHeld => ?_)
                    · first | exact HSS.out _ (Pk.put J5.out rfl rfl DD1.out DD2.out H1.out H2.out).bl | exact HSS.out _ (Pk.new J5.out rfl rfl DD1.out DD2.out H1.out H2.out).bl
                    clear hK K
                    refine wpAnyH_done (by kernel_rfl) ?_ _
                    go_wp2
                    go_meet
                    case rel => first | (with_reducible exact ⟨_, _, _, _, _, rfl, Pk.put J5.out rfl rfl DD1.out DD2.out H1.out H2.out⟩) | (with_reducible exact ⟨_, _, _, _, _, rfl, Pk.new J5.out rfl rfl DD1.out DD2.out H1.out H2.out⟩) | exact ⟨_, _, _, _, _, rfl, Pk.put J5.out rfl rfl DD1.out DD2.out H1.out H2.out⟩ | exact ⟨_, _, _, _, _, rfl, Pk.new J5.out rfl rfl DD1.out DD2.out H1.out H2.out⟩
                  exact AllReadyH.nil
                exact AllReadyH.nil
              refine AllReadyH.cons rfl (fun K hK => ?_) ?_
              · go_simp
                refine hK.out _ _ ?_ (fun hHeld => ?_)
                · exact HSS.out _ (J4.out.box).bl
                clear hK K
                refine wpAnyH_ready (rs := [13]) (by kernel_rfl) (by simp) ?_
                refine AllReadyH.cons rfl (fun K hK => ?_) ?_
                · refine stepD (W := W) (by rfl) _ _ _ (by rfl) i2 Try.underlying24 HJ.out (J4.out.box) (by first | rfl | (simp only [sz1]; rfl)) (.slice p4 rb.defs.length c4) rb.defs.length (dfsV rb.defs ub) F2 (by rfl) RD2.out LD2.out OD2.out ML2.out ML4.out ?_
                  intro pd6 capd6 wd6 JD
                  (try simp only [sz1] at JD)
                  have J6 : Hid (JJ W _ _ _ _ _ _ _ wd6) := JD
                  have hbx := JD.bx _ rfl
                  obtain ⟨bx0, bx1, bx2, bx3⟩ := box_cells hbx.2
                  have hbl := blk_lt hbx.2
                  clear hbx
                  (try simp only [sz1] at bx0 bx1 bx2 bx3 hbl)
                  clear JD
                  refine hK.out _ _ ?_ (fun hHeld => ?_)
                  · exact HSS.out _ (J6.out).bl
                  clear hK K
                  refine wpAnyH_take (i := 14) (oi := _) (v := ?_) rfl (by kernel_rfl) (by kernel_rfl) (by kernel_rfl) (fun _ _ _ h => h) (Or.inl ⟨by rfl, ?_⟩) (by assumption) ?_
                  rotate_left
                  · intro w' hSw; (try dsimp only at hSw); go_simp; (try with_reducible rfl)
                  simp only [Act.put, List.setIfInBounds_toArray, List.set_cons_zero, List.set_cons_succ]
                  refine wpAnyH_ready (rs := [16]) (by kernel_rfl) (by simp) ?_
                  refine AllReadyH.cons rfl (fun K hK => ?_) ?_
                  · go_simp
                    refine hK.out _ _ ?_ (fun hHeld => ?_)
                    · first | exact HSS.out _ (Pk.put J6.out rfl rfl DD1.out DD2.out H1.out H2.out).bl | exact HSS.out _ (Pk.new J6.out rfl rfl DD1.out DD2.out H1.out H2.out).bl
                    clear hK K
                    refine wpAnyH_done (by kernel_rfl) ?_ _
                    go_wp2
                    go_meet
                    case rel => first | (with_reducible exact ⟨_, _, _, _, _, rfl, Pk.put J6.out rfl rfl DD1.out DD2.out H1.out H2.out⟩) | (with_reducible exact ⟨_, _, _, _, _, rfl, Pk.new J6.out rfl rfl DD1.out DD2.out H1.out H2.out⟩) | exact ⟨_, _, _, _, _, rfl, Pk.put J6.out rfl rfl DD1.out DD2.out H1.out H2.out⟩ | exact ⟨_, _, _, _, _, rfl, Pk.new J6.out rfl rfl DD1.out DD2.out H1.out H2.out⟩
                  exact AllReadyH.nil
                exact AllReadyH.nil
              exact AllReadyH.nil
            refine AllReadyH.cons rfl (fun K hK => ?_) ?_
            · go_simp
              refine hK.out _ _ ?_ (fun hHeld => ?_)
              · exact HSS.out _ (J2.out.bsD.box).bl
              clear hK K
              refine wpAnyH_ready (rs := [10]) (by kernel_rfl) (by simp) ?_
              refine AllReadyH.cons rfl (fun K hK => ?_) ?_
              · refine stepD (W := W) (by rfl) _ _ _ (by rfl) i2 Try.underlying24 HJ.out (J2.out.bsD.box) (by first | rfl | (simp only [sz1]; rfl)) (.slice p2 ra.defs.length c2) ra.defs.length (dfsV ra.defs ua) F1 (by rfl) RD1.out LD1.out OD1.out (Nat.zero_le _) ML2.out ?_
                intro pd5 capd5 wd5 JD
                rw [Nat.zero_add, List.nil_append] at JD
                (try simp only [sz1] at JD)
                have J5 : Hid (JJ W _ _ _ _ _ _ _ wd5) := JD
                have hbx := JD.bx _ rfl
                obtain ⟨bx0, bx1, bx2, bx3⟩ := box_cells hbx.2
                have hbl := blk_lt hbx.2
                clear hbx
                (try simp only [sz1] at bx0 bx1 bx2 bx3 hbl)
                clear JD
                rw [Nat.zero_add]
                refine hK.out _ _ ?_ (fun hHeld => ?_)
                · exact HSS.out _ (J5.out).bl
                clear hK K
                refine wpAnyH_ready (rs := [13]) (by kernel_rfl) (by simp) ?_
                refine AllReadyH.cons rfl (fun K hK => ?_) ?_
                · refine stepD (W := W) (by rfl) _ _ _ (by rfl) i2 Try.underlying24 HJ.out (J5.out) (by first | rfl | (simp only [sz1]; rfl)) (.slice p4 rb.defs.length c4) rb.defs.length (dfsV rb.defs ub) F2 (by rfl) RD2.out LD2.out OD2.out ML2.out ML4.out ?_
                  intro pd6 capd6 wd6 JD
                  (try simp only [sz1] at JD)
                  have J6 : Hid (JJ W _ _ _ _ _ _ _ wd6) := JD
                  have hbx := JD.bx _ rfl
                  obtain ⟨bx0, bx1, bx2, bx3⟩ := box_cells hbx.2
                  have hbl := blk_lt hbx.2
                  clear hbx
                  (try simp only [sz1] at bx0 bx1 bx2 bx3 hbl)
                  clear JD
                  refine hK.out _ _ ?_ (fun hHeld => ?_)
                  · exact HSS.out _ (J6.out).bl
                  clear hK K
                  refine wpAnyH_take (i := 14) (oi := _) (v := ?_) rfl (by kernel_rfl) (by kernel_rfl) (by kernel_rfl) (fun _ _ _ h => h) (Or.inl ⟨by rfl, ?_⟩) (by assumption) ?_
                  rotate_left
                  · intro w' hSw; (try dsimp only at hSw); go_simp; (try with_reducible rfl)
                  simp only [Act.put, List.setIfInBounds_toArray, List.set_cons_zero, List.set_cons_succ]
                  refine wpAnyH_ready (rs := [16]) (by kernel_rfl) (by simp) ?_
                  refine AllReadyH.cons rfl (fun K hK => ?_) ?_
                  · go_simp
                    refine hK.out _ _ ?_ (fun hHeld => ?_)
                    · first | exact HSS.out _ (Pk.put J6.out rfl rfl DD1.out DD2.out H1.out H2.out).bl | exact HSS.out _ (Pk.new J6.out rfl rfl DD1.out DD2.out H1.out H2.out).bl
                    clear hK K
                    refine wpAnyH_done (by kernel_rfl) ?_ _
                    go_wp2
                    go_meet
                    case rel => first | (with_reducible exact ⟨_, _, _, _, _, rfl, Pk.put J6.out rfl rfl DD1.out DD2.out H1.out H2.out⟩) | (with_reducible exact ⟨_, _, _, _, _, rfl, Pk.new J6.out rfl rfl DD1.out DD2.out H1.out H2.out⟩) | exact ⟨_, _, _, _, _, rfl, Pk.put J6.out rfl rfl DD1.out DD2.out H1.out H2.out⟩ | exact ⟨_, _, _, _, _, rfl, Pk.new J6.out rfl rfl DD1.out DD2.out H1.out H2.out⟩
                  exact AllReadyH.nil
                exact AllReadyH.nil
              exact AllReadyH.nil
            exact AllReadyH.nil
          refine AllReadyH.cons rfl (fun K hK => ?_) ?_
          · go_simp
            refine hK.out _ _ ?_ (fun hHeld => ?_)
            · exact HSS.out _ (J2.out.box).bl
            clear hK K
            refine wpAnyH_ready (rs := [7]) (by kernel_rfl) (by simp) ?_
            refine AllReadyH.cons rfl (fun K hK => ?_) ?_
            · go_simp
              refine hK.out _ _ ?_ (fun hHeld => ?_)
              · exact HSS.out _ (J2.out.box.bsD).bl
              clear hK K
              refine wpAnyH_ready (rs := [10]) (by kernel_rfl) (by simp) ?_
              refine AllReadyH.cons rfl (fun K hK => ?_) ?_
              · refine stepD (W := W) (by rfl) _ _ _ (by rfl) i2 Try.underlying24 HJ.out (J2.out.box.bsD) (by first | rfl | (simp only [sz1]; rfl)) (.slice p2 ra.defs.length c2) ra.defs.length (dfsV ra.defs ua) F1 (by rfl) RD1.out LD1.out OD1.out (Nat.zero_le _) ML2.out ?_
                intro pd5 capd5 wd5 JD
                rw [Nat.zero_add, List.nil_append] at JD
                (try simp only [sz1] at JD)
                have J5 : Hid (JJ W _ _ _ _ _ _ _ wd5) := JD
                have hbx := JD.bx _ rfl
                obtain ⟨bx0, bx1, bx2, bx3⟩ := box_cells hbx.2
                have hbl := blk_lt hbx.2
                clear hbx
                (try simp only [sz1] at bx0 bx1 bx2 bx3 hbl)
                clear JD
                rw [Nat.zero_add]
                refine hK.out _ _ ?_ (fun hHeld => ?_)
                · exact HSS.out _ (J5.out).bl
                clear hK K
                refine wpAnyH_ready (rs := [13]) (by kernel_rfl) (by simp) ?_
                refine AllReadyH.cons rfl (fun K hK => ?_) ?_
                · refine stepD (W := W) (by rfl) _ _ _ (by rfl) i2 Try.underlying24 HJ.out (J5.out) (by first | rfl | (simp only [sz1]; rfl)) (.slice p4 rb.defs.length c4) rb.defs.length (dfsV rb.defs ub) F2 (by rfl) RD2.out LD2.out OD2.out ML2.out ML4.out ?_
                  intro pd6 capd6 wd6 JD
                  (try simp only [sz1] at JD)
                  have J6 : Hid (JJ W _ _ _ _ _ _ _ wd6) := JD
                  have hbx := JD.bx _ rfl
                  obtain ⟨bx0, bx1, bx2, bx3⟩ := box_cells hbx.2
                  have hbl := blk_lt hbx.2
                  clear hbx
                  (try simp only [sz1] at bx0 bx1 bx2 bx3 hbl)
                  clear JD
                  refine hK.out _ _ ?_ (fun hHeld => ?_)
                  · exact HSS.out _ (J6.out).bl
                  clear hK K
                  refine wpAnyH_take (i := 14) (oi := _) (v := ?_) rfl (by kernel_rfl) (by kernel_rfl) (by kernel_rfl) (fun _ _ _ h => h) (Or.inl ⟨by rfl, ?_⟩) (by assumption) ?_
                  rotate_left
                  · intro w' hSw; (try dsimp only at hSw); go_simp; (try with_reducible rfl)
                  simp only [Act.put, List.setIfInBounds_toArray, List.set_cons_zero, List.set_cons_succ]
                  refine wpAnyH_ready (rs := [16]) (by kernel_rfl) (by simp) ?_
                  refine AllReadyH.cons rfl (fun K hK => ?_) ?_
                  · go_simp
                    refine hK.out _ _ ?_ (fun hHeld => ?_)
                    · first | exact HSS.out _ (Pk.put J6.out rfl rfl DD1.out DD2.out H1.out H2.out).bl | exact HSS.out _ (Pk.new J6.out rfl rfl DD1.out DD2.out H1.out H2.out).bl
                    clear hK K
                    refine wpAnyH_done (by kernel_rfl) ?_ _
                    go_wp2
                    go_meet
                    case rel => first | (with_reducible exact ⟨_, _, _, _, _, rfl, Pk.put J6.out rfl rfl DD1.out DD2.out H1.out H2.out⟩) | (with_reducible exact ⟨_, _, _, _, _, rfl, Pk.new J6.out rfl rfl DD1.out DD2.out H1.out H2.out⟩) | exact ⟨_, _, _, _, _, rfl, Pk.put J6.out rfl rfl DD1.out DD2.out H1.out H2.out⟩ | exact ⟨_, _, _, _, _, rfl, Pk.new J6.out rfl rfl DD1.out DD2.out H1.out H2.out⟩
                  exact AllReadyH.nil
                exact AllReadyH.nil
              exact AllReadyH.nil
            exact AllReadyH.nil
          exact AllReadyH.nil
        refine AllReadyH.cons rfl (fun K hK => ?_) ?_
        · go_simp
          refine hK.out _ _ ?_ (fun hHeld => ?_)
          · exact HSS.out _ (J1.out.bsD).bl
          clear hK K
          refine wpAnyH_ready (rs := [6, 15]) (by kernel_rfl) (by simp) ?_
          refine AllReadyH.cons rfl (fun K hK => ?_) ?_
          · refine stepS (W := W) (by rfl) _ _ _ (by rfl) i Try.underlying23 HI.out (J1.out.bsD) (by first | rfl | (simp only [sz1]; rfl)) (.slice p3 rb.starts.length c3) rb.starts.length (txV rb.starts) F2 (by rfl) RS2.out LS2.out (tx_one _) ML1.out ML3.out ?_
            intro pd3 capd3 wd3 JD
            (try simp only [sz1] at JD)
            have J3 : Hid (JJ W _ _ _ _ _ _ _ wd3) := JD
            clear JD
            refine hK.out _ _ ?_ (fun hHeld => ?_)
            · exact HSS.out _ (J3.out).bl
            clear hK K
            refine wpAnyH_ready (rs := [10, 15]) (by kernel_rfl) (by simp) ?_
            refine AllReadyH.cons rfl (fun K hK => ?_) ?_
            · refine stepD (W := W) (by rfl) _ _ _ (by rfl) i2 Try.underlying24 HJ.out (J3.out) (by first | rfl | (simp only [sz1]; rfl)) (.slice p2 ra.defs.length c2) ra.defs.length (dfsV ra.defs ua) F1 (by rfl) RD1.out LD1.out OD1.out (Nat.zero_le _) ML2.out ?_
              intro pd4 capd4 wd4 JD
              rw [Nat.zero_add, List.nil_append] at JD
              (try simp only [sz1] at JD)
              have J4 : Hid (JJ W _ _ _ _ _ _ _ wd4) := JD
              clear JD
              rw [Nat.zero_add]
              refine hK.out _ _ ?_ (fun hHeld => ?_)
              · exact HSS.out _ (J4.out).bl
              clear hK K
              refine wpAnyH_ready (rs := [13, 15]) (by kernel_rfl) (by simp) ?_
              refine AllReadyH.cons rfl (fun K hK => ?_) ?_
              · refine stepD (W := W) (by rfl) _ _ _ (by rfl) i2 Try.underlying24 HJ.out (J4.out) (by first | rfl | (simp only [sz1]; rfl)) (.slice p4 rb.defs.length c4) rb.defs.length (dfsV rb.defs ub) F2 (by rfl) RD2.out LD2.out OD2.out ML2.out ML4.out ?_
                intro pd5 capd5 wd5 JD
                (try simp only [sz1] at JD)
                have J5 : Hid (JJ W _ _ _ _ _ _ _ wd5) := JD
                clear JD
                refine hK.out _ _ ?_ (fun hHeld => ?_)
                · exact HSS.out _ (J5.out).bl
                clear hK K
                refine wpAnyH_take (i := 14) (oi := _) (v := ?_) rfl (by kernel_rfl) (by kernel_rfl) (by kernel_rfl) (fun _ _ _ h => h) (Or.inl ⟨by rfl, ?_⟩) (by assumption) ?_
                rotate_left
                · intro w' hSw; (try dsimp only at hSw); go_simp; (try with_reducible rfl)
                simp only [Act.put, List.setIfInBounds_toArray, List.set_cons_zero, List.set_cons_succ]
                refine wpAnyH_ready (rs := [15]) (by kernel_rfl) (by simp) ?_
                refine AllReadyH.cons rfl (fun K hK => ?_) ?_
                · go_simp
                  refine hK.out _ _ ?_ (fun hHeld => ?_)
                  · exact HSS.out _ (J5.out.box).bl
                  clear hK K
                  refine wpAnyH_ready (rs := [16]) (by kernel_rfl) (by simp) ?_
                  refine AllReadyH.cons rfl (fun K hK => ?_) ?_
                  · go_simp
                    refine hK.out _ _ ?_ (fun hHeld => ?_)
                    · first | exact HSS.out _ (Pk.put J5.out rfl rfl DD1.out DD2.out H1.out H2.out).bl | exact HSS.out _ (Pk.new J5.out rfl rfl DD1.out DD2.out H1.out H2.out).bl
                    clear hK K
                    refine wpAnyH_done (by kernel_rfl) ?_ _
                    go_wp2
                    go_meet
                    case rel => first | (with_reducible exact ⟨_, _, _, _, _, rfl, Pk.put J5.out rfl rfl DD1.out DD2.out H1.out H2.out⟩) | (with_reducible exact ⟨_, _, _, _, _, rfl, Pk.new J5.out rfl rfl DD1.out DD2.out H1.out H2.out⟩) | exact ⟨_, _, _, _, _, rfl, Pk.put J5.out rfl rfl DD1.out DD2.out H1.out H2.out⟩ | exact ⟨_, _, _, _, _, rfl, Pk.new J5.out rfl rfl DD1.out DD2.out H1.out H2.out⟩
                  exact AllReadyH.nil
                exact AllReadyH.nil
              refine AllReadyH.cons rfl (fun K hK => ?_) ?_
              · go_simp
                refine hK.out _ _ ?_ (fun hHeld => ?_)
                · exact HSS.out _ (J4.out.box).bl
                clear hK K
                refine wpAnyH_ready (rs := [13]) (by kernel_rfl) (by simp) ?_
                refine AllReadyH.cons rfl (fun K hK => ?_) ?_
                · refine stepD (W := W) (by rfl) _ _ _ (by rfl) i2 Try.underlying24 HJ.out (J4.out.box) (by first | rfl | (simp only [sz1]; rfl)) (.slice p4 rb.defs.length c4) rb.defs.length (dfsV rb.defs ub) F2 (by rfl) RD2.out LD2.out OD2.out ML2.out ML4.out ?_
                  intro pd6 capd6 wd6 JD
                  (try simp only [sz1] at JD)
                  have J6 : Hid (JJ W _ _ _ _ _ _ _ wd6) := JD
                  have hbx := JD.bx _ rfl
                  obtain ⟨bx0, bx1, bx2, bx3⟩ := box_cells hbx.2
                  have hbl := blk_lt hbx.2
                  clear hbx
                  (try simp only [sz1] at bx0 bx1 bx2 bx3 hbl)
                  clear JD
                  refine hK.out _ _ ?_ (fun hHeld => ?_)
                  · exact HSS.out _ (J6.out).bl
                  clear hK K
                  refine wpAnyH_take (i := 14) (oi := _) (v := ?_) rfl (by kernel_rfl) (by kernel_rfl) (by kernel_rfl) (fun _ _ _ h => h) (Or.inl ⟨by rfl, ?_⟩) (by assumption) ?_
                  rotate_left
                  · intro w' hSw; (try dsimp only at hSw); go_simp; (try with_reducible rfl)
                  simp only [Act.put, List.setIfInBounds_toArray, List.set_cons_zero, List.set_cons_succ]
                  refine wpAnyH_ready (rs := [16]) (by kernel_rfl) (by simp) ?_
                  refine AllReadyH.cons rfl (fun K hK => ?_) ?_
                  · go_simp
                    refine hK.out _ _ ?_ (fun hHeld => ?_)
                    · first | exact HSS.out _ (Pk.put J6.out rfl rfl DD1.out DD2.out H1.out H2.out).bl | exact HSS.out _ (Pk.new J6.out rfl rfl DD1.out DD2.out H1.out H2.out).bl
                    clear hK K
                    refine wpAnyH_done (by kernel_rfl) ?_ _
                    go_wp2
                    go_meet
                    case rel => first | (with_reducible exact ⟨_, _, _, _, _, rfl, Pk.put J6.out rfl rfl DD1.out DD2.out H1.out H2.out⟩) | (with_reducible exact ⟨_, _, _, _, _, rfl, Pk.new J6.out rfl rfl DD1.out DD2.out H1.out H2.out⟩) | exact ⟨_, _, _, _, _, rfl, Pk.put J6.out rfl rfl DD1.out DD2.out H1.out H2.out⟩ | exact ⟨_, _, _, _, _, rfl, Pk.new J6.out rfl rfl DD1.out DD2.out H1.out H2.out⟩
                  exact AllReadyH.nil
                exact AllReadyH.nil
              exact AllReadyH.nil
            refine AllReadyH.cons rfl (fun K hK => ?_) ?_
            · go_simp
              refine hK.out _ _ ?_ (fun hHeld => ?_)
              · exact HSS.out _ (J3.out.box).bl
              clear hK K
              refine wpAnyH_ready (rs := [10]) (by kernel_rfl) (by simp) ?_
              refine AllReadyH.cons rfl (fun K hK => ?_) ?_
              · refine stepD (W := W) (by rfl) _ _ _ (by rfl) i2 Try.underlying24 HJ.out (J3.out.box) (by first | rfl | (simp only [sz1]; rfl)) (.slice p2 ra.defs.length c2) ra.defs.length (dfsV ra.defs ua) F1 (by rfl) RD1.out LD1.out OD1.out (Nat.zero_le _) ML2.out ?_
                intro pd5 capd5 wd5 JD
                rw [Nat.zero_add, List.nil_append] at JD
                (try simp only [sz1] at JD)
                have J5 : Hid (JJ W _ _ _ _ _ _ _ wd5) := JD
                have hbx := JD.bx _ rfl
                obtain ⟨bx0, bx1, bx2, bx3⟩ := box_cells hbx.2
                have hbl := blk_lt hbx.2
                clear hbx
                (try simp only [sz1] at bx0 bx1 bx2 bx3 hbl)
                clear JD
                rw [Nat.zero_add]
                refine hK.out _ _ ?_ (fun hHeld => ?_)
                · exact HSS.out _ (J5.out).bl
                clear hK K
                refine wpAnyH_ready (rs := [13]) (by kernel_rfl) (by simp) ?_
                refine AllReadyH.cons rfl (fun K hK => ?_) ?_
                · refine stepD (W := W) (by rfl) _ _ _ (by rfl) i2 Try.underlying24 HJ.out (J5.out) (by first | rfl | (simp only [sz1]; rfl)) (.slice p4 rb.defs.length c4) rb.defs.length (dfsV rb.defs ub) F2 (by rfl) RD2.out LD2.out OD2.out ML2.out ML4.out ?_
                  intro pd6 capd6 wd6 JD
                  (try simp only [sz1] at JD)
                  have J6 : Hid (JJ W _ _ _ _ _ _ _ wd6) := JD
                  have hbx := JD.bx _ rfl
                  obtain ⟨bx0, bx1, bx2, bx3⟩ := box_cells hbx.2
                  have hbl := blk_lt hbx.2
                  clear hbx
                  (try simp only [sz1] at bx0 bx1 bx2 bx3 hbl)
                  clear JD
                  refine hK.out _ _ ?_ (fun hHeld => ?_)
                  · exact HSS.out _ (J6.out).bl
                  clear hK K
                  refine wpAnyH_take (i := 14) (oi := _) (v := ?_) rfl (by kernel_rfl) (by kernel_rfl) (by kernel_rfl) (fun _ _ _ h => h) (Or.inl ⟨by rfl, ?_⟩) (by assumption) ?_
                  rotate_left
                  · intro w' hSw; (try dsimp only at hSw); go_simp; (try with_reducible rfl)
                  simp only [Act.put, List.setIfInBounds_toArray, List.set_cons_zero, List.set_cons_succ]
                  refine wpAnyH_ready (rs := [16]) (by kernel_rfl) (by simp) ?_
                  refine AllReadyH.cons rfl (fun K hK => ?_) ?_
                  · go_simp
                    refine hK.out _ _ ?_ (fun hHeld => ?_)
                    · first | exact HSS.out _ (Pk.put J6.out rfl rfl DD1.out DD2.out H1.out H2.out).bl | exact HSS.out _ (Pk.new J6.out rfl rfl DD1.out DD2.out H1.out H2.out).bl
                    clear hK K
                    refine wpAnyH_done (by kernel_rfl) ?_ _
                    go_wp2
                    go_meet
                    case rel => first | (with_reducible exact ⟨_, _, _, _, _, rfl, Pk.put J6.out rfl rfl DD1.out DD2.out H1.out H2.out⟩) | (with_reducible exact ⟨_, _, _, _, _, rfl, Pk.new J6.out rfl rfl DD1.out DD2.out H1.out H2.out⟩) | exact ⟨_, _, _, _, _, rfl, Pk.put J6.out rfl rfl DD1.out DD2.out H1.out H2.out⟩ | exact ⟨_, _, _, _, _, rfl, Pk.new J6.out rfl rfl DD1.out DD2.out H1.out H2.out⟩
                  exact AllReadyH.nil
                exact AllReadyH.nil
              exact AllReadyH.nil
            exact AllReadyH.nil
          refine AllReadyH.cons rfl (fun K hK => ?_) ?_
          · go_simp
            refine hK.out _ _ ?_ (fun hHeld => ?_)
            · exact HSS.out _ (J1.out.bsD.box).bl
            clear hK K
            refine wpAnyH_ready (rs := [6]) (by kernel_rfl) (by simp) ?_
            refine AllReadyH.cons rfl (fun K hK => ?_) ?_
            · refine stepS (W := W) (by rfl) _ _ _ (by rfl) i Try.underlying23 HI.out (J1.out.bsD.box) (by first | rfl | (simp only [sz1]; rfl)) (.slice p3 rb.starts.length c3) rb.starts.length (txV rb.starts) F2 (by rfl) RS2.out LS2.out (tx_one _) ML1.out ML3.out ?_
              intro pd4 capd4 wd4 JD
              (try simp only [sz1] at JD)
              have J4 : Hid (JJ W _ _ _ _ _ _ _ wd4) := JD
              have hbx := JD.bx _ rfl
              obtain ⟨bx0, bx1, bx2, bx3⟩ := box_cells hbx.2
              have hbl := blk_lt hbx.2
              clear hbx
              (try simp only [sz1] at bx0 bx1 bx2 bx3 hbl)
              clear JD
              refine hK.out _ _ ?_ (fun hHeld => ?_)
              · exact HSS.out _ (J4.out).bl
              clear hK K
              refine wpAnyH_ready (rs := [10]) (by kernel_rfl) (by simp) ?_
              refine AllReadyH.cons rfl (fun K hK => ?_) ?_
              · refine stepD (W := W) (by rfl) _ _ _ (by rfl) i2 Try.underlying24 HJ.out (J4.out) (by first | rfl | (simp only [sz1]; rfl)) (.slice p2 ra.defs.length c2) ra.defs.length (dfsV ra.defs ua) F1 (by rfl) RD1.out LD1.out OD1.out (Nat.zero_le _) ML2.out ?_
                intro pd5 capd5 wd5 JD
                rw [Nat.zero_add, List.nil_append] at JD
                (try simp only [sz1] at JD)
                have J5 : Hid (JJ W _ _ _ _ _ _ _ wd5) := JD
                have hbx := JD.bx _ rfl
                obtain ⟨bx0, bx1, bx2, bx3⟩ := box_cells hbx.2
                have hbl := blk_lt hbx.2
                clear hbx
                (try simp only [sz1] at bx0 bx1 bx2 bx3 hbl)
                clear JD
                rw [Nat.zero_add]
                refine hK.out _ _ ?_ (fun hHeld => ?_)
                · exact HSS.out _ (J5.out).bl
                clear hK K
                refine wpAnyH_ready (rs := [13]) (by kernel_rfl) (by simp) ?_
                refine AllReadyH.cons rfl (fun K hK => ?_) ?_
                · refine stepD (W := W) (by rfl) _ _ _ (by rfl) i2 Try.underlying24 HJ.out (J5.out) (by first | rfl | (simp only [sz1]; rfl)) (.slice p4 rb.defs.length c4) rb.defs.length (dfsV rb.defs ub) F2 (by rfl) RD2.out LD2.out OD2.out ML2.out ML4.out ?_
                  intro pd6 capd6 wd6 JD
                  (try simp only [sz1] at JD)
                  have J6 : Hid (JJ W _ _ _ _ _ _ _ wd6) := JD
                  have hbx := JD.bx _ rfl
                  obtain ⟨bx0, bx1, bx2, bx3⟩ := box_cells hbx.2
                  have hbl := blk_lt hbx.2
                  clear hbx
                  (try simp only [sz1] at bx0 bx1 bx2 bx3 hbl)
                  clear JD
                  refine hK.out _ _ ?_ (fun hHeld => ?_)
                  · exact HSS.out _ (J6.out).bl
                  clear hK K
                  refine wpAnyH_take (i := 14) (oi := _) (v := ?_) rfl (by kernel_rfl) (by kernel_rfl) (by kernel_rfl) (fun _ _ _ h => h) (Or.inl ⟨by rfl, ?_⟩) (by assumption) ?_
                  rotate_left
                  · intro w' hSw; (try dsimp only at hSw); go_simp; (try with_reducible rfl)
                  simp only [Act.put, List.setIfInBounds_toArray, List.set_cons_zero, List.set_cons_succ]
                  refine wpAnyH_ready (rs := [16]) (by kernel_rfl) (by simp) ?_
                  refine AllReadyH.cons rfl (fun K hK => ?_) ?_
                  · go_simp
                    refine hK.out _ _ ?_ (fun hHeld => ?_)
                    · first | exact HSS.out _ (Pk.put J6.out rfl rfl DD1.out DD2.out H1.out H2.out).bl | exact HSS.out _ (Pk.new J6.out rfl rfl DD1.out DD2.out H1.out H2.out).bl
                    clear hK K
                    refine wpAnyH_done (by kernel_rfl) ?_ _
                    go_wp2
                    go_meet
                    case rel => first | (with_reducible exact ⟨_, _, _, _, _, rfl, Pk.put J6.out rfl rfl DD1.out DD2.out H1.out H2.out⟩) | (with_reducible exact ⟨_, _, _, _, _, rfl, Pk.new J6.out rfl rfl DD1.out DD2.out H1.out H2.out⟩) | exact ⟨_, _, _, _, _, rfl, Pk.put J6.out rfl rfl DD1.out DD2.out H1.out H2.out⟩ | exact ⟨_, _, _, _, _, rfl, Pk.new J6.out rfl rfl DD1.out DD2.out H1.out H2.out⟩
                  exact AllReadyH.nil
                exact AllReadyH.nil
              exact AllReadyH.nil
            exact AllReadyH.nil
          exact AllReadyH.nil
        refine AllReadyH.cons rfl (fun K hK => ?_) ?_
        · go_simp
          refine hK.out _ _ ?_ (fun hHeld => ?_)
          · exact HSS.out _ (J1.out.box).bl
          clear hK K
          refine wpAnyH_ready (rs := [6, 7]) (by kernel_rfl) (by simp) ?_
          refine AllReadyH.cons rfl (fun K hK => ?_) ?_
          · refine stepS (W := W) (by rfl) _ _ _ (by rfl) i Try.underlying23 HI.out (J1.out.box) (by first | rfl | (simp only [sz1]; rfl)) (.slice p3 rb.starts.length c3) rb.starts.length (txV rb.starts) F2 (by rfl) RS2.out LS2.out (tx_one _) ML1.out ML3.out ?_
            intro pd3 capd3 wd3 JD
            (try simp only [sz1] at JD)
            have J3 : Hid (JJ W _ _ _ _ _ _ _ wd3) := JD
            have hbx := JD.bx _ rfl
            obtain ⟨bx0, bx1, bx2, bx3⟩ := box_cells hbx.2
            have hbl := blk_lt hbx.2
            clear hbx
            (try simp only [sz1] at bx0 bx1 bx2 bx3 hbl)
            clear JD
            refine hK.out _ _ ?_ (fun hHeld => ?_)
            · exact HSS.out _ (J3.out).bl
            clear hK K
            refine wpAnyH_ready (rs := [7]) (by kernel_rfl) (by simp) ?_
            refine AllReadyH.cons rfl (fun K hK => ?_) ?_
            · go_simp
              refine hK.out _ _ ?_ (fun hHeld => ?_)
              · exact HSS.out _ (J3.out.bsD).bl
              clear hK K
              refine wpAnyH_ready (rs := [10]) (by kernel_rfl) (by simp) ?_
              refine AllReadyH.cons rfl (fun K hK => ?_) ?_
              · refine stepD (W := W) (by rfl) _ _ _ (by rfl) i2 Try.underlying24 HJ.out (J3.out.bsD) (by first | rfl | (simp only [sz1]; rfl)) (.slice p2 ra.defs.length c2) ra.defs.length (dfsV ra.defs ua) F1 (by rfl) RD1.out LD1.out OD1.out (Nat.zero_le _) ML2.out ?_
                intro pd5 capd5 wd5 JD
                rw [Nat.zero_add, List.nil_append] at JD
                (try simp only [sz1] at JD)
                have J5 : Hid (JJ W _ _ _ _ _ _ _ wd5) := JD
                have hbx := JD.bx _ rfl
                obtain ⟨bx0, bx1, bx2, bx3⟩ := box_cells hbx.2
                have hbl := blk_lt hbx.2
                clear hbx
                (try simp only [sz1] at bx0 bx1 bx2 bx3 hbl)
                clear JD
                rw [Nat.zero_add]
                refine hK.out _ _ ?_ (fun hHeld => ?_)
                · exact HSS.out _ (J5.out).bl
                clear hK K
                refine wpAnyH_ready (rs := [13]) (by kernel_rfl) (by simp) ?_
                refine AllReadyH.cons rfl (fun K hK => ?_) ?_
                · refine stepD (W := W) (by rfl) _ _ _ (by rfl) i2 Try.underlying24 HJ.out (J5.out) (by first | rfl | (simp only [sz1]; rfl)) (.slice p4 rb.defs.length c4) rb.defs.length (dfsV rb.defs ub) F2 (by rfl) RD2.out LD2.out OD2.out ML2.out ML4.out ?_
                  intro pd6 capd6 wd6 JD
                  (try simp only [sz1] at JD)
                  have J6 : Hid (JJ W _ _ _ _ _ _ _ wd6) := JD
                  have hbx := JD.bx _ rfl
                  obtain ⟨bx0, bx1, bx2, bx3⟩ := box_cells hbx.2
                  have hbl := blk_lt hbx.2
                  clear hbx
                  (try simp only [sz1] at bx0 bx1 bx2 bx3 hbl)
                  clear JD
                  refine hK.out _ _ ?_ (fun hHeld => ?_)
                  · exact HSS.out _ (J6.out).bl
                  clear hK K
                  refine wpAnyH_take (i := 14) (oi := _) (v := ?_) rfl (by kernel_rfl) (by kernel_rfl) (by kernel_rfl) (fun _ _ _ h => h) (Or.inl ⟨by rfl, ?_⟩) (by assumption) ?_
                  rotate_left
                  · intro w' hSw; (try dsimp only at hSw); go_simp; (try with_reducible rfl)
                  simp only [Act.put, List.setIfInBounds_toArray, List.set_cons_zero, List.set_cons_succ]
                  refine wpAnyH_ready (rs := [16]) (by kernel_rfl) (by simp) ?_
                  refine AllReadyH.cons rfl (fun K hK => ?_) ?_
                  · go_simp
                    refine hK.out _ _ ?_ (fun hHeld => ?_)
                    · first | exact HSS.out _ (Pk.put J6.out rfl rfl DD1.out DD2.out H1.out H2.out).bl | exact HSS.out _ (Pk.new J6.out rfl rfl DD1.out DD2.out H1.out H2.out).bl
                    clear hK K
                    refine wpAnyH_done (by kernel_rfl) ?_ _
                    go_wp2
                    go_meet
                    case rel => first | (with_reducible exact ⟨_, _, _, _, _, rfl, Pk.put J6.out rfl rfl DD1.out DD2.out H1.out H2.out⟩) | (with_reducible exact ⟨_, _, _, _, _, rfl, Pk.new J6.out rfl rfl DD1.out DD2.out H1.out H2.out⟩) | exact ⟨_, _, _, _, _, rfl, Pk.put J6.out rfl rfl DD1.out DD2.out H1.out H2.out⟩ | exact ⟨_, _, _, _, _, rfl, Pk.new J6.out rfl rfl DD1.out DD2.out H1.out H2.out⟩
                  exact AllReadyH.nil
                exact AllReadyH.nil
              exact AllReadyH.nil
            exact AllReadyH.nil
          refine AllReadyH.cons rfl (fun K hK => ?_) ?_
          · go_simp
            refine hK.out _ _ ?_ (fun hHeld => ?_)
            · exact HSS.out _ (J1.out.box.bsD).bl
            clear hK K
            refine wpAnyH_ready (rs := [6]) (by kernel_rfl) (by simp) ?_
            refine AllReadyH.cons rfl (fun K hK => ?_) ?_
            · refine stepS (W := W) (by rfl) _ _ _ (by rfl) i Try.underlying23 HI.out (J1.out.box.bsD) (by first | rfl | (simp only [sz1]; rfl)) (.slice p3 rb.starts.length c3) rb.starts.length (txV rb.starts) F2 (by rfl) RS2.out LS2.out (tx_one _) ML1.out ML3.out ?_
              intro pd4 capd4 wd4 JD
              (try simp only [sz1] at JD)
              have J4 : Hid (JJ W _ _ _ _ _ _ _ wd4) := JD
              have hbx := JD.bx _ rfl
              obtain ⟨bx0, bx1, bx2, bx3⟩ := box_cells hbx.2
              have hbl := blk_lt hbx.2
              clear hbx
              (try simp only [sz1] at bx0 bx1 bx2 bx3 hbl)
              clear JD
              refine hK.out _ _ ?_ (fun hHeld => ?_)
              · exact HSS.out _ (J4.out).bl
              clear hK K
              refine wpAnyH_ready (rs := [10]) (by kernel_rfl) (by simp) ?_
              refine AllReadyH.cons rfl (fun K hK => ?_) ?_
              · refine stepD (W := W) (by rfl) _ _ _ (by rfl) i2 Try.underlying24 HJ.out (J4.out) (by first | rfl | (simp only [sz1]; rfl)) (.slice p2 ra.defs.length c2) ra.defs.length (dfsV ra.defs ua) F1 (by rfl) RD1.out LD1.out OD1.out (Nat.zero_le _) ML2.out ?_
                intro pd5 capd5 wd5 JD
                rw [Nat.zero_add, List.nil_append] at JD
                (try simp only [sz1] at JD)
                have J5 : Hid (JJ W _ _ _ _ _ _ _ wd5) := JD
                have hbx := JD.bx _ rfl
                obtain ⟨bx0, bx1, bx2, bx3⟩ := box_cells hbx.2
                have hbl := blk_lt hbx.2
                clear hbx
                (try simp only [sz1] at bx0 bx1 bx2 bx3 hbl)
                clear JD
                rw [Nat.zero_add]
                refine hK.out _ _ ?_ (fun hHeld => ?_)
                · exact HSS.out _ (J5.out).bl
                clear hK K
                refine wpAnyH_ready (rs := [13]) (by kernel_rfl) (by simp) ?_
                refine AllReadyH.cons rfl (fun K hK => ?_) ?_
                · refine stepD (W := W) (by rfl) _ _ _ (by rfl) i2 Try.underlying24 HJ.out (J5.out) (by first | rfl | (simp only [sz1]; rfl)) (.slice p4 rb.defs.length c4) rb.defs.length (dfsV rb.defs ub) F2 (by rfl) RD2.out LD2.out OD2.out ML2.out ML4.out ?_
                  intro pd6 capd6 wd6 JD
                  (try simp only [sz1] at JD)
                  have J6 : Hid (JJ W _ _ _ _ _ _ _ wd6) := JD
                  have hbx := JD.bx _ rfl
                  obtain ⟨bx0, bx1, bx2, bx3⟩ := box_cells hbx.2
                  have hbl := blk_lt hbx.2
                  clear hbx
                  (try simp only [sz1] at bx0 bx1 bx2 bx3 hbl)
                  clear JD
                  refine hK.out _ _ ?_ (fun hHeld => ?_)
                  · exact HSS.out _ (J6.out).bl
                  clear hK K
                  refine wpAnyH_take (i := 14) (oi := _) (v := ?_) rfl (by kernel_rfl) (by kernel_rfl) (by kernel_rfl) (fun _ _ _ h => h) (Or.inl ⟨by rfl, ?_⟩) (by assumption) ?_
                  rotate_left
                  · intro w' hSw; (try dsimp only at hSw); go_simp; (try with_reducible rfl)
                  simp only [Act.put, List.setIfInBounds_toArray, List.set_cons_zero, List.set_cons_succ]
                  refine wpAnyH_ready (rs := [16]) (by kernel_rfl) (by simp) ?_
                  refine AllReadyH.cons rfl (fun K hK => ?_) ?_
                  · go_simp
                    refine hK.out _ _ ?_ (fun hHeld => ?_)
                    · first | exact HSS.out _ (Pk.put J6.out rfl rfl DD1.out DD2.out H1.out H2.out).bl | exact HSS.out _ (Pk.new J6.out rfl rfl DD1.out DD2.out H1.out H2.out).bl
                    clear hK K
                    refine wpAnyH_done (by kernel_rfl) ?_ _
                    go_wp2
                    go_meet
                    case rel => first | (with_reducible exact ⟨_, _, _, _, _, rfl, Pk.put J6.out rfl rfl DD1.out DD2.out H1.out H2.out⟩) | (with_reducible exact ⟨_, _, _, _, _, rfl, Pk.new J6.out rfl rfl DD1.out DD2.out H1.out H2.out⟩) | exact ⟨_, _, _, _, _, rfl, Pk.put J6.out rfl rfl DD1.out DD2.out H1.out H2.out⟩ | exact ⟨_, _, _, _, _, rfl, Pk.new J6.out rfl rfl DD1.out DD2.out H1.out H2.out⟩
                  exact AllReadyH.nil
                exact AllReadyH.nil
              exact AllReadyH.nil
            exact AllReadyH.nil
          exact AllReadyH.nil
        exact AllReadyH.nil
      refine AllReadyH.cons rfl (fun K hK => ?_) ?_
      · go_simp
        refine hK.out _ _ ?_ (fun hHeld => ?_)
        · exact HSS.out _ (J0.out.bsS.bsD.drew).bl
        clear hK K
        refine wpAnyH_ready (rs := [3, 15]) (by kernel_rfl) (by simp) ?_
        refine AllReadyH.cons rfl (fun K hK => ?_) ?_
        · refine stepS (W := W) (by rfl) _ _ _ (by rfl) i Try.underlying23 HI.out (J0.out.bsS.bsD.drew) (by first | rfl | (simp only [sz1]; rfl)) (.slice p1 ra.starts.length c1) ra.starts.length (txV ra.starts) F1 (by rfl) RS1.out LS1.out (tx_one _) (Nat.zero_le _) ML1.out ?_
          intro pd2 capd2 wd2 JD
          rw [Nat.zero_add, List.nil_append] at JD
          (try simp only [sz1] at JD)
          have J2 : Hid (JJ W _ _ _ _ _ _ _ wd2) := JD
          clear JD
          rw [Nat.zero_add]
          refine hK.out _ _ ?_ (fun hHeld => ?_)
          · exact HSS.out _ (J2.out).bl
          clear hK K
          refine wpAnyH_ready (rs := [6, 15]) (by kernel_rfl) (by simp) ?_
          refine AllReadyH.cons rfl (fun K hK => ?_) ?_
          · refine stepS (W := W) (by rfl) _ _ _ (by rfl) i Try.underlying23 HI.out (J2.out) (by first | rfl | (simp only [sz1]; rfl)) (.slice p3 rb.starts.length c3) rb.starts.length (txV rb.starts) F2 (by rfl) RS2.out LS2.out (tx_one _) ML1.out ML3.out ?_
            intro pd3 capd3 wd3 JD
            (try simp only [sz1] at JD)
            have J3 : Hid (JJ W _ _ _ _ _ _ _ wd3) := JD
            clear JD
            refine hK.out _ _ ?_ (fun hHeld => ?_)
            · exact HSS.out _ (J3.out).bl
            clear hK K
            refine wpAnyH_ready (rs := [10, 15]) (by kernel_rfl) (by simp) ?_
            refine AllReadyH.cons rfl (fun K hK => ?_) ?_
            · refine stepD (W := W) (by rfl) _ _ _ (by rfl) i2 Try.underlying24 HJ.out (J3.out) (by first | rfl | (simp only [sz1]; rfl)) (.slice p2 ra.defs.length c2) ra.defs.length (dfsV ra.defs ua) F1 (by rfl) RD1.out LD1.out OD1.out (Nat.zero_le _) ML2.out ?_
              intro pd4 capd4 wd4 JD
              rw [Nat.zero_add, List.nil_append] at JD
              (try simp only [sz1] at JD)
              have J4 : Hid (JJ W _ _ _ _ _ _ _ wd4) := JD
              clear JD
              rw [Nat.zero_add]
              refine hK.out _ _ ?_ (fun hHeld => ?_)
              · exact HSS.out _ (J4.out).bl
              clear hK K
              refine wpAnyH_ready (rs := [13, 15]) (by kernel_rfl) (by simp) ?_
              refine AllReadyH.cons rfl (fun K hK => ?_) ?_
              · refine stepD (W := W) (by rfl) _ _ _ (by rfl) i2 Try.underlying24 HJ.out (J4.out) (by first | rfl | (simp only [sz1]; rfl)) (.slice p4 rb.defs.length c4) rb.defs.length (dfsV rb.defs ub) F2 (by rfl) RD2.out LD2.out OD2.out ML2.out ML4.out ?_
                intro pd5 capd5 wd5 JD
                (try simp only [sz1] at JD)
                have J5 : Hid (JJ W _ _ _ _ _ _ _ wd5) := JD
                clear JD
                refine hK.out _ _ ?_ (fun hHeld => ?_)
                · exact HSS.out _ (J5.out).bl
                clear hK K
                refine wpAnyH_take (i := 14) (oi := _) (v := ?_) rfl (by kernel_rfl) (by kernel_rfl) (by kernel_rfl) (fun _ _ _ h => h) (Or.inl ⟨by rfl, ?_⟩) (by assumption) ?_
                rotate_left
                · intro w' hSw; (try dsimp only at hSw); go_simp; (try with_reducible rfl)
                simp only [Act.put, List.setIfInBounds_toArray, List.set_cons_zero, List.set_cons_succ]
                refine wpAnyH_ready (rs := [15]) (by kernel_rfl) (by simp) ?_
                refine AllReadyH.cons rfl (fun K hK => ?_) ?_
                · go_simp
                  refine hK.out _ _ ?_ (fun hHeld => ?_)
                  · exact HSS.out _ (J5.out.box).bl
                  clear hK K
                  refine wpAnyH_ready (rs := [16]) (by kernel_rfl) (by simp) ?_
                  refine AllReadyH.cons rfl (fun K hK => ?_) ?_
                  · go_simp
                    refine hK.out _ _ ?_ (fun hHeld => ?_)
                    · first | exact HSS.out _ (Pk.put J5.out rfl rfl DD1.out DD2.out H1.out H2.out).bl | exact HSS.out _ (Pk.new J5.out rfl rfl DD1.out DD2.out H1.out H2.out).bl
                    clear hK K
                    refine wpAnyH_done (by kernel_rfl) ?_ _
                    go_wp2
                    go_meet
                    case rel => first | (with_reducible exact ⟨_, _, _, _, _, rfl, Pk.put J5.out rfl rfl DD1.out DD2.out H1.out H2.out⟩) | (with_reducible exact ⟨_, _, _, _, _, rfl, Pk.new J5.out rfl rfl DD1.out DD2.out H1.out H2.out⟩) | exact ⟨_, _, _, _, _, rfl, Pk.put J5.out rfl rfl DD1.out DD2.out H1.out H2.out⟩ | exact ⟨_, _, _, _, _, rfl, Pk.new J5.out rfl rfl DD1.out DD2.out H1.out H2.out⟩
                  exact AllReadyH.nil
                exact AllReadyH.nil
              refine AllReadyH.cons rfl (fun K hK => ?_) ?_
              · go_simp
                refine hK.out _ _ ?_ (fun hHeld => ?_)
                · exact HSS.out _ (J4.out.box).bl
                clear hK K
                refine wpAnyH_ready (rs := [13]) (by kernel_rfl) (by simp) ?_
                refine AllReadyH.cons rfl (fun K hK => ?_) ?_
                · refine stepD (W := W) (by rfl) _ _ _ (by rfl) i2 Try.underlying24 HJ.out (J4.out.box) (by first | rfl | (simp only [sz1]; rfl)) (.slice p4 rb.defs.length c4) rb.defs.length (dfsV rb.defs ub) F2 (by rfl) RD2.out LD2.out OD2.out ML2.out ML4.out ?_
                  intro pd6 capd6 wd6 JD
                  (try simp only [sz1] at JD)
                  have J6 : Hid (JJ W _ _ _ _ _ _ _ wd6) := JD
                  have hbx := JD.bx _ rfl
                  obtain ⟨bx0, bx1, bx2, bx3⟩ := box_cells hbx.2
                  have hbl := blk_lt hbx.2
                  clear hbx
                  (try simp only [sz1] at bx0 bx1 bx2 bx3 hbl)
                  clear JD
                  refine hK.out _ _ ?_ (fun hHeld => ?_)
                  · exact HSS.out _ (J6.out).bl
                  clear hK K
                  refine wpAnyH_take (i := 14) (oi := _) (v := ?_) rfl (by kernel_rfl) (by kernel_rfl) (by kernel_rfl) (fun _ _ _ h => h) (Or.inl ⟨by rfl, ?_⟩) (by assumption) ?_
                  rotate_left
                  · intro w' hSw; (try dsimp only at hSw); go_simp; (try with_reducible rfl)
                  simp only [Act.put, List.setIfInBounds_toArray, List.set_cons_zero, List.set_cons_succ]
                  refine wpAnyH_ready (rs := [16]) (by kernel_rfl) (by simp) ?_
                  refine AllReadyH.cons rfl (fun K hK => ?_) ?_
                  · go_simp
                    refine hK.out _ _ ?_ (fun hHeld => ?_)
                    · first | exact HSS.out _ (Pk.put J6.out rfl rfl DD1.out DD2.out H1.out H2.out).bl | exact HSS.out _ (Pk.new J6.out rfl rfl DD1.out DD2.out H1.out H2.out).bl
                    clear hK K
                    refine wpAnyH_done (by kernel_rfl) ?_ _
                    go_wp2
                    go_meet
                    case rel => first | (with_reducible exact ⟨_, _, _, _, _, rfl, Pk.put J6.out rfl rfl DD1.out DD2.out H1.out H2.out⟩) | (with_reducible exact ⟨_, _, _, _, _, rfl, Pk.new J6.out rfl rfl DD1.out DD2.out H1.out H2.out⟩) | exact ⟨_, _, _, _, _, rfl, Pk.put J6.out rfl rfl DD1.out DD2.out H1.out H2.out⟩ | exact ⟨_, _, _, _, _, rfl, Pk.new J6.out rfl rfl DD1.out DD2.out H1.out H2.out⟩
                  exact AllReadyH.nil
                exact AllReadyH.nil
              exact AllReadyH.nil
            refine AllReadyH.cons rfl (fun K hK => ?_) ?_
            · go_simp
              refine hK.out _ _ ?_ (fun hHeld => ?_)
              · exact HSS.out _ (J3.out.box).bl
              clear hK K
              refine wpAnyH_ready (rs := [10]) (by kernel_rfl) (by simp) ?_
              refine AllReadyH.cons rfl (fun K hK => ?_) ?_
              · refine stepD (W := W) (by rfl) _ _ _ (by rfl) i2 Try.underlying24 HJ.out (J3.out.box) (by first | rfl | (simp only [sz1]; rfl)) (.slice p2 ra.defs.length c2) ra.defs.length (dfsV ra.defs ua) F1 (by rfl) RD1.out LD1.out OD1.out (Nat.zero_le _) ML2.out ?_
                intro pd5 capd5 wd5 JD
                rw [Nat.zero_add, List.nil_append] at JD
                (try simp only [sz1] at JD)
                have J5 : Hid (JJ W _ _ _ _ _ _ _ wd5) := JD
                have hbx := JD.bx _ rfl
                obtain ⟨bx0, bx1, bx2, bx3⟩ := box_cells hbx.2
                have hbl := blk_lt hbx.2
                clear hbx
                (try simp only [sz1] at bx0 bx1 bx2 bx3 hbl)
                clear JD
                rw [Nat.zero_add]
                refine hK.out _ _ ?_ (fun hHeld => ?_)
                · exact HSS.out _ (J5.out).bl
                clear hK K
                refine wpAnyH_ready (rs := [13]) (by kernel_rfl) (by simp) ?_
                refine AllReadyH.cons rfl (fun K hK => ?_) ?_
                · refine stepD (W := W) (by rfl) _ _ _ (by rfl) i2 Try.underlying24 HJ.out (J5.out) (by first | rfl | (simp only [sz1]; rfl)) (.slice p4 rb.defs.length c4) rb.defs.length (dfsV rb.defs ub) F2 (by rfl) RD2.out LD2.out OD2.out ML2.out ML4.out ?_
                  intro pd6 capd6 wd6 JD
                  (try simp only [sz1] at JD)
                  have J6 : Hid (JJ W _ _ _ _ _ _ _ wd6) := JD
                  have hbx := JD.bx _ rfl
                  obtain ⟨bx0, bx1, bx2, bx3⟩ := box_cells hbx.2
                  have hbl := blk_lt hbx.2
                  clear hbx
                  (try simp only [sz1] at bx0 bx1 bx2 bx3 hbl)
                  clear JD
                  refine hK.out _ _ ?_ (fun hHeld => ?_)
                  · exact HSS.out _ (J6.out).bl
                  clear hK K
                  refine wpAnyH_take (i := 14) (oi := _) (v := ?_) rfl (by kernel_rfl) (by kernel_rfl) (by kernel_rfl) (fun _ _ _ h => h) (Or.inl ⟨by rfl, ?_⟩) (by assumption) ?_
                  rotate_left
                  · intro w' hSw; (try dsimp only at hSw); go_simp; (try with_reducible rfl)
                  simp only [Act.put, List.setIfInBounds_toArray, List.set_cons_zero, List.set_cons_succ]
                  refine wpAnyH_ready (rs := [16]) (by kernel_rfl) (by simp) ?_
                  refine AllReadyH.cons rfl (fun K hK => ?_) ?_
                  · go_simp
                    refine hK.out _ _ ?_ (fun hHeld => ?_)
                    · first | exact HSS.out _ (Pk.put J6.out rfl rfl DD1.out DD2.out H1.out H2.out).bl | exact HSS.out _ (Pk.new J6.out rfl rfl DD1.out DD2.out H1.out H2.out).bl
                    clear hK K
                    refine wpAnyH_done (by kernel_rfl) ?_ _
                    go_wp2
                    go_meet
                    case rel => first | (with_reducible exact ⟨_, _, _, _, _, rfl, Pk.put J6.out rfl rfl DD1.out DD2.out H1.out H2.out⟩) | (with_reducible exact ⟨_, _, _, _, _, rfl, Pk.new J6.out rfl rfl DD1.out DD2.out H1.out H2.out⟩) | exact ⟨_, _, _, _, _, rfl, Pk.put J6.out rfl rfl DD1.out DD2.out H1.out H2.out⟩ | exact ⟨_, _, _, _, _, rfl, Pk.new J6.out rfl rfl DD1.out DD2.out H1.out H2.out⟩
                  exact AllReadyH.nil
                exact AllReadyH.nil
              exact AllReadyH.nil
            exact AllReadyH.nil
          refine AllReadyH.cons rfl (fun K hK => ?_) ?_
          · go_simp
            refine hK.out _ _ ?_ (fun hHeld => ?_)
            · exact HSS.out _ (J2.out.box).bl
            clear hK K
            refine wpAnyH_ready (rs := [6]) (by kernel_rfl) (by simp) ?_
            refine AllReadyH.cons rfl (fun K hK => ?_) ?_
            · refine stepS (W := W) (by rfl) _ _ _ (by rfl) i Try.underlying23 HI.out (J2.out.box) (by first | rfl | (simp only [sz1]; rfl)) (.slice p3 rb.starts.length c3) rb.starts.length (txV rb.starts) F2 (by rfl) RS2.out LS2.out (tx_one _) ML1.out ML3.out ?_
              intro pd4 capd4 wd4 JD
              (try simp only [sz1] at JD)
              have J4 : Hid (JJ W _ _ _ _ _ _ _ wd4) := JD
              have hbx := JD.bx _ rfl
              obtain ⟨bx0, bx1, bx2, bx3⟩ := box_cells hbx.2
              have hbl := blk_lt hbx.2
              clear hbx
              (try simp only [sz1] at bx0 bx1 bx2 bx3 hbl)
              clear JD
              refine hK.out _ _ ?_ (fun hHeld => ?_)
              · exact HSS.out _ (J4.out).bl
              clear hK K
              refine wpAnyH_ready (rs := [10]) (by kernel_rfl) (by simp) ?_
              refine AllReadyH.cons rfl (fun K hK => ?_) ?_
              · refine stepD (W := W) (by rfl) _ _ _ (by rfl) i2 Try.underlying24 HJ.out (J4.out) (by first | rfl | (simp only [sz1]; rfl)) (.slice p2 ra.defs.length c2) ra.defs.length (dfsV ra.defs ua) F1 (by rfl) RD1.out LD1.out OD1.out (Nat.zero_le _) ML2.out ?_
                intro pd5 capd5 wd5 JD
                rw [Nat.zero_add, List.nil_append] at JD
                (try simp only [sz1] at JD)
                have J5 : Hid (JJ W _ _ _ _ _ _ _ wd5) := JD
                have hbx := JD.bx _ rfl
                obtain ⟨bx0, bx1, bx2, bx3⟩ := box_cells hbx.2
                have hbl := blk_lt hbx.2
                clear hbx
                (try simp only [sz1] at bx0 bx1 bx2 bx3 hbl)
                clear JD
                rw [Nat.zero_add]
                refine hK.out _ _ ?_ (fun hHeld => ?_)
                · exact HSS.out _ (J5.out).bl
                clear hK K
                refine wpAnyH_ready (rs := [13]) (by kernel_rfl) (by simp) ?_
                refine AllReadyH.cons rfl (fun K hK => ?_) ?_
                · refine stepD (W := W) (by rfl) _ _ _ (by rfl) i2 Try.underlying24 HJ.out (J5.out) (by first | rfl | (simp only [sz1]; rfl)) (.slice p4 rb.defs.length c4) rb.defs.length (dfsV rb.defs ub) F2 (by rfl) RD2.out LD2.out OD2.out ML2.out ML4.out ?_
                  intro pd6 capd6 wd6 JD
                  (try simp only [sz1] at JD)
                  have J6 : Hid (JJ W _ _ _ _ _ _ _ wd6) := JD
                  have hbx := JD.bx _ rfl
                  obtain ⟨bx0, bx1, bx2, bx3⟩ := box_cells hbx.2
                  have hbl := blk_lt hbx.2
                  clear hbx
                  (try simp only [sz1] at bx0 bx1 bx2 bx3 hbl)
                  clear JD
                  refine hK.out _ _ ?_ (fun hHeld => ?_)
                  · exact HSS.out _ (J6.out).bl
                  clear hK K
                  refine wpAnyH_take (i := 14) (oi := _) (v := ?_) rfl (by kernel_rfl) (by kernel_rfl) (by kernel_rfl) (fun _ _ _ h => h) (Or.inl ⟨by rfl, ?_⟩) (by assumption) ?_
                  rotate_left
                  · intro w' hSw; (try dsimp only at hSw); go_simp; (try with_reducible rfl)
                  simp only [Act.put, List.setIfInBounds_toArray, List.set_cons_zero, List.set_cons_succ]
                  refine wpAnyH_ready (rs := [16]) (by kernel_rfl) (by simp) ?_
                  refine AllReadyH.cons rfl (fun K hK => ?_) ?_
                  · go_simp
                    refine hK.out _ _ ?_ (fun hHeld => ?_)
                    · first | exact HSS.out _ (Pk.put J6.out rfl rfl DD1.out DD2.out H1.out H2.out).bl | exact HSS.out _ (Pk.new J6.out rfl rfl DD1.out DD2.out H1.out H2.out).bl
                    clear hK K
                    refine wpAnyH_done (by kernel_rfl) ?_ _
                    go_wp2
                    go_meet
                    case rel => first | (with_reducible exact ⟨_, _, _, _, _, rfl, Pk.put J6.out rfl rfl DD1.out DD2.out H1.out H2.out⟩) | (with_reducible exact ⟨_, _, _, _, _, rfl, Pk.new J6.out rfl rfl DD1.out DD2.out H1.out H2.out⟩) | exact ⟨_, _, _, _, _, rfl, Pk.put J6.out rfl rfl DD1.out DD2.out H1.out H2.out⟩ | exact ⟨_, _, _, _, _, rfl, Pk.new J6.out rfl rfl DD1.out DD2.out H1.out H2.out⟩
                  exact AllReadyH.nil
                exact AllReadyH.nil
              exact AllReadyH.nil
            exact AllReadyH.nil
          exact AllReadyH.nil
        refine AllReadyH.cons rfl (fun K hK => ?_) ?_
        · go_simp
          refine hK.out _ _ ?_ (fun hHeld => ?_)
          · exact HSS.out _ (J0.out.bsS.bsD.box.drew).bl
          clear hK K
          refine wpAnyH_ready (rs := [3]) (by kernel_rfl) (by simp) ?_
          refine AllReadyH.cons rfl (fun K hK => ?_) ?_
          · refine stepS (W := W) (by rfl) _ _ _ (by rfl) i Try.underlying23 HI.out (J0.out.bsS.bsD.box.drew) (by first | rfl | (simp only [sz1]; rfl)) (.slice p1 ra.starts.length c1) ra.starts.length (txV ra.starts) F1 (by rfl) RS1.out LS1.out (tx_one _) (Nat.zero_le _) ML1.out ?_
            intro pd3 capd3 wd3 JD
            rw [Nat.zero_add, List.nil_append] at JD
            (try simp only [sz1] at JD)
            have J3 : Hid (JJ W _ _ _ _ _ _ _ wd3) := JD
            have hbx := JD.bx _ rfl
            obtain ⟨bx0, bx1, bx2, bx3⟩ := box_cells hbx.2
            have hbl := blk_lt hbx.2
            clear hbx
            (try simp only [sz1] at bx0 bx1 bx2 bx3 hbl)
            clear JD
            rw [Nat.zero_add]
            refine hK.out _ _ ?_ (fun hHeld => ?_)
            · exact HSS.out _ (J3.out).bl
            clear hK K
            refine wpAnyH_ready (rs := [6]) (by kernel_rfl) (by simp) ?_
            refine AllReadyH.cons rfl (fun K hK => ?_) ?_
            · refine stepS (W := W) (by rfl) _ _ _ (by rfl) i Try.underlying23 HI.out (J3.out) (by first | rfl | (simp only [sz1]; rfl)) (.slice p3 rb.starts.length c3) rb.starts.length (txV rb.starts) F2 (by rfl) RS2.out LS2.out (tx_one _) ML1.out ML3.out ?_
              intro pd4 capd4 wd4 JD
              (try simp only [sz1] at JD)
              have J4 : Hid (JJ W _ _ _ _ _ _ _ wd4) := JD
              have hbx := JD.bx _ rfl
              obtain ⟨bx0, bx1, bx2, bx3⟩ := box_cells hbx.2
              have hbl := blk_lt hbx.2
              clear hbx
              (try simp only [sz1] at bx0 bx1 bx2 bx3 hbl)
              clear JD
              refine hK.out _ _ ?_ (fun hHeld => ?_)
              · exact HSS.out _ (J4.out).bl
              clear hK K
              refine wpAnyH_ready (rs := [10]) (by kernel_rfl) (by simp) ?_
              refine AllReadyH.cons rfl (fun K hK => ?_) ?_
              · refine stepD (W := W) (by rfl) _ _ _ (by rfl) i2 Try.underlying24 HJ.out (J4.out) (by first | rfl | (simp only [sz1]; rfl)) (.slice p2 ra.defs.length c2) ra.defs.length (dfsV ra.defs ua) F1 (by rfl) RD1.out LD1.out OD1.out (Nat.zero_le _) ML2.out ?_
                intro pd5 capd5 wd5 JD
                rw [Nat.zero_add, List.nil_append] at JD
                (try simp only [sz1] at JD)
                have J5 : Hid (JJ W _ _ _ _ _ _ _ wd5) := JD
                have hbx := JD.bx _ rfl
                obtain ⟨bx0, bx1, bx2, bx3⟩ := box_cells hbx.2
                have hbl := blk_lt hbx.2
                clear hbx
                (try simp only [sz1] at bx0 bx1 bx2 bx3 hbl)
                clear JD
                rw [Nat.zero_add]
                refine hK.out _ _ ?_ (fun hHeld => ?_)
                · exact HSS.out _ (J5.out).bl
                clear hK K
                refine wpAnyH_ready (rs := [13]) (by kernel_rfl) (by simp) ?_
                refine AllReadyH.cons rfl (fun K hK => ?_) ?_
                · refine stepD (W := W) (by rfl) _ _ _ (by rfl) i2 Try.underlying24 HJ.out (J5.out) (by first | rfl | (simp only [sz1]; rfl)) (.slice p4 rb.defs.length c4) rb.defs.length (dfsV rb.defs ub) F2 (by rfl) RD2.out LD2.out OD2.out ML2.out ML4.out ?_
                  intro pd6 capd6 wd6 JD
                  (try simp only [sz1] at JD)
                  have J6 : Hid (JJ W _ _ _ _ _ _ _ wd6) := JD
                  have hbx := JD.bx _ rfl
                  obtain ⟨bx0, bx1, bx2, bx3⟩ := box_cells hbx.2
                  have hbl := blk_lt hbx.2
                  clear hbx
                  (try simp only [sz1] at bx0 bx1 bx2 bx3 hbl)
                  clear JD
                  refine hK.out _ _ ?_ (fun hHeld => ?_)
                  · exact HSS.out _ (J6.out).bl
                  clear hK K
                  refine wpAnyH_take (i := 14) (oi := _) (v := ?_) rfl (by kernel_rfl) (by kernel_rfl) (by kernel_rfl) (fun _ _ _ h => h) (Or.inl ⟨by rfl, ?_⟩) (by assumption) ?_
                  rotate_left
                  · intro w' hSw; (try dsimp only at hSw); go_simp; (try with_reducible rfl)
                  simp only [Act.put, List.setIfInBounds_toArray, List.set_cons_zero, List.set_cons_succ]
                  refine wpAnyH_ready (rs := [16]) (by kernel_rfl) (by simp) ?_
                  refine AllReadyH.cons rfl (fun K hK => ?_) ?_
                  · go_simp
                    refine hK.out _ _ ?_ (fun hHeld => ?_)
                    · first | exact HSS.out _ (Pk.put J6.out rfl rfl DD1.out DD2.out H1.out H2.out).bl | exact HSS.out _ (Pk.new J6.out rfl rfl DD1.out DD2.out H1.out H2.out).bl
                    clear hK K
                    refine wpAnyH_done (by kernel_rfl) ?_ _
                    go_wp2
                    go_meet
                    case rel => first | (with_reducible exact ⟨_, _, _, _, _, rfl, Pk.put J6.out rfl rfl DD1.out DD2.out H1.out H2.out⟩) | (with_reducible exact ⟨_, _, _, _, _, rfl, Pk.new J6.out rfl rfl DD1.out DD2.out H1.out H2.out⟩) | exact ⟨_, _, _, _, _, rfl, Pk.put J6.out rfl rfl DD1.out DD2.out H1.out H2.out⟩ | exact ⟨_, _, _, _, _, rfl, Pk.new J6.out rfl rfl DD1.out DD2.out H1.out H2.out⟩
                  exact AllReadyH.nil
                exact AllReadyH.nil
              exact AllReadyH.nil
            exact AllReadyH.nil
          exact AllReadyH.nil
        exact AllReadyH.nil
      refine AllReadyH.cons rfl (fun K hK => ?_) ?_
      · go_simp
        refine hK.out _ _ ?_ (fun hHeld => ?_)
        · exact HSS.out _ (J0.out.bsS.box.drew).bl
        clear hK K
        refine wpAnyH_ready (rs := [3, 7]) (by kernel_rfl) (by simp) ?_
        refine AllReadyH.cons rfl (fun K hK => ?_) ?_
        · refine stepS (W := W) (by rfl) _ _ _ (by rfl) i Try.underlying23 HI.out (J0.out.bsS.box.drew) (by first | rfl | (simp only [sz1]; rfl)) (.slice p1 ra.starts.length c1) ra.starts.length (txV ra.starts) F1 (by rfl) RS1.out LS1.out (tx_one _) (Nat.zero_le _) ML1.out ?_
          intro pd2 capd2 wd2 JD
          rw [Nat.zero_add, List.nil_append] at JD
          (try simp only [sz1] at JD)
          have J2 : Hid (JJ W _ _ _ _ _ _ _ wd2) := JD
          have hbx := JD.bx _ rfl
          obtain ⟨bx0, bx1, bx2, bx3⟩ := box_cells hbx.2
          have hbl := blk_lt hbx.2
          clear hbx
          (try simp only [sz1] at bx0 bx1 bx2 bx3 hbl)
          clear JD
          rw [Nat.zero_add]
          refine hK.out _ _ ?_ (fun hHeld => ?_)
          · exact HSS.out _ (J2.out).bl
          clear hK K
          refine wpAnyH_ready (rs := [6, 7]) (by kernel_rfl) (by simp) ?_
          refine AllReadyH.cons rfl (fun K hK => ?_) ?_
          · refine stepS (W := W) (by rfl) _ _ _ (by rfl) i Try.underlying23 HI.out (J2.out) (by first | rfl | (simp only [sz1]; rfl)) (.slice p3 rb.starts.length c3) rb.starts.length (txV rb.starts) F2 (by rfl) RS2.out LS2.out (tx_one _) ML1.out ML3.out ?_
            intro pd3 capd3 wd3 JD
            (try simp only [sz1] at JD)
            have J3 : Hid (JJ W _ _ _ _ _ _ _ wd3) := JD
            have hbx := JD.bx _ rfl
            obtain ⟨bx0, bx1, bx2, bx3⟩ := box_cells hbx.2
            have hbl := blk_lt hbx.2
            clear hbx
            (try simp only [sz1] at bx0 bx1 bx2 bx3 hbl)
            clear JD
            refine hK.out _ _ ?_ (fun hHeld => ?_)
            · exact HSS.out _ (J3.out).bl
            clear hK K
            refine wpAnyH_ready (rs := [7]) (by kernel_rfl) (by simp) ?_
            refine AllReadyH.cons rfl (fun K hK => ?_) ?_
            · go_simp
              refine hK.out _ _ ?_ (fun hHeld => ?_)
              · exact HSS.out _ (J3.out.bsD).bl
              clear hK K
              refine wpAnyH_ready (rs := [10]) (by kernel_rfl) (by simp) ?_
              refine AllReadyH.cons rfl (fun K hK => ?_) ?_
              · refine stepD (W := W) (by rfl) _ _ _ (by rfl) i2 Try.underlying24 HJ.out (J3.out.bsD) (by first | rfl | (simp only [sz1]; rfl)) (.slice p2 ra.defs.length c2) ra.defs.length (dfsV ra.defs ua) F1 (by rfl) RD1.out LD1.out OD1.out (Nat.zero_le _) ML2.out ?_
                intro pd5 capd5 wd5 JD
                rw [Nat.zero_add, List.nil_append] at JD
                (try simp only [sz1] at JD)
                have J5 : Hid (JJ W _ _ _ _ _ _ _ wd5) := JD
                have hbx := JD.bx _ rfl
                obtain ⟨bx0, bx1, bx2, bx3⟩ := box_cells hbx.2
                have hbl := blk_lt hbx.2
                clear hbx
                (try simp only [sz1] at bx0 bx1 bx2 bx3 hbl)
                clear JD
                rw [Nat.zero_add]
                refine hK.out _ _ ?_ (fun hHeld => ?_)
                · exact HSS.out _ (J5.out).bl
                clear hK K
                refine wpAnyH_ready (rs := [13]) (by kernel_rfl) (by simp) ?_
                refine AllReadyH.cons rfl (fun K hK => ?_) ?_
                · refine stepD (W := W) (by rfl) _ _ _ (by rfl) i2 Try.underlying24 HJ.out (J5.out) (by first | rfl | (simp only [sz1]; rfl)) (.slice p4 rb.defs.length c4) rb.defs.length (dfsV rb.defs ub) F2 (by rfl) RD2.out LD2.out OD2.out ML2.out ML4.out ?_
                  intro pd6 capd6 wd6 JD
                  (try simp only [sz1] at JD)
                  have J6 : Hid (JJ W _ _ _ _ _ _ _ wd6) := JD
                  have hbx := JD.bx _ rfl
                  obtain ⟨bx0, bx1, bx2, bx3⟩ := box_cells hbx.2
                  have hbl := blk_lt hbx.2
                  clear hbx
                  (try simp only [sz1] at bx0 bx1 bx2 bx3 hbl)
                  clear JD
                  refine hK.out _ _ ?_ (fun hHeld => ?_)
                  · exact HSS.out _ (J6.out).bl
                  clear hK K
                  refine wpAnyH_take (i := 14) (oi := _) (v := ?_) rfl (by kernel_rfl) (by kernel_rfl) (by kernel_rfl) (fun _ _ _ h => h) (Or.inl ⟨by rfl, ?_⟩) (by assumption) ?_
                  rotate_left
                  · intro w' hSw; (try dsimp only at hSw); go_simp; (try with_reducible rfl)
                  simp only [Act.put, List.setIfInBounds_toArray, List.set_cons_zero, List.set_cons_succ]
                  refine wpAnyH_ready (rs := [16]) (by kernel_rfl) (by simp) ?_
                  refine AllReadyH.cons rfl (fun K hK => ?_) ?_
                  · go_simp
                    refine hK.out _ _ ?_ (fun hHeld => ?_)
                    · first | exact HSS.out _ (Pk.put J6.out rfl rfl DD1.out DD2.out H1.out H2.out).bl | exact HSS.out _ (Pk.new J6.out rfl rfl DD1.out DD2.out H1.out H2.out).bl
                    clear hK K
                    refine wpAnyH_done (by kernel_rfl) ?_ _
                    go_wp2
                    go_meet
                    case rel => first | (with_reducible exact ⟨_, _, _, _, _, rfl, Pk.put J6.out rfl rfl DD1.out DD2.out H1.out H2.out⟩) | (with_reducible exact ⟨_, _, _, _, _, rfl, Pk.new J6.out rfl rfl DD1.out DD2.out H1.out H2.out⟩) | exact ⟨_, _, _, _, _, rfl, Pk.put J6.out rfl rfl DD1.out DD2.out H1.out H2.out⟩ | exact ⟨_, _, _, _, _, rfl, Pk.new J6.out rfl rfl DD1.out DD2.out H1.out H2.out⟩
                  exact AllReadyH.nil
                exact AllReadyH.nil
              exact AllReadyH.nil
            exact AllReadyH.nil
          refine AllReadyH.cons rfl (fun K hK => ?_) ?_
          · go_simp
            refine hK.out _ _ ?_ (fun hHeld => ?_)
            · exact HSS.out _ (J2.out.bsD).bl
            clear hK K
            refine wpAnyH_ready (rs := [6]) (by kernel_rfl) (by simp) ?_
            refine AllReadyH.cons rfl (fun K hK => ?_) ?_
            · refine stepS (W := W) (by rfl) _ _ _ (by rfl) i Try.underlying23 HI.out (J2.out.bsD) (by first | rfl | (simp only [sz1]; rfl)) (.slice p3 rb.starts.length c3) rb.starts.length (txV rb.starts) F2 (by rfl) RS2.out LS2.out (tx_one _) ML1.out ML3.out ?_
              intro pd4 capd4 wd4 JD
              (try simp only [sz1] at JD)
              have J4 : Hid (JJ W _ _ _ _ _ _ _ wd4) := JD
              have hbx := JD.bx _ rfl
              obtain ⟨bx0, bx1, bx2, bx3⟩ := box_cells hbx.2
              have hbl := blk_lt hbx.2
              clear hbx
              (try simp only [sz1] at bx0 bx1 bx2 bx3 hbl)
              clear JD
              refine hK.out _ _ ?_ (fun hHeld => ?_)
              · exact HSS.out _ (J4.out).bl
              clear hK K
              refine wpAnyH_ready (rs := [10]) (by kernel_rfl) (by simp) ?_
              refine AllReadyH.cons rfl (fun K hK => ?_) ?_
              · refine stepD (W := W) (by rfl) _ _ _ (by rfl) i2 Try.underlying24 HJ.out (J4.out) (by first | rfl | (simp only [sz1]; rfl)) (.slice p2 ra.defs.length c2) ra.defs.length (dfsV ra.defs ua) F1 (by rfl) RD1.out LD1.out OD1.out (Nat.zero_le _) ML2.out ?_
                intro pd5 capd5 wd5 JD
                rw [Nat.zero_add, List.nil_append] at JD
                (try simp only [sz1] at JD)
                have J5 : Hid (JJ W _ _ _ _ _ _ _ wd5) := JD
                have hbx := JD.bx _ rfl
                obtain ⟨bx0, bx1, bx2, bx3⟩ := box_cells hbx.2
                have hbl := blk_lt hbx.2
                clear hbx
                (try simp only [sz1] at bx0 bx1 bx2 bx3 hbl)
                clear JD
                rw [Nat.zero_add]
                refine hK.out _ _ ?_ (fun hHeld => ?_)
                · exact HSS.out _ (J5.out).bl
                clear hK K
                refine wpAnyH_ready (rs := [13]) (by kernel_rfl) (by simp) ?_
                refine AllReadyH.cons rfl (fun K hK => ?_) ?_
                · refine stepD (W := W) (by rfl) _ _ _ (by rfl) i2 Try.underlying24 HJ.out (J5.out) (by first | rfl | (simp only [sz1]; rfl)) (.slice p4 rb.defs.length c4) rb.defs.length (dfsV rb.defs ub) F2 (by rfl) RD2.out LD2.out OD2.out ML2.out ML4.out ?_
                  intro pd6 capd6 wd6 JD
                  (try simp only [sz1] at JD)
                  have J6 : Hid (JJ W _ _ _ _ _ _ _ wd6) := JD
                  have hbx := JD.bx _ rfl
                  obtain ⟨bx0, bx1, bx2, bx3⟩ := box_cells hbx.2
                  have hbl := blk_lt hbx.2
                  clear hbx
                  (try simp only [sz1] at bx0 bx1 bx2 bx3 hbl)
                  clear JD
                  refine hK.out _ _ ?_ (fun hHeld => ?_)
                  · exact HSS.out _ (J6.out).bl
                  clear hK K
                  refine wpAnyH_take (i := 14) (oi := _) (v := ?_) rfl (by kernel_rfl) (by kernel_rfl) (by kernel_rfl) (fun _ _ _ h => h) (Or.inl ⟨by rfl, ?_⟩) (by assumption) ?_
                  rotate_left
                  · intro w' hSw; (try dsimp only at hSw); go_simp; (try with_reducible rfl)
                  simp only [Act.put, List.setIfInBounds_toArray, List.set_cons_zero, List.set_cons_succ]
                  refine wpAnyH_ready (rs := [16]) (by kernel_rfl) (by simp) ?_
                  refine AllReadyH.cons rfl (fun K hK => ?_) ?_
                  · go_simp
                    refine hK.out _ _ ?_ (fun hHeld => ?_)
                    · first | exact HSS.out _ (Pk.put J6.out rfl rfl DD1.out DD2.out H1.out H2.out).bl | exact HSS.out _ (Pk.new J6.out rfl rfl DD1.out DD2.out H1.out H2.out).bl
                    clear hK K
                    refine wpAnyH_done (by kernel_rfl) ?_ _
                    go_wp2
                    go_meet
                    case rel => first | (with_reducible exact ⟨_, _, _, _, _, rfl, Pk.put J6.out rfl rfl DD1.out DD2.out H1.out H2.out⟩) | (with_reducible exact ⟨_, _, _, _, _, rfl, Pk.new J6.out rfl rfl DD1.out DD2.out H1.out H2.out⟩) | exact ⟨_, _, _, _, _, rfl, Pk.put J6.out rfl rfl DD1.out DD2.out H1.out H2.out⟩ | exact ⟨_, _, _, _, _, rfl, Pk.new J6.out rfl rfl DD1.out DD2.out H1.out H2.out⟩
                  exact AllReadyH.nil
                exact AllReadyH.nil
              exact AllReadyH.nil
            exact AllReadyH.nil
          exact AllReadyH.nil
        refine AllReadyH.cons rfl (fun K hK => ?_) ?_
        · go_simp
          refine hK.out _ _ ?_ (fun hHeld => ?_)
          · exact HSS.out _ (J0.out.bsS.box.bsD.drew).bl
          clear hK K
          refine wpAnyH_ready (rs := [3]) (by kernel_rfl) (by simp) ?_
          refine AllReadyH.cons rfl (fun K hK => ?_) ?_
          · refine stepS (W := W) (by rfl) _ _ _ (by rfl) i Try.underlying23 HI.out (J0.out.bsS.box.bsD.drew) (by first | rfl | (simp only [sz1]; rfl)) (.slice p1 ra.starts.length c1) ra.starts.length (txV ra.starts) F1 (by rfl) RS1.out LS1.out (tx_one _) (Nat.zero_le _) ML1.out ?_
            intro pd3 capd3 wd3 JD
            rw [Nat.zero_add, List.nil_append] at JD
            (try simp only [sz1] at JD)
            have J3 : Hid (JJ W _ _ _ _ _ _ _ wd3) := JD
            have hbx := JD.bx _ rfl
            obtain ⟨bx0, bx1, bx2, bx3⟩ := box_cells hbx.2
            have hbl := blk_lt hbx.2
            clear hbx
            (try simp only [sz1] at bx0 bx1 bx2 bx3 hbl)
            clear JD
            rw [Nat.zero_add]
            refine hK.out _ _ ?_ (fun hHeld => ?_)
            · exact HSS.out _ (J3.out).bl
            clear hK K
            refine wpAnyH_ready (rs := [6]) (by kernel_rfl) (by simp) ?_
            refine AllReadyH.cons rfl (fun K hK => ?_) ?_
            · refine stepS (W := W) (by rfl) _ _ _ (by rfl) i Try.underlying23 HI.out (J3.out) (by first | rfl | (simp only [sz1]; rfl)) (.slice p3 rb.starts.length c3) rb.starts.length (txV rb.starts) F2 (by rfl) RS2.out LS2.out (tx_one _) ML1.out ML3.out ?_
              intro pd4 capd4 wd4 JD
              (try simp only [sz1] at JD)
              have J4 : Hid (JJ W _ _ _ _ _ _ _ wd4) := JD
              have hbx := JD.bx _ rfl
              obtain ⟨bx0, bx1, bx2, bx3⟩ := box_cells hbx.2
              have hbl := blk_lt hbx.2
              clear hbx
              (try simp only [sz1] at bx0 bx1 bx2 bx3 hbl)
              clear JD
              refine hK.out _ _ ?_ (fun hHeld => ?_)
              · exact HSS.out _ (J4.out).bl
              clear hK K
              refine wpAnyH_ready (rs := [10]) (by kernel_rfl) (by simp) ?_
              refine AllReadyH.cons rfl (fun K hK => ?_) ?_
              · refine stepD (W := W) (by rfl) _ _ _ (by rfl) i2 Try.underlying24 HJ.out (J4.out) (by first | rfl | (simp only [sz1]; rfl)) (.slice p2 ra.defs.length c2) ra.defs.length (dfsV ra.defs ua) F1 (by rfl) RD1.out LD1.out OD1.out (Nat.zero_le _) ML2.out ?_
                intro pd5 capd5 wd5 JD
                rw [Nat.zero_add, List.nil_append] at JD
                (try simp only [sz1] at JD)
                have J5 : Hid (JJ W _ _ _ _ _ _ _ wd5) := JD
                have hbx := JD.bx _ rfl
                obtain ⟨bx0, bx1, bx2, bx3⟩ := box_cells hbx.2
                have hbl := blk_lt hbx.2
                clear hbx
                (try simp only [sz1] at bx0 bx1 bx2 bx3 hbl)
                clear JD
                rw [Nat.zero_add]
                refine hK.out _ _ ?_ (fun hHeld => ?_)
                · exact HSS.out _ (J5.out).bl
                clear hK K
                refine wpAnyH_ready (rs := [13]) (by kernel_rfl) (by simp) ?_
                refine AllReadyH.cons rfl (fun K hK => ?_) ?_
                · refine stepD (W := W) (by rfl) _ _ _ (by rfl) i2 Try.underlying24 HJ.out (J5.out) (by first | rfl | (simp only [sz1]; rfl)) (.slice p4 rb.defs.length c4) rb.defs.length (dfsV rb.defs ub) F2 (by rfl) RD2.out LD2.out OD2.out ML2.out ML4.out ?_
                  intro pd6 capd6 wd6 JD
                  (try simp only [sz1] at JD)
                  have J6 : Hid (JJ W _ _ _ _ _ _ _ wd6) := JD
                  have hbx := JD.bx _ rfl
                  obtain ⟨bx0, bx1, bx2, bx3⟩ := box_cells hbx.2
                  have hbl := blk_lt hbx.2
                  clear hbx
                  (try simp only [sz1] at bx0 bx1 bx2 bx3 hbl)
                  clear JD
                  refine hK.out _ _ ?_ (fun hHeld => ?_)
                  · exact HSS.out _ (J6.out).bl
                  clear hK K
                  refine wpAnyH_take (i := 14) (oi := _) (v := ?_) rfl (by kernel_rfl) (by kernel_rfl) (by kernel_rfl) (fun _ _ _ h => h) (Or.inl ⟨by rfl, ?_⟩) (by assumption) ?_
                  rotate_left
                  · intro w' hSw; (try dsimp only at hSw); go_simp; (try with_reducible rfl)
                  simp only [Act.put, List.setIfInBounds_toArray, List.set_cons_zero, List.set_cons_succ]
                  refine wpAnyH_ready (rs := [16]) (by kernel_rfl) (by simp) ?_
                  refine AllReadyH.cons rfl (fun K hK => ?_) ?_
                  · go_simp
                    refine hK.out _ _ ?_ (fun hHeld => ?_)
                    · first | exact HSS.out _ (Pk.put J6.out rfl rfl DD1.out DD2.out H1.out H2.out).bl | exact HSS.out _ (Pk.new J6.out rfl rfl DD1.out DD2.out H1.out H2.out).bl
                    clear hK K
                    refine wpAnyH_done (by kernel_rfl) ?_ _
                    go_wp2
                    go_meet
                    case rel => first | (with_reducible exact ⟨_, _, _, _, _, rfl, Pk.put J6.out rfl rfl DD1.out DD2.out H1.out H2.out⟩) | (with_reducible exact ⟨_, _, _, _, _, rfl, Pk.new J6.out rfl rfl DD1.out DD2.out H1.out H2.out⟩) | exact ⟨_, _, _, _, _, rfl, Pk.put J6.out rfl rfl DD1.out DD2.out H1.out H2.out⟩ | exact ⟨_, _, _, _, _, rfl, Pk.new J6.out rfl rfl DD1.out DD2.out H1.out H2.out⟩
                  exact AllReadyH.nil
                exact AllReadyH.nil
              exact AllReadyH.nil
            exact AllReadyH.nil
          exact AllReadyH.nil
        exact AllReadyH.nil
      exact AllReadyH.nil
    refine AllReadyH.cons rfl (fun K hK => ?_) ?_
    · go_simp
      refine hK.out _ _ ?_ (fun hHeld => ?_)
      · exact HSS.out _ (J0.out.bsD.drew).bl
      clear hK K
      refine wpAnyH_ready (rs := [0, 15]) (by kernel_rfl) (by simp) ?_
      refine AllReadyH.cons rfl (fun K hK => ?_) ?_
      · go_simp
        refine hK.out _ _ ?_ (fun hHeld => ?_)
        · exact HSS.out _ (J0.out.bsD.bsS.drew).bl
        clear hK K
        refine wpAnyH_ready (rs := [3, 15]) (by kernel_rfl) (by simp) ?_
        refine AllReadyH.cons rfl (fun K hK => ?_) ?_
        · refine stepS (W := W) (by rfl) _ _ _ (by rfl) i Try.underlying23 HI.out (J0.out.bsD.bsS.drew) (by first | rfl | (simp only [sz1]; rfl)) (.slice p1 ra.starts.length c1) ra.starts.length (txV ra.starts) F1 (by rfl) RS1.out LS1.out (tx_one _) (Nat.zero_le _) ML1.out ?_
          intro pd2 capd2 wd2 JD
          rw [Nat.zero_add, List.nil_append] at JD
          (try simp only [sz1] at JD)
          have J2 : Hid (JJ W _ _ _ _ _ _ _ wd2) := JD
          clear JD
          rw [Nat.zero_add]
          refine hK.out _ _ ?_ (fun hHeld => ?_)
          · exact HSS.out _ (J2.out).bl
          clear hK K
          refine wpAnyH_ready (rs := [6, 15]) (by kernel_rfl) (by simp) ?_
          refine AllReadyH.cons rfl (fun K hK => ?_) ?_
          · refine stepS (W := W) (by rfl) _ _ _ (by rfl) i Try.underlying23 HI.out (J2.out) (by first | rfl | (simp only [sz1]; rfl)) (.slice p3 rb.starts.length c3) rb.starts.length (txV rb.starts) F2 (by rfl) RS2.out LS2.out (tx_one _) ML1.out ML3.out ?_
            intro pd3 capd3 wd3 JD
            (try simp only [sz1] at JD)
            have J3 : Hid (JJ W _ _ _ _ _ _ _ wd3) := JD
            clear JD
            refine hK.out _ _ ?_ (fun hHeld => ?_)
            · exact HSS.out _ (J3.out).bl
            clear hK K
            refine wpAnyH_ready (rs := [10, 15]) (by kernel_rfl) (by simp) ?_
            refine AllReadyH.cons rfl (fun K hK => ?_) ?_
            · refine stepD (W := W) (by rfl) _ _ _ (by rfl) i2 Try.underlying24 HJ.out (J3.out) (by first | rfl | (simp only [sz1]; rfl)) (.slice p2 ra.defs.length c2) ra.defs.length (dfsV ra.defs ua) F1 (by rfl) RD1.out LD1.out OD1.out (Nat.zero_le _) ML2.out ?_
              intro pd4 capd4 wd4 JD
              rw [Nat.zero_add, List.nil_append] at JD
              (try simp only [sz1] at JD)
              have J4 : Hid (JJ W _ _ _ _ _ _ _ wd4) := JD
              clear JD
              rw [Nat.zero_add]
              refine hK.out _ _ ?_ (fun hHeld => ?_)
              · exact HSS.out _ (J4.out).bl
              clear hK K
              refine wpAnyH_ready (rs := [13, 15]) (by kernel_rfl) (by simp) ?_
              refine AllReadyH.cons rfl (fun K hK => ?_) ?_
              · refine stepD (W := W) (by rfl) _ _ _ (by rfl) i2 Try.underlying24 HJ.out (J4.out) (by first | rfl | (simp only [sz1]; rfl)) (.slice p4 rb.defs.length c4) rb.defs.length (dfsV rb.defs ub) F2 (by rfl) RD2.out LD2.out OD2.out ML2.out ML4.out ?_
                intro pd5 capd5 wd5 JD
                (try simp only [sz1] at JD)
                have J5 : Hid (JJ W _ _ _ _ _ _ _ wd5) := JD
                clear JD
                refine hK.out _ _ ?_ (fun hHeld => ?_)
                · exact HSS.out _ (J5.out).bl
                clear hK K
                refine wpAnyH_take (i := 14) (oi := _) (v := ?_) rfl (by kernel_rfl) (by kernel_rfl) (by kernel_rfl) (fun _ _ _ h => h) (Or.inl ⟨by rfl, ?_⟩) (by assumption) ?_
                rotate_left
                · intro w' hSw; (try dsimp only at hSw); go_simp; (try with_reducible rfl)
                simp only [Act.put, List.setIfInBounds_toArray, List.set_cons_zero, List.set_cons_succ]
                refine wpAnyH_ready (rs := [15]) (by kernel_rfl) (by simp) ?_
                refine AllReadyH.cons rfl (fun K hK => ?_) ?_
                · go_simp
                  refine hK.out _ _ ?_ (fun hHeld => ?_)
                  · exact HSS.out _ (J5.out.box).bl
                  clear hK K
                  refine wpAnyH_ready (rs := [16]) (by kernel_rfl) (by simp) ?_
                  refine AllReadyH.cons rfl (fun K hK => ?_) ?_
                  · go_simp
                    refine hK.out _ _ ?_ (fun hHeld => ?_)
                    · first | exact HSS.out _ (Pk.put J5.out rfl rfl DD1.out DD2.out H1.out H2.out).bl | exact HSS.out _ (Pk.new J5.out rfl rfl DD1.out DD2.out H1.out H2.out).bl
                    clear hK K
                    refine wpAnyH_done (by kernel_rfl) ?_ _
                    go_wp2
                    go_meet
                    case rel => first | (with_reducible exact ⟨_, _, _, _, _, rfl, Pk.put J5.out rfl rfl DD1.out DD2.out H1.out H2.out⟩) | (with_reducible exact ⟨_, _, _, _, _, rfl, Pk.new J5.out rfl rfl DD1.out DD2.out H1.out H2.out⟩) | exact ⟨_, _, _, _, _, rfl, Pk.put J5.out rfl rfl DD1.out DD2.out H1.out H2.out⟩ | exact ⟨_, _, _, _, _, rfl, Pk.new J5.out rfl rfl DD1.out DD2.out H1.out H2.out⟩
                  exact AllReadyH.nil
                exact AllReadyH.nil
              refine AllReadyH.cons rfl (fun K hK => ?_) ?_
              · go_simp
                refine hK.out _ _ ?_ (fun hHeld => ?_)
                · exact HSS.out _ (J4.out.box).bl
                clear hK K
                refine wpAnyH_ready (rs := [13]) (by kernel_rfl) (by simp) ?_
                refine AllReadyH.cons rfl (fun K hK => ?_) ?_
                · refine stepD (W := W) (by rfl) _ _ _ (by rfl) i2 Try.underlying24 HJ.out (J4.out.box) (by first | rfl | (simp only [sz1]; rfl)) (.slice p4 rb.defs.length c4) rb.defs.length (dfsV rb.defs ub) F2 (by rfl) RD2.out LD2.out OD2.out ML2.out ML4.out ?_
                  intro pd6 capd6 wd6 JD
                  (try simp only [sz1] at JD)
                  have J6 : Hid (JJ W _ _ _ _ _ _ _ wd6) := JD
                  have hbx := JD.bx _ rfl
                  obtain ⟨bx0, bx1, bx2, bx3⟩ := box_cells hbx.2
                  have hbl := blk_lt hbx.2
                  clear hbx
                  (try simp only [sz1] at bx0 bx1 bx2 bx3 hbl)
                  clear JD
                  refine hK.out _ _ ?_ (fun hHeld => ?_)
                  · exact HSS.out _ (J6.out).bl
                  clear hK K
                  refine wpAnyH_take (i := 14) (oi := _) (v := ?_) rfl (by kernel_rfl) (by kernel_rfl) (by kernel_rfl) (fun _ _ _ h => h) (Or.inl ⟨by rfl, ?_⟩) (by assumption) ?_
                  rotate_left
                  · intro w' hSw; (try dsimp only at hSw); go_simp; (try with_reducible rfl)
                  simp only [Act.put, List.setIfInBounds_toArray, List.set_cons_zero, List.set_cons_succ]
                  refine wpAnyH_ready (rs := [16]) (by kernel_rfl) (by simp) ?_
                  refine AllReadyH.cons rfl (fun K hK => ?_) ?_
                  · go_simp
                    refine hK.out _ _ ?_ (fun hHeld => ?_)
                    · first | exact HSS.out _ (Pk.put J6.out rfl rfl DD1.out DD2.out H1.out H2.out).bl | exact HSS.out _ (Pk.new J6.out rfl rfl DD1.out DD2.out H1.out H2.out).bl
                    clear hK K
                    refine wpAnyH_done (by kernel_rfl) ?_ _
                    go_wp2
                    go_meet
                    case rel => first | (with_reducible exact ⟨_, _, _, _, _, rfl, Pk.put J6.out rfl rfl DD1.out DD2.out H1.out H2.out⟩) | (with_reducible exact ⟨_, _, _, _, _, rfl, Pk.new J6.out rfl rfl DD1.out DD2.out H1.out H2.out⟩) | exact ⟨_, _, _, _, _, rfl, Pk.put J6.out rfl rfl DD1.out DD2.out H1.out H2.out⟩ | exact ⟨_, _, _, _, _, rfl, Pk.new J6.out rfl rfl DD1.out DD2.out H1.out H2.out⟩
                  exact AllReadyH.nil
                exact AllReadyH.nil
              exact AllReadyH.nil
            refine AllReadyH.cons rfl (fun K hK => ?_) ?_
            · go_simp
              refine hK.out _ _ ?_ (fun hHeld => ?_)
              · exact HSS.out _ (J3.out.box).bl
              clear hK K
              refine wpAnyH_ready (rs := [10]) (by kernel_rfl) (by simp) ?_
              refine AllReadyH.cons rfl (fun K hK => ?_) ?_
              · refine stepD (W := W) (by rfl) _ _ _ (by rfl) i2 Try.underlying24 HJ.out (J3.out.box) (by first | rfl | (simp only [sz1]; rfl)) (.slice p2 ra.defs.length c2) ra.defs.length (dfsV ra.defs ua) F1 (by rfl) RD1.out LD1.out OD1.out (Nat.zero_le _) ML2.out ?_
                intro pd5 capd5 wd5 JD
                rw [Nat.zero_add, List.nil_append] at JD
                (try simp only [sz1] at JD)
                have J5 : Hid (JJ W _ _ _ _ _ _ _ wd5) := JD
                have hbx := JD.bx _ rfl
                obtain ⟨bx0, bx1, bx2, bx3⟩ := box_cells hbx.2
                have hbl := blk_lt hbx.2
                clear hbx
                (try simp only [sz1] at bx0 bx1 bx2 bx3 hbl)
                clear JD
                rw [Nat.zero_add]
                refine hK.out _ _ ?_ (fun hHeld => ?_)
                · exact HSS.out _ (J5.out).bl
                clear hK K
                refine wpAnyH_ready (rs := [13]) (by kernel_rfl) (by simp) ?_
                refine AllReadyH.cons rfl (fun K hK => ?_) ?_
                · refine stepD (W := W) (by rfl) _ _ _ (by rfl) i2 Try.underlying24 HJ.out (J5.out) (by first | rfl | (simp only [sz1]; rfl)) (.slice p4 rb.defs.length c4) rb.defs.length (dfsV rb.defs ub) F2 (by rfl) RD2.out LD2.out OD2.out ML2.out ML4.out ?_
                  intro pd6 capd6 wd6 JD
                  (try simp only [sz1] at JD)
                  have J6 : Hid (JJ W _ _ _ _ _ _ _ wd6) := JD
                  have hbx := JD.bx _ rfl
                  obtain ⟨bx0, bx1, bx2, bx3⟩ := box_cells hbx.2
                  have hbl := blk_lt hbx.2
                  clear hbx
                  (try simp only [sz1] at bx0 bx1 bx2 bx3 hbl)
                  clear JD
                  refine hK.out _ _ ?_ (fun hHeld => ?_)
                  · exact HSS.out _ (J6.out).bl
                  clear hK K
                  refine wpAnyH_take (i := 14) (oi := _) (v := ?_) rfl (by kernel_rfl) (by kernel_rfl) (by kernel_rfl) (fun _ _ _ h => h) (Or.inl ⟨by rfl, ?_⟩) (by assumption) ?_
                  rotate_left
                  · intro w' hSw; (try dsimp only at hSw); go_simp; (try with_reducible rfl)
                  simp only [Act.put, List.setIfInBounds_toArray, List.set_cons_zero, List.set_cons_succ]
                  refine wpAnyH_ready (rs := [16]) (by kernel_rfl) (by simp) ?_
                  refine AllReadyH.cons rfl (fun K hK => ?_) ?_
                  · go_simp
                    refine hK.out _ _ ?_ (fun hHeld => ?_)
                    · first | exact HSS.out _ (Pk.put J6.out rfl rfl DD1.out DD2.out H1.out H2.out).bl | exact HSS.out _ (Pk.new J6.out rfl rfl DD1.out DD2.out H1.out H2.out).bl
                    clear hK K
                    refine wpAnyH_done (by kernel_rfl) ?_ _
                    go_wp2
                    go_meet
                    case rel => first | (with_reducible exact ⟨_, _, _, _, _, rfl, Pk.put J6.out rfl rfl DD1.out DD2.out H1.out H2.out⟩) | (with_reducible exact ⟨_, _, _, _, _, rfl, Pk.new J6.out rfl rfl DD1.out DD2.out H1.out H2.out⟩) | exact ⟨_, _, _, _, _, rfl, Pk.put J6.out rfl rfl DD1.out DD2.out H1.out H2.out⟩ | exact ⟨_, _, _, _, _, rfl, Pk.new J6.out rfl rfl DD1.out DD2.out H1.out H2.out⟩
                  exact AllReadyH.nil
                exact AllReadyH.nil
              exact AllReadyH.nil
            exact AllReadyH.nil
          refine AllReadyH.cons rfl (fun K hK => ?_) ?_
          · go_simp
            refine hK.out _ _ ?_ (fun hHeld => ?_)
            · exact HSS.out _ (J2.out.box).bl
            clear hK K
            refine wpAnyH_ready (rs := [6]) (by kernel_rfl) (by simp) ?_
            refine AllReadyH.cons rfl (fun K hK => ?_) ?_
            · refine stepS (W := W) (by rfl) _ _ _ (by rfl) i Try.underlying23 HI.out (J2.out.box) (by first | rfl | (simp only [sz1]; rfl)) (.slice p3 rb.starts.length c3) rb.starts.length (txV rb.starts) F2 (by rfl) RS2.out LS2.out (tx_one _) ML1.out ML3.out ?_
              intro pd4 capd4 wd4 JD
              (try simp only [sz1] at JD)
              have J4 : Hid (JJ W _ _ _ _ _ _ _ wd4) := JD
              have hbx := JD.bx _ rfl
              obtain ⟨bx0, bx1, bx2, bx3⟩ := box_cells hbx.2
              have hbl := blk_lt hbx.2
              clear hbx
              (try simp only [sz1] at bx0 bx1 bx2 bx3 hbl)
              clear JD
              refine hK.out _ _ ?_ (fun hHeld => ?_)
              · exact HSS.out _ (J4.out).bl
              clear hK K
              refine wpAnyH_ready (rs := [10]) (by kernel_rfl) (by simp) ?_
              refine AllReadyH.cons rfl (fun K hK => ?_) ?_
              · refine stepD (W := W) (by rfl) _ _ _ (by rfl) i2 Try.underlying24 HJ.out (J4.out) (by first | rfl | (simp only [sz1]; rfl)) (.slice p2 ra.defs.length c2) ra.defs.length (dfsV ra.defs ua) F1 (by rfl) RD1.out LD1.out OD1.out (Nat.zero_le _) ML2.out ?_
                intro pd5 capd5 wd5 JD
                rw [Nat.zero_add, List.nil_append] at JD
                (try simp only [sz1] at JD)
                have J5 : Hid (JJ W _ _ _ _ _ _ _ wd5) := JD
                have hbx := JD.bx _ rfl
                obtain ⟨bx0, bx1, bx2, bx3⟩ := box_cells hbx.2
                have hbl := blk_lt hbx.2
                clear hbx
                (try simp only [sz1] at bx0 bx1 bx2 bx3 hbl)
                clear JD
                rw [Nat.zero_add]
                refine hK.out _ _ ?_ (fun hHeld => ?_)
                · exact HSS.out _ (J5.out).bl
                clear hK K
                refine wpAnyH_ready (rs := [13]) (by kernel_rfl) (by simp) ?_
                refine AllReadyH.cons rfl (fun K hK => ?_) ?_
                · refine stepD (W := W) (by rfl) _ _ _ (by rfl) i2 Try.underlying24 HJ.out (J5.out) (by first | rfl | (simp only [sz1]; rfl)) (.slice p4 rb.defs.length c4) rb.defs.length (dfsV rb.defs ub) F2 (by rfl) RD2.out LD2.out OD2.out ML2.out ML4.out ?_
                  intro pd6 capd6 wd6 JD
                  (try simp only [sz1] at JD)
                  have J6 : Hid (JJ W _ _ _ _ _ _ _ wd6) := JD
                  have hbx := JD.bx _ rfl
                  obtain ⟨bx0, bx1, bx2, bx3⟩ := box_cells hbx.2
                  have hbl := blk_lt hbx.2
                  clear hbx
                  (try simp only [sz1] at bx0 bx1 bx2 bx3 hbl)
                  clear JD
                  refine hK.out _ _ ?_ (fun hHeld => ?_)
                  · exact HSS.out _ (J6.out).bl
                  clear hK K
                  refine wpAnyH_take (i := 14) (oi := _) (v := ?_) rfl (by kernel_rfl) (by kernel_rfl) (by kernel_rfl) (fun _ _ _ h => h) (Or.inl ⟨by rfl, ?_⟩) (by assumption) ?_
                  rotate_left
                  · intro w' hSw; (try dsimp only at hSw); go_simp; (try with_reducible rfl)
                  simp only [Act.put, List.setIfInBounds_toArray, List.set_cons_zero, List.set_cons_succ]
                  refine wpAnyH_ready (rs := [16]) (by kernel_rfl) (by simp) ?_
                  refine AllReadyH.cons rfl (fun K hK => ?_) ?_
                  · go_simp
                    refine hK.out _ _ ?_ (fun hHeld => ?_)
                    · first | exact HSS.out _ (Pk.put J6.out rfl rfl DD1.out DD2.out H1.out H2.out).bl | exact HSS.out _ (Pk.new J6.out rfl rfl DD1.out DD2.out H1.out H2.out).bl
                    clear hK K
                    refine wpAnyH_done (by kernel_rfl) ?_ _
                    go_wp2
                    go_meet
                    case rel => first | (with_reducible exact ⟨_, _, _, _, _, rfl, Pk.put J6.out rfl rfl DD1.out DD2.out H1.out H2.out⟩) | (with_reducible exact ⟨_, _, _, _, _, rfl, Pk.new J6.out rfl rfl DD1.out DD2.out H1.out H2.out⟩) | exact ⟨_, _, _, _, _, rfl, Pk.put J6.out rfl rfl DD1.out DD2.out H1.out H2.out⟩ | exact ⟨_, _, _, _, _, rfl, Pk.new J6.out rfl rfl DD1.out DD2.out H1.out H2.out⟩
                  exact AllReadyH.nil
                exact AllReadyH.nil
              exact AllReadyH.nil
            exact AllReadyH.nil
          exact AllReadyH.nil
        refine AllReadyH.cons rfl (fun K hK => ?_) ?_
        · go_simp
          refine hK.out _ _ ?_ (fun hHeld => ?_)
          · exact HSS.out _ (J0.out.bsD.bsS.box.drew).bl
          clear hK K
          refine wpAnyH_ready (rs := [3]) (by kernel_rfl) (by simp) ?_
          refine AllReadyH.cons rfl (fun K hK => ?_) ?_
          · refine stepS (W := W) (by rfl) _ _ _ (by rfl) i Try.underlying23 HI.out (J0.out.bsD.bsS.box.drew) (by first | rfl | (simp only [sz1]; rfl)) (.slice p1 ra.starts.length c1) ra.starts.length (txV ra.starts) F1 (by rfl) RS1.out LS1.out (tx_one _) (Nat.zero_le _) ML1.out ?_
            intro pd3 capd3 wd3 JD
            rw [Nat.zero_add, List.nil_append] at JD
            (try simp only [sz1] at JD)
            have J3 : Hid (JJ W _ _ _ _ _ _ _ wd3) := JD
            have hbx := JD.bx _ rfl
            obtain ⟨bx0, bx1, bx2, bx3⟩ := box_cells hbx.2
            have hbl := blk_lt hbx.2
            clear hbx
            (try simp only [sz1] at bx0 bx1 bx2 bx3 hbl)
            clear JD
            rw [Nat.zero_add]
            refine hK.out _ _ ?_ (fun hHeld => ?_)
            · exact HSS.out _ (J3.out).bl
            clear hK K
            refine wpAnyH_ready (rs := [6]) (by kernel_rfl) (by simp) ?_
            refine AllReadyH.cons rfl (fun K hK => ?_) ?_
            · refine stepS (W := W) (by rfl) _ _ _ (by rfl) i Try.underlying23 HI.out (J3.out) (by first | rfl | (simp only [sz1]; rfl)) (.slice p3 rb.starts.length c3) rb.starts.length (txV rb.starts) F2 (by rfl) RS2.out LS2.out (tx_one _) ML1.out ML3.out ?_
              intro pd4 capd4 wd4 JD
              (try simp only [sz1] at JD)
              have J4 : Hid (JJ W _ _ _ _ _ _ _ wd4) := JD
              have hbx := JD.bx _ rfl
              obtain ⟨bx0, bx1, bx2, bx3⟩ := box_cells hbx.2
              have hbl := blk_lt hbx.2
              clear hbx
              (try simp only [sz1] at bx0 bx1 bx2 bx3 hbl)
              clear JD
              refine hK.out _ _ ?_ (fun hHeld => ?_)
              · exact HSS.out _ (J4.out).bl
              clear hK K
              refine wpAnyH_ready (rs := [10]) (by kernel_rfl) (by simp) ?_
              refine AllReadyH.cons rfl (fun K hK => ?_) ?_
              · refine stepD (W := W) (by rfl) _ _ _ (by rfl) i2 Try.underlying24 HJ.out (J4.out) (by first | rfl | (simp only [sz1]; rfl)) (.slice p2 ra.defs.length c2) ra.defs.length (dfsV ra.defs ua) F1 (by rfl) RD1.out LD1.out OD1.out (Nat.zero_le _) ML2.out ?_
                intro pd5 capd5 wd5 JD
                rw [Nat.zero_add, List.nil_append] at JD
                (try simp only [sz1] at JD)
                have J5 : Hid (JJ W _ _ _ _ _ _ _ wd5) := JD
                have hbx := JD.bx _ rfl
                obtain ⟨bx0, bx1, bx2, bx3⟩ := box_cells hbx.2
                have hbl := blk_lt hbx.2
                clear hbx
                (try simp only [sz1] at bx0 bx1 bx2 bx3 hbl)
                clear JD
                rw [Nat.zero_add]
                refine hK.out _ _ ?_ (fun hHeld => ?_)
                · exact HSS.out _ (J5.out).bl
                clear hK K
                refine wpAnyH_ready (rs := [13]) (by kernel_rfl) (by simp) ?_
                refine AllReadyH.cons rfl (fun K hK => ?_) ?_
                · refine stepD (W := W) (by rfl) _ _ _ (by rfl) i2 Try.underlying24 HJ.out (J5.out) (by first | rfl | (simp only [sz1]; rfl)) (.slice p4 rb.defs.length c4) rb.defs.length (dfsV rb.defs ub) F2 (by rfl) RD2.out LD2.out OD2.out ML2.out ML4.out ?_
                  intro pd6 capd6 wd6 JD
                  (try simp only [sz1] at JD)
                  have J6 : Hid (JJ W _ _ _ _ _ _ _ wd6) := JD
                  have hbx := JD.bx _ rfl
                  obtain ⟨bx0, bx1, bx2, bx3⟩ := box_cells hbx.2
                  have hbl := blk_lt hbx.2
                  clear hbx
                  (try simp only [sz1] at bx0 bx1 bx2 bx3 hbl)
                  clear JD
                  refine hK.out _ _ ?_ (fun hHeld => ?_)
                  · exact HSS.out _ (J6.out).bl
                  clear hK K
                  refine wpAnyH_take (i := 14) (oi := _) (v := ?_) rfl (by kernel_rfl) (by kernel_rfl) (by kernel_rfl) (fun _ _ _ h => h) (Or.inl ⟨by rfl, ?_⟩) (by assumption) ?_
                  rotate_left
                  · intro w' hSw; (try dsimp only at hSw); go_simp; (try with_reducible rfl)
                  simp only [Act.put, List.setIfInBounds_toArray, List.set_cons_zero, List.set_cons_succ]
                  refine wpAnyH_ready (rs := [16]) (by kernel_rfl) (by simp) ?_
                  refine AllReadyH.cons rfl (fun K hK => ?_) ?_
                  · go_simp
                    refine hK.out _ _ ?_ (fun hHeld => ?_)
                    · first | exact HSS.out _ (Pk.put J6.out rfl rfl DD1.out DD2.out H1.out H2.out).bl | exact HSS.out _ (Pk.new J6.out rfl rfl DD1.out DD2.out H1.out H2.out).bl
                    clear hK K
                    refine wpAnyH_done (by kernel_rfl) ?_ _
                    go_wp2
                    go_meet
                    case rel => first | (with_reducible exact ⟨_, _, _, _, _, rfl, Pk.put J6.out rfl rfl DD1.out DD2.out H1.out H2.out⟩) | (with_reducible exact ⟨_, _, _, _, _, rfl, Pk.new J6.out rfl rfl DD1.out DD2.out H1.out H2.out⟩) | exact ⟨_, _, _, _, _, rfl, Pk.put J6.out rfl rfl DD1.out DD2.out H1.out H2.out⟩ | exact ⟨_, _, _, _, _, rfl, Pk.new J6.out rfl rfl DD1.out DD2.out H1.out H2.out⟩
                  exact AllReadyH.nil
                exact AllReadyH.nil
              exact AllReadyH.nil
            exact AllReadyH.nil
          exact AllReadyH.nil
        exact AllReadyH.nil
      refine AllReadyH.cons rfl (fun K hK => ?_) ?_
      · go_simp
        refine hK.out _ _ ?_ (fun hHeld => ?_)
        · exact HSS.out _ (J0.out.bsD.box.drew).bl
        clear hK K
        refine wpAnyH_ready (rs := [0]) (by kernel_rfl) (by simp) ?_
        refine AllReadyH.cons rfl (fun K hK => ?_) ?_
        · go_simp
          refine hK.out _ _ ?_ (fun hHeld => ?_)
          · exact HSS.out _ (J0.out.bsD.box.bsS.drew).bl
          clear hK K
          refine wpAnyH_ready (rs := [3]) (by kernel_rfl) (by simp) ?_
          refine AllReadyH.cons rfl (fun K hK => ?_) ?_
          · refine stepS (W := W) (by rfl) _ _ _ (by rfl) i Try.underlying23 HI.out (J0.out.bsD.box.bsS.drew) (by first | rfl | (simp only [sz1]; rfl)) (.slice p1 ra.starts.length c1) ra.starts.length (txV ra.starts) F1 (by rfl) RS1.out LS1.out (tx_one _) (Nat.zero_le _) ML1.out ?_
            intro pd3 capd3 wd3 JD
            rw [Nat.zero_add, List.nil_append] at JD
            (try simp only [sz1] at JD)
            have J3 : Hid (JJ W _ _ _ _ _ _ _ wd3) := JD
            have hbx := JD.bx _ rfl
            obtain ⟨bx0, bx1, bx2, bx3⟩ := box_cells hbx.2
            have hbl := blk_lt hbx.2
            clear hbx
            (try simp only [sz1] at bx0 bx1 bx2 bx3 hbl)
            clear JD
            rw [Nat.zero_add]
            refine hK.out _ _ ?_ (fun hHeld => ?_)
            · exact HSS.out _ (J3.out).bl
            clear hK K
            refine wpAnyH_ready (rs := [6]) (by kernel_rfl) (by simp) ?_
            refine AllReadyH.cons rfl (fun K hK => ?_) ?_
            · refine stepS (W := W) (by rfl) _ _ _ (by rfl) i Try.underlying23 HI.out (J3.out) (by first | rfl | (simp only [sz1]; rfl)) (.slice p3 rb.starts.length c3) rb.starts.length (txV rb.starts) F2 (by rfl) RS2.out LS2.out (tx_one _) ML1.out ML3.out ?_
              intro pd4 capd4 wd4 JD
              (try simp only [sz1] at JD)
              have J4 : Hid (JJ W _ _ _ _ _ _ _ wd4) := JD
              have hbx := JD.bx _ rfl
              obtain ⟨bx0, bx1, bx2, bx3⟩ := box_cells hbx.2
              have hbl := blk_lt hbx.2
              clear hbx
              (try simp only [sz1] at bx0 bx1 bx2 bx3 hbl)
              clear JD
              refine hK.out _ _ ?_ (fun hHeld => ?_)
              · exact HSS.out _ (J4.out).bl
              clear hK K
              refine wpAnyH_ready (rs := [10]) (by kernel_rfl) (by simp) ?_
              refine AllReadyH.cons rfl (fun K hK => ?_) ?_
              · refine stepD (W := W) (by rfl) _ _ _ (by rfl) i2 Try.underlying24 HJ.out (J4.out) (by first | rfl | (simp only [sz1]; rfl)) (.slice p2 ra.defs.length c2) ra.defs.length (dfsV ra.defs ua) F1 (by rfl) RD1.out LD1.out OD1.out (Nat.zero_le _) ML2.out ?_
                intro pd5 capd5 wd5 JD
                rw [Nat.zero_add, List.nil_append] at JD
                (try simp only [sz1] at JD)
                have J5 : Hid (JJ W _ _ _ _ _ _ _ wd5) := JD
                have hbx := JD.bx _ rfl
                obtain ⟨bx0, bx1, bx2, bx3⟩ := box_cells hbx.2
                have hbl := blk_lt hbx.2
                clear hbx
                (try simp only [sz1] at bx0 bx1 bx2 bx3 hbl)
                clear JD
                rw [Nat.zero_add]
                refine hK.out _ _ ?_ (fun hHeld => ?_)
                · exact HSS.out _ (J5.out).bl
                clear hK K
                refine wpAnyH_ready (rs := [13]) (by kernel_rfl) (by simp) ?_
                refine AllReadyH.cons rfl (fun K hK => ?_) ?_
                · refine stepD (W := W) (by rfl) _ _ _ (by rfl) i2 Try.underlying24 HJ.out (J5.out) (by first | rfl | (simp only [sz1]; rfl)) (.slice p4 rb.defs.length c4) rb.defs.length (dfsV rb.defs ub) F2 (by rfl) RD2.out LD2.out OD2.out ML2.out ML4.out ?_
                  intro pd6 capd6 wd6 JD
                  (try simp only [sz1] at JD)
                  have J6 : Hid (JJ W _ _ _ _ _ _ _ wd6) := JD
                  have hbx := JD.bx _ rfl
                  obtain ⟨bx0, bx1, bx2, bx3⟩ := box_cells hbx.2
                  have hbl := blk_lt hbx.2
                  clear hbx
                  (try simp only [sz1] at bx0 bx1 bx2 bx3 hbl)
                  clear JD
                  refine hK.out _ _ ?_ (fun hHeld => ?_)
                  · exact HSS.out _ (J6.out).bl
                  clear hK K
                  refine wpAnyH_take (i := 14) (oi := _) (v := ?_) rfl (by kernel_rfl) (by kernel_rfl) (by kernel_rfl) (fun _ _ _ h => h) (Or.inl ⟨by rfl, ?_⟩) (by assumption) ?_
                  rotate_left
                  · intro w' hSw; (try dsimp only at hSw); go_simp; (try with_reducible rfl)
                  simp only [Act.put, List.setIfInBounds_toArray, List.set_cons_zero, List.set_cons_succ]
                  refine wpAnyH_ready (rs := [16]) (by kernel_rfl) (by simp) ?_
                  refine AllReadyH.cons rfl (fun K hK => ?_) ?_
                  · go_simp
                    refine hK.out _ _ ?_ (fun hHeld => ?_)
                    · first | exact HSS.out _ (Pk.put J6.out rfl rfl DD1.out DD2.out H1.out H2.out).bl | exact HSS.out _ (Pk.new J6.out rfl rfl DD1.out DD2.out H1.out H2.out).bl
                    clear hK K
                    refine wpAnyH_done (by kernel_rfl) ?_ _
                    go_wp2
                    go_meet
                    case rel => first | (with_reducible exact ⟨_, _, _, _, _, rfl, Pk.put J6.out rfl rfl DD1.out DD2.out H1.out H2.out⟩) | (with_reducible exact ⟨_, _, _, _, _, rfl, Pk.new J6.out rfl rfl DD1.out DD2.out H1.out H2.out⟩) | exact ⟨_, _, _, _, _, rfl, Pk.put J6.out rfl rfl DD1.out DD2.out H1.out H2.out⟩ | exact ⟨_, _, _, _, _, rfl, Pk.new J6.out rfl rfl DD1.out DD2.out H1.out H2.out⟩
                  exact AllReadyH.nil
                exact AllReadyH.nil
              exact AllReadyH.nil
            exact AllReadyH.nil
          exact AllReadyH.nil
        exact AllReadyH.nil
      exact AllReadyH.nil
    refine AllReadyH.cons rfl (fun K hK => ?_) ?_
    · go_simp
      refine hK.out _ _ ?_ (fun hHeld => ?_)
      · exact HSS.out _ (J0.out.box.drew).bl
      clear hK K
      refine wpAnyH_ready (rs := [0, 7]) (by kernel_rfl) (by simp) ?_
      refine AllReadyH.cons rfl (fun K hK => ?_) ?_
      · go_simp
        refine hK.out _ _ ?_ (fun hHeld => ?_)
        · exact HSS.out _ (J0.out.box.bsS.drew).bl
        clear hK K
        refine wpAnyH_ready (rs := [3, 7]) (by kernel_rfl) (by simp) ?_
        refine AllReadyH.cons rfl (fun K hK => ?_) ?_
        · refine stepS (W := W) (by rfl) _ _ _ (by rfl) i Try.underlying23 HI.out (J0.out.box.bsS.drew) (by first | rfl | (simp only [sz1]; rfl)) (.slice p1 ra.starts.length c1) ra.starts.length (txV ra.starts) F1 (by rfl) RS1.out LS1.out (tx_one _) (Nat.zero_le _) ML1.out ?_
          intro pd2 capd2 wd2 JD
          rw [Nat.zero_add, List.nil_append] at JD
          (try simp only [sz1] at JD)
          have J2 : Hid (JJ W _ _ _ _ _ _ _ wd2) := JD
          have hbx := JD.bx _ rfl
          obtain ⟨bx0, bx1, bx2, bx3⟩ := box_cells hbx.2
          have hbl := blk_lt hbx.2
          clear hbx
          (try simp only [sz1] at bx0 bx1 bx2 bx3 hbl)
          clear JD
          rw [Nat.zero_add]
          refine hK.out _ _ ?_ (fun hHeld => ?_)
          · exact HSS.out _ (J2.out).bl
          clear hK K
          refine wpAnyH_ready (rs := [6, 7]) (by kernel_rfl) (by simp) ?_
          refine AllReadyH.cons rfl (fun K hK => ?_) ?_
          · refine stepS (W := W) (by rfl) _ _ _ (by rfl) i Try.underlying23 HI.out (J2.out) (by first | rfl | (simp only [sz1]; rfl)) (.slice p3 rb.starts.length c3) rb.starts.length (txV rb.starts) F2 (by rfl) RS2.out LS2.out (tx_one _) ML1.out ML3.out ?_
            intro pd3 capd3 wd3 JD
            (try simp only [sz1] at JD)
            have J3 : Hid (JJ W _ _ _ _ _ _ _ wd3) := JD
            have hbx := JD.bx _ rfl
            obtain ⟨bx0, bx1, bx2, bx3⟩ := box_cells hbx.2
            have hbl := blk_lt hbx.2
            clear hbx
            (try simp only [sz1] at bx0 bx1 bx2 bx3 hbl)
            clear JD
            refine hK.out _ _ ?_ (fun hHeld => ?_)
            · exact HSS.out _ (J3.out).bl
            clear hK K
            refine wpAnyH_ready (rs := [7]) (by kernel_rfl) (by simp) ?_
            refine AllReadyH.cons rfl (fun K hK => ?_) ?_
            · go_simp
              refine hK.out _ _ ?_ (fun hHeld => ?_)
              · exact HSS.out _ (J3.out.bsD).bl
              clear hK K
              refine wpAnyH_ready (rs := [10]) (by kernel_rfl) (by simp) ?_
              refine AllReadyH.cons rfl (fun K hK => ?_) ?_
              · refine stepD (W := W) (by rfl) _ _ _ (by rfl) i2 Try.underlying24 HJ.out (J3.out.bsD) (by first | rfl | (simp only [sz1]; rfl)) (.slice p2 ra.defs.length c2) ra.defs.length (dfsV ra.defs ua) F1 (by rfl) RD1.out LD1.out OD1.out (Nat.zero_le _) ML2.out ?_
                intro pd5 capd5 wd5 JD
                rw [Nat.zero_add, List.nil_append] at JD
                (try simp only [sz1] at JD)
                have J5 : Hid (JJ W _ _ _ _ _ _ _ wd5) := JD
                have hbx := JD.bx _ rfl
                obtain ⟨bx0, bx1, bx2, bx3⟩ := box_cells hbx.2
                have hbl := blk_lt hbx.2
                clear hbx
                (try simp only [sz1] at bx0 bx1 bx2 bx3 hbl)
                clear JD
                rw [Nat.zero_add]
                refine hK.out _ _ ?_ (fun hHeld => ?_)
                · exact HSS.out _ (J5.out).bl
                clear hK K
                refine wpAnyH_ready (rs := [13]) (by kernel_rfl) (by simp) ?_
                refine AllReadyH.cons rfl (fun K hK => ?_) ?_
                · refine stepD (W := W) (by rfl) _ _ _ (by rfl) i2 Try.underlying24 HJ.out (J5.out) (by first | rfl | (simp only [sz1]; rfl)) (.slice p4 rb.defs.length c4) rb.defs.length (dfsV rb.defs ub) F2 (by rfl) RD2.out LD2.out OD2.out ML2.out ML4.out ?_
                  intro pd6 capd6 wd6 JD
                  (try simp only [sz1] at JD)
                  have J6 : Hid (JJ W _ _ _ _ _ _ _ wd6) := JD
                  have hbx := JD.bx _ rfl
                  obtain ⟨bx0, bx1, bx2, bx3⟩ := box_cells hbx.2
                  have hbl := blk_lt hbx.2
                  clear hbx
                  (try simp only [sz1] at bx0 bx1 bx2 bx3 hbl)
                  clear JD
                  refine hK.out _ _ ?_ (fun hHeld => ?_)
                  · exact HSS.out _ (J6.out).bl
                  clear hK K
                  refine wpAnyH_take (i := 14) (oi := _) (v := ?_) rfl (by kernel_rfl) (by kernel_rfl) (by kernel_rfl) (fun _ _ _ h => h) (Or.inl ⟨by rfl, ?_⟩) (by assumption) ?_
                  rotate_left
                  · intro w' hSw; (try dsimp only at hSw); go_simp; (try with_reducible rfl)
                  simp only [Act.put, List.setIfInBounds_toArray, List.set_cons_zero, List.set_cons_succ]
                  refine wpAnyH_ready (rs := [16]) (by kernel_rfl) (by simp) ?_
                  refine AllReadyH.cons rfl (fun K hK => ?_) ?_
                  · go_simp
                    refine hK.out _ _ ?_ (fun hHeld => ?_)
                    · first | exact HSS.out _ (Pk.put J6.out rfl rfl DD1.out DD2.out H1.out H2.out).bl | exact HSS.out _ (Pk.new J6.out rfl rfl DD1.out DD2.out H1.out H2.out).bl
                    clear hK K
                    refine wpAnyH_done (by kernel_rfl) ?_ _
                    go_wp2
                    go_meet
                    case rel => first | (with_reducible exact ⟨_, _, _, _, _, rfl, Pk.put J6.out rfl rfl DD1.out DD2.out H1.out H2.out⟩) | (with_reducible exact ⟨_, _, _, _, _, rfl, Pk.new J6.out rfl rfl DD1.out DD2.out H1.out H2.out⟩) | exact ⟨_, _, _, _, _, rfl, Pk.put J6.out rfl rfl DD1.out DD2.out H1.out H2.out⟩ | exact ⟨_, _, _, _, _, rfl, Pk.new J6.out rfl rfl DD1.out DD2.out H1.out H2.out⟩
                  exact AllReadyH.nil
                exact AllReadyH.nil
              exact AllReadyH.nil
            exact AllReadyH.nil
          refine AllReadyH.cons rfl (fun K hK => ?_) ?_
          · go_simp
            refine hK.out _ _ ?_ (fun hHeld => ?_)
            · exact HSS.out _ (J2.out.bsD).bl
            clear hK K
            refine wpAnyH_ready (rs := [6]) (by kernel_rfl) (by simp) ?_
            refine AllReadyH.cons rfl (fun K hK => ?_) ?_
            · refine stepS (W := W) (by rfl) _ _ _ (by rfl) i Try.underlying23 HI.out (J2.out.bsD) (by first | rfl | (simp only [sz1]; rfl)) (.slice p3 rb.starts.length c3) rb.starts.length (txV rb.starts) F2 (by rfl) RS2.out LS2.out (tx_one _) ML1.out ML3.out ?_
              intro pd4 capd4 wd4 JD
              (try simp only [sz1] at JD)
              have J4 : Hid (JJ W _ _ _ _ _ _ _ wd4) := JD
              have hbx := JD.bx _ rfl
              obtain ⟨bx0, bx1, bx2, bx3⟩ := box_cells hbx.2
              have hbl := blk_lt hbx.2
              clear hbx
              (try simp only [sz1] at bx0 bx1 bx2 bx3 hbl)
              clear JD
              refine hK.out _ _ ?_ (fun hHeld => ?_)
              · exact HSS.out _ (J4.out).bl
              clear hK K
              refine wpAnyH_ready (rs := [10]) (by kernel_rfl) (by simp) ?_
              refine AllReadyH.cons rfl (fun K hK => ?_) ?_
              · refine stepD (W := W) (by rfl) _ _ _ (by rfl) i2 Try.underlying24 HJ.out (J4.out) (by first | rfl | (simp only [sz1]; rfl)) (.slice p2 ra.defs.length c2) ra.defs.length (dfsV ra.defs ua) F1 (by rfl) RD1.out LD1.out OD1.out (Nat.zero_le _) ML2.out ?_
                intro pd5 capd5 wd5 JD
                rw [Nat.zero_add, List.nil_append] at JD
                (try simp only [sz1] at JD)
                have J5 : Hid (JJ W _ _ _ _ _ _ _ wd5) := JD
                have hbx := JD.bx _ rfl
                obtain ⟨bx0, bx1, bx2, bx3⟩ := box_cells hbx.2
                have hbl := blk_lt hbx.2
                clear hbx
                (try simp only [sz1] at bx0 bx1 bx2 bx3 hbl)
                clear JD
                rw [Nat.zero_add]
                refine hK.out _ _ ?_ (fun hHeld => ?_)
                · exact HSS.out _ (J5.out).bl
                clear hK K
                refine wpAnyH_ready (rs := [13]) (by kernel_rfl) (by simp) ?_
                refine AllReadyH.cons rfl (fun K hK => ?_) ?_
                · refine stepD (W := W) (by rfl) _ _ _ (by rfl) i2 Try.underlying24 HJ.out (J5.out) (by first | rfl | (simp only [sz1]; rfl)) (.slice p4 rb.defs.length c4) rb.defs.length (dfsV rb.defs ub) F2 (by rfl) RD2.out LD2.out OD2.out ML2.out ML4.out ?_
                  intro pd6 capd6 wd6 JD
                  (try simp only [sz1] at JD)
                  have J6 : Hid (JJ W _ _ _ _ _ _ _ wd6) := JD
                  have hbx := JD.bx _ rfl
                  obtain ⟨bx0, bx1, bx2, bx3⟩ := box_cells hbx.2
                  have hbl := blk_lt hbx.2
                  clear hbx
                  (try simp only [sz1] at bx0 bx1 bx2 bx3 hbl)
                  clear JD
                  refine hK.out _ _ ?_ (fun hHeld => ?_)
                  · exact HSS.out _ (J6.out).bl
                  clear hK K
                  refine wpAnyH_take (i := 14) (oi := _) (v := ?_) rfl (by kernel_rfl) (by kernel_rfl) (by kernel_rfl) (fun _ _ _ h => h) (Or.inl ⟨by rfl, ?_⟩) (by assumption) ?_
                  rotate_left
                  · intro w' hSw; (try dsimp only at hSw); go_simp; (try with_reducible rfl)
                  simp only [Act.put, List.setIfInBounds_toArray, List.set_cons_zero, List.set_cons_succ]
                  refine wpAnyH_ready (rs := [16]) (by kernel_rfl) (by simp) ?_
                  refine AllReadyH.cons rfl (fun K hK => ?_) ?_
                  · go_simp
                    refine hK.out _ _ ?_ (fun hHeld => ?_)
                    · first | exact HSS.out _ (Pk.put J6.out rfl rfl DD1.out DD2.out H1.out H2.out).bl | exact HSS.out _ (Pk.new J6.out rfl rfl DD1.out DD2.out H1.out H2.out).bl
                    clear hK K
                    refine wpAnyH_done (by kernel_rfl) ?_ _
                    go_wp2
                    go_meet
                    case rel => first | (with_reducible exact ⟨_, _, _, _, _, rfl, Pk.put J6.out rfl rfl DD1.out DD2.out H1.out H2.out⟩) | (with_reducible exact ⟨_, _, _, _, _, rfl, Pk.new J6.out rfl rfl DD1.out DD2.out H1.out H2.out⟩) | exact ⟨_, _, _, _, _, rfl, Pk.put J6.out rfl rfl DD1.out DD2.out H1.out H2.out⟩ | exact ⟨_, _, _, _, _, rfl, Pk.new J6.out rfl rfl DD1.out DD2.out H1.out H2.out⟩
                  exact AllReadyH.nil
                exact AllReadyH.nil
              exact AllReadyH.nil
            exact AllReadyH.nil
          exact AllReadyH.nil
        refine AllReadyH.cons rfl (fun K hK => ?_) ?_
        · go_simp
          refine hK.out _ _ ?_ (fun hHeld => ?_)
          · exact HSS.out _ (J0.out.box.bsS.bsD.drew).bl
          clear hK K
          refine wpAnyH_ready (rs := [3]) (by kernel_rfl) (by simp) ?_
          refine AllReadyH.cons rfl (fun K hK => ?_) ?_
          · refine stepS (W := W) (by rfl) _ _ _ (by rfl) i Try.underlying23 HI.out (J0.out.box.bsS.bsD.drew) (by first | rfl | (simp only [sz1]; rfl)) (.slice p1 ra.starts.length c1) ra.starts.length (txV ra.starts) F1 (by rfl) RS1.out LS1.out (tx_one _) (Nat.zero_le _) ML1.out ?_
            intro pd3 capd3 wd3 JD
            rw [Nat.zero_add, List.nil_append] at JD
            (try simp only [sz1] at JD)
            have J3 : Hid (JJ W _ _ _ _ _ _ _ wd3) := JD
            have hbx := JD.bx _ rfl
            obtain ⟨bx0, bx1, bx2, bx3⟩ := box_cells hbx.2
            have hbl := blk_lt hbx.2
            clear hbx
            (try simp only [sz1] at bx0 bx1 bx2 bx3 hbl)
            clear JD
            rw [Nat.zero_add]
            refine hK.out _ _ ?_ (fun hHeld => ?_)
            · exact HSS.out _ (J3.out).bl
            clear hK K
            refine wpAnyH_ready (rs := [6]) (by kernel_rfl) (by simp) ?_
            refine AllReadyH.cons rfl (fun K hK => ?_) ?_
            · refine stepS (W := W) (by rfl) _ _ _ (by rfl) i Try.underlying23 HI.out (J3.out) (by first | rfl | (simp only [sz1]; rfl)) (.slice p3 rb.starts.length c3) rb.starts.length (txV rb.starts) F2 (by rfl) RS2.out LS2.out (tx_one _) ML1.out ML3.out ?_
              intro pd4 capd4 wd4 JD
              (try simp only [sz1] at JD)
              have J4 : Hid (JJ W _ _ _ _ _ _ _ wd4) := JD
              have hbx := JD.bx _ rfl
              obtain ⟨bx0, bx1, bx2, bx3⟩ := box_cells hbx.2
              have hbl := blk_lt hbx.2
              clear hbx
              (try simp only [sz1] at bx0 bx1 bx2 bx3 hbl)
              clear JD
              refine hK.out _ _ ?_ (fun hHeld => ?_)
              · exact HSS.out _ (J4.out).bl
              clear hK K
              refine wpAnyH_ready (rs := [10]) (by kernel_rfl) (by simp) ?_
              refine AllReadyH.cons rfl (fun K hK => ?_) ?_
              · refine stepD (W := W) (by rfl) _ _ _ (by rfl) i2 Try.underlying24 HJ.out (J4.out) (by first | rfl | (simp only [sz1]; rfl)) (.slice p2 ra.defs.length c2) ra.defs.length (dfsV ra.defs ua) F1 (by rfl) RD1.out LD1.out OD1.out (Nat.zero_le _) ML2.out ?_
                intro pd5 capd5 wd5 JD
                rw [Nat.zero_add, List.nil_append] at JD
                (try simp only [sz1] at JD)
                have J5 : Hid (JJ W _ _ _ _ _ _ _ wd5) := JD
                have hbx := JD.bx _ rfl
                obtain ⟨bx0, bx1, bx2, bx3⟩ := box_cells hbx.2
                have hbl := blk_lt hbx.2
                clear hbx
                (try simp only [sz1] at bx0 bx1 bx2 bx3 hbl)
                clear JD
                rw [Nat.zero_add]
                refine hK.out _ _ ?_ (fun hHeld => ?_)
                · exact HSS.out _ (J5.out).bl
                clear hK K
                refine wpAnyH_ready (rs := [13]) (by kernel_rfl) (by simp) ?_
                refine AllReadyH.cons rfl (fun K hK => ?_) ?_
                · refine stepD (W := W) (by rfl) _ _ _ (by rfl) i2 Try.underlying24 HJ.out (J5.out) (by first | rfl | (simp only [sz1]; rfl)) (.slice p4 rb.defs.length c4) rb.defs.length (dfsV rb.defs ub) F2 (by rfl) RD2.out LD2.out OD2.out ML2.out ML4.out ?_
                  intro pd6 capd6 wd6 JD
                  (try simp only [sz1] at JD)
                  have J6 : Hid (JJ W _ _ _ _ _ _ _ wd6) := JD
                  have hbx := JD.bx _ rfl
                  obtain ⟨bx0, bx1, bx2, bx3⟩ := box_cells hbx.2
                  have hbl := blk_lt hbx.2
                  clear hbx
                  (try simp only [sz1] at bx0 bx1 bx2 bx3 hbl)
                  clear JD
                  refine hK.out _ _ ?_ (fun hHeld => ?_)
                  · exact HSS.out _ (J6.out).bl
                  clear hK K
                  refine wpAnyH_take (i := 14) (oi := _) (v := ?_) rfl (by kernel_rfl) (by kernel_rfl) (by kernel_rfl) (fun _ _ _ h => h) (Or.inl ⟨by rfl, ?_⟩) (by assumption) ?_
                  rotate_left
                  · intro w' hSw; (try dsimp only at hSw); go_simp; (try with_reducible rfl)
                  simp only [Act.put, List.setIfInBounds_toArray, List.set_cons_zero, List.set_cons_succ]
                  refine wpAnyH_ready (rs := [16]) (by kernel_rfl) (by simp) ?_
                  refine AllReadyH.cons rfl (fun K hK => ?_) ?_
                  · go_simp
                    refine hK.out _ _ ?_ (fun hHeld => ?_)
                    · first | exact HSS.out _ (Pk.put J6.out rfl rfl DD1.out DD2.out H1.out H2.out).bl | exact HSS.out _ (Pk.new J6.out rfl rfl DD1.out DD2.out H1.out H2.out).bl
                    clear hK K
                    refine wpAnyH_done (by kernel_rfl) ?_ _
                    go_wp2
                    go_meet
                    case rel => first | (with_reducible exact ⟨_, _, _, _, _, rfl, Pk.put J6.out rfl rfl DD1.out DD2.out H1.out H2.out⟩) | (with_reducible exact ⟨_, _, _, _, _, rfl, Pk.new J6.out rfl rfl DD1.out DD2.out H1.out H2.out⟩) | exact ⟨_, _, _, _, _, rfl, Pk.put J6.out rfl rfl DD1.out DD2.out H1.out H2.out⟩ | exact ⟨_, _, _, _, _, rfl, Pk.new J6.out rfl rfl DD1.out DD2.out H1.out H2.out⟩
                  exact AllReadyH.nil
                exact AllReadyH.nil
              exact AllReadyH.nil
            exact AllReadyH.nil
          exact AllReadyH.nil
        exact AllReadyH.nil
      refine AllReadyH.cons rfl (fun K hK => ?_) ?_
      · go_simp
        refine hK.out _ _ ?_ (fun hHeld => ?_)
        · exact HSS.out _ (J0.out.box.bsD.drew).bl
        clear hK K
        refine wpAnyH_ready (rs := [0]) (by kernel_rfl) (by simp) ?_
        refine AllReadyH.cons rfl (fun K hK => ?_) ?_
        · go_simp
          refine hK.out _ _ ?_ (fun hHeld => ?_)
          · exact HSS.out _ (J0.out.box.bsD.bsS.drew).bl
          clear hK K
          refine wpAnyH_ready (rs := [3]) (by kernel_rfl) (by simp) ?_
          refine AllReadyH.cons rfl (fun K hK => ?_) ?_
          · refine stepS (W := W) (by rfl) _ _ _ (by rfl) i Try.underlying23 HI.out (J0.out.box.bsD.bsS.drew) (by first | rfl | (simp only [sz1]; rfl)) (.slice p1 ra.starts.length c1) ra.starts.length (txV ra.starts) F1 (by rfl) RS1.out LS1.out (tx_one _) (Nat.zero_le _) ML1.out ?_
            intro pd3 capd3 wd3 JD
            rw [Nat.zero_add, List.nil_append] at JD
            (try simp only [sz1] at JD)
            have J3 : Hid (JJ W _ _ _ _ _ _ _ wd3) := JD
            have hbx := JD.bx _ rfl
            obtain ⟨bx0, bx1, bx2, bx3⟩ := box_cells hbx.2
            have hbl := blk_lt hbx.2
            clear hbx
            (try simp only [sz1] at bx0 bx1 bx2 bx3 hbl)
            clear JD
            rw [Nat.zero_add]
            refine hK.out _ _ ?_ (fun hHeld => ?_)
            · exact HSS.out _ (J3.out).bl
            clear hK K
            refine wpAnyH_ready (rs := [6]) (by kernel_rfl) (by simp) ?_
            refine AllReadyH.cons rfl (fun K hK => ?_) ?_
            · refine stepS (W := W) (by rfl) _ _ _ (by rfl) i Try.underlying23 HI.out (J3.out) (by first | rfl | (simp only [sz1]; rfl)) (.slice p3 rb.starts.length c3) rb.starts.length (txV rb.starts) F2 (by rfl) RS2.out LS2.out (tx_one _) ML1.out ML3.out ?_
              intro pd4 capd4 wd4 JD
              (try simp only [sz1] at JD)
              have J4 : Hid (JJ W _ _ _ _ _ _ _ wd4) := JD
              have hbx := JD.bx _ rfl
              obtain ⟨bx0, bx1, bx2, bx3⟩ := box_cells hbx.2
              have hbl := blk_lt hbx.2
              clear hbx
              (try simp only [sz1] at bx0 bx1 bx2 bx3 hbl)
              clear JD
              refine hK.out _ _ ?_ (fun hHeld => ?_)
              · exact HSS.out _ (J4.out).bl
              clear hK K
              refine wpAnyH_ready (rs := [10]) (by kernel_rfl) (by simp) ?_
              refine AllReadyH.cons rfl (fun K hK => ?_) ?_
              · refine stepD (W := W) (by rfl) _ _ _ (by rfl) i2 Try.underlying24 HJ.out (J4.out) (by first | rfl | (simp only [sz1]; rfl)) (.slice p2 ra.defs.length c2) ra.defs.length (dfsV ra.defs ua) F1 (by rfl) RD1.out LD1.out OD1.out (Nat.zero_le _) ML2.out ?_
                intro pd5 capd5 wd5 JD
                rw [Nat.zero_add, List.nil_append] at JD
                (try simp only [sz1] at JD)
                have J5 : Hid (JJ W _ _ _ _ _ _ _ wd5) := JD
                have hbx := JD.bx _ rfl
                obtain ⟨bx0, bx1, bx2, bx3⟩ := box_cells hbx.2
                have hbl := blk_lt hbx.2
                clear hbx
                (try simp only [sz1] at bx0 bx1 bx2 bx3 hbl)
                clear JD
                rw [Nat.zero_add]
                refine hK.out _ _ ?_ (fun hHeld => ?_)
                · exact HSS.out _ (J5.out).bl
                clear hK K
                refine wpAnyH_ready (rs := [13]) (by kernel_rfl) (by simp) ?_
                refine AllReadyH.cons rfl (fun K hK => ?_) ?_
                · refine stepD (W := W) (by rfl) _ _ _ (by rfl) i2 Try.underlying24 HJ.out (J5.out) (by first | rfl | (simp only [sz1]; rfl)) (.slice p4 rb.defs.length c4) rb.defs.length (dfsV rb.defs ub) F2 (by rfl) RD2.out LD2.out OD2.out ML2.out ML4.out ?_
                  intro pd6 capd6 wd6 JD
                  (try simp only [sz1] at JD)
                  have J6 : Hid (JJ W _ _ _ _ _ _ _ wd6) := JD
                  have hbx := JD.bx _ rfl
                  obtain ⟨bx0, bx1, bx2, bx3⟩ := box_cells hbx.2
                  have hbl := blk_lt hbx.2
                  clear hbx
                  (try simp only [sz1] at bx0 bx1 bx2 bx3 hbl)
                  clear JD
                  refine hK.out _ _ ?_ (fun hHeld => ?_)
                  · exact HSS.out _ (J6.out).bl
                  clear hK K
                  refine wpAnyH_take (i := 14) (oi := _) (v := ?_) rfl (by kernel_rfl) (by kernel_rfl) (by kernel_rfl) (fun _ _ _ h => h) (Or.inl ⟨by rfl, ?_⟩) (by assumption) ?_
                  rotate_left
                  · intro w' hSw; (try dsimp only at hSw); go_simp; (try with_reducible rfl)
                  simp only [Act.put, List.setIfInBounds_toArray, List.set_cons_zero, List.set_cons_succ]
                  refine wpAnyH_ready (rs := [16]) (by kernel_rfl) (by simp) ?_
                  refine AllReadyH.cons rfl (fun K hK => ?_) ?_
                  · go_simp
                    refine hK.out _ _ ?_ (fun hHeld => ?_)
                    · first | exact HSS.out _ (Pk.put J6.out rfl rfl DD1.out DD2.out H1.out H2.out).bl | exact HSS.out _ (Pk.new J6.out rfl rfl DD1.out DD2.out H1.out H2.out).bl
                    clear hK K
                    refine wpAnyH_done (by kernel_rfl) ?_ _
                    go_wp2
                    go_meet
                    case rel => first | (with_reducible exact ⟨_, _, _, _, _, rfl, Pk.put J6.out rfl rfl DD1.out DD2.out H1.out H2.out⟩) | (with_reducible exact ⟨_, _, _, _, _, rfl, Pk.new J6.out rfl rfl DD1.out DD2.out H1.out H2.out⟩) | exact ⟨_, _, _, _, _, rfl, Pk.put J6.out rfl rfl DD1.out DD2.out H1.out H2.out⟩ | exact ⟨_, _, _, _, _, rfl, Pk.new J6.out rfl rfl DD1.out DD2.out H1.out H2.out⟩
                  exact AllReadyH.nil
                exact AllReadyH.nil
              exact AllReadyH.nil
            exact AllReadyH.nil
          exact AllReadyH.nil
        exact AllReadyH.nil
      exact AllReadyH.nil
    exact AllReadyH.nil
  case rest =>
    obtain ⟨b, pb, capb, pd, capd, rfl, PK⟩ := hcut
    have K1 : Hid (RawIs wc Any (.slice pb (ra.starts.length + rb.starts.length) capb) (.slice pd (ra.defs.length + rb.defs.length) capd) ⟨ra.starts ++ rb.starts, ra.defs ++ rb.defs⟩) := PK.out.raw
    have K2 : Hid (RawIs wc F3 (.slice p5 (ra.starts.length + rb.starts.length) c5) (.slice p6 (ra.defs.length + rb.defs.length) c6) ⟨ra.starts ++ rb.starts, ra.defs ++ rb.defs⟩) := S3.out.any PK.out.bl
    have K3 : Hid (Below W.heap.size W wc) := PK.out.bl
    have k0 := PK.out.c0
    have k1 := PK.out.c1
    have m0 : wc.cell? ⟨w3.heap.size, 0, none⟩ = some (.slice p5 (ra.starts.length + rb.starts.length) c5) := (PK.out.bl.cell (p := ⟨w3.heap.size, 0, none⟩) hv4).trans d0
    have m1 : wc.cell? ⟨w3.heap.size, 1, none⟩ = some (.slice p6 (ra.defs.length + rb.defs.length) c6) := (PK.out.bl.cell (p := ⟨w3.heap.size, 1, none⟩) hv4).trans d1
    clear PK J0
    go_wp2_with (first | (go_at_call 6; refine (num_any _ _).mono ?_; rintro e wn ⟨rfl, rfl⟩) | (go_at_call 7; refine (sameRaw_yes ⟨ra.starts ++ rb.starts, ra.defs ++ rb.defs⟩ _ _ _ _ _ K2.out.1 K2.out.2 K1.out.1 K1.out.2).mono ?_; rintro e w5 ⟨rfl, b5⟩; have B5 : Hid (Below W.heap.size W w5) := K3.out.trans (b5.mono K3.out.size); clear b5))
    all_goals go_ret
    all_goals exact ⟨rfl, BW.out.trans (B5.out.mono BW.out.size)⟩
end Go.Proofs.Ytbpkpfnjgljilaa
