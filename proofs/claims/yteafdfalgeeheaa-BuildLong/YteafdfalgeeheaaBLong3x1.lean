/- BuildLong's walk, for one to four texts. -/
import Derived.Test.YteafdfalgeeheaaBLong2
namespace Go.Proofs.Yteafdfalgeeheaa
set_option linter.unusedVariables false
set_option linter.unusedSimpArgs false
open Go.ChangeShapes Go.WideShapes Go.ChangeAt Go.RowKit

set_option maxHeartbeats 4000000 in
set_option maxRecDepth 100000 in
theorem long1 (a0 a1 : Int) (k : Nat) (hk : k ≤ 63) (ek : bits .and .i64 a0 63 = (k : Int)) (em : bits .and .i64 a1 3 = 0) (w : World) :
    Calls Try.prog 5 #[.int .i64 a0, .int .i64 a1] w fun e w' => e = .returned (.bool true) ∧ Below w.heap.size w w' := by
  have HT : Hid (lnB k 1 = true) := ln_all ⟨0, by decide⟩ ⟨k, by omega⟩
  obtain ⟨i, hi0, hz0, hz1, hz2⟩ := info_parts Try.infoItem
  have HI : Hid (Try.prog.info? 33 = some i ∧ i.zero = some (.agg #[.int .i64 0, .string ⟨#[]⟩, .int .i64 0, .int .i64 0]) ∧ i.size = 4 ∧ i.bytes = 40) := ⟨hi0, hz0, hz1, hz2⟩
  clear hi0 hz0 hz1 hz2
  have MK := make_by k hk
  have CV := conv_by k hk
  go_enter Try.func5, Try.ntmps5
  go_wp2_with (first | (go_at_call 9; refine (awake4_any _).mono ?_; rintro e wa ⟨rfl, ha⟩; have B0 : Hid (Below w.heap.size w wa) := ha; clear ha))
  go_loopw [8] (fun x wr => ∃ (j : Nat) (p : Option Addr) (c : Nat), j ≤ 1 ∧ x = .int .i64 j ∧ Hid (LO wa (.slice p j c) k j wr)) (fun x _ => 1 - (intOf x).toNat)
  case atStart => exact ⟨0, none, 0, by omega, rfl, LO.new wa k⟩
  case round =>
    obtain ⟨j, p, c, hj, rfl, LL⟩ := hrel
    by_cases hlt : j < 1
    · have c4 : wr.cell? ⟨wa.heap.size + 1 + 1 + 1 + 1, 1, none⟩ = some (.slice (some ⟨wa.heap.size + 1 + 1 + 1, 0, none⟩) 1 1) := cell_of_cells LL.out.b4 1
      have c3 : wr.cell? ⟨wa.heap.size + 1 + 1 + 1, 1, none⟩ = some (.slice (some ⟨wa.heap.size + 1 + 1, 0, none⟩) 1 1) := cell_of_cells LL.out.b3 1
      have c2 : wr.cell? ⟨wa.heap.size + 1 + 1, 0, none⟩ = some (.slice (some ⟨wa.heap.size + 1, 0, none⟩) 1 1) := cell_of_cells LL.out.b2 0
      have c1 : wr.cell? ⟨wa.heap.size + 1, 1, none⟩ = some (.slice p j c) := cell_of_cells LL.out.b1 1
      have f1 : wr.frozen? ⟨wa.heap.size + 1, 1, none⟩ = false := by simp [World.frozen?, LL.out.b1]
      have q4 : wa.heap.size + 1 + 1 + 1 + 1 < wr.heap.size := block_lt LL.out.b4
      have q3 : wa.heap.size + 1 + 1 + 1 < wr.heap.size := by omega
      have q2 : wa.heap.size + 1 + 1 < wr.heap.size := by omega
      have q1 : wa.heap.size + 1 < wr.heap.size := by omega
      have q4' := Nat.lt_succ_of_lt q4
      have q3' := Nat.lt_succ_of_lt q3
      have q2' := Nat.lt_succ_of_lt q2
      have q1' := Nat.lt_succ_of_lt q1
      have N4 : Hid ((Value.slice p j c).ownBlock ≠ some (wa.heap.size + 1 + 1 + 1 + 1)) := row_cells LL.out.it (by decide) LL.out.b4
      have N3 : Hid ((Value.slice p j c).ownBlock ≠ some (wa.heap.size + 1 + 1 + 1)) := row_cells LL.out.it (by decide) LL.out.b3
      have N2 : Hid ((Value.slice p j c).ownBlock ≠ some (wa.heap.size + 1 + 1)) := row_cells LL.out.it (by decide) LL.out.b2
      have N1 : Hid ((Value.slice p j c).ownBlock ≠ some (wa.heap.size + 1)) := row_cells LL.out.it (by decide) LL.out.b1
      have MX : Hid (j + 1 ≤ maxLen) := by show _ ≤ _; unfold maxLen; omega
      have BY : Hid ((j + 1) * 40 ≤ 140737488355328) := by show _ ≤ _; omega
      have HNEW : Hid (((wr.alloc (.cells (madeCells #[.int .u8 0] k) 5)).alloc (.cells #[.int .i64 1, .string (zeros k), .int .i64 0, .int .i64 0] 33)).drew.heap[wr.heap.size + 1]? = some (.cells #[.int .i64 1, .string (zeros k), .int .i64 0, .int .i64 0] 33)) := by
        have h := heap_alloc_new (wr.alloc (.cells (madeCells #[.int .u8 0] k) 5)) (.cells #[.int .i64 1, .string (zeros k), .int .i64 0, .int .i64 0] 33)
        rw [show (wr.alloc (.cells (madeCells #[.int .u8 0] k) 5)).heap.size = wr.heap.size + 1 by simp] at h
        exact h
      obtain ⟨gg, cap1, w2, hrun, hown1, hgrow, hat, hl2⟩ := run_append_lies (P := Try.prog) ((wr.alloc (.cells (madeCells #[.int .u8 0] k) 5)).alloc (.cells #[.int .i64 1, .string (zeros k), .int .i64 0, .int .i64 0] 33)).drew 34 34 (wa.heap.size + 5) 33 i _ 4 40 Try.underlying34 HI.out.1 HI.out.2.1 HI.out.2.2.1 HI.out.2.2.2 rfl (by omega) (.slice p j c) j (itsV (List.replicate j ⟨1, zeros k, 0, 0⟩)) (((LL.out.it.alloc _).alloc _).drew) ⟨wr.heap.size + 1, 0, none⟩ 1 1 [.int .i64 1, .string (zeros k), .int .i64 0, .int .i64 0] rfl (World.news_of_block (cs := #[.int .i64 1, .string (zeros k), .int .i64 0, .int .i64 0]) (t := 33) (fr := (0, 0)) HNEW.out) (by simp [Value.oneCell']) (by omega) MX.out BY.out (by show _ ≤ ((wr.alloc _).alloc _).heap.size; simp; omega) (wr.heap.size + 1 + 1) (by show ((wr.alloc _).alloc _).heap.size = _; simp)
      have LA := stepApp hrun
      unfold StepApp at LA
      have FIN : Hid (LO wa (.slice (some ⟨gg, 0, none⟩) (j + 1) cap1) k (j + 1) (w2.setCell ⟨wa.heap.size + 1, 1, none⟩ (.slice (some ⟨gg, 0, none⟩) (j + 1) cap1))) := LL.out.more (bel2 wr _ _).drew hgrow hown1
      have hfar : ∀ b o, (Value.slice p j c).ownBlock ≠ some b → b < wr.heap.size → w2.cell? ⟨b, o, none⟩ = wr.cell? ⟨b, o, none⟩ := fun b o hne hlt => by
        have h1 := hgrow.cell_far ⟨b, o, none⟩ (by show b < ((wr.alloc _).alloc _).heap.size; simp; omega) (Ne.symm hne)
        have h2 : (((wr.alloc (.cells (madeCells #[.int .u8 0] k) 5)).alloc (.cells #[.int .i64 1, .string (zeros k), .int .i64 0, .int .i64 0] 33)).drew).cell? ⟨b, o, none⟩ = wr.cell? ⟨b, o, none⟩ := (World.cell?_alloc_past _ _ _ (by simp; omega)).trans (World.cell?_alloc_past _ _ _ hlt)
        exact h1.trans h2
      have x4 := (hfar _ 1 N4.out q4).trans c4
      have x3 := (hfar _ 1 N3.out q3).trans c3
      have x2 := (hfar _ 0 N2.out q2).trans c2
      have x1 := (hfar _ 1 N1.out q1).trans c1
      have xf : w2.frozen? ⟨wa.heap.size + 1, 1, none⟩ = false := by
        have h1 := hgrow.frozen_far ⟨wa.heap.size + 1, 1, none⟩ (by show _ < ((wr.alloc _).alloc _).heap.size; simp; omega) (Ne.symm N1.out)
        exact h1.trans (((World.frozen?_alloc_past _ _ _ (by simp; omega)).trans (World.frozen?_alloc_past _ _ _ q1)).trans f1)
      have z4 : (w2.setCell ⟨wa.heap.size + 1, 1, none⟩ (.slice (some ⟨gg, 0, none⟩) (j + 1) cap1)).cell? ⟨wa.heap.size + 1 + 1 + 1 + 1, 1, none⟩ = some (.slice (some ⟨wa.heap.size + 1 + 1 + 1, 0, none⟩) 1 1) := (World.cell?_setCell_other _ _ _ _ (by intro e; injection e with e; omega)).trans x4
      have z3 : (w2.setCell ⟨wa.heap.size + 1, 1, none⟩ (.slice (some ⟨gg, 0, none⟩) (j + 1) cap1)).cell? ⟨wa.heap.size + 1 + 1 + 1, 1, none⟩ = some (.slice (some ⟨wa.heap.size + 1 + 1, 0, none⟩) 1 1) := (World.cell?_setCell_other _ _ _ _ (by intro e; injection e with e; omega)).trans x3
      have z2 : (w2.setCell ⟨wa.heap.size + 1, 1, none⟩ (.slice (some ⟨gg, 0, none⟩) (j + 1) cap1)).cell? ⟨wa.heap.size + 1 + 1, 0, none⟩ = some (.slice (some ⟨wa.heap.size + 1, 0, none⟩) 1 1) := (World.cell?_setCell_other _ _ _ _ (by intro e; injection e with e; omega)).trans x2
      clear hrun hown1 hgrow hat hl2 hfar
      go_wp2_with (fail)
      refine wp_region_held_drew (S := (fun w' => w'.cell? ⟨wa.heap.size + 1 + 1 + 1 + 1, 1, none⟩ = some (.slice (some ⟨wa.heap.size + 1 + 1 + 1, 0, none⟩) 1 1) ∧ w'.cell? ⟨wa.heap.size + 1 + 1 + 1, 1, none⟩ = some (.slice (some ⟨wa.heap.size + 1 + 1, 0, none⟩) 1 1) ∧ w'.cell? ⟨wa.heap.size + 1 + 1, 0, none⟩ = some (.slice (some ⟨wa.heap.size + 1, 0, none⟩) 1 1))) (by kernel_rfl) ?_ (fun hHeld => ?_)
      · (try dsimp only); go_keep
      refine wpAnyH_take (i := 0) (oi := _) (v := ?_) rfl (by kernel_rfl) (by kernel_rfl) (by kernel_rfl) (fun _ _ _ h => h) (Or.inl ⟨by rfl, ?_⟩) (by assumption) ?_
      rotate_left
      · intro w' hSw; (try dsimp only at hSw); go_simp; (try with_reducible rfl)
      simp only [Act.put, List.setIfInBounds_toArray, List.set_cons_zero, List.set_cons_succ]
      refine wpAnyH_take (i := 1) (oi := _) (v := ?_) rfl (by kernel_rfl) (by kernel_rfl) (by kernel_rfl) (fun _ _ _ h => h) (Or.inl ⟨by rfl, ?_⟩) (by assumption) ?_
      rotate_left
      · intro w' hSw; (try dsimp only at hSw); go_simp; (try with_reducible rfl)
      simp only [Act.put, List.setIfInBounds_toArray, List.set_cons_zero, List.set_cons_succ]
      refine wpAnyH_take (i := 2) (oi := _) (v := ?_) rfl (by kernel_rfl) (by kernel_rfl) (by kernel_rfl) (fun _ _ _ h => h) (Or.inl ⟨by rfl, ?_⟩) (by assumption) ?_
      rotate_left
      · intro w' hSw; (try dsimp only at hSw); go_simp; (try with_reducible rfl)
      simp only [Act.put, List.setIfInBounds_toArray, List.set_cons_zero, List.set_cons_succ]
      refine wpAnyH_take (i := 3) (oi := _) (v := ?_) rfl (by kernel_rfl) (by kernel_rfl) (by kernel_rfl) (fun _ _ _ h => h) (Or.inl ⟨by rfl, ?_⟩) (by assumption) ?_
      rotate_left
      · intro w' hSw; (try dsimp only at hSw); go_simp; (try with_reducible rfl)
      simp only [Act.put, List.setIfInBounds_toArray, List.set_cons_zero, List.set_cons_succ]
      refine wpAnyH_take (i := 4) (oi := _) (v := ?_) rfl (by kernel_rfl) (by kernel_rfl) (by kernel_rfl) (fun _ _ _ h => h) (Or.inl ⟨by rfl, ?_⟩) (by assumption) ?_
      rotate_left
      · intro w' hSw; (try dsimp only at hSw); go_simp; (try with_reducible rfl)
      simp only [Act.put, List.setIfInBounds_toArray, List.set_cons_zero, List.set_cons_succ]
      refine wpAnyH_take (i := 5) (oi := _) (v := ?_) rfl (by kernel_rfl) (by kernel_rfl) (by kernel_rfl) (fun _ _ _ h => h) (Or.inl ⟨by rfl, ?_⟩) (by assumption) ?_
      rotate_left
      · intro w' hSw; (try dsimp only at hSw); go_simp; (try with_reducible rfl)
      simp only [Act.put, List.setIfInBounds_toArray, List.set_cons_zero, List.set_cons_succ]
      refine wpAnyH_take (i := 6) (oi := _) (v := ?_) rfl (by kernel_rfl) (by kernel_rfl) (by kernel_rfl) (fun _ _ _ h => h) (Or.inl ⟨by rfl, ?_⟩) (by assumption) ?_
      rotate_left
      · intro w' hSw; (try dsimp only at hSw); go_simp; (try with_reducible rfl)
      simp only [Act.put, List.setIfInBounds_toArray, List.set_cons_zero, List.set_cons_succ]
      refine wpAnyH_take (i := 7) (oi := _) (v := ?_) rfl (by kernel_rfl) (by kernel_rfl) (by kernel_rfl) (fun _ _ _ h => h) (Or.inl ⟨by rfl, ?_⟩) (by assumption) ?_
      rotate_left
      · intro w' hSw; (try dsimp only at hSw); go_simp; (try with_reducible rfl)
      simp only [Act.put, List.setIfInBounds_toArray, List.set_cons_zero, List.set_cons_succ]
      refine wpAnyH_take (i := 8) (oi := _) (v := ?_) rfl (by kernel_rfl) (by kernel_rfl) (by kernel_rfl) (fun _ _ _ h => h) (Or.inl ⟨by rfl, ?_⟩) (by assumption) ?_
      rotate_left
      · intro w' hSw; (try dsimp only at hSw); go_simp; (try with_reducible rfl)
      simp only [Act.put, List.setIfInBounds_toArray, List.set_cons_zero, List.set_cons_succ]
      refine wpAnyH_take (i := 9) (oi := _) (v := ?_) rfl (by kernel_rfl) (by kernel_rfl) (by kernel_rfl) (fun _ _ _ h => h) (Or.inl ⟨by rfl, ?_⟩) (by assumption) ?_
      rotate_left
      · intro w' hSw; (try dsimp only at hSw); go_simp; (try with_reducible rfl)
      simp only [Act.put, List.setIfInBounds_toArray, List.set_cons_zero, List.set_cons_succ]
      refine wpAnyH_take (i := 10) (oi := _) (v := ?_) rfl (by kernel_rfl) (by kernel_rfl) (by kernel_rfl) (fun _ _ _ h => h) (Or.inl ⟨by rfl, ?_⟩) (by assumption) ?_
      rotate_left
      · intro w' hSw; (try dsimp only at hSw); go_simp; (try with_reducible rfl)
      simp only [Act.put, List.setIfInBounds_toArray, List.set_cons_zero, List.set_cons_succ]
      refine wpAnyH_take (i := 11) (oi := _) (v := ?_) rfl (by kernel_rfl) (by kernel_rfl) (by kernel_rfl) (fun _ _ _ h => h) (Or.inl ⟨by rfl, ?_⟩) (by assumption) ?_
      rotate_left
      · intro w' hSw; (try dsimp only at hSw); go_simp; (try with_reducible rfl)
      simp only [Act.put, List.setIfInBounds_toArray, List.set_cons_zero, List.set_cons_succ]
      refine wpAnyH_take (i := 12) (oi := _) (v := ?_) rfl (by kernel_rfl) (by kernel_rfl) (by kernel_rfl) (fun _ _ _ h => h) (Or.inl ⟨by rfl, ?_⟩) (by assumption) ?_
      rotate_left
      · intro w' hSw; (try dsimp only at hSw); go_simp; (try with_reducible rfl)
      simp only [Act.put, List.setIfInBounds_toArray, List.set_cons_zero, List.set_cons_succ]
      refine wpAnyH_take (i := 13) (oi := _) (v := ?_) rfl (by kernel_rfl) (by kernel_rfl) (by kernel_rfl) (fun _ _ _ h => h) (Or.inl ⟨by rfl, ?_⟩) (by assumption) ?_
      rotate_left
      · intro w' hSw; (try dsimp only at hSw); go_simp; (try with_reducible rfl)
      simp only [Act.put, List.setIfInBounds_toArray, List.set_cons_zero, List.set_cons_succ]
      refine wpAnyH_take (i := 14) (oi := _) (v := ?_) rfl (by kernel_rfl) (by kernel_rfl) (by kernel_rfl) (fun _ _ _ h => h) (Or.inl ⟨by rfl, ?_⟩) (by assumption) ?_
      rotate_left
      · intro w' hSw; (try dsimp only at hSw); go_simp; (try with_reducible rfl)
      simp only [Act.put, List.setIfInBounds_toArray, List.set_cons_zero, List.set_cons_succ]
      refine wpAnyH_take (i := 15) (oi := _) (v := ?_) rfl (by kernel_rfl) (by kernel_rfl) (by kernel_rfl) (fun _ _ _ h => h) (Or.inl ⟨by rfl, ?_⟩) (by assumption) ?_
      rotate_left
      · intro w' hSw; (try dsimp only at hSw); go_simp; (try with_reducible rfl)
      simp only [Act.put, List.setIfInBounds_toArray, List.set_cons_zero, List.set_cons_succ]
      refine wpAnyH_take (i := 17) (oi := _) (v := ?_) rfl (by kernel_rfl) (by kernel_rfl) (by kernel_rfl) (fun _ _ _ h => h) (Or.inl ⟨by rfl, ?_⟩) (by assumption) ?_
      rotate_left
      · intro w' hSw; (try dsimp only at hSw); go_simp; (try with_reducible rfl)
      simp only [Act.put, List.setIfInBounds_toArray, List.set_cons_zero, List.set_cons_succ]
      refine wpAnyH_ready (rs := [16, 18]) (by kernel_rfl) (by simp) ?_
      refine AllReadyH.cons rfl (fun K hK => ?_) ?_
      · go_simp
        refine hK.out _ _ ?_ (fun hHeld => ?_)
        · (try dsimp only); (first | go_keep | exact ⟨x4, x3, x2⟩ | exact ⟨z4, z3, z2⟩)
        clear hK K
        refine wpAnyH_ready (rs := [18]) (by kernel_rfl) (by simp) ?_
        refine AllReadyH.cons rfl (fun K hK => ?_) ?_
        · go_simp
          refine hK.out _ _ ?_ (fun hHeld => ?_)
          · (try dsimp only); (first | go_keep | exact ⟨x4, x3, x2⟩ | exact ⟨z4, z3, z2⟩)
          clear hK K
          refine wpAnyH_ready (rs := [19]) (by kernel_rfl) (by simp) ?_
          refine AllReadyH.cons rfl (fun K hK => ?_) ?_
          · go_simp
            refine hK.out _ _ ?_ (fun hHeld => ?_)
            · (try dsimp only); (first | go_keep | exact ⟨x4, x3, x2⟩ | exact ⟨z4, z3, z2⟩)
            clear hK K
            refine wpAnyH_take (i := 20) (oi := _) (v := ?_) rfl (by kernel_rfl) (by kernel_rfl) (by kernel_rfl) (fun _ _ _ h => h) (Or.inl ⟨by rfl, ?_⟩) (by assumption) ?_
            rotate_left
            · intro w' hSw; (try dsimp only at hSw); go_simp; (try with_reducible rfl)
            simp only [Act.put, List.setIfInBounds_toArray, List.set_cons_zero, List.set_cons_succ]
            refine wpAnyH_ready (rs := [21]) (by kernel_rfl) (by simp) ?_
            refine AllReadyH.cons rfl (fun K hK => ?_) ?_
            · go_simp
              refine hK.out _ _ ?_ (fun hHeld => ?_)
              · (try dsimp only); (first | go_keep | exact ⟨x4, x3, x2⟩ | exact ⟨z4, z3, z2⟩)
              clear hK K
              refine wpAnyH_ready (rs := [22]) (by kernel_rfl) (by simp) ?_
              refine AllReadyH.cons rfl (fun K hK => ?_) ?_
              · ((with_reducible refine LA _ _ _ _ _ _ ?_ ?_ ?_ ?_); rfl; exact ⟨_, _, rfl, rfl, rfl⟩; rfl)
                refine hK.out _ _ ?_ (fun hHeld => ?_)
                · (try dsimp only); (first | go_keep | exact ⟨x4, x3, x2⟩ | exact ⟨z4, z3, z2⟩)
                clear hK K
                refine wpAnyH_take (i := 23) (oi := _) (v := ?_) rfl (by kernel_rfl) (by kernel_rfl) (by kernel_rfl) (fun _ _ _ h => h) (Or.inl ⟨by rfl, ?_⟩) (by assumption) ?_
                rotate_left
                · intro w' hSw; (try dsimp only at hSw); go_simp; (try with_reducible rfl)
                simp only [Act.put, List.setIfInBounds_toArray, List.set_cons_zero, List.set_cons_succ]
                refine wpAnyH_take (i := 24) (oi := _) (v := ?_) rfl (by kernel_rfl) (by kernel_rfl) (by kernel_rfl) (fun _ _ _ h => h) (Or.inl ⟨by rfl, ?_⟩) (by assumption) ?_
                rotate_left
                · intro w' hSw; (try dsimp only at hSw); go_simp; (try with_reducible rfl)
                simp only [Act.put, List.setIfInBounds_toArray, List.set_cons_zero, List.set_cons_succ]
                refine wpAnyH_ready (rs := [25]) (by kernel_rfl) (by simp) ?_
                refine AllReadyH.cons rfl (fun K hK => ?_) ?_
                · go_simp
                  refine hK.out _ _ ?_ (fun hHeld => ?_)
                  · (try dsimp only); (first | go_keep | exact ⟨x4, x3, x2⟩ | exact ⟨z4, z3, z2⟩)
                  clear hK K
                  refine wpAnyH_done (by kernel_rfl) ?_ _
                  go_wp2
                  go_roundw
                  case rel => exact ⟨j + 1, _, _, by omega, by go_num, FIN⟩
                  case measure => simp [intOf]; omega
                exact AllReadyH.nil
              exact AllReadyH.nil
            exact AllReadyH.nil
          exact AllReadyH.nil
        exact AllReadyH.nil
      refine AllReadyH.cons rfl (fun K hK => ?_) ?_
      · go_simp
        refine hK.out _ _ ?_ (fun hHeld => ?_)
        · (try dsimp only); (first | go_keep | exact ⟨x4, x3, x2⟩ | exact ⟨z4, z3, z2⟩)
        clear hK K
        refine wpAnyH_ready (rs := [16, 19]) (by kernel_rfl) (by simp) ?_
        refine AllReadyH.cons rfl (fun K hK => ?_) ?_
        · go_simp
          refine hK.out _ _ ?_ (fun hHeld => ?_)
          · (try dsimp only); (first | go_keep | exact ⟨x4, x3, x2⟩ | exact ⟨z4, z3, z2⟩)
          clear hK K
          refine wpAnyH_ready (rs := [19]) (by kernel_rfl) (by simp) ?_
          refine AllReadyH.cons rfl (fun K hK => ?_) ?_
          · go_simp
            refine hK.out _ _ ?_ (fun hHeld => ?_)
            · (try dsimp only); (first | go_keep | exact ⟨x4, x3, x2⟩ | exact ⟨z4, z3, z2⟩)
            clear hK K
            refine wpAnyH_take (i := 20) (oi := _) (v := ?_) rfl (by kernel_rfl) (by kernel_rfl) (by kernel_rfl) (fun _ _ _ h => h) (Or.inl ⟨by rfl, ?_⟩) (by assumption) ?_
            rotate_left
            · intro w' hSw; (try dsimp only at hSw); go_simp; (try with_reducible rfl)
            simp only [Act.put, List.setIfInBounds_toArray, List.set_cons_zero, List.set_cons_succ]
            refine wpAnyH_ready (rs := [21]) (by kernel_rfl) (by simp) ?_
            refine AllReadyH.cons rfl (fun K hK => ?_) ?_
            · go_simp
              refine hK.out _ _ ?_ (fun hHeld => ?_)
              · (try dsimp only); (first | go_keep | exact ⟨x4, x3, x2⟩ | exact ⟨z4, z3, z2⟩)
              clear hK K
              refine wpAnyH_ready (rs := [22]) (by kernel_rfl) (by simp) ?_
              refine AllReadyH.cons rfl (fun K hK => ?_) ?_
              · ((with_reducible refine LA _ _ _ _ _ _ ?_ ?_ ?_ ?_); rfl; exact ⟨_, _, rfl, rfl, rfl⟩; rfl)
                refine hK.out _ _ ?_ (fun hHeld => ?_)
                · (try dsimp only); (first | go_keep | exact ⟨x4, x3, x2⟩ | exact ⟨z4, z3, z2⟩)
                clear hK K
                refine wpAnyH_take (i := 23) (oi := _) (v := ?_) rfl (by kernel_rfl) (by kernel_rfl) (by kernel_rfl) (fun _ _ _ h => h) (Or.inl ⟨by rfl, ?_⟩) (by assumption) ?_
                rotate_left
                · intro w' hSw; (try dsimp only at hSw); go_simp; (try with_reducible rfl)
                simp only [Act.put, List.setIfInBounds_toArray, List.set_cons_zero, List.set_cons_succ]
                refine wpAnyH_take (i := 24) (oi := _) (v := ?_) rfl (by kernel_rfl) (by kernel_rfl) (by kernel_rfl) (fun _ _ _ h => h) (Or.inl ⟨by rfl, ?_⟩) (by assumption) ?_
                rotate_left
                · intro w' hSw; (try dsimp only at hSw); go_simp; (try with_reducible rfl)
                simp only [Act.put, List.setIfInBounds_toArray, List.set_cons_zero, List.set_cons_succ]
                refine wpAnyH_ready (rs := [25]) (by kernel_rfl) (by simp) ?_
                refine AllReadyH.cons rfl (fun K hK => ?_) ?_
                · go_simp
                  refine hK.out _ _ ?_ (fun hHeld => ?_)
                  · (try dsimp only); (first | go_keep | exact ⟨x4, x3, x2⟩ | exact ⟨z4, z3, z2⟩)
                  clear hK K
                  refine wpAnyH_done (by kernel_rfl) ?_ _
                  go_wp2
                  go_roundw
                  case rel => exact ⟨j + 1, _, _, by omega, by go_num, FIN⟩
                  case measure => simp [intOf]; omega
                exact AllReadyH.nil
              exact AllReadyH.nil
            exact AllReadyH.nil
          exact AllReadyH.nil
        refine AllReadyH.cons rfl (fun K hK => ?_) ?_
        · go_simp
          refine hK.out _ _ ?_ (fun hHeld => ?_)
          · (try dsimp only); (first | go_keep | exact ⟨x4, x3, x2⟩ | exact ⟨z4, z3, z2⟩)
          clear hK K
          refine wpAnyH_take (i := 20) (oi := _) (v := ?_) rfl (by kernel_rfl) (by kernel_rfl) (by kernel_rfl) (fun _ _ _ h => h) (Or.inl ⟨by rfl, ?_⟩) (by assumption) ?_
          rotate_left
          · intro w' hSw; (try dsimp only at hSw); go_simp; (try with_reducible rfl)
          simp only [Act.put, List.setIfInBounds_toArray, List.set_cons_zero, List.set_cons_succ]
          refine wpAnyH_ready (rs := [16, 21]) (by kernel_rfl) (by simp) ?_
          refine AllReadyH.cons rfl (fun K hK => ?_) ?_
          · go_simp
            refine hK.out _ _ ?_ (fun hHeld => ?_)
            · (try dsimp only); (first | go_keep | exact ⟨x4, x3, x2⟩ | exact ⟨z4, z3, z2⟩)
            clear hK K
            refine wpAnyH_ready (rs := [21]) (by kernel_rfl) (by simp) ?_
            refine AllReadyH.cons rfl (fun K hK => ?_) ?_
            · go_simp
              refine hK.out _ _ ?_ (fun hHeld => ?_)
              · (try dsimp only); (first | go_keep | exact ⟨x4, x3, x2⟩ | exact ⟨z4, z3, z2⟩)
              clear hK K
              refine wpAnyH_ready (rs := [22]) (by kernel_rfl) (by simp) ?_
              refine AllReadyH.cons rfl (fun K hK => ?_) ?_
              · ((with_reducible refine LA _ _ _ _ _ _ ?_ ?_ ?_ ?_); rfl; exact ⟨_, _, rfl, rfl, rfl⟩; rfl)
                refine hK.out _ _ ?_ (fun hHeld => ?_)
                · (try dsimp only); (first | go_keep | exact ⟨x4, x3, x2⟩ | exact ⟨z4, z3, z2⟩)
                clear hK K
                refine wpAnyH_take (i := 23) (oi := _) (v := ?_) rfl (by kernel_rfl) (by kernel_rfl) (by kernel_rfl) (fun _ _ _ h => h) (Or.inl ⟨by rfl, ?_⟩) (by assumption) ?_
                rotate_left
                · intro w' hSw; (try dsimp only at hSw); go_simp; (try with_reducible rfl)
                simp only [Act.put, List.setIfInBounds_toArray, List.set_cons_zero, List.set_cons_succ]
                refine wpAnyH_take (i := 24) (oi := _) (v := ?_) rfl (by kernel_rfl) (by kernel_rfl) (by kernel_rfl) (fun _ _ _ h => h) (Or.inl ⟨by rfl, ?_⟩) (by assumption) ?_
                rotate_left
                · intro w' hSw; (try dsimp only at hSw); go_simp; (try with_reducible rfl)
                simp only [Act.put, List.setIfInBounds_toArray, List.set_cons_zero, List.set_cons_succ]
                refine wpAnyH_ready (rs := [25]) (by kernel_rfl) (by simp) ?_
                refine AllReadyH.cons rfl (fun K hK => ?_) ?_
                · go_simp
                  refine hK.out _ _ ?_ (fun hHeld => ?_)
                  · (try dsimp only); (first | go_keep | exact ⟨x4, x3, x2⟩ | exact ⟨z4, z3, z2⟩)
                  clear hK K
                  refine wpAnyH_done (by kernel_rfl) ?_ _
                  go_wp2
                  go_roundw
                  case rel => exact ⟨j + 1, _, _, by omega, by go_num, FIN⟩
                  case measure => simp [intOf]; omega
                exact AllReadyH.nil
              exact AllReadyH.nil
            exact AllReadyH.nil
          refine AllReadyH.cons rfl (fun K hK => ?_) ?_
          · go_simp
            refine hK.out _ _ ?_ (fun hHeld => ?_)
            · (try dsimp only); (first | go_keep | exact ⟨x4, x3, x2⟩ | exact ⟨z4, z3, z2⟩)
            clear hK K
            refine wpAnyH_ready (rs := [16]) (by kernel_rfl) (by simp) ?_
            refine AllReadyH.cons rfl (fun K hK => ?_) ?_
            · go_simp
              refine hK.out _ _ ?_ (fun hHeld => ?_)
              · (try dsimp only); (first | go_keep | exact ⟨x4, x3, x2⟩ | exact ⟨z4, z3, z2⟩)
              clear hK K
              refine wpAnyH_ready (rs := [22]) (by kernel_rfl) (by simp) ?_
              refine AllReadyH.cons rfl (fun K hK => ?_) ?_
              · ((with_reducible refine LA _ _ _ _ _ _ ?_ ?_ ?_ ?_); rfl; exact ⟨_, _, rfl, rfl, rfl⟩; rfl)
                refine hK.out _ _ ?_ (fun hHeld => ?_)
                · (try dsimp only); (first | go_keep | exact ⟨x4, x3, x2⟩ | exact ⟨z4, z3, z2⟩)
                clear hK K
                refine wpAnyH_take (i := 23) (oi := _) (v := ?_) rfl (by kernel_rfl) (by kernel_rfl) (by kernel_rfl) (fun _ _ _ h => h) (Or.inl ⟨by rfl, ?_⟩) (by assumption) ?_
                rotate_left
                · intro w' hSw; (try dsimp only at hSw); go_simp; (try with_reducible rfl)
                simp only [Act.put, List.setIfInBounds_toArray, List.set_cons_zero, List.set_cons_succ]
                refine wpAnyH_take (i := 24) (oi := _) (v := ?_) rfl (by kernel_rfl) (by kernel_rfl) (by kernel_rfl) (fun _ _ _ h => h) (Or.inl ⟨by rfl, ?_⟩) (by assumption) ?_
                rotate_left
                · intro w' hSw; (try dsimp only at hSw); go_simp; (try with_reducible rfl)
                simp only [Act.put, List.setIfInBounds_toArray, List.set_cons_zero, List.set_cons_succ]
                refine wpAnyH_ready (rs := [25]) (by kernel_rfl) (by simp) ?_
                refine AllReadyH.cons rfl (fun K hK => ?_) ?_
                · go_simp
                  refine hK.out _ _ ?_ (fun hHeld => ?_)
                  · (try dsimp only); (first | go_keep | exact ⟨x4, x3, x2⟩ | exact ⟨z4, z3, z2⟩)
                  clear hK K
                  refine wpAnyH_done (by kernel_rfl) ?_ _
                  go_wp2
                  go_roundw
                  case rel => exact ⟨j + 1, _, _, by omega, by go_num, FIN⟩
                  case measure => simp [intOf]; omega
                exact AllReadyH.nil
              exact AllReadyH.nil
            exact AllReadyH.nil
          exact AllReadyH.nil
        exact AllReadyH.nil
      exact AllReadyH.nil
    · obtain rfl : j = 1 := by omega
      have HB := HT.out
      unfold lnB at HB
      simp only [Bool.and_eq_true] at HB
      obtain ⟨hs, hb⟩ := HB
      have c4 : wr.cell? ⟨wa.heap.size + 1 + 1 + 1 + 1, 1, none⟩ = some (.slice (some ⟨wa.heap.size + 1 + 1 + 1, 0, none⟩) 1 1) := cell_of_cells LL.out.b4 1
      have c0 : wr.cell? ⟨wa.heap.size + 1 + 1 + 1 + 1, 0, none⟩ = some (.slice (some ⟨wa.heap.size, 0, none⟩) 1 1) := cell_of_cells LL.out.b4 0
      have BW : Hid (Below w.heap.size w wr) := B0.out.trans (LL.out.bl.mono B0.out.size)
      cases hbt : buildT (lnR k 1) with
      | error e =>
        obtain ⟨n, x⟩ := e
        rw [hbt] at hb
        simp only [Bool.and_eq_true, decide_eq_true_eq] at hb
        obtain ⟨h64, hn, hx⟩ := hb
        subst hx
        have hn' := size0 hn
        subst hn'
        omega
      | ok g =>
        rw [hbt] at hb
        obtain ⟨st, names, rules⟩ := g
        simp only [Bool.and_eq_true, decide_eq_true_eq] at hb
        obtain ⟨h64, hr⟩ := hb
        match rules, hr, hbt with
        | [⟨hd, [⟨ng, sq⟩]⟩], hr, hbt =>
          simp only [decide_eq_true_eq] at hr
          have BO := long_ok hbt hs _ _ wr LL.out.raw.1 LL.out.raw.2
          rw [hr] at BO
          have h64' : (k : Int) * 1 ≤ 64 := by omega
          clear hbt hs hr
          go_wp2_with (first | (go_at_call 10; refine BO.mono ?_; rintro e w5 ⟨p1, c1, gR, oR, c2, gC, oC, cC, pS, cS, rfl, a1, a2, l1, l2, b5⟩) | (go_at_call 11; refine (num_any _ _).mono ?_; rintro e wn ⟨rfl, rfl⟩))
          go_ret
          exact ⟨by simp [go_sem], (BW.out.trans (b5.out.mono BW.out.size)).alloc (Nat.le_trans BW.out.size b5.out.size) _⟩
end Go.Proofs.Yteafdfalgeeheaa
