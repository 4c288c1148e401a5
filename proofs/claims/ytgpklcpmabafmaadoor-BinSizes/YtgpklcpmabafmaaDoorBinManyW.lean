/- BinMany, walked over what its callees do. -/
import Derived.Test.YtgpklcpmabafmaaDoorBinV
import Derived.Test.YtgpklcpmabafmaaDoorBinU
import Derived.Deep.CutRange
namespace Go.Proofs.YtgpklcpmabafmaaDoor
set_option linter.unusedVariables false
set_option linter.unusedSimpArgs false
open Go.ChangeShapes Go.WideShapes Go.ChangeAt Go.RowKit

def lenM (k j : Nat) : Nat := min (k - 20 * j) 20 + 2
def csM (k t : Nat) : List Cn := (List.range t).map fun j => ⟨false, List.replicate (lenM k j) ⟨0, 0, 0⟩⟩
theorem csM_succ (k t : Nat) : csM k (t + 1) = csM k t ++ [⟨false, List.replicate (lenM k t) ⟨0, 0, 0⟩⟩] := by simp [csM, List.range_succ]
theorem csM_len (k t : Nat) : (csM k t).length = t := by simp [csM]
theorem undrewV {w w' : World} {b : Option Nat} (h : w.drew.grownBy w' b) : w.grownBy w' b := ⟨h.os, h.tape, h.output, h.size, h.block⟩
def grM (k : Nat) : Gr := ⟨0, [⟨#[83]⟩], [⟨0, csM k 4⟩]⟩
set_option maxHeartbeats 4000000 in
set_option maxRecDepth 100000 in
theorem binMany_core (a : Int) (r : Nat) (hr : r ≤ 3) (ea : bits .and .i64 a 3 = (r : Int)) (W : World)
    (KA : ∀ w, Calls Tryd.prog 6 #[] w fun e w' => e = .returned (.bool true) ∧ Hid (Below w.heap.size w w'))
    (KN : ∀ (n : Int) w, Calls Tryd.prog 8 #[.int .i64 n] w fun e w' => e = .returned (.int .i64 n) ∧ w = w')
    (KB : ∀ v1 v2 w, GrIs w Any v1 v2 (grM (62 + r)) → Calls Tryd.prog 7 #[.agg #[.int .i64 0, v1, v2]] w fun e w' => ∃ z p n c p2 n2 c2, e = .returned (.tuple #[.agg #[.int .i64 0, .slice p n c, .slice p2 n2 c2], .int .i64 z]) ∧ (r ≤ 1 ∧ z = 0 ∧ n = 63 + r ∨ 1 < r ∧ z = 1401 ∧ n = 0) ∧ Hid (Below w.heap.size w w')) :
    Calls Tryd.prog 5 #[.int .i64 a] W fun e W' => e = .returned (.bool true) ∧ Below W.heap.size W W' := by
  have HKB := (show Hid _ from KB)
  clear KB
  go_enter Tryd.func5, Tryd.ntmps5
  go_upto_region 6 with (go_at_call 6; refine (KA _).mono ?_; rintro e w1 ⟨rfl, b1⟩)
  have RV0 : Hid (RV w1 w1.heap.size (fun _ => False) 0 (csM (62 + r) 0) [] (.slice none 0 0) (w1.alloc (.cells #[.int .i64 0, .slice none 0 0] 35))) := RV.new w1 0
  obtain ⟨nr, hnr⟩ : ∃ nr, nr = w1.heap.size := ⟨_, rfl⟩
  rw [← hnr] at RV0 ⊢
  have HB1 : Hid (Below W.heap.size W w1) := b1
  clear hnr b1 ea
  go_loopw [4] (fun x wr => ∃ (t : Nat) (z : Int), t ≤ 4 ∧ x = .int .i64 z ∧ 0 ≤ z ∧ z ≤ 65 ∧ Hid (z = ((62 + r - 20 * t : Nat) : Int)) ∧ ∃ Fc us c, Hid (RV w1 nr Fc 0 (csM (62 + r) t) us c wr)) (fun x _ => (intOf x).toNat)
  case atStart => exact ⟨0, 62 + (r : Int), by omega, rfl, by omega, by omega, by show _ = _; omega, _, _, _, RV0⟩
  case round =>
    obtain ⟨t, z, ht, rfl, hz0, hz1, HZ, Fc, us, c, RVt⟩ := hrel
    obtain ⟨Y, hY⟩ : ∃ Y, Y = wr := ⟨_, rfl⟩
    subst hY
    by_cases hp : 0 < z
    · have ht3 : t < 4 := by
        rcases Nat.lt_or_ge t 4 with h | h
        · exact h
        · have := HZ.out; omega
      obtain ⟨m, q, hm, hmq, hq, HL, HN⟩ : ∃ m q : Nat, min z 20 = (m : Int) ∧ (q : Int) = (m : Int) + 2 ∧ q ≤ 22 ∧ Hid (lenM (62 + r) t = q) ∧ Hid (0 ≤ z - (m : Int) ∧ 1 ≤ m ∧ z - (m : Int) = ((62 + r - 20 * (t + 1) : Nat) : Int)) := by
        have hz := HZ.out
        have hmin : min z 20 = ((min (62 + r - 20 * t) 20 : Nat) : Int) := by omega
        refine ⟨min (62 + r - 20 * t) 20, lenM (62 + r) t, hmin, ?_, ?_, rfl, ?_⟩
        · unfold lenM; omega
        · unfold lenM; omega
        · show _ ∧ _; omega
      have mk1 : ∀ w, (Instr.makeSlice 28 (.int .i64 ((m : Int) + 2)) (.int .i64 ((m : Int) + 2))).run Tryd.prog w = .ok (.slice (some ⟨w.heap.size, 0, none⟩) q q) (w.alloc (.cells (madeCells #[.int .i64 0, .int .i64 0, .int .i64 0] (q * 3)) 32)) := fun w => by
        have h := make_qV q (by omega) w
        rw [hmq] at h
        exact h
      have oc := RVt.out.oc
      rw [csM_len] at oc
      obtain ⟨pc, capc, hvc⟩ := row_slice oc
      subst hvc
      have OC : Hid (Y.ownsRow w1.heap.size 30 2 (.slice pc t capc) t (cnsV (csM (62 + r) t) us)) := oc
      have RNk : Hid ((Value.slice pc t capc).ownBlock ≠ some nr) := row_no oc (by decide) RVt.out.vb
      have hgl : nr < Y.heap.size := block_lt RVt.out.vb
      have hwz : w1.heap.size ≤ Y.heap.size := RVt.out.bl.size
      have r1 : Y.cell? ⟨nr, 1, none⟩ = some (.slice pc t capc) := cellV RVt.out.vb 1
      have r2 : (Y.alloc (.cells (madeCells #[.int .i64 0, .int .i64 0, .int .i64 0] (q * 3)) 32)).cell? ⟨nr, 1, none⟩ = some (.slice pc t capc) := (World.cell?_alloc_past _ _ _ hgl).trans r1
      have r3 : ((Y.alloc (.cells (madeCells #[.int .i64 0, .int .i64 0, .int .i64 0] (q * 3)) 32)).alloc (.cells #[.bool false, .slice (some ⟨Y.heap.size, 0, none⟩) q q] 30)).cell? ⟨nr, 1, none⟩ = some (.slice pc t capc) := (World.cell?_alloc_past _ _ _ (by simp; omega)).trans r2
      have FZ : Hid (Y.frozen? ⟨nr, 1, none⟩ = false) := frzV RVt.out.vb 1
      have NB : Hid (((Y.alloc (.cells (madeCells #[.int .i64 0, .int .i64 0, .int .i64 0] (q * 3)) 32)).alloc (.cells #[.bool false, .slice (some ⟨Y.heap.size, 0, none⟩) q q] 30)).heap[Y.heap.size + 1]? = some (.cells #[.bool false, .slice (some ⟨Y.heap.size, 0, none⟩) q q] 30)) := new2V _ _ _
      obtain ⟨i2, hk0', hk1, hk2', hk3⟩ := info_parts Tryd.infoConV
      have HI2 : Hid (Tryd.prog.info? 30 = some i2 ∧ i2.zero = some (.agg #[.bool false, .slice none 0 0]) ∧ i2.size = 2 ∧ i2.bytes = 32) := ⟨hk0', hk1, hk2', hk3⟩
      have MXk : Hid (t + 1 ≤ maxLen) := by show _ ≤ _; unfold maxLen; omega
      have BYk : Hid ((t + 1) * 32 ≤ 140737488355328) := by show _ ≤ _; omega
      have IS : Hid (IsSys (Y.alloc (.cells (madeCells #[.int .i64 0, .int .i64 0, .int .i64 0] (q * 3)) 32)) (fun b => b = Y.heap.size) (.slice (some ⟨Y.heap.size, 0, none⟩) q q) (List.replicate q ⟨0, 0, 0⟩)) := made_symV rfl (heap_alloc_new _ _) (by omega)
      have hpD : decide (0 < z) = true := decide_eq_true hp
      have HQ : Hid ((q : Int) = (m : Int) + 2) := hmq
      have hwr : IntKind.i64.wrap ((m : Int) + 2) = (m : Int) + 2 := by rw [IntKind.wrap_i64]; omega
      clear oc hk0' hk1 hk2' hk3 hmq
      go_upto_region 9 with fail
      go_region_law (first | (refine step_append_lies _ (by rfl) _ _ _ (by rfl) w1.heap.size 30 i2 _ 2 32 Tryd.underlying33 HI2.out.1 HI2.out.2.1 HI2.out.2.2.1 HI2.out.2.2.2 rfl (by omega) (.slice pc t capc) t (cnsV (csM (62 + r) t) us) (by rfl) ((OC.out.alloc _).alloc _) ⟨Y.heap.size + 1, 0, none⟩ 1 1 [.bool false, .slice (some ⟨Y.heap.size, 0, none⟩) q q] (by rfl) (by rfl) (World.news_of_block (cs := #[.bool false, .slice (some ⟨Y.heap.size, 0, none⟩) q q]) (t := 30) (fr := (0, 0)) NB.out) (by simp [Value.oneCell']) (by omega) MXk.out BYk.out (Nat.le_trans hwz (Nat.le_trans (le_alloc _ _) (le_alloc _ _))) (Y.heap.size + 1 + 1) (by simp) ?_; intro gg cap1 w2 hown1 hgrow hat hltg; have x1 : w2.cell? ⟨nr, 1, none⟩ = some (.slice pc t capc) := (hgrow.cell_far ⟨nr, 1, none⟩ (by simp; omega) (Ne.symm RNk.out)).trans r3; have y1 : w2.frozen? ⟨nr, 1, none⟩ = false := (hgrow.frozen_far ⟨nr, 1, none⟩ (by simp; omega) (Ne.symm RNk.out)).trans ((World.frozen?_alloc_past _ _ _ (by simp; omega)).trans ((World.frozen?_alloc_past _ _ _ hgl).trans FZ.out))))
      all_goals
        have RVn : Hid (RV w1 nr (fun b => Fc b ∨ b = Y.heap.size) 0 (csM (62 + r) (t + 1)) (us ++ [.slice (some ⟨Y.heap.size, 0, none⟩) q q]) (.slice (some ⟨gg, 0, none⟩) (t + 1) cap1) (w2.setCell ⟨nr, 1, none⟩ (.slice (some ⟨gg, 0, none⟩) (t + 1) cap1))) := by
          show RV _ _ _ _ _ _ _ _
          rw [csM_succ, HL.out]
          exact RVt.out.moreG (bel1 _ _) IS.out (fun b e => by rw [e]; exact ⟨Nat.le_refl _, by simp⟩) (csM_len _ t) (undrewV hgrow) hown1 (by simpa using hat)
        clear hgrow hown1 hat x1 y1
        clear hm hwr mk1 r1 r2 r3 hgl hwz hpD
        go_wp2
        go_roundw
        case rel => exact ⟨t + 1, z - (m : Int), by omega, rfl, HN.out.1, by have := HN.out; omega, HN.out.2.2, _, _, _, RVn⟩
        case measure => have := HN.out; simp [intOf]; omega
    · have ht4 : t = 4 := by have := HZ.out; omega
      subst ht4
      have hpD : decide (0 < z) = false := decide_eq_false hp
      have oc := RVt.out.oc
      rw [csM_len] at oc
      obtain ⟨pc, capc, hvc⟩ := row_slice oc
      subst hvc
      have hgl : nr < Y.heap.size := block_lt RVt.out.vb
      have GRM : Hid (GrIs ((Y.alloc (.cells #[.string ⟨#[83]⟩] 9)).alloc (.cells #[.int .i64 0, .slice pc 4 capc] 35)) Any (.slice (some ⟨Y.heap.size, 0, none⟩) 1 1) (.slice (some ⟨Y.heap.size + 1, 0, none⟩) 1 1) (grM (62 + r))) := RVt.out.one _
      have r0 : (Y.alloc (.cells #[.string ⟨#[83]⟩] 9)).cell? ⟨nr, 0, none⟩ = some (.int .i64 0) := (World.cell?_alloc_past _ _ _ hgl).trans (cellV RVt.out.vb 0)
      have r1 : (Y.alloc (.cells #[.string ⟨#[83]⟩] 9)).cell? ⟨nr, 1, none⟩ = some (.slice pc 4 capc) := (World.cell?_alloc_past _ _ _ hgl).trans (cellV RVt.out.vb 1)
      have BX : Hid (Below W.heap.size W ((Y.alloc (.cells #[.string ⟨#[83]⟩] 9)).alloc (.cells #[.int .i64 0, .slice pc 4 capc] 35))) := ((HB1.out.trans (RVt.out.bl.mono HB1.out.size)).alloc (Nat.le_trans HB1.out.size RVt.out.bl.size) _).alloc (Nat.le_trans HB1.out.size (Nat.le_trans RVt.out.bl.size (le_alloc _ _))) _
      clear oc hz1 HZ RVt
      go_upto_region 11 with (go_at_call 7; refine (HKB.out _ _ _ GRM.out).mono ?_; rintro e w2 ⟨zz, p, n, cp, pu, nu, cu, rfl, hcase, b2⟩; have B2 : Hid (Below W.heap.size W w2) := BX.out.trans (b2.out.mono BX.out.size))
      rcases hcase with ⟨h1, rfl, rfl⟩ | ⟨h1, rfl, rfl⟩
      · have e1 : decide ((64 : Int) < 62 + (r : Int) + 1) = false := decide_eq_false (by omega)
        have e2 : wrap64 (62 + (r : Int) + 1) = 62 + (r : Int) + 1 := by unfold wrap64; omega
        have e3 : IntKind.i64.wrap (62 + (r : Int) + 1) = 62 + (r : Int) + 1 := by rw [IntKind.wrap_i64]; omega
        have e4 : ((63 + (r : Int)) == 62 + (r : Int) + 1) = true := by rw [beq_iff_eq]; omega
        go_wp2_with (go_at_call 8; refine (KN _ _).mono ?_; rintro e wn ⟨rfl, rfl⟩)
        go_ret
        exact ⟨rfl, B2.out.alloc B2.out.size _⟩
      · have e1 : decide ((64 : Int) < 62 + (r : Int) + 1) = true := decide_eq_true (by omega)
        have e2 : wrap64 (62 + (r : Int) + 1) = 62 + (r : Int) + 1 := by unfold wrap64; omega
        have e3 : IntKind.i64.wrap (62 + (r : Int) + 1) = 62 + (r : Int) + 1 := by rw [IntKind.wrap_i64]; omega
        go_wp2_with (go_at_call 8; refine (KN _ _).mono ?_; rintro e wn ⟨rfl, rfl⟩)
        go_ret
        exact ⟨rfl, B2.out.alloc B2.out.size _⟩
end Go.Proofs.YtgpklcpmabafmaaDoor
