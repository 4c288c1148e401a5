/- FirstsRows, walked over what its callees do. -/
import Derived.Test.YtopokicdgdjgkaaFrT
import Derived.Test.YtopokicdgdjgkaaFrQ
namespace Go.Proofs.Ytopokicdgdjgkaa
set_option linter.unusedVariables false
set_option linter.unusedSimpArgs false
open Go.ChangeShapes Go.WideShapes Go.ChangeAt Go.RowKit

theorem GV.putW {W w : World} {gb : Nat} {F : Nat → Prop} {st : Int} {ns : List ByteArray} {nv o : Value} {L : List Ru} {us : List Value} (m : GV W gb F st ns nv L us o w) {ub : Nat} {X : Nat → Nat} (hu : WbAt w ub X) (hF : ¬ F ub) (hW : W.heap.size ≤ ub) (Y : Nat → Nat) : GV W gb F st ns nv L us o (setW w ub Y) := by
  have h0 := heap_setCell_same w ub 0 _ _ (.int .u64 ((Y 0 : Nat) : Int)) hu
  have h1 := heap_setCell_same _ ub 1 _ _ (.int .u64 ((Y 1 : Nat) : Int)) h0
  have h2 := heap_setCell_same _ ub 2 _ _ (.int .u64 ((Y 2 : Nat) : Int)) h1
  have m0 := m.putV hu (k := 0) (by decide) (by decide) (by decide) hF hW (.int .u64 ((Y 0 : Nat) : Int))
  have m1 := m0.putV h0 (k := 1) (by decide) (by decide) (by decide) hF hW (.int .u64 ((Y 1 : Nat) : Int))
  have m2 := m1.putV h1 (k := 2) (by decide) (by decide) (by decide) hF hW (.int .u64 ((Y 2 : Nat) : Int))
  exact m2.putV h2 (k := 3) (by decide) (by decide) (by decide) hF hW (.int .u64 ((Y 3 : Nat) : Int))
set_option maxHeartbeats 8000000 in
set_option maxRecDepth 100000 in
theorem firstsRows_core (W : World) (pv : Option Addr) (zn cv : Nat) (T : Nat → Bool) (hz8 : zn * 8 ≤ 140737488351232)
    (HNG : ∀ i, i < zn → ∀ w', Below W.heap.size W w' → ∃ g o z, pv = some ⟨g, o, none⟩ ∧ w'.cell? ⟨g, o + i, none⟩ = some (.int .i64 z) ∧ g < w'.heap.size ∧ bits .and .i64 z 1 = (if T i = true then 1 else 0))
    (k n : Nat) (hk : k = min zn 20) (hn : n = k + 1)
    (KE : ∀ v1 v2 w, GrIs w Any v1 v2 (gK T k) → Calls Try.prog 11 #[.agg #[.int .i64 0, v1, v2]] w fun e w' => ∃ b, e = .returned (.tuple #[.slice (some ⟨b, 0, none⟩) n n, .int .i64 0]) ∧ Hid (w'.cell? ⟨b, 0, none⟩ = some (.bool (openK T k))) ∧ Hid (Below w.heap.size w w'))
    (KF : ∀ v1 v2 w, GrIs w Any v1 v2 (gK T k) → Calls Try.prog 12 #[.agg #[.int .i64 0, v1, v2]] w fun e w' => ∃ b, e = .returned (.tuple #[.slice (some ⟨b, 0, none⟩) n n, .int .i64 0]) ∧ Hid (∀ j, j < 4 → w'.cell? ⟨b, j, none⟩ = some (.int .u64 ((wantK T k j : Nat) : Int))) ∧ Hid (Below w.heap.size w w'))
    (KL : ∀ v1 v2 w, GrIs w Any v1 v2 (gK T k) → Calls Try.prog 13 #[.agg #[.int .i64 0, v1, v2]] w fun e w' => ∃ b, e = .returned (.tuple #[.slice (some ⟨b, 0, none⟩) n n, .int .i64 0]) ∧ Hid ((∀ j, j < 4 → w'.cell? ⟨b, j, none⟩ = some (.int .u64 0)) ∧ w'.cell? ⟨b, 4, none⟩ = some (.bool true) ∧ w'.cell? ⟨b, k * 5 + 4, none⟩ = some (.bool true)) ∧ Hid (Below w.heap.size w w')) :
    Calls Try.prog 3 #[.slice pv zn cv] W fun e W' => e = .returned (.bool true) ∧ Below W.heap.size W W' := by
  have HKE := hid_ofF KE
  have HKF := hid_ofF KF
  have HKL := hid_ofF KL
  have HN := hid_ofF HNG
  have HNK : Hid (n = k + 1) := hn
  have hk20 : k ≤ 20 := by omega
  have hkz : k ≤ zn := by omega
  have hmn : min (zn : Int) 20 = (k : Int) := by omega
  have hmn2 : min 20 (zn : Int) = (k : Int) := by omega
  clear KE KF KL HNG hk hn
  go_enter Try.func3, Try.ntmps3
  go_upto_region 5 with (go_at_call 7; refine (awake12_any _).mono ?_; rintro e w1 ⟨rfl, b1⟩; have HB1 : Hid (Below W.heap.size W w1) := b1; clear b1)
  obtain ⟨X0, hX0⟩ : ∃ X, X = blks w1 (qvP w1.heap.size) := ⟨_, rfl⟩
  have hXX : ((((w1.alloc (.cells #[.string ⟨#[83]⟩] 9)).alloc (.cells #[.int .i64 0, .slice (some ⟨w1.heap.size, 0, none⟩) 1 1, .slice none 0 0] 27)).alloc (.cells #[.bool false, .slice none 0 0] 30)).alloc (.cells #[.int .i64 0, .slice (some ⟨w1.heap.size + 1 + 1, 0, none⟩) 1 1] 33)) = X0 := hX0.symm
  have HQ0 : Hid (QV w1 (w1.heap.size + 1) (w1.heap.size + 1 + 1 + 1) (w1.heap.size + 1 + 1) [⟨#[83]⟩] [] (.slice (some ⟨w1.heap.size, 0, none⟩) 1 1) (.slice none 0 0) X0) := by rw [hX0]; exact qv_new w1
  rw [hXX]
  clear hX0 hXX
  obtain ⟨rb, hrb⟩ : ∃ rb, rb = w1.heap.size + 1 + 1 + 1 := ⟨_, rfl⟩
  obtain ⟨cb, hcb⟩ : ∃ cb, cb = w1.heap.size + 1 + 1 := ⟨_, rfl⟩
  obtain ⟨gb, hgb⟩ : ∃ gb, gb = w1.heap.size + 1 := ⟨_, rfl⟩
  rw [← hrb, ← hcb, ← hgb] at HQ0
  rw [← hrb, ← hcb, ← hgb]
  clear hgb hrb hcb
  go_cut [5] from 26 to 28 (fun t wc => t = .int .i64 (k : Int) ∧ Hid (wc = X0))
  case first =>
    go_wp2
    all_goals go_meet
    all_goals (first | exact ⟨by congr 1; omega, rfl⟩ | skip)
  case rest =>
  obtain ⟨hc5, hwc⟩ := hcut
  subst hc5
  obtain rfl : wc = X0 := hwc.out
  clear hwc
  clear hmn hmn2
  go_wp2
  go_loopw [6] (fun x wr => ∃ (i : Nat) (nv sv : Value), i ≤ k ∧ x = .int .i64 i ∧ Hid (QV w1 gb rb cb (namesR i) (syR i) nv sv wr)) (fun x _ => k - (intOf x).toNat)
  case atStart => exact ⟨0, _, _, Nat.zero_le _, rfl, HQ0⟩
  case round =>
    clear HQ0
    obtain ⟨i, nv, sv, hi, rfl, HQ⟩ := hrel
    obtain ⟨Y, hY⟩ : ∃ Y, Y = wr := ⟨_, rfl⟩
    subst hY
    by_cases hlt : i < k
    · as_aux_lemma =>
        have hltI : (i : Int) < (k : Int) := by omega
        have hltD : decide ((i : Int) < (k : Int)) = true := decide_eq_true hltI
        obtain ⟨L, hL⟩ : ∃ L, L = i + 1 := ⟨_, rfl⟩
        have HLN : Hid ((namesR i).length = L) := by rw [hL]; exact namesR_len i
        have on := HQ.out.on
        rw [HLN.out] at on
        obtain ⟨pn, cn, hvn⟩ := row_slice on
        subst hvn
        have NR : Hid (Y.ownsRow w1.heap.size 9 1 (.slice pn L cn) L (txV (namesR i))) := on
        have hgl : gb < Y.heap.size := block_lt HQ.out.vb
        have hwV : w1.heap.size ≤ Y.heap.size := HQ.out.bl.size
        have g1 : Y.cell? ⟨gb, 1, none⟩ = some (.slice pn L cn) := cellV HQ.out.vb 1
        have RN1 : Hid ((Value.slice pn L cn).ownBlock ≠ some gb) := row_no on (by decide) HQ.out.vb
        have MR : Calls Try.prog 8 #[.int .i64 (i : Int)] Y.drew fun e w2 => e = .returned (.string (decT i)) ∧ Hid (Below Y.heap.size Y w2) ∧ w2.cell? ⟨gb, 1, none⟩ = some (.slice pn L cn) ∧ w2.frozen? ⟨gb, 1, none⟩ = false ∧ w1.heap.size ≤ w2.heap.size ∧ gb < w2.heap.size ∧ Hid (w2.ownsRow w1.heap.size 9 1 (.slice pn L cn) L (txV (namesR i))) := by
          refine (decimal_any i (by omega) _).mono ?_
          rintro e w2 ⟨rfl, hb⟩
          have hb0 : Below Y.heap.size Y Y.drew := (Below.refl _ _).drew
          have hb1 := hb0.trans hb
          exact ⟨rfl, hb1, (hb1.cell (p := ⟨_, _, none⟩) hgl).trans g1, (hb1.frozen (p := ⟨_, _, none⟩) hgl).trans (frzV HQ.out.vb 1), Nat.le_trans hwV hb1.size, Nat.lt_of_lt_of_le hgl hb1.size, row_keep NR.out hb1⟩
        have hds : ¬ 9223372036854775807 < 1 + (decT i).size := by have := dec_sizeV i; omega
        obtain ⟨is, hs0, hs1, hs2, hs3⟩ := info_parts Try.infoStrV
        have HS : Hid (Try.prog.info? 9 = some is ∧ is.zero = some (.string ⟨#[]⟩) ∧ is.size = 1 ∧ is.bytes = 16) := ⟨hs0, hs1, hs2, hs3⟩
        have MX : Hid (L + 1 ≤ maxLen) := by show _ ≤ _; unfold maxLen; omega
        have BY : Hid ((L + 1) * 16 ≤ 140737488355328) := by show _ ≤ _; omega
        clear hs0 hs1 hs2 hs3 on hL
        go_upto_region 9 with fail
        go_cut [] from 34 to 55 (fun wc => ∃ nv2, Hid (QV w1 gb rb cb (namesR (i + 1)) (syR i) nv2 sv wc))
        case first =>
          go_region_law (first | (refine step_append_lies _ (by rfl) _ _ _ (by rfl) w1.heap.size 9 is _ 1 16 Try.underlying24 HS.out.1 HS.out.2.1 HS.out.2.2.1 HS.out.2.2.2 rfl (by omega) (.slice pn L cn) L (txV (namesR i)) (by rfl) (o1.out.alloc _) ⟨w2.heap.size, 0, none⟩ 1 1 [.string (nmR i)] (by rfl) (by rfl) (World.news_of_block (cs := #[.string (nmR i)]) (t := 9) (fr := (0, 0)) (heap_alloc_new w2 _)) (by simp [Value.oneCell']) (by omega) MX.out BY.out (Nat.le_trans hW1 (le_alloc _ _)) (w2.heap.size + 1) (by simp) ?_; intro gg cap1 w3 hown1 hgrow hat hltg; have x1 : w3.cell? ⟨gb, 1, none⟩ = some (.slice pn L cn) := (hgrow.cell_far ⟨gb, 1, none⟩ (by simp; omega) (Ne.symm RN1.out)).trans ((World.cell?_alloc_past _ _ _ hR1).trans r1'); have y1 : w3.frozen? ⟨gb, 1, none⟩ = false := (hgrow.frozen_far ⟨gb, 1, none⟩ (by simp; omega) (Ne.symm RN1.out)).trans ((World.frozen?_alloc_past _ _ _ hR1).trans f1')) | (go_simp; refine MR.mono ?_; rintro e w2 ⟨rfl, b1, r1', f1', hW1, hR1, o1⟩))
          all_goals
            have FIN1 : Hid (QV w1 gb rb cb (namesR (i + 1)) (syR i) (.slice (some ⟨gg, 0, none⟩) (L + 1) cap1) sv (w3.setCell ⟨gb, 1, none⟩ (.slice (some ⟨gg, 0, none⟩) (L + 1) cap1))) := HQ.out.name b1.out HLN.out hgrow hown1
            clear hgrow hown1 hat x1 y1
            go_wp2
            go_meet
            case rel => exact ⟨_, FIN1⟩
        case rest =>
          obtain ⟨nv2, HQx⟩ := hcut
          clear HQ NR RN1 MR g1 MX BY HS hds hgl hwV
          obtain ⟨Z, hZ⟩ : ∃ Z, Z = wc := ⟨_, rfl⟩
          subst hZ
          have so := HQx.out.so
          rw [syR_len] at so
          obtain ⟨ps, cs, hvs⟩ := row_slice so
          subst hvs
          have OC : Hid (Z.ownsRow w1.heap.size 36 3 (.slice ps i cs) i (sysV (syR i))) := so
          have hrl : rb < Z.heap.size := block_lt HQx.out.rv
          have hcl : cb < Z.heap.size := block_lt HQx.out.cv
          have hwz : w1.heap.size ≤ Z.heap.size := HQx.out.bl.size
          have c1 : Z.cell? ⟨rb, 1, none⟩ = some (.slice (some ⟨cb, 0, none⟩) 1 1) := cellV HQx.out.rv 1
          have c2 : Z.cell? ⟨cb, 1, none⟩ = some (.slice ps i cs) := cellV HQx.out.cv 1
          have d1 : (Z.alloc (.cells #[.int .i64 ((i : Int) + 1), .int .i64 0, .int .i64 0] 36)).cell? ⟨rb, 1, none⟩ = some (.slice (some ⟨cb, 0, none⟩) 1 1) := (World.cell?_alloc_past _ _ _ hrl).trans c1
          have d2 : (Z.alloc (.cells #[.int .i64 ((i : Int) + 1), .int .i64 0, .int .i64 0] 36)).cell? ⟨cb, 1, none⟩ = some (.slice ps i cs) := (World.cell?_alloc_past _ _ _ hcl).trans c2
          have F2 : Hid ((Z.alloc (.cells #[.int .i64 ((i : Int) + 1), .int .i64 0, .int .i64 0] 36)).frozen? ⟨cb, 1, none⟩ = false) := (World.frozen?_alloc_past _ _ _ hcl).trans (frzV HQx.out.cv 1)
          have RNr : Hid ((Value.slice ps i cs).ownBlock ≠ some rb) := row_no so (by decide) HQx.out.rv
          have RNc : Hid ((Value.slice ps i cs).ownBlock ≠ some cb) := row_no so (by decide) HQx.out.cv
          obtain ⟨iy, hy0, hy1, hy2, hy3⟩ := info_parts Try.infoSymV
          have HI : Hid (Try.prog.info? 36 = some iy ∧ iy.zero = some (.agg #[.int .i64 0, .int .i64 0, .int .i64 0]) ∧ iy.size = 3 ∧ iy.bytes = 24) := ⟨hy0, hy1, hy2, hy3⟩
          have MX : Hid (i + 1 ≤ maxLen) := by show _ ≤ _; unfold maxLen; omega
          have BY : Hid ((i + 1) * 24 ≤ 140737488355328) := by show _ ≤ _; omega
          have hw1 : wrap64 ((i : Int) + 1) = (i : Int) + 1 := by unfold wrap64; omega
          have hw2 : IntKind.i64.wrap ((i : Int) + 1) = (i : Int) + 1 := by rw [IntKind.wrap_i64]; omega
          clear so hy0 hy1 hy2 hy3
          go_upto_region 10 with fail
          go_region_law (first | (refine step_append_lies _ (by rfl) _ _ _ (by rfl) w1.heap.size 36 iy _ 3 24 Try.underlying28 HI.out.1 HI.out.2.1 HI.out.2.2.1 HI.out.2.2.2 rfl (by omega) (.slice ps i cs) i (sysV (syR i)) (by rfl) (OC.out.alloc _) ⟨Z.heap.size, 0, none⟩ 1 1 [.int .i64 ((i : Int) + 1), .int .i64 0, .int .i64 0] (by rfl) (by rfl) (World.news_of_block (cs := #[.int .i64 ((i : Int) + 1), .int .i64 0, .int .i64 0]) (t := 36) (fr := (0, 0)) (heap_alloc_new Z _)) (by simp [Value.oneCell']) (by omega) MX.out BY.out (Nat.le_trans hwz (le_alloc _ _)) (Z.heap.size + 1) (by simp) ?_; intro gg cap1 w2 hown1 hgrow hat hltg; have x1 : w2.cell? ⟨rb, 1, none⟩ = some (.slice (some ⟨cb, 0, none⟩) 1 1) := (hgrow.cell_far ⟨rb, 1, none⟩ (by simp; omega) (Ne.symm RNr.out)).trans d1; have y1 : w2.frozen? ⟨cb, 1, none⟩ = false := (hgrow.frozen_far ⟨cb, 1, none⟩ (by simp; omega) (Ne.symm RNc.out)).trans F2.out; have x2 : w2.cell? ⟨cb, 1, none⟩ = some (.slice ps i cs) := (hgrow.cell_far ⟨cb, 1, none⟩ (by simp; omega) (Ne.symm RNc.out)).trans d2))
          all_goals
            have FIN : Hid (QV w1 gb rb cb (namesR (i + 1)) (syR (i + 1)) nv2 (.slice (some ⟨gg, 0, none⟩) (i + 1) cap1) (w2.setCell ⟨cb, 1, none⟩ (.slice (some ⟨gg, 0, none⟩) (i + 1) cap1))) := HQx.out.sym (s := ⟨((i + 1 : Nat) : Int), 0, 0⟩) (bel1 _ _) (syR_len i) ⟨hgrow.os, hgrow.tape, hgrow.output, hgrow.size, hgrow.block⟩ hown1
            clear hgrow hown1 hat x1 y1 x2 c1 c2 d1 d2
            go_wp2
            go_roundw
            case rel => exact ⟨i + 1, _, _, by omega, by go_num, FIN⟩
            case measure => simp [intOf]; omega
    · --SE
      obtain rfl : k = i := by omega
      have hltI : ¬ (k : Int) < (k : Int) := by omega
      have hltD : decide ((k : Int) < (k : Int)) = false := decide_eq_false hltI
      have e0 : Y.cell? ⟨rb, 0, none⟩ = some (.int .i64 0) := cellV HQ.out.rv 0
      have e1 : Y.cell? ⟨rb, 1, none⟩ = some (.slice (some ⟨cb, 0, none⟩) 1 1) := cellV HQ.out.rv 1
      have hgl : gb < Y.heap.size := block_lt HQ.out.vb
      have e2 : (Y.alloc (.cells #[.int .i64 0, .slice (some ⟨cb, 0, none⟩) 1 1] 33)).cell? ⟨gb, 2, none⟩ = some (.slice none 0 0) := (World.cell?_alloc_past _ _ _ hgl).trans (cellV HQ.out.vb 2)
      have e3 : (Y.alloc (.cells #[.int .i64 0, .slice (some ⟨cb, 0, none⟩) 1 1] 33)).frozen? ⟨gb, 2, none⟩ = false := (World.frozen?_alloc_past _ _ _ hgl).trans (frzV HQ.out.vb 2)
      have GV0 : Hid (∃ F o us, GV w1 gb F 0 (namesR k) nv (rulesK T k 0) us o ((Y.alloc (.cells #[.int .i64 0, .slice (some ⟨cb, 0, none⟩) 1 1] 33)).setCell ⟨gb, 2, none⟩ (.slice (some ⟨Y.heap.size, 0, none⟩) 1 1))) := by
        obtain ⟨F, h⟩ := HQ.out.fin
        exact ⟨F, _, _, h⟩
      have WYY : Hid (w1.heap.size ≤ Y.heap.size) := HQ.out.bl.size
      clear hlt hi HQ
      go_upto_region 14 with fail
      clear hltI hltD
      obtain ⟨V0, hV0⟩ : ∃ V, V = ((Y.setCell ⟨gb, 2, none⟩ (.slice (some ⟨Y.heap.size, 0, none⟩) 1 1)).alloc (.cells #[.int .i64 0, .slice (some ⟨cb, 0, none⟩) 1 1] 33)).alloc (.cells #[.int .u64 0, .int .u64 0, .int .u64 0, .int .u64 0] 39) := ⟨_, rfl⟩
      have hs0 : (Y.setCell ⟨gb, 2, none⟩ (.slice (some ⟨Y.heap.size, 0, none⟩) 1 1)).heap.size = Y.heap.size := by simp [World.setCell]
      have GV1 : Hid (∃ F o us, GV w1 gb F 0 (namesR k) nv (rulesK T k 0) us o V0 ∧ ¬ F (Y.heap.size + 1)) := by
        obtain ⟨F, o, us, h⟩ := GV0.out
        rw [set_allocV hgl] at h
        have h2 := h.keep (bel1 _ (.cells #[.int .u64 0, .int .u64 0, .int .u64 0, .int .u64 0] 39))
        rw [← hV0] at h2
        exact ⟨F, o, us, h2, fun hF => by have := (h.m0.fl _ hF).2; simp [hs0] at this⟩
      obtain ⟨ub, hub⟩ : ∃ ub, ub = Y.heap.size + 1 := ⟨_, rfl⟩
      have UB0 : Hid (WbAt V0 ub zB) := by
        have h := heap_alloc_new ((Y.setCell ⟨gb, 2, none⟩ (.slice (some ⟨Y.heap.size, 0, none⟩) 1 1)).alloc (.cells #[.int .i64 0, .slice (some ⟨cb, 0, none⟩) 1 1] 33)) (.cells #[.int .u64 0, .int .u64 0, .int .u64 0, .int .u64 0] 39)
        rw [← hV0] at h
        have h2 : ((Y.setCell ⟨gb, 2, none⟩ (.slice (some ⟨Y.heap.size, 0, none⟩) 1 1)).alloc (.cells #[.int .i64 0, .slice (some ⟨cb, 0, none⟩) 1 1] 33)).heap.size = ub := by rw [hub]; simp [World.setCell]
        rw [h2] at h
        exact h
      rw [← hub] at GV1
      have HUW : Hid (w1.heap.size ≤ ub) := by show _ ≤ _; rw [hub]; have := WYY.out; omega
      rw [← hV0, ← hub]
      clear hV0 hs0 hub e0 e1 e2 e3 hgl GV0
      go_wp2
      go_loopw [8, 9] (fun op x wr => ∃ (j : Nat), j ≤ k ∧ x = .int .i64 (j : Int) ∧ op = .bool (openK T j) ∧ ∃ F o us, Hid (GV w1 gb F 0 (namesR k) nv (rulesK T k j) us o wr) ∧ Hid (¬ F ub) ∧ Hid (WbAt wr ub (wantK T j))) (fun _ x _ => k - (intOf x).toNat)
      case atStart =>
        obtain ⟨F, o, us, h, hf⟩ := GV1.out
        exact ⟨0, Nat.zero_le _, rfl, rfl, F, o, us, h, hf, UB0⟩
      case round =>
        clear UB0 GV1
        obtain ⟨j, hj, rfl, rfl, F, o, us, GVj, NFj, UBj⟩ := hrel
        obtain ⟨V, hV⟩ : ∃ V, V = wr := ⟨_, rfl⟩
        subst hV
        by_cases hlt : j < k
        · --SG
          have hltI : (j : Int) < (k : Int) := by omega
          have hltD : decide ((j : Int) < (k : Int)) = true := decide_eq_true hltI
          obtain ⟨c, hc⟩ : ∃ c : Nat, c = 97 + j := ⟨_, rfl⟩
          have HCC : Hid (97 + j = c) := hc.symm
          have hc256 : c < 256 := by omega
          have hwc1 : wrap64 (97 + (j : Int)) = (c : Int) := by unfold wrap64; omega
          have hwc2 : IntKind.i64.wrap (97 + (j : Int)) = (c : Int) := by rw [IntKind.wrap_i64]; omega
          have hwj1 : wrap64 ((j : Int) + 1) = (j : Int) + 1 := by unfold wrap64; omega
          have hwj2 : IntKind.i64.wrap ((j : Int) + 1) = (j : Int) + 1 := by rw [IntKind.wrap_i64]; omega
          have hjz : (j : Int) < (zn : Int) := by omega
          clear hc
          have oo := GVj.out.m0.oo
          obtain ⟨L, hLL⟩ : ∃ L, L = (rulesK T k j).length := ⟨_, rfl⟩
          have HLR : Hid ((rulesK T k j).length = L) := hLL.symm
          have hL42 : L ≤ 42 := by have := rulesK_len T k j; rw [hLL];  omega
          rw [HLR.out] at oo
          obtain ⟨po, co, hvo⟩ := row_slice oo
          subst hvo
          have OR5 : Hid (V.ownsRow w1.heap.size 33 2 (.slice po L co) L (rusV (rulesK T k j) us)) := oo
          obtain ⟨i3, hj0, hj1, hj2, hj3⟩ := info_parts Try.infoRuleV
          have HI3 : Hid (Try.prog.info? 33 = some i3 ∧ i3.zero = some (.agg #[.int .i64 0, .slice none 0 0]) ∧ i3.size = 2 ∧ i3.bytes = 32) := ⟨hj0, hj1, hj2, hj3⟩
          have MX3 : Hid (L + 1 ≤ maxLen) := by show _ ≤ _; unfold maxLen; omega
          have BY3 : Hid ((L + 1) * 32 ≤ 140737488355328) := by show _ ≤ _; omega
          have e5 : V.cell? ⟨gb, 2, none⟩ = some (.slice po L co) := cellV GVj.out.vb 2
          have f5 : V.frozen? ⟨gb, 2, none⟩ = false := frzV GVj.out.vb 2
          have RN5 : Hid ((Value.slice po L co).ownBlock ≠ some gb) := row_no oo (by decide) GVj.out.vb
          have gl5 : gb < V.heap.size := block_lt GVj.out.vb
          have hw5 : w1.heap.size ≤ V.heap.size := GVj.out.m0.bl.size
          have ul5 : ub < V.heap.size := block_lt UBj.out
          have nl5 : ∀ b, nv.ownBlock = some b → b < V.heap.size := fun b e => (GVj.out.on.lt b e).2
          have ol5 : ∀ b, (Value.slice po L co).ownBlock = some b → b < V.heap.size := fun b e => (oo.lt b e).2
          obtain ⟨X1, hX1⟩ : ∃ X, X = (V.alloc (.cells #[.int .i64 (-1), .int .i64 (c : Int), .int .i64 (c : Int)] 36)).alloc (.cells #[.bool false, .slice (some ⟨V.heap.size, 0, none⟩) 1 1] 30) := ⟨_, rfl⟩
          have hs1 : X1.heap.size = V.heap.size + 1 + 1 := by rw [hX1]; simp
          have bX1 : Below V.heap.size V X1 := by rw [hX1]; exact (bel1 _ _).alloc (by simp) _
          have HBX1 : Hid (Below V.heap.size V X1) := bX1
          have IS1 : IsSys X1 (fun b => b = V.heap.size ∨ b = V.heap.size + 1) (.slice (some ⟨V.heap.size, 0, none⟩) 1 1) [⟨-1, (c : Int), (c : Int)⟩] := by
            rw [hX1]; exact reads_blkV ((heap_alloc_old _ (by simp)).trans (heap_alloc_new _ _)) (Or.inl rfl) (by unfold maxLen; omega) rfl
          have IC : Hid (IsCns X1 (fun b => b = V.heap.size ∨ b = V.heap.size + 1) (.slice (some ⟨V.heap.size + 1, 0, none⟩) 1 1) [⟨false, [⟨-1, (c : Int), (c : Int)⟩]⟩]) := ⟨[.slice (some ⟨V.heap.size, 0, none⟩) 1 1], reads_blkV (by rw [hX1]; exact new2V V _ _) (Or.inr rfl) (by unfold maxLen; omega) rfl, (CnsIn.nil _ _).snoc (c := ⟨false, [⟨-1, (c : Int), (c : Int)⟩]⟩) IS1⟩
          have FCL : Hid (∀ b, (b = V.heap.size ∨ b = V.heap.size + 1) → w1.heap.size ≤ b ∧ b < X1.heap.size ∧ b ≠ gb ∧ nv.ownBlock ≠ some b ∧ (Value.slice po L co).ownBlock ≠ some b) := fun b e => by
            refine ⟨by omega, by omega, by omega, fun h => ?_, fun h => ?_⟩
            · have := nl5 _ h; omega
            · have := ol5 _ h; omega
          have NFx : Hid (¬ (F ub ∨ (ub = V.heap.size ∨ ub = V.heap.size + 1))) := fun h => by
            rcases h with h | h
            · exact NFj.out h
            · omega
          have HX1E : Hid (X1 = (V.alloc (.cells #[.int .i64 (-1), .int .i64 (c : Int), .int .i64 (c : Int)] 36)).alloc (.cells #[.bool false, .slice (some ⟨V.heap.size, 0, none⟩) 1 1] 30)) := hX1
          clear oo hj0 hj1 hj2 hj3 nl5 ol5 hLL IS1 hX1 hs1 bX1
          go_upto_region 18 with fail
          go_cut [] from 66 to 79 (fun wc => ∃ F o us, Hid (GV w1 gb F 0 (namesR k) nv (rulesK T k j ++ ([⟨((j + 1 : Nat) : Int), [⟨false, [⟨-1, (c : Int), (c : Int)⟩]⟩]⟩] : List Ru)) us o wc) ∧ Hid (¬ F ub) ∧ Hid (WbAt wc ub (wantK T j)))
          case first =>
            go_wp2_with (at_builtin; refine wpList_append_lies _ rfl _ _ 25 rfl w1.heap.size 33 i3 (.agg #[.int .i64 0, .slice none 0 0]) 2 32 Try.underlying25 HI3.out.1 HI3.out.2.1 HI3.out.2.2.1 HI3.out.2.2.2 rfl (by decide) _ _ _ rfl (((OR5.out.alloc _).alloc _).alloc _) ⟨V.heap.size + 1 + 1, 0, none⟩ 1 1 [.int .i64 ((j : Int) + 1), .slice (some ⟨V.heap.size + 1, 0, none⟩) 1 1] rfl rfl (World.news_of_block (cs := #[.int .i64 ((j : Int) + 1), .slice (some ⟨V.heap.size + 1, 0, none⟩) 1 1]) (t := 33) (fr := (0, 0)) (new3V V _ _ _)) (fun x hx => by simp at hx; rcases hx with rfl | rfl <;> rfl) (by decide) MX3.out BY3.out (Nat.le_trans hw5 (Nat.le_trans (le_alloc _ _) (Nat.le_trans (le_alloc _ _) (le_alloc _ _)))) (V.heap.size + 1 + 1 + 1) (by simp) ?_; intro gg3 cap3 w6 hown3 hgrow3 hat3 hl3; have e6 : w6.cell? ⟨gb, 2, none⟩ = some (.slice po L co) := (hgrow3.cell_far ⟨gb, 2, none⟩ (by simp; omega) (Ne.symm RN5.out)).trans ((World.cell?_alloc_past _ _ _ (by simp; omega)).trans ((World.cell?_alloc_past _ _ _ (by simp; omega)).trans ((World.cell?_alloc_past _ _ _ gl5).trans e5))); have f6 : w6.frozen? ⟨gb, 2, none⟩ = false := (hgrow3.frozen_far ⟨gb, 2, none⟩ (by simp; omega) (Ne.symm RN5.out)).trans ((World.frozen?_alloc_past _ _ _ (by simp; omega)).trans ((World.frozen?_alloc_past _ _ _ (by simp; omega)).trans ((World.frozen?_alloc_past _ _ _ gl5).trans f5))))
            have hg3 : (X1.alloc (.cells #[.int .i64 ((j : Int) + 1), .slice (some ⟨V.heap.size + 1, 0, none⟩) 1 1] 33)).grownBy w6 (Value.slice po L co).ownBlock := by rw [HX1E.out]; exact hgrow3
            have GVn : Hid (GV w1 gb (fun b => F b ∨ (b = V.heap.size ∨ b = V.heap.size + 1)) 0 (namesR k) nv (rulesK T k j ++ ([⟨((j + 1 : Nat) : Int), [⟨false, [⟨-1, (c : Int), (c : Int)⟩]⟩]⟩] : List Ru)) (us ++ [.slice (some ⟨V.heap.size + 1, 0, none⟩) 1 1]) (.slice (some ⟨gg3, 0, none⟩) (L + 1) cap3) (w6.setCell ⟨gb, 2, none⟩ (.slice (some ⟨gg3, 0, none⟩) (L + 1) cap3))) :=
              (GVj.out.keep HBX1.out).ruleV IC.out FCL.out HLR.out hg3 hown3 (by rcases hat3 with h | h; exact Or.inl h; exact Or.inr (by rw [HX1E.out]; simpa using h)) rfl
            have UBn : Hid (WbAt (w6.setCell ⟨gb, 2, none⟩ (.slice (some ⟨gg3, 0, none⟩) (L + 1) cap3)) ub (wantK T j)) := others UBj.out HBX1.out OR5.out (by decide) hg3 GVj.out.vb (by decide)
            clear hgrow3 hown3 hat3 hg3 e6 f6
            go_meet
            case rel => exact ⟨_, _, _, GVn, NFx, UBn⟩
          case rest =>
            as_aux_lemma =>
              clear e5 f5 RN5 gl5 hw5 ul5 OR5 HI3 MX3 BY3 HBX1 IC FCL NFx HX1E GVj NFj UBj HLR hL42
              obtain ⟨F1, o1, us1, GV1, NF1, UB1⟩ := hcut
              obtain ⟨V1, hV1⟩ : ∃ Z, Z = wc := ⟨_, rfl⟩
              subst hV1
              have HBV1 : Hid (Below W.heap.size W V1) := HB1.out.trans (GV1.out.m0.bl.mono HB1.out.size)
              obtain ⟨g, og, z, hp, cz, hgl2, hbz⟩ := HN.out j (by omega) V1 HBV1.out
              subst hp
              cases hT : T j with
              | true =>
                have HTJ : Hid (T j = true) := hT
                rw [hT, if_pos rfl] at hbz
                obtain ⟨us, hus⟩ : ∃ us, us = us1 := ⟨_, rfl⟩
                rw [← hus] at GV1
                clear hT hus
                have oo := GV1.out.m0.oo
                obtain ⟨L, hLL⟩ : ∃ L, L = (rulesK T k j ++ ([⟨((j + 1 : Nat) : Int), [⟨false, [⟨-1, (c : Int), (c : Int)⟩]⟩]⟩] : List Ru)).length := ⟨_, rfl⟩
                have HLR : Hid ((rulesK T k j ++ ([⟨((j + 1 : Nat) : Int), [⟨false, [⟨-1, (c : Int), (c : Int)⟩]⟩]⟩] : List Ru)).length = L) := hLL.symm
                have hL42 : L ≤ 42 := by have := rulesK_len T k j; rw [hLL]; rw [List.length_append]; show _ + 1 ≤ _; omega
                rw [HLR.out] at oo
                obtain ⟨po, co, hvo⟩ := row_slice oo
                subst hvo
                have OR5 : Hid (V1.ownsRow w1.heap.size 33 2 (.slice po L co) L (rusV (rulesK T k j ++ ([⟨((j + 1 : Nat) : Int), [⟨false, [⟨-1, (c : Int), (c : Int)⟩]⟩]⟩] : List Ru)) us)) := oo
                obtain ⟨i3, hj0, hj1, hj2, hj3⟩ := info_parts Try.infoRuleV
                have HI3 : Hid (Try.prog.info? 33 = some i3 ∧ i3.zero = some (.agg #[.int .i64 0, .slice none 0 0]) ∧ i3.size = 2 ∧ i3.bytes = 32) := ⟨hj0, hj1, hj2, hj3⟩
                have MX3 : Hid (L + 1 ≤ maxLen) := by show _ ≤ _; unfold maxLen; omega
                have BY3 : Hid ((L + 1) * 32 ≤ 140737488355328) := by show _ ≤ _; omega
                have e5 : V1.cell? ⟨gb, 2, none⟩ = some (.slice po L co) := cellV GV1.out.vb 2
                have f5 : V1.frozen? ⟨gb, 2, none⟩ = false := frzV GV1.out.vb 2
                have RN5 : Hid ((Value.slice po L co).ownBlock ≠ some gb) := row_no oo (by decide) GV1.out.vb
                have gl5 : gb < V1.heap.size := block_lt GV1.out.vb
                have hw5 : w1.heap.size ≤ V1.heap.size := GV1.out.m0.bl.size
                have ul5 : ub < V1.heap.size := block_lt UB1.out
                have nl5 : ∀ b, nv.ownBlock = some b → b < V1.heap.size := fun b e => (GV1.out.on.lt b e).2
                have ol5 : ∀ b, (Value.slice po L co).ownBlock = some b → b < V1.heap.size := fun b e => (oo.lt b e).2
                have IC : Hid (IsCns (V1.alloc (.cells #[.bool false, .slice none 0 0] 30)) (fun b => b = V1.heap.size) (.slice (some ⟨V1.heap.size, 0, none⟩) 1 1) [⟨false, []⟩]) := ⟨[.slice none 0 0], reads_blkV (heap_alloc_new _ _) rfl (by unfold maxLen; omega) rfl, (CnsIn.nil _ _).snoc (c := ⟨false, []⟩) ⟨none, 0, rfl, ⟨Nat.zero_le _, Nat.zero_le _⟩, fun h => absurd h (Nat.lt_irrefl _)⟩⟩
                have FCL : Hid (∀ b, b = V1.heap.size → w1.heap.size ≤ b ∧ b < (V1.alloc (.cells #[.bool false, .slice none 0 0] 30)).heap.size ∧ b ≠ gb ∧ nv.ownBlock ≠ some b ∧ (Value.slice po L co).ownBlock ≠ some b) := fun b e => by
                  subst e
                  refine ⟨hw5, by simp, by omega, fun e => ?_, fun e => ?_⟩
                  · have := nl5 _ e; omega
                  · have := ol5 _ e; omega
                have NFx : Hid (¬ (F1 ub ∨ ub = V1.heap.size)) := fun h => by
                  rcases h with h | h
                  · exact NF1.out h
                  · omega
                have HRE : Hid (rulesK T k (j + 1) = (rulesK T k j ++ ([⟨((j + 1 : Nat) : Int), [⟨false, [⟨-1, (c : Int), (c : Int)⟩]⟩]⟩] : List Ru)) ++ [⟨((j + 1 : Nat) : Int), [⟨false, []⟩]⟩]) := by
                  show rulesK T k j ++ addR T j = _
                  unfold addR
                  rw [if_pos HTJ.out, HCC.out, List.append_assoc]; rfl
                clear oo hj0 hj1 hj2 hj3 nl5 ol5 hLL
                go_upto_region 20 with fail
                go_cut [] from 86 to 95 (fun wc => ∃ F o us, Hid (GV w1 gb F 0 (namesR k) nv (rulesK T k (j + 1)) us o wc) ∧ Hid (¬ F ub) ∧ Hid (WbAt wc ub (wantK T j)))
                case first =>
                  go_wp2_with (at_builtin; refine wpList_append_lies _ rfl _ _ 25 rfl w1.heap.size 33 i3 (.agg #[.int .i64 0, .slice none 0 0]) 2 32 Try.underlying25 HI3.out.1 HI3.out.2.1 HI3.out.2.2.1 HI3.out.2.2.2 rfl (by decide) _ _ _ rfl ((OR5.out.alloc _).alloc _) ⟨V1.heap.size + 1, 0, none⟩ 1 1 [.int .i64 ((j : Int) + 1), .slice (some ⟨V1.heap.size, 0, none⟩) 1 1] rfl rfl (World.news_of_block (cs := #[.int .i64 ((j : Int) + 1), .slice (some ⟨V1.heap.size, 0, none⟩) 1 1]) (t := 33) (fr := (0, 0)) (new2V V1 _ _)) (fun x hx => by simp at hx; rcases hx with rfl | rfl <;> rfl) (by decide) MX3.out BY3.out (Nat.le_trans hw5 (Nat.le_trans (le_alloc _ _) (le_alloc _ _))) (V1.heap.size + 1 + 1) (by simp) ?_; intro gg3 cap3 w6 hown3 hgrow3 hat3 hl3; have e6 : w6.cell? ⟨gb, 2, none⟩ = some (.slice po L co) := (hgrow3.cell_far ⟨gb, 2, none⟩ (by simp; omega) (Ne.symm RN5.out)).trans ((World.cell?_alloc_past _ _ _ (by simp; omega)).trans ((World.cell?_alloc_past _ _ _ gl5).trans e5)); have f6 : w6.frozen? ⟨gb, 2, none⟩ = false := (hgrow3.frozen_far ⟨gb, 2, none⟩ (by simp; omega) (Ne.symm RN5.out)).trans ((World.frozen?_alloc_past _ _ _ (by simp; omega)).trans ((World.frozen?_alloc_past _ _ _ gl5).trans f5)))
                  have GVn : Hid (GV w1 gb (fun b => F1 b ∨ b = V1.heap.size) 0 (namesR k) nv (rulesK T k (j + 1)) (us ++ [.slice (some ⟨V1.heap.size, 0, none⟩) 1 1]) (.slice (some ⟨gg3, 0, none⟩) (L + 1) cap3) (w6.setCell ⟨gb, 2, none⟩ (.slice (some ⟨gg3, 0, none⟩) (L + 1) cap3))) :=
                    (GV1.out.keep (bel1 V1 _)).ruleV IC.out FCL.out HLR.out hgrow3 hown3 (by rcases hat3 with h | h; exact Or.inl h; exact Or.inr (by simpa using h)) HRE.out
                  have UBn : Hid (WbAt (w6.setCell ⟨gb, 2, none⟩ (.slice (some ⟨gg3, 0, none⟩) (L + 1) cap3)) ub (wantK T j)) := others UB1.out (bel1 V1 _) OR5.out (by decide) hgrow3 GV1.out.vb (by decide)
                  clear hgrow3 hown3 hat3 e6 f6
                  go_meet
                  case rel => exact ⟨_, _, _, GVn, NFx, UBn⟩
                case rest =>
                  clear e5 f5 RN5 gl5 hw5 ul5 OR5 HI3 MX3 BY3 IC FCL NFx GV1 NF1 UB1 HLR hL42 HRE cz hgl2 hbz
                  obtain ⟨F2, o2, us2, GV2, NF2, UB2⟩ := hcut
                  obtain ⟨V2, hV2⟩ : ∃ Z, Z = wc := ⟨_, rfl⟩
                  subst hV2
                  have HBV2 : Hid (Below W.heap.size W V2) := HB1.out.trans (GV2.out.m0.bl.mono HB1.out.size)
                  obtain ⟨g2, og2, z, hp2, cz, hgl2, hbz⟩ := HN.out j (by omega) V2 HBV2.out
                  injection hp2 with hp2
                  injection hp2 with hp2 hp2o _
                  subst hp2 hp2o
                  rw [HTJ.out, if_pos rfl] at hbz
                  cases hop : openK T j with
                  | true =>
                    have hro : openK T j = true := hop
                    have HWN : Hid (wantK T (j + 1) = orB (wantK T j) (rngB (c : Int) (c : Int)) ∧ openK T (j + 1) = true) := by
                      refine ⟨?_, by show (openK T j && T j) = true; rw [hop, HTJ.out]; rfl⟩
                      show (if openK T j = true then _ else _) = _
                      rw [if_pos hop, HCC.out]
                    obtain ⟨R, hR⟩ : ∃ R, R = rngB (c : Int) (c : Int) := ⟨_, rfl⟩
                    have okR : okB R := by rw [hR]; exact okB_rng _ _
                    have KR := rrange_yes c c V2 hc256 (Nat.le_refl c)
                    rw [← hR] at KR HWN
                    obtain ⟨A, hA⟩ : ∃ A, A = wantK T j := ⟨_, rfl⟩
                    have okA : okB A := by rw [hA]; exact wantK_ok T j
                    rw [← hA] at HWN UB2
                    obtain ⟨A2, hA2⟩ : ∃ A2, A2 = orB A R := ⟨_, rfl⟩
                    have KX : Hid (∀ w, Calls Try.prog 10 #[.int .i64 0, bv A, bv R] w fun e w' => e = .returned (bv A2) ∧ Below w.heap.size w w') := fun w => by rw [hA2]; exact rmix_or A R w okA okR
                    rw [← hA2] at HWN
                    clear hro hop hR hA hA2 okA okR
                    go_upto_region 23 with (go_at_call 9; refine KR.mono ?_; rintro e w6 ⟨rfl, b6⟩)
                    obtain ⟨xb, hxb⟩ : ∃ b, b = w6.heap.size := ⟨_, rfl⟩
                    obtain ⟨w7, hw7⟩ : ∃ w, w = w6.alloc (.cells #[.int .u64 ((R 0 : Nat) : Int), .int .u64 ((R 1 : Nat) : Int), .int .u64 ((R 2 : Nat) : Int), .int .u64 ((R 3 : Nat) : Int)] 39) := ⟨_, rfl⟩
                    have b7 : Below V2.heap.size V2 w7 := by rw [hw7]; exact b6.alloc b6.size _
                    have hrv : w7.heap[xb]? = some (.cells #[.int .u64 ((R 0 : Nat) : Int), .int .u64 ((R 1 : Nat) : Int), .int .u64 ((R 2 : Nat) : Int), .int .u64 ((R 3 : Nat) : Int)] 39) := by rw [hw7, hxb]; exact heap_alloc_new _ _
                    have HG7 : Hid (GV w1 gb F2 0 (namesR k) nv (rulesK T k (j + 1)) us2 o2 w7) := GV2.out.keep b7
                    have HU7 : Hid (WbAt w7 ub A) := UB2.out.keep b7
                    rw [← hw7, ← hxb]
                    have r0 : w7.cell? ⟨xb, 0, none⟩ = some (.int .u64 ((R 0 : Nat) : Int)) := Lib.cell_of_heap hrv 0
                    have r1 : w7.cell? ⟨xb, 1, none⟩ = some (.int .u64 ((R 1 : Nat) : Int)) := Lib.cell_of_heap hrv 1
                    have r2 : w7.cell? ⟨xb, 2, none⟩ = some (.int .u64 ((R 2 : Nat) : Int)) := Lib.cell_of_heap hrv 2
                    have r3 : w7.cell? ⟨xb, 3, none⟩ = some (.int .u64 ((R 3 : Nat) : Int)) := Lib.cell_of_heap hrv 3
                    have n0 : w7.cell? ⟨ub, 0, none⟩ = some (.int .u64 ((A 0 : Nat) : Int)) := Lib.cell_of_heap HU7.out 0
                    have n1 : w7.cell? ⟨ub, 1, none⟩ = some (.int .u64 ((A 1 : Nat) : Int)) := Lib.cell_of_heap HU7.out 1
                    have n2 : w7.cell? ⟨ub, 2, none⟩ = some (.int .u64 ((A 2 : Nat) : Int)) := Lib.cell_of_heap HU7.out 2
                    have n3 : w7.cell? ⟨ub, 3, none⟩ = some (.int .u64 ((A 3 : Nat) : Int)) := Lib.cell_of_heap HU7.out 3
                    clear hw7 hxb b6 b7 hrv KR
                    go_upto_region 24 with (go_at_call 10; refine (KX.out _).mono ?_; rintro e wz ⟨rfl, bz⟩; have HGZ : Hid (GV w1 gb F2 0 (namesR k) nv (rulesK T k (j + 1)) us2 o2 wz) := HG7.out.keep bz; have HUZ : Hid (WbAt wz ub A) := HU7.out.keep bz; clear bz r0 r1 r2 r3 n0 n1 n2 n3; have n0 : wz.cell? ⟨ub, 0, none⟩ = some (.int .u64 ((A 0 : Nat) : Int)) := Lib.cell_of_heap HUZ.out 0; have n1 : wz.cell? ⟨ub, 1, none⟩ = some (.int .u64 ((A 1 : Nat) : Int)) := Lib.cell_of_heap HUZ.out 1; have n2 : wz.cell? ⟨ub, 2, none⟩ = some (.int .u64 ((A 2 : Nat) : Int)) := Lib.cell_of_heap HUZ.out 2; have n3 : wz.cell? ⟨ub, 3, none⟩ = some (.int .u64 ((A 3 : Nat) : Int)) := Lib.cell_of_heap HUZ.out 3; have f0 : wz.frozen? ⟨ub, 0, none⟩ = false := frzV HUZ.out 0; have f1 : wz.frozen? ⟨ub, 1, none⟩ = false := frzV HUZ.out 1; have f2 : wz.frozen? ⟨ub, 2, none⟩ = false := frzV HUZ.out 2; have f3 : wz.frozen? ⟨ub, 3, none⟩ = false := frzV HUZ.out 3; have nl : ub < wz.heap.size := block_lt HUZ.out)
                    obtain ⟨V9, hV9⟩ : ∃ x, x = setW wz ub A2 := ⟨_, rfl⟩
                    have HG9 : Hid (GV w1 gb F2 0 (namesR k) nv (rulesK T k (j + 1)) us2 o2 V9) := by rw [hV9]; exact HGZ.out.putW HUZ.out NF2.out HUW.out A2
                    have HU9 : Hid (WbAt V9 ub (wantK T (j + 1))) := by rw [hV9, HWN.out.1]; exact HUZ.out.set A2
                    have HB9 : Hid (Below W.heap.size W V9) := HB1.out.trans (HG9.out.m0.bl.mono HB1.out.size)
                    rw [show (((wz.setCell ⟨ub, 0, none⟩ (.int .u64 ((A2 0 : Nat) : Int))).setCell ⟨ub, 1, none⟩ (.int .u64 ((A2 1 : Nat) : Int))).setCell ⟨ub, 2, none⟩ (.int .u64 ((A2 2 : Nat) : Int))).setCell ⟨ub, 3, none⟩ (.int .u64 ((A2 3 : Nat) : Int)) = V9 from hV9.symm]
                    clear hV9 n0 n1 n2 n3 f0 f1 f2 f3 nl cz hbz hgl2
                    obtain ⟨g9, og9, z9, hp9, cz, hgl2, hbz⟩ := HN.out j (by omega) V9 HB9.out
                    injection hp9 with hp9
                    injection hp9 with hp9 hp9o _
                    subst hp9 hp9o
                    rw [HTJ.out, if_pos rfl] at hbz
                    go_wp2
                    go_roundw
                    case rel => exact ⟨j + 1, by omega, by go_num, by rw [HWN.out.2], F2, o2, us2, HG9, NF2, HU9⟩
                    case measure => simp [intOf]; omega
                  | false =>
                    have HWN : Hid (wantK T (j + 1) = wantK T j ∧ openK T (j + 1) = false) := by
                      refine ⟨?_, by show (openK T j && T j) = false; rw [hop]; rfl⟩
                      show (if openK T j = true then _ else _) = _
                      rw [if_neg (by rw [hop]; decide)]
                    have HU9 : Hid (WbAt V2 ub (wantK T (j + 1))) := by rw [HWN.out.1]; exact UB2.out
                    clear hop
                    go_wp2
                    go_roundw
                    case rel => exact ⟨j + 1, by omega, by go_num, by rw [HWN.out.2], F2, o2, us2, GV2, NF2, HU9⟩
                    case measure => simp [intOf]; omega
              | false =>
                have HTJ : Hid (T j = false) := hT
                rw [hT, if_neg (by decide)] at hbz
                have HRE : rulesK T k (j + 1) = rulesK T k j ++ ([⟨((j + 1 : Nat) : Int), [⟨false, [⟨-1, (c : Int), (c : Int)⟩]⟩]⟩] : List Ru) := by
                  show rulesK T k j ++ addR T j = _
                  unfold addR
                  rw [if_neg (by rw [hT]; decide), HCC.out]
                rw [← HRE] at GV1
                obtain ⟨F2, hF2⟩ : ∃ F, F = F1 := ⟨_, rfl⟩
                obtain ⟨o2, ho2⟩ : ∃ F, F = o1 := ⟨_, rfl⟩
                obtain ⟨us2, hu2⟩ : ∃ F, F = us1 := ⟨_, rfl⟩
                obtain ⟨V2, hV2⟩ : ∃ F, F = V1 := ⟨_, rfl⟩
                subst hF2 ho2 hu2 hV2
                have GV2 := GV1
                have NF2 := NF1
                have UB2 := UB1
                clear hT HRE GV1 NF1 UB1
                cases hop : openK T j with
                | true =>
                  have hro : openK T j = true := hop
                  have HWN : Hid (wantK T (j + 1) = orB (wantK T j) (rngB (c : Int) (c : Int)) ∧ openK T (j + 1) = false) := by
                    refine ⟨?_, by show (openK T j && T j) = false; rw [hop, HTJ.out]; rfl⟩
                    show (if openK T j = true then _ else _) = _
                    rw [if_pos hop, HCC.out]
                  obtain ⟨R, hR⟩ : ∃ R, R = rngB (c : Int) (c : Int) := ⟨_, rfl⟩
                  have okR : okB R := by rw [hR]; exact okB_rng _ _
                  have KR := rrange_yes c c V2 hc256 (Nat.le_refl c)
                  rw [← hR] at KR HWN
                  obtain ⟨A, hA⟩ : ∃ A, A = wantK T j := ⟨_, rfl⟩
                  have okA : okB A := by rw [hA]; exact wantK_ok T j
                  rw [← hA] at HWN UB2
                  obtain ⟨A2, hA2⟩ : ∃ A2, A2 = orB A R := ⟨_, rfl⟩
                  have KX : Hid (∀ w, Calls Try.prog 10 #[.int .i64 0, bv A, bv R] w fun e w' => e = .returned (bv A2) ∧ Below w.heap.size w w') := fun w => by rw [hA2]; exact rmix_or A R w okA okR
                  rw [← hA2] at HWN
                  clear hro hop hR hA hA2 okA okR
                  go_upto_region 23 with (go_at_call 9; refine KR.mono ?_; rintro e w6 ⟨rfl, b6⟩)
                  obtain ⟨xb, hxb⟩ : ∃ b, b = w6.heap.size := ⟨_, rfl⟩
                  obtain ⟨w7, hw7⟩ : ∃ w, w = w6.alloc (.cells #[.int .u64 ((R 0 : Nat) : Int), .int .u64 ((R 1 : Nat) : Int), .int .u64 ((R 2 : Nat) : Int), .int .u64 ((R 3 : Nat) : Int)] 39) := ⟨_, rfl⟩
                  have b7 : Below V2.heap.size V2 w7 := by rw [hw7]; exact b6.alloc b6.size _
                  have hrv : w7.heap[xb]? = some (.cells #[.int .u64 ((R 0 : Nat) : Int), .int .u64 ((R 1 : Nat) : Int), .int .u64 ((R 2 : Nat) : Int), .int .u64 ((R 3 : Nat) : Int)] 39) := by rw [hw7, hxb]; exact heap_alloc_new _ _
                  have HG7 : Hid (GV w1 gb F2 0 (namesR k) nv (rulesK T k (j + 1)) us2 o2 w7) := GV2.out.keep b7
                  have HU7 : Hid (WbAt w7 ub A) := UB2.out.keep b7
                  rw [← hw7, ← hxb]
                  have r0 : w7.cell? ⟨xb, 0, none⟩ = some (.int .u64 ((R 0 : Nat) : Int)) := Lib.cell_of_heap hrv 0
                  have r1 : w7.cell? ⟨xb, 1, none⟩ = some (.int .u64 ((R 1 : Nat) : Int)) := Lib.cell_of_heap hrv 1
                  have r2 : w7.cell? ⟨xb, 2, none⟩ = some (.int .u64 ((R 2 : Nat) : Int)) := Lib.cell_of_heap hrv 2
                  have r3 : w7.cell? ⟨xb, 3, none⟩ = some (.int .u64 ((R 3 : Nat) : Int)) := Lib.cell_of_heap hrv 3
                  have n0 : w7.cell? ⟨ub, 0, none⟩ = some (.int .u64 ((A 0 : Nat) : Int)) := Lib.cell_of_heap HU7.out 0
                  have n1 : w7.cell? ⟨ub, 1, none⟩ = some (.int .u64 ((A 1 : Nat) : Int)) := Lib.cell_of_heap HU7.out 1
                  have n2 : w7.cell? ⟨ub, 2, none⟩ = some (.int .u64 ((A 2 : Nat) : Int)) := Lib.cell_of_heap HU7.out 2
                  have n3 : w7.cell? ⟨ub, 3, none⟩ = some (.int .u64 ((A 3 : Nat) : Int)) := Lib.cell_of_heap HU7.out 3
                  clear hw7 hxb b6 b7 hrv KR
                  go_upto_region 24 with (go_at_call 10; refine (KX.out _).mono ?_; rintro e wz ⟨rfl, bz⟩; have HGZ : Hid (GV w1 gb F2 0 (namesR k) nv (rulesK T k (j + 1)) us2 o2 wz) := HG7.out.keep bz; have HUZ : Hid (WbAt wz ub A) := HU7.out.keep bz; clear bz r0 r1 r2 r3 n0 n1 n2 n3; have n0 : wz.cell? ⟨ub, 0, none⟩ = some (.int .u64 ((A 0 : Nat) : Int)) := Lib.cell_of_heap HUZ.out 0; have n1 : wz.cell? ⟨ub, 1, none⟩ = some (.int .u64 ((A 1 : Nat) : Int)) := Lib.cell_of_heap HUZ.out 1; have n2 : wz.cell? ⟨ub, 2, none⟩ = some (.int .u64 ((A 2 : Nat) : Int)) := Lib.cell_of_heap HUZ.out 2; have n3 : wz.cell? ⟨ub, 3, none⟩ = some (.int .u64 ((A 3 : Nat) : Int)) := Lib.cell_of_heap HUZ.out 3; have f0 : wz.frozen? ⟨ub, 0, none⟩ = false := frzV HUZ.out 0; have f1 : wz.frozen? ⟨ub, 1, none⟩ = false := frzV HUZ.out 1; have f2 : wz.frozen? ⟨ub, 2, none⟩ = false := frzV HUZ.out 2; have f3 : wz.frozen? ⟨ub, 3, none⟩ = false := frzV HUZ.out 3; have nl : ub < wz.heap.size := block_lt HUZ.out)
                  obtain ⟨V9, hV9⟩ : ∃ x, x = setW wz ub A2 := ⟨_, rfl⟩
                  have HG9 : Hid (GV w1 gb F2 0 (namesR k) nv (rulesK T k (j + 1)) us2 o2 V9) := by rw [hV9]; exact HGZ.out.putW HUZ.out NF2.out HUW.out A2
                  have HU9 : Hid (WbAt V9 ub (wantK T (j + 1))) := by rw [hV9, HWN.out.1]; exact HUZ.out.set A2
                  have HB9 : Hid (Below W.heap.size W V9) := HB1.out.trans (HG9.out.m0.bl.mono HB1.out.size)
                  rw [show (((wz.setCell ⟨ub, 0, none⟩ (.int .u64 ((A2 0 : Nat) : Int))).setCell ⟨ub, 1, none⟩ (.int .u64 ((A2 1 : Nat) : Int))).setCell ⟨ub, 2, none⟩ (.int .u64 ((A2 2 : Nat) : Int))).setCell ⟨ub, 3, none⟩ (.int .u64 ((A2 3 : Nat) : Int)) = V9 from hV9.symm]
                  clear hV9 n0 n1 n2 n3 f0 f1 f2 f3 nl cz hbz hgl2
                  obtain ⟨g9, og9, z9, hp9, cz, hgl2, hbz⟩ := HN.out j (by omega) V9 HB9.out
                  injection hp9 with hp9
                  injection hp9 with hp9 hp9o _
                  subst hp9 hp9o
                  rw [HTJ.out, if_neg (by decide)] at hbz
                  go_wp2
                  go_roundw
                  case rel => exact ⟨j + 1, by omega, by go_num, by rw [HWN.out.2], F2, o2, us2, HG9, NF2, HU9⟩
                  case measure => simp [intOf]; omega
                | false =>
                  have HWN : Hid (wantK T (j + 1) = wantK T j ∧ openK T (j + 1) = false) := by
                    refine ⟨?_, by show (openK T j && T j) = false; rw [hop]; rfl⟩
                    show (if openK T j = true then _ else _) = _
                    rw [if_neg (by rw [hop]; decide)]
                  have HU9 : Hid (WbAt V2 ub (wantK T (j + 1))) := by rw [HWN.out.1]; exact UB2.out
                  clear hop
                  go_wp2
                  go_roundw
                  case rel => exact ⟨j + 1, by omega, by go_num, by rw [HWN.out.2], F2, o2, us2, GV2, NF2, HU9⟩
                  case measure => simp [intOf]; omega
        · as_aux_lemma =>
            obtain rfl : k = j := by omega
            have hltI : ¬ (k : Int) < (k : Int) := by omega
            have hltD : decide ((k : Int) < (k : Int)) = false := decide_eq_false hltI
            have on := GVj.out.on
            have oo := GVj.out.m0.oo
            obtain ⟨pn, cn, hvn⟩ := row_slice on
            subst hvn
            obtain ⟨po, co, hvo⟩ := row_slice oo
            subst hvo
            obtain ⟨ln, hln⟩ : ∃ l, l = (namesR k).length := ⟨_, rfl⟩
            obtain ⟨lr, hlr⟩ : ∃ l, l = (rulesK T k k).length := ⟨_, rfl⟩
            have GVk := GVj
            rw [← hln, ← hlr] at GVk
            have HGW : Hid (∀ w', Below V.heap.size V w' → GrIs w' Any (.slice pn ln cn) (.slice po lr co) (gK T k) ∧ w'.cell? ⟨gb, 0, none⟩ = some (.int .i64 0) ∧ w'.cell? ⟨gb, 1, none⟩ = some (.slice pn ln cn) ∧ w'.cell? ⟨gb, 2, none⟩ = some (.slice po lr co)) := fun w' h => by
              have g9 := GVk.out.keep h
              exact ⟨g9.gr, cellV g9.vb 0, cellV g9.vb 1, cellV g9.vb 2⟩
            have HUB : Hid (WbAt V ub (wantK T k)) := UBj
            have HBV : Hid (Below W.heap.size W V) := HB1.out.trans (GVj.out.m0.bl.mono HB1.out.size)
            obtain ⟨-, c0, c1, c2⟩ := HGW.out V (Below.refl _ _)
            obtain ⟨X, hX⟩ : ∃ X, X = wantK T k := ⟨_, rfl⟩
            obtain ⟨op, hop⟩ : ∃ b, b = openK T k := ⟨_, rfl⟩
            rw [← hX] at HUB HKF
            rw [← hop] at HKE ⊢
            have hnI : (n : Int) = (k : Int) + 1 := by have := HNK.out; omega
            have hnb : ((n : Int) != (k : Int) + 1) = false := by rw [hnI]; simp
            have hwk1 : wrap64 ((k : Int) + 1) = (k : Int) + 1 := by unfold wrap64; omega
            have hwk2 : IntKind.i64.wrap ((k : Int) + 1) = (k : Int) + 1 := by rw [IntKind.wrap_i64]; omega
            have hkn : (k : Int) < (n : Int) := by omega
            have hn0 : (0 : Int) < (n : Int) := by omega
            have hn1 : 0 < n := by have := HNK.out; omega
            clear hln hlr GVj GVk NFj UBj on oo hlt hj hX hop hnI
            go_upto_region 28 with (first
              | (have hh := HB3; clear hh; go_at_call 13; refine (HKL.out _ _ _ (HGW.out _ HB3.out).1).mono ?_; rintro e w4 ⟨b3, rfl, i3, k3⟩; have HB4 : Hid (Below V.heap.size V w4) := HB3.out.trans (k3.out.mono HB3.out.size); clear c0 c1 c2)
              | (have hh := HB2; clear hh; go_at_call 12; refine (HKF.out _ _ _ (HGW.out _ HB2.out).1).mono ?_; rintro e w3 ⟨b2, rfl, i2, k2⟩; have HB3 : Hid (Below V.heap.size V w3) := HB2.out.trans (k2.out.mono HB2.out.size); clear c0 c1 c2; obtain ⟨-, c0, c1, c2⟩ := HGW.out w3 HB3.out)
              | (go_at_call 11; refine (HKE.out _ _ _ (HGW.out _ (Below.refl _ _)).1).mono ?_; rintro e w2 ⟨b1, rfl, i1, k1⟩; have HB2 : Hid (Below V.heap.size V w2) := k1.out; clear c0 c1 c2; obtain ⟨-, c0, c1, c2⟩ := HGW.out w2 HB2.out))
            have a0 : w4.cell? ⟨b1, 0, none⟩ = some (.bool op) := laterF i1.out (k2.out.trans (k3.out.mono k2.out.size))
            have y0 : w4.cell? ⟨b2, 0, none⟩ = some (.int .u64 ((X 0 : Nat) : Int)) := laterF (i2.out 0 (by omega)) k3.out
            have y1 : w4.cell? ⟨b2, 1, none⟩ = some (.int .u64 ((X 1 : Nat) : Int)) := laterF (i2.out 1 (by omega)) k3.out
            have y2 : w4.cell? ⟨b2, 2, none⟩ = some (.int .u64 ((X 2 : Nat) : Int)) := laterF (i2.out 2 (by omega)) k3.out
            have y3 : w4.cell? ⟨b2, 3, none⟩ = some (.int .u64 ((X 3 : Nat) : Int)) := laterF (i2.out 3 (by omega)) k3.out
            obtain ⟨d1, d4, d5⟩ := i3.out
            have d0 := d1 0 (by omega)
            have d2 := d1 2 (by omega)
            have d3 := d1 3 (by omega)
            have d1 := d1 1 (by omega)
            have hu4 : WbAt w4 ub X := HUB.out.keep HB4.out
            have n0 : w4.cell? ⟨ub, 0, none⟩ = some (.int .u64 ((X 0 : Nat) : Int)) := Lib.cell_of_heap hu4 0
            have n1 : w4.cell? ⟨ub, 1, none⟩ = some (.int .u64 ((X 1 : Nat) : Int)) := Lib.cell_of_heap hu4 1
            have n2 : w4.cell? ⟨ub, 2, none⟩ = some (.int .u64 ((X 2 : Nat) : Int)) := Lib.cell_of_heap hu4 2
            have n3 : w4.cell? ⟨ub, 3, none⟩ = some (.int .u64 ((X 3 : Nat) : Int)) := Lib.cell_of_heap hu4 3
            have hq1 : ∀ w, (Op.equalIn 10000 39 (bv X) (bv X)).run Try.prog w = .ok true w := eq_bv 10000 (Or.inr rfl) X X (fun _ _ => rfl)
            have hq2 : ∀ w, (Op.equalIn 10000 39 (.agg #[.int .u64 0, .int .u64 0, .int .u64 0, .int .u64 0]) (.agg #[.int .u64 0, .int .u64 0, .int .u64 0, .int .u64 0])).run Try.prog w = .ok true w := fun w => by rw [Try.eqBytes]; rfl
            have hoo : (op == op) = true := beq_self_eq_true _
            have HW4 : Hid (Below W.heap.size W w4) := HBV.out.trans (HB4.out.mono HBV.out.size)
            clear i1 i2 i3 k1 k2 k3 hu4 HB2 HB3 HB4 HKE HKF HKL HGW HUB
            go_upto_region 30 with fail
            clear hwk1 hwk2 hnb
            obtain ⟨ι, f, n9, hf0, hf, hcl⟩ := family2F (fun w' => Below w4.heap.size w4 w') w4.drew (Below.refl _ _).drew
            have hne0 : Nonempty ι := ⟨n9⟩
            have z0 := fun n => laterF a0 (hf n)
            have z1 := fun n => laterF y0 (hf n)
            have z2 := fun n => laterF y1 (hf n)
            have z3 := fun n => laterF y2 (hf n)
            have z4 := fun n => laterF y3 (hf n)
            have z5 := fun n => laterF n0 (hf n)
            have z6 := fun n => laterF n1 (hf n)
            have z7 := fun n => laterF n2 (hf n)
            have z8 := fun n => laterF n3 (hf n)
            have z9 := fun n => laterF d0 (hf n)
            have za := fun n => laterF d1 (hf n)
            have zb := fun n => laterF d2 (hf n)
            have zc := fun n => laterF d3 (hf n)
            have zd := fun n => laterF d4 (hf n)
            have ze := fun n => laterF d5 (hf n)
            clear a0 y0 y1 y2 y3 n0 n1 n2 n3 d0 d1 d2 d3 d4 d5
            have KNN : ∀ (x : Int) (w : World), Calls Try.prog 14 #[.int .i64 x] w fun e w' => e = .returned (.int .i64 x) ∧ w = w' := num_any
            by_cases hk0 : k = 0
            · have hkb : ((k : Int) == 0) = true := by rw [hk0]; rfl
              clear hk0
              refine region_classF f (by kernel_rfl) (by kernel_rfl) ⟨n9, hf0⟩ ?_
              clear hf0
              repeat (go_big_quiet_step ((go_at_call 14; (with_reducible refine (KNN _ _).mono ?_; rintro e w' ⟨rfl, rfl⟩; exact ⟨rfl, ⟨_, rfl⟩⟩))))
              refine wpQuiet_nil ?_
              intro w9 hw9
              obtain ⟨mm, rfl⟩ := hw9
              have H9 : Hid (Below W.heap.size W (f mm)) := HW4.out.trans ((hf mm).mono HW4.out.size)
              generalize f mm = w9 at H9
              clear hcl hf hne0 n9 z0 z1 z2 z3 z4 z5 z6 z7 z8 z9 za zb zc zd ze
              go_wp2
              go_ret
              exact ⟨rfl, H9.out⟩
            · have hkb : ((k : Int) == 0) = false := by rw [beq_eq_false_iff_ne]; omega
              clear hk0
              refine region_classF f (by kernel_rfl) (by kernel_rfl) ⟨n9, hf0⟩ ?_
              clear hf0
              repeat (go_big_quiet_step ((go_at_call 14; (with_reducible refine (KNN _ _).mono ?_; rintro e w' ⟨rfl, rfl⟩; exact ⟨rfl, ⟨_, rfl⟩⟩))))
              refine wpQuiet_nil ?_
              intro w9 hw9
              obtain ⟨mm, rfl⟩ := hw9
              have H9 : Hid (Below W.heap.size W (f mm)) := HW4.out.trans ((hf mm).mono HW4.out.size)
              generalize f mm = w9 at H9
              clear hcl hf hne0 n9 z0 z1 z2 z3 z4 z5 z6 z7 z8 z9 za zb zc zd ze
              go_wp2
              go_ret
              exact ⟨rfl, H9.out⟩
end Go.Proofs.Ytopokicdgdjgkaa
