/- The document's parser: a declaration, walked. -/
import Derived.Test.YtdlpmefdeeokhaaParE
import Derived.Deep.CutRange
namespace Go.Proofs.Ytdlpmefdeeokhaa
set_option linter.unusedVariables false
set_option linter.unusedSimpArgs false
open Go.ChangeShapes Go.WideShapes Go.ChangeAt Go.RowKit

set_option maxHeartbeats 16000000 in
set_option maxRecDepth 100000 in
theorem pDecl_any {pb N tc k k0 n : Nat} {tp : Option Addr} {ts : List Tok} {w W0 : World} {S : List ByteArray} {D : List Df} {sn nm : ByteArray} {R : Pres} {p1 p2 : Option Addr} {m1 c1 m2 c2 : Nat} {vs : List Value} {F : Nat → Prop} (z0 : Zs pb tp N tc ts k0 W0) (z : Zs pb tp N tc ts k w) (hkN : k < N) (d : Rz pb W0 S D p1 m1 c1 p2 m2 c2 vs F w) (hm1 : m1 ≤ k) (hm2 : m2 ≤ k) (hR : rs n ts ⟨0, S, D, sn, nm, [], [], false, []⟩ k = R) :
    Calls Try.prog 13 #[.pointer (some ⟨pb, 0, none⟩), .pointer (some ⟨W0.heap.size, 0, none⟩)] w fun e w' => ∃ k' ok, e = .returned (.bool ok) ∧ Hid (Zs pb tp N tc ts k' w') ∧ Hid (DcR n ts pb W0 R k w' k' ok) := by
  have HZ0 := hid_ofP z0
  have HZ := hid_ofP z
  have HD := hid_ofP d
  have hM9 := z.hM
  have IS : Hid (∀ (kd j : Nat) (w5 : World) (b : Bool), isB ts j kd = b → Zs pb tp N tc ts j w5 → Calls Try.prog 33 #[.pointer (some ⟨pb, 0, none⟩), .int .i64 (kd : Int)] w5 fun e w' => e = .returned (.bool b) ∧ Hid (Zs pb tp N tc ts (if b then j + 1 else j) w') ∧ Hid (Bx pb w5 w')) := fun kd j w5 b hb z5 => (pIs_any (kd := kd) z5).mono fun e w' ⟨h1, h2, h3⟩ => by rw [hb] at h1 h2; exact ⟨h1, h2, h3⟩
  cases h3 : isB ts k 3 with
  | true =>
    --SA
    obtain ⟨t3, ht3, hk3⟩ := isB_some h3
    have e3 : take ⟨0, S, D, sn, nm, [], [], false, []⟩ t3 = some ⟨1, S, D, sn, nm, [], [], false, []⟩ := by
      show take0 _ t3 = _
      unfold take0
      rw [if_pos hk3]
      rfl
    have HR1 : Hid (rs n ts ⟨1, S, D, sn, nm, [], [], false, []⟩ (k + 1) = R) := by show _ = _; rw [← hR, rs_step ht3 e3]
    have K3 : Calls Try.prog 33 #[.pointer (some ⟨pb, 0, none⟩), .int .i64 3] w fun e w' => e = .returned (.bool true) ∧ Hid (Zs pb tp N tc ts (k + 1) w') ∧ Hid (Bx pb w w') := IS.out 3 k w true h3 z
    clear e3 hk3 ht3 h3
    cases h0 : isB ts (k + 1) 0 with
    | false =>
      have HE : Hid (R = .error (plc n ts (k + 1), 300)) := by
        show _ = _
        rw [← HR1.out]
        refine rs_stop (Nat.succ_ne_zero 0) (fun t ht => ?_)
        show take1 _ t = none
        unfold take1
        rw [if_neg (isB_none h0 t ht)]
      have KN : Hid (∀ w5, Zs pb tp N tc ts (k + 1) w5 → Calls Try.prog 34 #[.pointer (some ⟨pb, 0, none⟩)] w5 fun e w' => e = .returned (.tuple #[.string ⟨#[]⟩, .bool false]) ∧ Hid (Zs pb tp N tc ts (k + 1) w') ∧ Hid (Bx pb w5 w')) := fun w5 z5 => pName_no z5 h0
      clear h0 hR z d z0 HR1 IS
      go_enter Try.func13, Try.ntmps13
      go_wp2_with (first
        | (go_at_call 33; refine K3.mono ?_; rintro e w3 ⟨rfl, z3, x3⟩)
        | (go_at_call 34; refine (KN.out _ z3.out).mono ?_; rintro e w4 ⟨rfl, z4, x4⟩))
      go_ret
      exact ⟨k + 1, false, rfl, z4, ⟨fun h => (by cases h), fun _ => ⟨HE.out, HD.out.xw.trans (x3.out.trans x4.out)⟩⟩⟩
    | true =>
      obtain ⟨t0, ht0, hk0⟩ := isB_some h0
      obtain ⟨tx, htx⟩ : ∃ x, x = t0.text := ⟨_, rfl⟩
      have HR2 : Hid (rs n ts ⟨2, S, D, tx, nm, [], [], false, []⟩ (k + 2) = R) := by
        have e3 : take ⟨1, S, D, sn, nm, [], [], false, []⟩ t0 = some ⟨2, S, D, tx, nm, [], [], false, []⟩ := by
          show take1 _ t0 = _
          unfold take1
          rw [if_pos hk0, htx]
        show _ = _
        rw [← HR1.out, rs_step ht0 e3]
      have KN : Hid (∀ w5, Zs pb tp N tc ts (k + 1) w5 → Calls Try.prog 34 #[.pointer (some ⟨pb, 0, none⟩)] w5 fun e w' => e = .returned (.tuple #[.string tx, .bool true]) ∧ Hid (Zs pb tp N tc ts (k + 2) w') ∧ Hid (Bx pb w5 w')) := fun w5 z5 => by rw [htx]; exact pName_yes z5 ht0 hk0
      clear h0 hk0 ht0 htx hR HR1
      cases h8 : isB ts (k + 2) 8 with
      | false =>
        have HE : Hid (R = .error (plc n ts (k + 2), 300)) := by
          show _ = _
          rw [← HR2.out]
          refine rs_stop (Nat.succ_ne_zero 1) (fun t ht => ?_)
          show take2 _ t = none
          unfold take2
          rw [if_neg (isB_none h8 t ht)]
        have K8 : Hid (∀ w5, Zs pb tp N tc ts (k + 2) w5 → Calls Try.prog 33 #[.pointer (some ⟨pb, 0, none⟩), .int .i64 8] w5 fun e w' => e = .returned (.bool false) ∧ Hid (Zs pb tp N tc ts (k + 2) w') ∧ Hid (Bx pb w5 w')) := fun w5 z5 => IS.out 8 _ w5 false h8 z5
        clear h8 z d z0 HR2 IS
        have T0 : Hid True := trivial
        go_enter Try.func13, Try.ntmps13
        go_wp2_with (first
          | (go_at_call 33; first
            | (have hh := T0; clear hh T0; refine K3.mono ?_; rintro e w3 ⟨rfl, z3, x3⟩)
            | (refine (K8.out _ z4.out).mono ?_; rintro e w5 ⟨rfl, z5, x5⟩))
          | (go_at_call 34; refine (KN.out _ z3.out).mono ?_; rintro e w4 ⟨rfl, z4, x4⟩))
        go_ret
        exact ⟨k + 2, false, rfl, z5, ⟨fun h => (by cases h), fun _ => ⟨HE.out, HD.out.xw.trans (x3.out.trans (x4.out.trans x5.out))⟩⟩⟩
      | true =>
        have HR3 : Hid (rs n ts ⟨0, S ++ [tx], D, tx, nm, [], [], false, []⟩ (k + 3) = R ∧ k + 2 < N) := by
          obtain ⟨t8, ht8, hk8⟩ := isB_some h8
          have e3 : take ⟨2, S, D, tx, nm, [], [], false, []⟩ t8 = some ⟨0, S ++ [tx], D, tx, nm, [], [], false, []⟩ := by
            show take2 _ t8 = _
            unfold take2
            rw [if_pos hk8]
          exact ⟨by rw [← HR2.out, rs_step ht8 e3], by have := (List.getElem?_eq_some_iff.1 ht8).1; rw [z.hN]; exact this⟩
        have K8 : Hid (∀ w5, Zs pb tp N tc ts (k + 2) w5 → Calls Try.prog 33 #[.pointer (some ⟨pb, 0, none⟩), .int .i64 8] w5 fun e w' => e = .returned (.bool true) ∧ Hid (Zs pb tp N tc ts (k + 3) w') ∧ Hid (Bx pb w5 w')) := fun w5 z5 => IS.out 8 _ w5 true h8 z5
        obtain ⟨it, hi0, hi1, hi2, hi3⟩ := info_parts Try.infoStP
        have HI : Hid (Try.prog.info? 9 = some it ∧ it.zero = some (.string ⟨#[]⟩) ∧ it.size = 1 ∧ it.bytes = 16) := ⟨hi0, hi1, hi2, hi3⟩
        have MX : Hid (m1 + 1 ≤ maxLen) := by show _ ≤ _; unfold maxLen; omega
        have BY : Hid ((m1 + 1) * 16 ≤ 140737488355328) := by show _ ≤ _; omega
        have hW0 := d.xw.size
        have RN : Hid ((Value.slice p1 m1 c1).ownBlock ≠ some W0.heap.size) := row_noP d.os (by decide) d.rv
        clear h8 z d z0 HR2 IS hi0 hi1 hi2 hi3
        have T0 : Hid True := trivial
        go_enter Try.func13, Try.ntmps13
        go_upto_region 5 with (first
          | (go_at_call 33; first
            | (have hh := T0; clear hh T0; refine K3.mono ?_; rintro e w3 ⟨rfl, z3, x3⟩)
            | (refine (K8.out _ z4.out).mono ?_; rintro e w5 ⟨rfl, z5, x5⟩))
          | (go_at_call 34; refine (KN.out _ z3.out).mono ?_; rintro e w4 ⟨rfl, z4, x4⟩))
        have D5 := hid_ofP (HD.out.keepX (x3.out.trans (x4.out.trans x5.out)))
        have r0 : w5.cell? ⟨W0.heap.size, 0, none⟩ = some (.slice p1 m1 c1) := cellP D5.out.rv 0
        have f0 : w5.frozen? ⟨W0.heap.size, 0, none⟩ = false := frzP D5.out.rv 0
        have hrl : W0.heap.size < w5.heap.size := blkP_lt D5.out.rv
        clear x3 x4 x5
        go_wp2_with (at_builtin; refine wpList_append_lies _ rfl _ _ 22 rfl W0.heap.size 9 it (.string ⟨#[]⟩) 1 16 Try.underlying22 HI.out.1 HI.out.2.1 HI.out.2.2.1 HI.out.2.2.2 rfl (by decide) _ _ _ rfl (D5.out.os.alloc _) ⟨w5.heap.size, 0, none⟩ 1 1 [.string tx] rfl rfl (World.news_of_block (cs := #[.string tx]) (t := 9) (fr := (0, 0)) (heap_alloc_new w5 _)) (fun x hx => by simp at hx; rcases hx with rfl; rfl) (by decide) MX.out BY.out (by simp; omega) (w5.heap.size + 1) (by simp) ?_; intro gg cap w6 hown hgrow hat hl; have r6 : w6.cell? ⟨W0.heap.size, 0, none⟩ = some (.slice p1 m1 c1) := (hgrow.cell_far ⟨W0.heap.size, 0, none⟩ (by simp; omega) (Ne.symm RN.out)).trans ((World.cell?_alloc_past _ _ _ hrl).trans r0); have f6 : w6.frozen? ⟨W0.heap.size, 0, none⟩ = false := (hgrow.frozen_far ⟨W0.heap.size, 0, none⟩ (by simp; omega) (Ne.symm RN.out)).trans ((World.frozen?_alloc_past _ _ _ hrl).trans f0))
        have D6 := D5.out.addS hgrow hown hat
        have hB : Below W0.heap.size w5 (w6.setCell ⟨W0.heap.size, 0, none⟩ (.slice (some ⟨gg, 0, none⟩) (m1 + 1) cap)) := (((Below.refl W0.heap.size w5).alloc (by omega) _).grown hgrow (by simp; omega) (fun x e => (D5.out.os.lt x e).1)).setCell (p := ⟨W0.heap.size, 0, none⟩) (Nat.le_refl _) _
        go_ret
        exact ⟨k + 3, true, rfl, HZ0.out.thenB z5.out D5.out.xw (Nat.le_refl _) hB, ⟨fun _ => ⟨by omega, _, _, _, _, _, _, _, _, _, _, _, _, ⟨by omega, by omega⟩, D6, HR3.out.1⟩, fun h => (by cases h)⟩⟩
    --EA
  | false =>
    --SB
    have K3 : Calls Try.prog 33 #[.pointer (some ⟨pb, 0, none⟩), .int .i64 3] w fun e w' => e = .returned (.bool false) ∧ Hid (Zs pb tp N tc ts k w') ∧ Hid (Bx pb w w') := IS.out 3 k w false h3 z
    cases h0 : isB ts k 0 with
    | false =>
      have HE : Hid (R = .error (plc n ts k, 300)) := by
        obtain ⟨t, ht⟩ : ∃ t, ts[k]? = some t := ⟨_, List.getElem?_eq_getElem (by rw [← z.hN]; exact hkN)⟩
        show _ = _
        rw [← hR]
        refine rs_here ht ?_
        show take0 _ t = none
        unfold take0
        rw [if_neg (isB_none h3 t ht), if_neg (isB_none h0 t ht)]
      have KN : Hid (∀ w5, Zs pb tp N tc ts k w5 → Calls Try.prog 34 #[.pointer (some ⟨pb, 0, none⟩)] w5 fun e w' => e = .returned (.tuple #[.string ⟨#[]⟩, .bool false]) ∧ Hid (Zs pb tp N tc ts k w') ∧ Hid (Bx pb w5 w')) := fun w5 z5 => pName_no z5 h0
      clear h0 h3 hR z d z0 IS
      go_enter Try.func13, Try.ntmps13
      go_wp2_with (first
        | (go_at_call 33; refine K3.mono ?_; rintro e w3 ⟨rfl, z3, x3⟩)
        | (go_at_call 34; refine (KN.out _ z3.out).mono ?_; rintro e w4 ⟨rfl, z4, x4⟩))
      go_ret
      exact ⟨k, false, rfl, z4, ⟨fun h => (by cases h), fun _ => ⟨HE.out, HD.out.xw.trans (x3.out.trans x4.out)⟩⟩⟩
    | true =>
      --SC
      obtain ⟨t0, ht0, hk0⟩ := isB_some h0
      obtain ⟨tx, htx⟩ : ∃ x, x = t0.text := ⟨_, rfl⟩
      have HR1 : Hid (rs n ts ⟨3, S, D, sn, tx, [], [], false, []⟩ (k + 1) = R) := by
        have e3 : take ⟨0, S, D, sn, nm, [], [], false, []⟩ t0 = some ⟨3, S, D, sn, tx, [], [], false, []⟩ := by
          show take0 _ t0 = _
          unfold take0
          rw [if_neg (by omega), if_pos hk0, htx]
        show _ = _
        rw [← hR, rs_step ht0 e3]
      have KN : Hid (∀ w5, Zs pb tp N tc ts k w5 → Calls Try.prog 34 #[.pointer (some ⟨pb, 0, none⟩)] w5 fun e w' => e = .returned (.tuple #[.string tx, .bool true]) ∧ Hid (Zs pb tp N tc ts (k + 1) w') ∧ Hid (Bx pb w5 w')) := fun w5 z5 => by rw [htx]; exact pName_yes z5 ht0 hk0
      have KD : Hid (∀ w5, Zs pb tp N tc ts (k + 1) w5 → Calls Try.prog 35 #[.pointer (some ⟨pb, 0, none⟩), .string tx] w5 fun e w' => ∃ p m c k' ok, e = .returned (.tuple #[.agg #[.string tx, .slice p m c], .bool ok]) ∧ Hid (Zs pb tp N tc ts k' w') ∧ Hid (Bx pb w5 w') ∧ Hid (k + 1 ≤ k' ∧ (ok = true → k + 1 < k')) ∧ Hid (DfR n ts S D sn tx R w5 w' (.slice p m c) k' ok)) := fun w5 z5 => pDef_any z5 HR1.out
      obtain ⟨it, hi0, hi1, hi2, hi3⟩ := info_parts Try.infoDfP
      have HI : Hid (Try.prog.info? 41 = some it ∧ it.zero = some (.agg #[.string ⟨#[]⟩, .slice none 0 0]) ∧ it.size = 2 ∧ it.bytes = 40) := ⟨hi0, hi1, hi2, hi3⟩
      have MX : Hid (m2 + 1 ≤ maxLen) := by show _ ≤ _; unfold maxLen; omega
      have BY : Hid ((m2 + 1) * 40 ≤ 140737488355328) := by show _ ≤ _; omega
      have hW0 := d.xw.size
      have RN : Hid ((Value.slice p2 m2 c2).ownBlock ≠ some W0.heap.size) := row_noP d.od (by decide) d.rv
      have HKN := hid_ofP hkN
      clear h0 h3 ht0 hk0 htx hR HR1 z d z0 IS hi0 hi1 hi2 hi3
      go_enter Try.func13, Try.ntmps13
      go_upto_region 11 with (first
        | (go_at_call 33; refine K3.mono ?_; rintro e w3 ⟨rfl, z3, x3⟩)
        | (go_at_call 34; refine (KN.out _ z3.out).mono ?_; rintro e w4 ⟨rfl, z4, x4⟩)
        | (go_at_call 35; refine (KD.out _ z4.out).mono ?_; rintro e w5 ⟨p9, m9, c9, k9, ok, rfl, z5, x5, hk9, df⟩))
      have D4 := hid_ofP (HD.out.keepX (x3.out.trans x4.out))
      have D5 := hid_ofP (D4.out.keepX x5.out)
      have r0 : w5.cell? ⟨W0.heap.size, 1, none⟩ = some (.slice p2 m2 c2) := cellP D5.out.rv 1
      have f0 : w5.frozen? ⟨W0.heap.size, 1, none⟩ = false := frzP D5.out.rv 1
      have hrl : W0.heap.size < w5.heap.size := blkP_lt D5.out.rv
      have NEWB : Hid (((w5.alloc (.cells #[.string tx, .slice p9 m9 c9] 41)).alloc (.cells #[.string tx, .slice p9 m9 c9] 41)).heap[w5.heap.size + 1]? = some (.cells #[.string tx, .slice p9 m9 c9] 41)) := by
        have h := heap_alloc_new (w5.alloc (.cells #[.string tx, .slice p9 m9 c9] 41)) (.cells #[.string tx, .slice p9 m9 c9] 41)
        rw [show (w5.alloc (.cells #[.string tx, .slice p9 m9 c9] 41)).heap.size = w5.heap.size + 1 by simp] at h
        exact h
      have HFI : Hid (∀ (w6 : World) (gg cap : Nat), ((w5.alloc (.cells #[.string tx, .slice p9 m9 c9] 41)).alloc (.cells #[.string tx, .slice p9 m9 c9] 41)).grownBy w6 (Value.slice p2 m2 c2).ownBlock → w6.ownsRow W0.heap.size 41 2 (.slice (some ⟨gg, 0, none⟩) (m2 + 1) cap) (m2 + 1) (dfsV D vs ++ [.string tx, .slice p9 m9 c9]) → ((Value.slice p2 m2 c2).ownBlock = some gg ∨ gg = w5.heap.size + 1 + 1) →
          ∀ w7, w7 = w6.setCell ⟨W0.heap.size, 1, none⟩ (.slice (some ⟨gg, 0, none⟩) (m2 + 1) cap) → Hid (Zs pb tp N tc ts k9 w7) ∧ Hid (DcR n ts pb W0 R k w7 k9 ok)) := fun w6 gg cap hg hown hat w7 hw7 => by
        subst hw7
        have hB : Below W0.heap.size w5 (w6.setCell ⟨W0.heap.size, 1, none⟩ (.slice (some ⟨gg, 0, none⟩) (m2 + 1) cap)) := ((((Below.refl W0.heap.size w5).alloc (by omega) _).alloc (by simp; omega) _).grown hg (by simp; omega) (fun x e => (D5.out.od.lt x e).1)).setCell (p := ⟨W0.heap.size, 1, none⟩) (Nat.le_refl _) _
        refine ⟨HZ0.out.thenB z5.out D5.out.xw (Nat.le_refl _) hB, ⟨fun ho => ?_, fun ho => ⟨df.out.2 ho, D5.out.xw.thenB (Nat.le_refl _) hB⟩⟩⟩
        obtain ⟨alts, ia, hr⟩ := df.out.1 ho
        exact ⟨by have := hk9.out.1; omega, S, D ++ [⟨tx, alts⟩], sn, ⟨#[]⟩, _, _, _, _, _, _, _, _, ⟨by have := hk9.out.1; omega, by have := hk9.out.1; omega⟩, D4.out.addD x5.out ia hg hown hat, hr⟩
      clear x3 x4 x5 df hk9
      go_region_law (refine step_append_lies _ (by rfl) _ _ _ (by rfl) W0.heap.size 41 it _ 2 40 Try.underlying23 HI.out.1 HI.out.2.1 HI.out.2.2.1 HI.out.2.2.2 rfl (by omega) (.slice p2 m2 c2) m2 (dfsV D vs) (by rfl) (((D5.out.od.alloc _).alloc _).drew) ⟨w5.heap.size + 1, 0, none⟩ 1 1 [.string tx, .slice p9 m9 c9] (by rfl) (by rfl) (World.news_of_block (cs := #[.string tx, .slice p9 m9 c9]) (t := 41) (fr := (0, 0)) NEWB.out) (fun x hx => by simp at hx; rcases hx with rfl | rfl <;> rfl) (by omega) MX.out BY.out (by simp; omega) (w5.heap.size + 1 + 1) (by simp) ?_; intro gg cap1 w6 hown1 hgrow hat hltg; have r6 : w6.cell? ⟨W0.heap.size, 1, none⟩ = some (.slice p2 m2 c2) := (hgrow.cell_far ⟨W0.heap.size, 1, none⟩ (by simp; omega) (Ne.symm RN.out)).trans ((World.cell?_alloc_past _ _ _ (by simp; omega)).trans ((World.cell?_alloc_past _ _ _ hrl).trans r0)); have f6 : w6.frozen? ⟨W0.heap.size, 1, none⟩ = false := (hgrow.frozen_far ⟨W0.heap.size, 1, none⟩ (by simp; omega) (Ne.symm RN.out)).trans ((World.frozen?_alloc_past _ _ _ (by simp; omega)).trans ((World.frozen?_alloc_past _ _ _ hrl).trans f0)))
      all_goals
        obtain ⟨F1, F2⟩ := HFI.out w6 gg cap1 ⟨hgrow.os, hgrow.tape, hgrow.output, hgrow.size, hgrow.block⟩ hown1 hat _ rfl
        clear HFI hgrow hown1 hat
        go_wp2
        go_ret
        exact ⟨k9, ok, rfl, F1, F2⟩
      --EC
    --EB
end Go.Proofs.Ytdlpmefdeeokhaa
