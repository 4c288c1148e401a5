/- ParseMade: a text put together of its parts is what it was made of: at every argument, with no condition. -/
import Derived.Test.YtjfdgdjfgiifeaaMadeMem
import Derived.Test.YtjfdgdjfgiifeaaLexBlanks
import Derived.Test.YtjfdgdjfgiifeaaLexNames
namespace Go.Proofs.Ytjfdgdjfgiifeaa
set_option linter.unusedVariables false
open Go.ChangeShapes Go.WideShapes Go.ChangeAt Go.RowKit

set_option maxHeartbeats 16000000 in
set_option maxRecDepth 100000 in
theorem parseMade_walk (w : World) (v : Value) (zs : List Int) (hr : IRow w v zs) (hw : ∀ z ∈ zs, (Lit.int .i64 z).wf = true) (hz : zs.length * 8 ≤ 140737488351232) :
    Calls Try.prog 14 #[v] w fun e w' => e = .returned (.bool true) ∧ Below w.heap.size w w' := by
  obtain ⟨p, cap, rfl, hcap, -⟩ := id hr
  have HR : Hid (IRow w (.slice p zs.length cap) zs) := hr
  obtain ⟨i, hi0, hz0, hz1, hz2⟩ := info_parts Try.infoItem
  have HI : Hid (Try.prog.info? 61 = some i ∧ i.zero = some (.agg #[.int .i64 0, .string ⟨#[]⟩, .int .i64 0, .int .i64 0]) ∧ i.size = 4 ∧ i.bytes = 40) := ⟨hi0, hz0, hz1, hz2⟩
  obtain ⟨i2, hj0, hj1, hj2, hj3⟩ := info_parts Try.infoConj
  have HJ : Hid (Try.prog.info? 59 = some i2 ∧ i2.zero = some (.agg #[.bool false, .slice none 0 0]) ∧ i2.size = 2 ∧ i2.bytes = 32) := ⟨hj0, hj1, hj2, hj3⟩
  obtain ⟨i3, hk0, hk1, hk2, hk3⟩ := info_parts Try.infoAlt
  have HK : Hid (Try.prog.info? 56 = some i3 ∧ i3.zero = some (.slice none 0 0) ∧ i3.size = 1 ∧ i3.bytes = 24) := ⟨hk0, hk1, hk2, hk3⟩
  clear hr hw hi0 hz0 hz1 hz2 hj0 hj1 hj2 hj3 hk0 hk1 hk2 hk3
  go_enter Try.func14, Try.ntmps14
  go_wp2_with (first | (go_at_call 26; refine (awake3_any _).mono ?_; rintro e wa ⟨rfl, ha⟩; have B0 : Hid (Below w.heap.size w wa) := ha; have hwa : w.heap.size ≤ wa.heap.size := ha.size; clear ha))
  go_loopw [3, 5, 7, 8] (fun t a b x wr => ∃ (j : Nat) (T : ByteArray) (item : Bool) (alts : List (List Cj)) (alt : List Cj) (neg : Bool) (items : List It) (F : Nat → Prop) (va vl vi : Value) (av cv : List Value), j ≤ zs.length ∧ j ≤ 40 ∧ x = .int .i64 j ∧ t = .string T ∧ a = vl ∧ b = .bool item ∧ Made T item alts alt neg items ∧ (item = false → neg = false ∧ items = []) ∧ T.size ≤ 12 + 9 * j ∧ alts.length ≤ j ∧ alt.length ≤ j ∧ items.length ≤ j ∧ MI wa wa.heap.size F ⟨0, [], [], ⟨#[]⟩, ⟨#[]⟩, alts, alt, neg, items⟩ ⟨.slice none 0 0, .slice none 0 0, va, vl, vi, [], av, cv⟩ va (.bool neg) vi wr) (fun _ _ _ x _ => 40 - (intOf x).toNat)
  case atStart => exact ⟨0, _, _, _, _, _, _, _, _, _, _, _, _, by omega, by omega, rfl, rfl, rfl, rfl, Made.nil, fun _ => ⟨rfl, rfl⟩, (by decide), Nat.le_refl _, Nat.le_refl _, Nat.le_refl _, MI.first wa _ _⟩
  case round =>
    obtain ⟨j, T, item, alts, alt, neg, items, F, va, vl, vi, av, cv, hj1, hj2, rfl, rfl, rfl, rfl, hMade, hitem, hTs, hl1, hl2, hl3, hM⟩ := hrel
    have HMade : Hid (Made T item alts alt neg items) := hMade
    obtain ⟨pa, ca, e1⟩ := row_slice hM.core.oa
    obtain ⟨pl, cl, e2⟩ := row_slice hM.core.ol
    obtain ⟨pi, ci, e3⟩ := row_slice hM.core.oi
    simp only at e1 e2 e3
    subst e1 e2 e3
    have hV1 : wa.heap.size + 1 < wr.heap.size := hM.core.lt
    have hV : wa.heap.size < wr.heap.size := Nat.lt_of_succ_lt hV1
    have c00 := hM.c0
    have c01 := hM.c1
    have d00 := hM.d0
    have d01 := hM.d1
    have fd0 := hM.fz 0
    have fd1 := hM.fz 1
    have fc0 := hM.core.fz 0
    have fc1 := hM.core.fz 1
    have HM : Hid (MI wa wa.heap.size F ⟨0, [], [], ⟨#[]⟩, ⟨#[]⟩, alts, alt, neg, items⟩ ⟨.slice none 0 0, .slice none 0 0, .slice pa alts.length ca, .slice pl alt.length cl, .slice pi items.length ci, [], av, cv⟩ (.slice pa alts.length ca) (.bool neg) (.slice pi items.length ci) wr) := hM
    have MXI : Hid (items.length + 1 ≤ maxLen) := by show _ ≤ _; unfold maxLen; omega
    have MXC : Hid (alt.length + 1 ≤ maxLen) := by show _ ≤ _; unfold maxLen; omega
    have MXA : Hid (alts.length + 1 ≤ maxLen) := by show _ ≤ _; unfold maxLen; omega
    have BYI : Hid ((items.length + 1) * 40 ≤ 140737488355328) := by show _ ≤ _; omega
    have BYC : Hid ((alt.length + 1) * 32 ≤ 140737488355328) := by show _ ≤ _; omega
    have BYA : Hid ((alts.length + 1) * 24 ≤ 140737488355328) := by show _ ≤ _; omega
    have k1 : wa.heap.size + 1 < wr.heap.size + 1 := Nat.lt_succ_of_lt hV1
    have k2 : wa.heap.size + 1 < wr.heap.size + 1 + 1 := Nat.lt_succ_of_lt k1
    have k3 : wa.heap.size + 1 < wr.heap.size + 1 + 1 + 1 := Nat.lt_succ_of_lt k2
    have k4 : wa.heap.size + 1 < wr.heap.size + 1 + 1 + 1 + 1 := Nat.lt_succ_of_lt k3
    have l0 := Nat.le_of_lt hV1
    have l1 := Nat.le_of_lt k1
    have l2 := Nat.le_of_lt k2
    have l3 := Nat.le_of_lt k3
    have BS : Hid (∀ o0 o1 o2 o3 : Obj, wa.heap.size + 1 + 1 ≤ ((((wr.alloc o0).alloc o1).alloc o2).alloc o3).heap.size) := fun o0 o1 o2 o3 => by rw [sy4]; omega
    have BSs : Hid (∀ o0 o1 o2 o3 : Obj, wa.heap.size + 1 + 1 ≤ (((((wr.setCell ⟨wa.heap.size + 1, 0, none⟩ (.bool true)).alloc o0).alloc o1).alloc o2).alloc o3).heap.size) := fun o0 o1 o2 o3 => by rw [sy4s]; omega
    have BS1 : Hid (∀ o0 : Obj, wa.heap.size + 1 + 1 ≤ (wr.alloc o0).heap.size) := fun o0 => by rw [sz1]; omega
    clear hMade hM
    by_cases hgo : j < zs.length ∧ j < 40
    · obtain ⟨hlt, h40⟩ := hgo
      obtain ⟨z, hzk⟩ : ∃ z, zs[j]? = some z := ⟨_, List.getElem?_eq_getElem hlt⟩
      obtain ⟨m, hm, em⟩ := tmod6 z
      obtain ⟨g, o, hp, hg, hcl⟩ := HR.out.cell hzk
      subst hp
      have c0 : wr.cell? ⟨g, o + j, none⟩ = some (.int .i64 z) := (HM.out.bl.cell (p := ⟨g, _, none⟩) (Nat.lt_of_lt_of_le hg hwa)).trans ((B0.out.cell (p := ⟨g, _, none⟩) hg).trans hcl)
      have hgr : g < wr.heap.size := Nat.lt_of_lt_of_le hg (Nat.le_trans hwa (Nat.le_of_lt hV))
      clear hzk hcl hg
      cases item with
      | true =>
        clear hitem
        rcases six m hm with rfl | rfl | rfl | rfl | rfl | rfl
        · have ONEI : Hid (∀ x, x ∈ [Value.int .i64 0, .string ⟨#[81]⟩, .int .i64 0, .int .i64 0] → x.oneCell' = true) := by show ∀ x, _ → _; simp [Value.oneCell']
          go_wp2_with (first | (at_builtin; refine wpList_append_lies _ rfl _ _ 57 rfl (wa.heap.size + 1 + 1) 61 i (.agg #[.int .i64 0, .string ⟨#[]⟩, .int .i64 0, .int .i64 0]) 4 40 Try.underlying57 HI.out.1 HI.out.2.1 HI.out.2.2.1 HI.out.2.2.2 rfl (by decide) _ _ _ rfl (((((HM.out.core.oi).alloc _).alloc _).alloc _).alloc _) ⟨wr.heap.size + 1 + 1 + 1, 0, none⟩ 1 1 [.int .i64 0, .string ⟨#[81]⟩, .int .i64 0, .int .i64 0] rfl rfl (World.news_of_block (cs := #[.int .i64 0, .string ⟨#[81]⟩, .int .i64 0, .int .i64 0]) (t := 61) (fr := (0, 0)) (new_at _ _ _ (sy3 _ _ _ _))) ONEI.out (by decide) MXI.out BYI.out (BS.out _ _ _ _) (wr.heap.size + 1 + 1 + 1 + 1) (sy4 _ _ _ _ _) ?_))
          intro gg cap1 w1 hown1 hgrow hat hltg
          have M1 := MI.growI (t := pieceI 0) ((((HM.out.box _).box _).box _).box _) hgrow hown1 hat (sy4 _ _ _ _ _)
          have FIN : Hid (MI wa wa.heap.size _ _ _ _ _ _ w1) := M1
          have x1 := M1.c1; have g1 := M1.core.fz 1; have hv1 := M1.core.lt
          clear M1 hown1 hgrow hat hltg c0
          go_wp2
          go_roundw
          case rel => exact ⟨j + 1, _, true, _, _, _, _, _, _, _, _, _, _, by omega, by omega, by go_num, rfl, rfl, rfl, HMade.out.it 0, fun h => (by cases h), (by simp only [ByteArray.size_append]; show T.size + (pieceT 0).size ≤ _; exact Nat.le_trans (Nat.add_le_add_left (pieceT_le 0) _) (by omega)), by omega, by omega, (by simp <;> omega), FIN.out.setC1 _⟩
          case measure => simp [intOf]; omega
        · have ONEI : Hid (∀ x, x ∈ [Value.int .i64 1, .string ⟨#[97, 98]⟩, .int .i64 0, .int .i64 0] → x.oneCell' = true) := by show ∀ x, _ → _; simp [Value.oneCell']
          go_wp2_with (first | (at_builtin; refine wpList_append_lies _ rfl _ _ 57 rfl (wa.heap.size + 1 + 1) 61 i (.agg #[.int .i64 0, .string ⟨#[]⟩, .int .i64 0, .int .i64 0]) 4 40 Try.underlying57 HI.out.1 HI.out.2.1 HI.out.2.2.1 HI.out.2.2.2 rfl (by decide) _ _ _ rfl (((((HM.out.core.oi).alloc _).alloc _).alloc _).alloc _) ⟨wr.heap.size + 1 + 1 + 1, 0, none⟩ 1 1 [.int .i64 1, .string ⟨#[97, 98]⟩, .int .i64 0, .int .i64 0] rfl rfl (World.news_of_block (cs := #[.int .i64 1, .string ⟨#[97, 98]⟩, .int .i64 0, .int .i64 0]) (t := 61) (fr := (0, 0)) (new_at _ _ _ (sy3 _ _ _ _))) ONEI.out (by decide) MXI.out BYI.out (BS.out _ _ _ _) (wr.heap.size + 1 + 1 + 1 + 1) (sy4 _ _ _ _ _) ?_))
          intro gg cap1 w1 hown1 hgrow hat hltg
          have M1 := MI.growI (t := pieceI 1) ((((HM.out.box _).box _).box _).box _) hgrow hown1 hat (sy4 _ _ _ _ _)
          have FIN : Hid (MI wa wa.heap.size _ _ _ _ _ _ w1) := M1
          have x1 := M1.c1; have g1 := M1.core.fz 1; have hv1 := M1.core.lt
          clear M1 hown1 hgrow hat hltg c0
          go_wp2
          go_roundw
          case rel => exact ⟨j + 1, _, true, _, _, _, _, _, _, _, _, _, _, by omega, by omega, by go_num, rfl, rfl, rfl, HMade.out.it 1, fun h => (by cases h), (by simp only [ByteArray.size_append]; show T.size + (pieceT 1).size ≤ _; exact Nat.le_trans (Nat.add_le_add_left (pieceT_le 1) _) (by omega)), by omega, by omega, (by simp <;> omega), FIN.out.setC1 _⟩
          case measure => simp [intOf]; omega
        · have ONEI : Hid (∀ x, x ∈ [Value.int .i64 2, .string ⟨#[]⟩, .int .i64 97, .int .i64 99] → x.oneCell' = true) := by show ∀ x, _ → _; simp [Value.oneCell']
          go_wp2_with (first | (at_builtin; refine wpList_append_lies _ rfl _ _ 57 rfl (wa.heap.size + 1 + 1) 61 i (.agg #[.int .i64 0, .string ⟨#[]⟩, .int .i64 0, .int .i64 0]) 4 40 Try.underlying57 HI.out.1 HI.out.2.1 HI.out.2.2.1 HI.out.2.2.2 rfl (by decide) _ _ _ rfl (((((HM.out.core.oi).alloc _).alloc _).alloc _).alloc _) ⟨wr.heap.size + 1 + 1 + 1, 0, none⟩ 1 1 [.int .i64 2, .string ⟨#[]⟩, .int .i64 97, .int .i64 99] rfl rfl (World.news_of_block (cs := #[.int .i64 2, .string ⟨#[]⟩, .int .i64 97, .int .i64 99]) (t := 61) (fr := (0, 0)) (new_at _ _ _ (sy3 _ _ _ _))) ONEI.out (by decide) MXI.out BYI.out (BS.out _ _ _ _) (wr.heap.size + 1 + 1 + 1 + 1) (sy4 _ _ _ _ _) ?_))
          intro gg cap1 w1 hown1 hgrow hat hltg
          have M1 := MI.growI (t := pieceI 2) ((((HM.out.box _).box _).box _).box _) hgrow hown1 hat (sy4 _ _ _ _ _)
          have FIN : Hid (MI wa wa.heap.size _ _ _ _ _ _ w1) := M1
          have x1 := M1.c1; have g1 := M1.core.fz 1; have hv1 := M1.core.lt
          clear M1 hown1 hgrow hat hltg c0
          go_wp2
          go_roundw
          case rel => exact ⟨j + 1, _, true, _, _, _, _, _, _, _, _, _, _, by omega, by omega, by go_num, rfl, rfl, rfl, HMade.out.it 2, fun h => (by cases h), (by simp only [ByteArray.size_append]; show T.size + (pieceT 2).size ≤ _; exact Nat.le_trans (Nat.add_le_add_left (pieceT_le 2) _) (by omega)), by omega, by omega, (by simp <;> omega), FIN.out.setC1 _⟩
          case measure => simp [intOf]; omega
        · have ONEC : Hid (∀ x, x ∈ [Value.bool neg, .slice pi items.length ci] → x.oneCell' = true) := by show ∀ x, _ → _; simp [Value.oneCell']
          go_wp2_with (first | (at_builtin; refine wpList_append_lies _ rfl _ _ 56 rfl (wa.heap.size + 1 + 1) 59 i2 (.agg #[.bool false, .slice none 0 0]) 2 32 Try.underlying56 HJ.out.1 HJ.out.2.1 HJ.out.2.2.1 HJ.out.2.2.2 rfl (by decide) _ _ _ rfl ((HM.out.core.ol).alloc _) ⟨wr.heap.size, 0, none⟩ 1 1 [.bool neg, .slice pi items.length ci] rfl rfl (World.news_of_block (cs := #[.bool neg, .slice pi items.length ci]) (t := 59) (fr := (0, 0)) (new_at _ _ _ (rfl))) ONEC.out (by decide) MXC.out BYC.out (BS1.out _) (wr.heap.size + 1) (sz1 _ _) ?_))
          intro gg cap1 w1 hown1 hgrow hat hltg
          have M1 := MI.growC (HM.out.box _) hgrow hown1 hat (sz1 _ _)
          have FIN : Hid (MI wa wa.heap.size _ _ _ _ _ _ w1) := M1
          have x0 := M1.c0; have x1 := M1.c1; have g0 := M1.core.fz 0; have g1 := M1.core.fz 1; have hv1 := M1.core.lt
          clear M1 hown1 hgrow hat hltg c0
          go_wp2
          go_roundw
          case rel => exact ⟨j + 1, _, false, _, _, _, _, _, _, _, _, _, _, by omega, by omega, by go_num, rfl, rfl, rfl, HMade.out.and, fun _ => ⟨rfl, rfl⟩, by simp only [ByteArray.size_append]; show T.size + 1 ≤ _; omega, by omega, by simp; omega, Nat.zero_le _, (FIN.out.setC0 _).setC1 _⟩
          case measure => simp [intOf]; omega
        · have ONEC : Hid (∀ x, x ∈ [Value.bool neg, .slice pi items.length ci] → x.oneCell' = true) := by show ∀ x, _ → _; simp [Value.oneCell']
          go_wp2_with (first | (at_builtin; refine wpList_append_lies _ rfl _ _ 56 rfl (wa.heap.size + 1 + 1) 59 i2 (.agg #[.bool false, .slice none 0 0]) 2 32 Try.underlying56 HJ.out.1 HJ.out.2.1 HJ.out.2.2.1 HJ.out.2.2.2 rfl (by decide) _ _ _ rfl ((HM.out.core.ol).alloc _) ⟨wr.heap.size, 0, none⟩ 1 1 [.bool neg, .slice pi items.length ci] rfl rfl (World.news_of_block (cs := #[.bool neg, .slice pi items.length ci]) (t := 59) (fr := (0, 0)) (new_at _ _ _ (rfl))) ONEC.out (by decide) MXC.out BYC.out (BS1.out _) (wr.heap.size + 1) (sz1 _ _) ?_))
          intro gg cap1 w1 hown1 hgrow hat hltg
          have M1 := MI.growC (HM.out.box _) hgrow hown1 hat (sz1 _ _)
          have FIN : Hid (MI wa wa.heap.size _ _ _ _ _ _ w1) := M1
          have x0 := M1.c0; have x1 := M1.c1; have g0 := M1.core.fz 0; have g1 := M1.core.fz 1; have hv1 := M1.core.lt
          clear M1 hown1 hgrow hat hltg c0
          go_wp2
          go_roundw
          case rel => exact ⟨j + 1, _, false, _, _, _, _, _, _, _, _, _, _, by omega, by omega, by go_num, rfl, rfl, rfl, HMade.out.and, fun _ => ⟨rfl, rfl⟩, by simp only [ByteArray.size_append]; show T.size + 1 ≤ _; omega, by omega, by simp; omega, Nat.zero_le _, (FIN.out.setC0 _).setC1 _⟩
          case measure => simp [intOf]; omega
        · have ONEC : Hid (∀ x, x ∈ [Value.bool neg, .slice pi items.length ci] → x.oneCell' = true) := by show ∀ x, _ → _; simp [Value.oneCell']
          go_wp2_with (first | (at_builtin; refine wpList_append_lies _ rfl _ _ 56 rfl (wa.heap.size + 1 + 1) 59 i2 (.agg #[.bool false, .slice none 0 0]) 2 32 Try.underlying56 HJ.out.1 HJ.out.2.1 HJ.out.2.2.1 HJ.out.2.2.2 rfl (by decide) _ _ _ rfl ((HM.out.core.ol).alloc _) ⟨wr.heap.size, 0, none⟩ 1 1 [.bool neg, .slice pi items.length ci] rfl rfl (World.news_of_block (cs := #[.bool neg, .slice pi items.length ci]) (t := 59) (fr := (0, 0)) (new_at _ _ _ (rfl))) ONEC.out (by decide) MXC.out BYC.out (BS1.out _) (wr.heap.size + 1) (sz1 _ _) ?_))
          intro gg cap1 w1 hown1 hgrow hat hltg
          have M1 := MI.growC (HM.out.box _) hgrow hown1 hat (sz1 _ _)
          have M1H : Hid (MI wa wa.heap.size _ _ _ _ _ _ w1) := M1
          have x0 := M1.c0; have x1 := M1.c1; have y0 := M1.d0; have y1 := M1.d1; have g0 := M1.core.fz 0; have g1 := M1.core.fz 1; have gy1 := M1.fz 1; have gy0 := M1.fz 0; have hv1 := M1.core.lt
          have hv0 : wa.heap.size < w1.heap.size := Nat.lt_of_succ_lt hv1
          have ONEA : Hid (∀ x, x ∈ [Value.slice (some ⟨gg, 0, none⟩) (alt.length + 1) cap1] → x.oneCell' = true) := by show ∀ x, _ → _; simp [Value.oneCell']
          have BS2 : Hid (∀ o0 : Obj, wa.heap.size + 1 + 1 ≤ (w1.alloc o0).heap.size) := fun o0 => by rw [sz1]; omega
          clear M1 hown1 hgrow hat hltg
          go_wp2_with (first | (at_builtin; refine wpList_append_lies _ rfl _ _ 53 rfl (wa.heap.size + 1 + 1) 56 i3 (.slice none 0 0) 1 24 Try.underlying53 HK.out.1 HK.out.2.1 HK.out.2.2.1 HK.out.2.2.2 rfl (by decide) _ _ _ rfl ((M1H.out.core.oa).alloc _) ⟨w1.heap.size, 0, none⟩ 1 1 [.slice (some ⟨gg, 0, none⟩) (alt.length + 1) cap1] rfl rfl (World.news_of_block (cs := #[.slice (some ⟨gg, 0, none⟩) (alt.length + 1) cap1]) (t := 56) (fr := (0, 0)) (new_at _ _ _ (rfl))) ONEA.out (by decide) MXA.out BYA.out (BS2.out _) (w1.heap.size + 1) (sz1 _ _) ?_))
          intro hh cap2 w2 hown1 hgrow hat hltg
          have M2 := MI.growA (M1H.out.box _) hgrow hown1 hat (sz1 _ _)
          have FIN : Hid (MI wa wa.heap.size _ _ _ _ _ _ w2) := M2
          have z0 := M2.c0; have z1 := M2.c1; have q0 := M2.d0; have q1 := M2.d1; have r0 := M2.core.fz 0; have r1 := M2.core.fz 1; have r2 := M2.fz 1; have hv2 := M2.core.lt
          have hv3 : wa.heap.size < w2.heap.size := Nat.lt_of_succ_lt hv2
          clear M2 hown1 hgrow hat hltg c0
          go_wp2
          go_roundw
          case rel => exact ⟨j + 1, _, false, _, _, _, _, _, _, _, _, _, _, by omega, by omega, by go_num, rfl, rfl, rfl, HMade.out.or, fun _ => ⟨rfl, rfl⟩, by simp only [ByteArray.size_append]; show T.size + 1 ≤ _; omega, by simp; omega, Nat.zero_le _, Nat.zero_le _, ((FIN.out.setD _).setC0 _).setC1 _⟩
          case measure => simp [intOf]; omega
      | false =>
        obtain ⟨rfl, rfl⟩ := hitem rfl
        have HM2 : Hid (MI wa wa.heap.size F ⟨0, [], [], ⟨#[]⟩, ⟨#[]⟩, alts, alt, true, []⟩ ⟨.slice none 0 0, .slice none 0 0, .slice pa alts.length ca, .slice pl alt.length cl, .slice pi 0 ci, [], av, cv⟩ (.slice pa alts.length ca) (.bool true) (.slice pi 0 ci) (wr.setCell ⟨wa.heap.size + 1, 0, none⟩ (.bool true))) := (HM.out.setC0 (.bool true)).neg true
        simp only [List.length_nil] at c01 HM MXI BYI
        clear hitem
        rcases six m hm with rfl | rfl | rfl | rfl | rfl | rfl
        · have ONEI : Hid (∀ x, x ∈ [Value.int .i64 0, .string ⟨#[81]⟩, .int .i64 0, .int .i64 0] → x.oneCell' = true) := by show ∀ x, _ → _; simp [Value.oneCell']
          go_wp2_with (first | (at_builtin; refine wpList_append_lies _ rfl _ _ 57 rfl (wa.heap.size + 1 + 1) 61 i (.agg #[.int .i64 0, .string ⟨#[]⟩, .int .i64 0, .int .i64 0]) 4 40 Try.underlying57 HI.out.1 HI.out.2.1 HI.out.2.2.1 HI.out.2.2.2 rfl (by decide) _ _ _ rfl (((((HM.out.core.oi).alloc _).alloc _).alloc _).alloc _) ⟨wr.heap.size + 1 + 1 + 1, 0, none⟩ 1 1 [.int .i64 0, .string ⟨#[81]⟩, .int .i64 0, .int .i64 0] rfl rfl (World.news_of_block (cs := #[.int .i64 0, .string ⟨#[81]⟩, .int .i64 0, .int .i64 0]) (t := 61) (fr := (0, 0)) (new_at _ _ _ (sy3 _ _ _ _))) ONEI.out (by decide) MXI.out BYI.out (BS.out _ _ _ _) (wr.heap.size + 1 + 1 + 1 + 1) (sy4 _ _ _ _ _) ?_))
          intro gg cap1 w1 hown1 hgrow hat hltg
          have M1 := MI.growI (t := pieceI 0) ((((HM.out.box _).box _).box _).box _) hgrow hown1 hat (sy4 _ _ _ _ _)
          have FIN : Hid (MI wa wa.heap.size _ _ _ _ _ _ w1) := M1
          have x1 := M1.c1; have g1 := M1.core.fz 1; have hv1 := M1.core.lt
          clear M1 hown1 hgrow hat hltg c0
          go_wp2
          go_roundw
          case rel => exact ⟨j + 1, _, true, _, _, _, _, _, _, _, _, _, _, by omega, by omega, by go_num, rfl, rfl, rfl, HMade.out.it 0, fun h => (by cases h), (by simp only [ByteArray.size_append]; show T.size + (pieceT 0).size ≤ _; exact Nat.le_trans (Nat.add_le_add_left (pieceT_le 0) _) (by omega)), by omega, by omega, (by simp <;> omega), FIN.out.setC1 _⟩
          case measure => simp [intOf]; omega
        · have ONEI : Hid (∀ x, x ∈ [Value.int .i64 1, .string ⟨#[97, 98]⟩, .int .i64 0, .int .i64 0] → x.oneCell' = true) := by show ∀ x, _ → _; simp [Value.oneCell']
          go_wp2_with (first | (at_builtin; refine wpList_append_lies _ rfl _ _ 57 rfl (wa.heap.size + 1 + 1) 61 i (.agg #[.int .i64 0, .string ⟨#[]⟩, .int .i64 0, .int .i64 0]) 4 40 Try.underlying57 HI.out.1 HI.out.2.1 HI.out.2.2.1 HI.out.2.2.2 rfl (by decide) _ _ _ rfl (((((HM2.out.core.oi).alloc _).alloc _).alloc _).alloc _) ⟨wr.heap.size + 1 + 1 + 1, 0, none⟩ 1 1 [.int .i64 1, .string ⟨#[97, 98]⟩, .int .i64 0, .int .i64 0] rfl rfl (World.news_of_block (cs := #[.int .i64 1, .string ⟨#[97, 98]⟩, .int .i64 0, .int .i64 0]) (t := 61) (fr := (0, 0)) (new_at _ _ _ (sy3s _ _ _ _ _ _))) ONEI.out (by decide) MXI.out BYI.out (BSs.out _ _ _ _) (wr.heap.size + 1 + 1 + 1 + 1) (sy4s _ _ _ _ _ _ _) ?_))
          intro gg cap1 w1 hown1 hgrow hat hltg
          have M1 := MI.growI (t := pieceI 1) ((((HM2.out.box _).box _).box _).box _) hgrow hown1 hat (sy4s _ _ _ _ _ _ _)
          have FIN : Hid (MI wa wa.heap.size _ _ _ _ _ _ w1) := M1
          have x1 := M1.c1; have g1 := M1.core.fz 1; have hv1 := M1.core.lt
          clear M1 hown1 hgrow hat hltg c0
          go_wp2
          go_roundw
          case rel => exact ⟨j + 1, _, true, _, _, _, _, _, _, _, _, _, _, by omega, by omega, by go_num, rfl, rfl, rfl, HMade.out.not 1, fun h => (by cases h), (by simp only [ByteArray.size_append]; show T.size + 1 + (pieceT 1).size ≤ _; exact Nat.le_trans (Nat.add_le_add_left (pieceT_le 1) _) (by omega)), by omega, by omega, (by simp <;> omega), FIN.out.setC1 _⟩
          case measure => simp [intOf]; omega
        · have ONEI : Hid (∀ x, x ∈ [Value.int .i64 2, .string ⟨#[]⟩, .int .i64 97, .int .i64 99] → x.oneCell' = true) := by show ∀ x, _ → _; simp [Value.oneCell']
          go_wp2_with (first | (at_builtin; refine wpList_append_lies _ rfl _ _ 57 rfl (wa.heap.size + 1 + 1) 61 i (.agg #[.int .i64 0, .string ⟨#[]⟩, .int .i64 0, .int .i64 0]) 4 40 Try.underlying57 HI.out.1 HI.out.2.1 HI.out.2.2.1 HI.out.2.2.2 rfl (by decide) _ _ _ rfl (((((HM.out.core.oi).alloc _).alloc _).alloc _).alloc _) ⟨wr.heap.size + 1 + 1 + 1, 0, none⟩ 1 1 [.int .i64 2, .string ⟨#[]⟩, .int .i64 97, .int .i64 99] rfl rfl (World.news_of_block (cs := #[.int .i64 2, .string ⟨#[]⟩, .int .i64 97, .int .i64 99]) (t := 61) (fr := (0, 0)) (new_at _ _ _ (sy3 _ _ _ _))) ONEI.out (by decide) MXI.out BYI.out (BS.out _ _ _ _) (wr.heap.size + 1 + 1 + 1 + 1) (sy4 _ _ _ _ _) ?_))
          intro gg cap1 w1 hown1 hgrow hat hltg
          have M1 := MI.growI (t := pieceI 2) ((((HM.out.box _).box _).box _).box _) hgrow hown1 hat (sy4 _ _ _ _ _)
          have FIN : Hid (MI wa wa.heap.size _ _ _ _ _ _ w1) := M1
          have x1 := M1.c1; have g1 := M1.core.fz 1; have hv1 := M1.core.lt
          clear M1 hown1 hgrow hat hltg c0
          go_wp2
          go_roundw
          case rel => exact ⟨j + 1, _, true, _, _, _, _, _, _, _, _, _, _, by omega, by omega, by go_num, rfl, rfl, rfl, HMade.out.it 2, fun h => (by cases h), (by simp only [ByteArray.size_append]; show T.size + (pieceT 2).size ≤ _; exact Nat.le_trans (Nat.add_le_add_left (pieceT_le 2) _) (by omega)), by omega, by omega, (by simp <;> omega), FIN.out.setC1 _⟩
          case measure => simp [intOf]; omega
        · have ONEI : Hid (∀ x, x ∈ [Value.int .i64 0, .string ⟨#[81]⟩, .int .i64 0, .int .i64 0] → x.oneCell' = true) := by show ∀ x, _ → _; simp [Value.oneCell']
          go_wp2_with (first | (at_builtin; refine wpList_append_lies _ rfl _ _ 57 rfl (wa.heap.size + 1 + 1) 61 i (.agg #[.int .i64 0, .string ⟨#[]⟩, .int .i64 0, .int .i64 0]) 4 40 Try.underlying57 HI.out.1 HI.out.2.1 HI.out.2.2.1 HI.out.2.2.2 rfl (by decide) _ _ _ rfl (((((HM2.out.core.oi).alloc _).alloc _).alloc _).alloc _) ⟨wr.heap.size + 1 + 1 + 1, 0, none⟩ 1 1 [.int .i64 0, .string ⟨#[81]⟩, .int .i64 0, .int .i64 0] rfl rfl (World.news_of_block (cs := #[.int .i64 0, .string ⟨#[81]⟩, .int .i64 0, .int .i64 0]) (t := 61) (fr := (0, 0)) (new_at _ _ _ (sy3s _ _ _ _ _ _))) ONEI.out (by decide) MXI.out BYI.out (BSs.out _ _ _ _) (wr.heap.size + 1 + 1 + 1 + 1) (sy4s _ _ _ _ _ _ _) ?_))
          intro gg cap1 w1 hown1 hgrow hat hltg
          have M1 := MI.growI (t := pieceI 0) ((((HM2.out.box _).box _).box _).box _) hgrow hown1 hat (sy4s _ _ _ _ _ _ _)
          have FIN : Hid (MI wa wa.heap.size _ _ _ _ _ _ w1) := M1
          have x1 := M1.c1; have g1 := M1.core.fz 1; have hv1 := M1.core.lt
          clear M1 hown1 hgrow hat hltg c0
          go_wp2
          go_roundw
          case rel => exact ⟨j + 1, _, true, _, _, _, _, _, _, _, _, _, _, by omega, by omega, by go_num, rfl, rfl, rfl, HMade.out.not 0, fun h => (by cases h), (by simp only [ByteArray.size_append]; show T.size + 1 + (pieceT 0).size ≤ _; exact Nat.le_trans (Nat.add_le_add_left (pieceT_le 0) _) (by omega)), by omega, by omega, (by simp <;> omega), FIN.out.setC1 _⟩
          case measure => simp [intOf]; omega
        · have ONEI : Hid (∀ x, x ∈ [Value.int .i64 1, .string ⟨#[97, 98]⟩, .int .i64 0, .int .i64 0] → x.oneCell' = true) := by show ∀ x, _ → _; simp [Value.oneCell']
          go_wp2_with (first | (at_builtin; refine wpList_append_lies _ rfl _ _ 57 rfl (wa.heap.size + 1 + 1) 61 i (.agg #[.int .i64 0, .string ⟨#[]⟩, .int .i64 0, .int .i64 0]) 4 40 Try.underlying57 HI.out.1 HI.out.2.1 HI.out.2.2.1 HI.out.2.2.2 rfl (by decide) _ _ _ rfl (((((HM.out.core.oi).alloc _).alloc _).alloc _).alloc _) ⟨wr.heap.size + 1 + 1 + 1, 0, none⟩ 1 1 [.int .i64 1, .string ⟨#[97, 98]⟩, .int .i64 0, .int .i64 0] rfl rfl (World.news_of_block (cs := #[.int .i64 1, .string ⟨#[97, 98]⟩, .int .i64 0, .int .i64 0]) (t := 61) (fr := (0, 0)) (new_at _ _ _ (sy3 _ _ _ _))) ONEI.out (by decide) MXI.out BYI.out (BS.out _ _ _ _) (wr.heap.size + 1 + 1 + 1 + 1) (sy4 _ _ _ _ _) ?_))
          intro gg cap1 w1 hown1 hgrow hat hltg
          have M1 := MI.growI (t := pieceI 1) ((((HM.out.box _).box _).box _).box _) hgrow hown1 hat (sy4 _ _ _ _ _)
          have FIN : Hid (MI wa wa.heap.size _ _ _ _ _ _ w1) := M1
          have x1 := M1.c1; have g1 := M1.core.fz 1; have hv1 := M1.core.lt
          clear M1 hown1 hgrow hat hltg c0
          go_wp2
          go_roundw
          case rel => exact ⟨j + 1, _, true, _, _, _, _, _, _, _, _, _, _, by omega, by omega, by go_num, rfl, rfl, rfl, HMade.out.it 1, fun h => (by cases h), (by simp only [ByteArray.size_append]; show T.size + (pieceT 1).size ≤ _; exact Nat.le_trans (Nat.add_le_add_left (pieceT_le 1) _) (by omega)), by omega, by omega, (by simp <;> omega), FIN.out.setC1 _⟩
          case measure => simp [intOf]; omega
        · have ONEI : Hid (∀ x, x ∈ [Value.int .i64 2, .string ⟨#[]⟩, .int .i64 97, .int .i64 99] → x.oneCell' = true) := by show ∀ x, _ → _; simp [Value.oneCell']
          go_wp2_with (first | (at_builtin; refine wpList_append_lies _ rfl _ _ 57 rfl (wa.heap.size + 1 + 1) 61 i (.agg #[.int .i64 0, .string ⟨#[]⟩, .int .i64 0, .int .i64 0]) 4 40 Try.underlying57 HI.out.1 HI.out.2.1 HI.out.2.2.1 HI.out.2.2.2 rfl (by decide) _ _ _ rfl (((((HM2.out.core.oi).alloc _).alloc _).alloc _).alloc _) ⟨wr.heap.size + 1 + 1 + 1, 0, none⟩ 1 1 [.int .i64 2, .string ⟨#[]⟩, .int .i64 97, .int .i64 99] rfl rfl (World.news_of_block (cs := #[.int .i64 2, .string ⟨#[]⟩, .int .i64 97, .int .i64 99]) (t := 61) (fr := (0, 0)) (new_at _ _ _ (sy3s _ _ _ _ _ _))) ONEI.out (by decide) MXI.out BYI.out (BSs.out _ _ _ _) (wr.heap.size + 1 + 1 + 1 + 1) (sy4s _ _ _ _ _ _ _) ?_))
          intro gg cap1 w1 hown1 hgrow hat hltg
          have M1 := MI.growI (t := pieceI 2) ((((HM2.out.box _).box _).box _).box _) hgrow hown1 hat (sy4s _ _ _ _ _ _ _)
          have FIN : Hid (MI wa wa.heap.size _ _ _ _ _ _ w1) := M1
          have x1 := M1.c1; have g1 := M1.core.fz 1; have hv1 := M1.core.lt
          clear M1 hown1 hgrow hat hltg c0
          go_wp2
          go_roundw
          case rel => exact ⟨j + 1, _, true, _, _, _, _, _, _, _, _, _, _, by omega, by omega, by go_num, rfl, rfl, rfl, HMade.out.not 2, fun h => (by cases h), (by simp only [ByteArray.size_append]; show T.size + 1 + (pieceT 2).size ≤ _; exact Nat.le_trans (Nat.add_le_add_left (pieceT_le 2) _) (by omega)), by omega, by omega, (by simp <;> omega), FIN.out.setC1 _⟩
          case measure => simp [intOf]; omega
    · have hout : zs.length ≤ j ∨ (j < zs.length ∧ 40 ≤ j) := by omega
      clear hgo
      cases item with
      | true =>
        have hA : parseT (T ++ ⟨#[59]⟩) = .ok ⟨[⟨#[81]⟩], [⟨⟨#[81]⟩, alts ++ [alt ++ [⟨neg, items⟩]]⟩]⟩ := HMade.out.out (by omega)
        have P1 : ∀ w, Calls Try.prog 22 #[.string (T ++ ⟨#[59]⟩)] w fun e w' => ∃ p1 c1 p2 c2, ∃ F : Nat → Prop, e = .returned (.tuple #[.agg #[.slice p1 1 c1, .slice p2 1 c2], .int .i64 0, .int .i64 0]) ∧ RawIs w' F (.slice p1 1 c1) (.slice p2 1 c2) ⟨[⟨#[81]⟩], [⟨⟨#[81]⟩, alts ++ [alt ++ [⟨neg, items⟩]]⟩]⟩ ∧ Below w.heap.size w w' := fun w => (parse_ok hA (by unfold maxLen; simp only [ByteArray.size_append]; show T.size + 1 ≤ _; omega) w).mono (by rintro e w' ⟨p1, c1, p2, c2, F, h1, -, h3, h4⟩; exact ⟨p1, c1, p2, c2, F, h1, h3, h4⟩)
        clear hA HMade
        have ONEC : Hid (∀ x, x ∈ [Value.bool neg, .slice pi items.length ci] → x.oneCell' = true) := by show ∀ x, _ → _; simp [Value.oneCell']
        clear hitem
        rcases hout with hout | ⟨hout1, hout2⟩
        all_goals
          go_wp2_with (first | (at_builtin; refine wpList_append_lies _ rfl _ _ 56 rfl (wa.heap.size + 1 + 1) 59 i2 (.agg #[.bool false, .slice none 0 0]) 2 32 Try.underlying56 HJ.out.1 HJ.out.2.1 HJ.out.2.2.1 HJ.out.2.2.2 rfl (by decide) _ _ _ rfl ((HM.out.core.ol).alloc _) ⟨wr.heap.size, 0, none⟩ 1 1 [.bool neg, .slice pi items.length ci] rfl rfl (World.news_of_block (cs := #[.bool neg, .slice pi items.length ci]) (t := 59) (fr := (0, 0)) (new_at _ _ _ (rfl))) ONEC.out (by decide) MXC.out BYC.out (BS1.out _) (wr.heap.size + 1) (sz1 _ _) ?_))
          intro gg cap1 w1 hown1 hgrow hat hltg
          have M1 := MI.growC (HM.out.box _) hgrow hown1 hat (sz1 _ _)
          have M1H : Hid (MI wa wa.heap.size _ _ _ _ _ _ w1) := M1
          have x0 := M1.c0; have x1 := M1.c1; have y0 := M1.d0; have y1 := M1.d1; have g0 := M1.core.fz 0; have g1 := M1.core.fz 1; have gy1 := M1.fz 1; have gy0 := M1.fz 0; have hv1 := M1.core.lt
          have hv0 : wa.heap.size < w1.heap.size := Nat.lt_of_succ_lt hv1
          have ONEA : Hid (∀ x, x ∈ [Value.slice (some ⟨gg, 0, none⟩) (alt.length + 1) cap1] → x.oneCell' = true) := by show ∀ x, _ → _; simp [Value.oneCell']
          have BS2 : Hid (∀ o0 : Obj, wa.heap.size + 1 + 1 ≤ (w1.alloc o0).heap.size) := fun o0 => by rw [sz1]; omega
          clear M1 hown1 hgrow hat hltg
          go_wp2_with (first | (at_builtin; refine wpList_append_lies _ rfl _ _ 53 rfl (wa.heap.size + 1 + 1) 56 i3 (.slice none 0 0) 1 24 Try.underlying53 HK.out.1 HK.out.2.1 HK.out.2.2.1 HK.out.2.2.2 rfl (by decide) _ _ _ rfl ((M1H.out.core.oa).alloc _) ⟨w1.heap.size, 0, none⟩ 1 1 [.slice (some ⟨gg, 0, none⟩) (alt.length + 1) cap1] rfl rfl (World.news_of_block (cs := #[.slice (some ⟨gg, 0, none⟩) (alt.length + 1) cap1]) (t := 56) (fr := (0, 0)) (new_at _ _ _ (rfl))) ONEA.out (by decide) MXA.out BYA.out (BS2.out _) (w1.heap.size + 1) (sz1 _ _) ?_))
          intro hh cap2 w2 hown1 hgrow hat hltg
          have M2 := MI.growA (M1H.out.box _) hgrow hown1 hat (sz1 _ _)
          have FIN : Hid (MI wa wa.heap.size _ _ _ _ _ _ w2) := M2
          have z0 := M2.c0; have z1 := M2.c1; have q0 := M2.d0; have q1 := M2.d1; have r0 := M2.core.fz 0; have r1 := M2.core.fz 1; have r2 := M2.fz 1; have hv2 := M2.core.lt
          have hv3 : wa.heap.size < w2.heap.size := Nat.lt_of_succ_lt hv2
          clear M2 hown1 hgrow hat hltg
          go_wp2_with (first | (go_at_call 22; refine (P1 _).mono ?_; rintro e w4 ⟨p3, c3, p4, c4, F1, rfl, hR1, b1⟩; have M4 := (FIN.out.setD _).keep b1; have M4H : Hid (MI wa wa.heap.size _ _ _ _ _ _ w4) := M4; have Q1 : Hid (RawIs w4 F1 (.slice p3 1 c3) (.slice p4 1 c4) ⟨[⟨#[81]⟩], [⟨⟨#[81]⟩, alts ++ [alt ++ [⟨neg, items⟩]]⟩]⟩) := hR1; have s0 := M4.d0; have s1 := M4.d1; have hv4 := M4.lt; have hv5 := Nat.le_of_lt hv4; have hv6 := Nat.lt_succ_of_lt hv4; have hv7 := Nat.le_of_lt hv6; have hv8 := Nat.lt_succ_of_lt hv6; clear b1 hR1 M4) | (go_at_call 20; refine (num_any _ _).mono ?_; rintro e wn ⟨rfl, rfl⟩) | (go_at_call 24; refine (sameRaw_yes ⟨[⟨#[81]⟩], [⟨⟨#[81]⟩, alts ++ [alt ++ [⟨neg, items⟩]]⟩]⟩ _ _ _ _ _ (((Q1.out.box _).box _).box _).1 (((Q1.out.box _).box _).box _).2 (M4H.out.want2 _).1 (M4H.out.want2 _).2).mono ?_; rintro e w5 ⟨rfl, b5⟩; have B5 : Hid (Below wa.heap.size wa w5) := (((M4H.out.box _).box _).box _).bl.trans (b5.mono (Nat.le_of_lt (((M4H.out.box _).box _).box _).lt)); clear b5))
          all_goals go_ret
          all_goals exact ⟨rfl, B0.out.trans (B5.out.mono hwa)⟩
      | false =>
        obtain ⟨rfl, rfl⟩ := hitem rfl
        simp only [List.length_nil] at c01 HM MXI BYI
        clear hitem
        have hA : parseT ((T ++ ⟨#[81]⟩) ++ ⟨#[59]⟩) = .ok ⟨[⟨#[81]⟩], [⟨⟨#[81]⟩, alts ++ [alt ++ [⟨false, [⟨0, ⟨#[81]⟩, 0, 0⟩]⟩]]⟩]⟩ := HMade.out.out2 (by omega)
        have P1 : ∀ w, Calls Try.prog 22 #[.string ((T ++ ⟨#[81]⟩) ++ ⟨#[59]⟩)] w fun e w' => ∃ p1 c1 p2 c2, ∃ F : Nat → Prop, e = .returned (.tuple #[.agg #[.slice p1 1 c1, .slice p2 1 c2], .int .i64 0, .int .i64 0]) ∧ RawIs w' F (.slice p1 1 c1) (.slice p2 1 c2) ⟨[⟨#[81]⟩], [⟨⟨#[81]⟩, alts ++ [alt ++ [⟨false, [⟨0, ⟨#[81]⟩, 0, 0⟩]⟩]]⟩]⟩ ∧ Below w.heap.size w w' := fun w => (parse_ok hA (by unfold maxLen; simp only [ByteArray.size_append]; show T.size + 1 + 1 ≤ _; omega) w).mono (by rintro e w' ⟨p1, c1, p2, c2, F, h1, -, h3, h4⟩; exact ⟨p1, c1, p2, c2, F, h1, h3, h4⟩)
        clear hA HMade
        have ONEI : Hid (∀ x, x ∈ [Value.int .i64 0, .string ⟨#[81]⟩, .int .i64 0, .int .i64 0] → x.oneCell' = true) := by show ∀ x, _ → _; simp [Value.oneCell']
        rcases hout with hout | ⟨hout1, hout2⟩
        all_goals
          go_wp2_with (first | (at_builtin; refine wpList_append_lies _ rfl _ _ 57 rfl (wa.heap.size + 1 + 1) 61 i (.agg #[.int .i64 0, .string ⟨#[]⟩, .int .i64 0, .int .i64 0]) 4 40 Try.underlying57 HI.out.1 HI.out.2.1 HI.out.2.2.1 HI.out.2.2.2 rfl (by decide) _ _ _ rfl ((HM.out.core.oi).alloc _) ⟨wr.heap.size, 0, none⟩ 1 1 [.int .i64 0, .string ⟨#[81]⟩, .int .i64 0, .int .i64 0] rfl rfl (World.news_of_block (cs := #[.int .i64 0, .string ⟨#[81]⟩, .int .i64 0, .int .i64 0]) (t := 61) (fr := (0, 0)) (new_at _ _ _ (rfl))) ONEI.out (by decide) MXI.out BYI.out (BS1.out _) (wr.heap.size + 1) (sz1 _ _) ?_))
          intro gi capi wi hown1 hgrow hat hltg
          have M0 := MI.growI (t := pieceI 0) (HM.out.box _) hgrow hown1 hat (sz1 _ _)
          have t0 := M0.c0; have t1 := M0.c1; have t2 := M0.d0; have t3 := M0.d1; have tf0 := M0.core.fz 0; have tf1 := M0.core.fz 1; have tfd := M0.fz 1; have tv1 := M0.core.lt; have tv0 := M0.lt
          have M0H : Hid (MI wa wa.heap.size F ⟨0, [], [], ⟨#[]⟩, ⟨#[]⟩, alts, alt, false, [⟨0, ⟨#[81]⟩, 0, 0⟩]⟩ ⟨.slice none 0 0, .slice none 0 0, .slice pa alts.length ca, .slice pl alt.length cl, .slice (some ⟨gi, 0, none⟩) (0 + 1) capi, [], av, cv⟩ (.slice pa alts.length ca) (.bool false) (.slice (some ⟨gi, 0, none⟩) (0 + 1) capi) (wi.setCell ⟨wa.heap.size + 1, 1, none⟩ (.slice (some ⟨gi, 0, none⟩) (0 + 1) capi))) := M0.setC1 _
          have ONEC : Hid (∀ x, x ∈ [Value.bool false, .slice (some ⟨gi, 0, none⟩) (0 + 1) capi] → x.oneCell' = true) := by show ∀ x, _ → _; simp [Value.oneCell']
          have BSi : Hid (∀ o0 : Obj, wa.heap.size + 1 + 1 ≤ ((wi.setCell ⟨wa.heap.size + 1, 1, none⟩ (.slice (some ⟨gi, 0, none⟩) (0 + 1) capi)).alloc o0).heap.size) := fun o0 => by rw [sz1s]; omega
          clear M0 hown1 hgrow hat hltg
          go_wp2_with (first | (at_builtin; refine wpList_append_lies _ rfl _ _ 56 rfl (wa.heap.size + 1 + 1) 59 i2 (.agg #[.bool false, .slice none 0 0]) 2 32 Try.underlying56 HJ.out.1 HJ.out.2.1 HJ.out.2.2.1 HJ.out.2.2.2 rfl (by decide) _ _ _ rfl ((M0H.out.core.ol).alloc _) ⟨wi.heap.size, 0, none⟩ 1 1 [.bool false, .slice (some ⟨gi, 0, none⟩) (0 + 1) capi] rfl rfl (World.news_of_block (cs := #[.bool false, .slice (some ⟨gi, 0, none⟩) (0 + 1) capi]) (t := 59) (fr := (0, 0)) (new_at _ _ _ (ss _ _ _))) ONEC.out (by decide) MXC.out BYC.out (BSi.out _) (wi.heap.size + 1) (sz1s _ _ _ _) ?_))
          intro gg cap1 w1 hown1 hgrow hat hltg
          have M1 := MI.growC (M0H.out.box _) hgrow hown1 hat (sz1s _ _ _ _)
          have M1H : Hid (MI wa wa.heap.size _ _ _ _ _ _ w1) := M1
          have x0 := M1.c0; have x1 := M1.c1; have y0 := M1.d0; have y1 := M1.d1; have g0 := M1.core.fz 0; have g1 := M1.core.fz 1; have gy1 := M1.fz 1; have gy0 := M1.fz 0; have hv1 := M1.core.lt
          have hv0 : wa.heap.size < w1.heap.size := Nat.lt_of_succ_lt hv1
          have ONEA : Hid (∀ x, x ∈ [Value.slice (some ⟨gg, 0, none⟩) (alt.length + 1) cap1] → x.oneCell' = true) := by show ∀ x, _ → _; simp [Value.oneCell']
          have BS2 : Hid (∀ o0 : Obj, wa.heap.size + 1 + 1 ≤ (w1.alloc o0).heap.size) := fun o0 => by rw [sz1]; omega
          clear M1 hown1 hgrow hat hltg
          go_wp2_with (first | (at_builtin; refine wpList_append_lies _ rfl _ _ 53 rfl (wa.heap.size + 1 + 1) 56 i3 (.slice none 0 0) 1 24 Try.underlying53 HK.out.1 HK.out.2.1 HK.out.2.2.1 HK.out.2.2.2 rfl (by decide) _ _ _ rfl ((M1H.out.core.oa).alloc _) ⟨w1.heap.size, 0, none⟩ 1 1 [.slice (some ⟨gg, 0, none⟩) (alt.length + 1) cap1] rfl rfl (World.news_of_block (cs := #[.slice (some ⟨gg, 0, none⟩) (alt.length + 1) cap1]) (t := 56) (fr := (0, 0)) (new_at _ _ _ (rfl))) ONEA.out (by decide) MXA.out BYA.out (BS2.out _) (w1.heap.size + 1) (sz1 _ _) ?_))
          intro hh cap2 w2 hown1 hgrow hat hltg
          have M2 := MI.growA (M1H.out.box _) hgrow hown1 hat (sz1 _ _)
          have FIN : Hid (MI wa wa.heap.size _ _ _ _ _ _ w2) := M2
          have z0 := M2.c0; have z1 := M2.c1; have q0 := M2.d0; have q1 := M2.d1; have r0 := M2.core.fz 0; have r1 := M2.core.fz 1; have r2 := M2.fz 1; have hv2 := M2.core.lt
          have hv3 : wa.heap.size < w2.heap.size := Nat.lt_of_succ_lt hv2
          clear M2 hown1 hgrow hat hltg
          go_wp2_with (first | (go_at_call 22; refine (P1 _).mono ?_; rintro e w4 ⟨p3, c3, p4, c4, F1, rfl, hR1, b1⟩; have M4 := (FIN.out.setD _).keep b1; have M4H : Hid (MI wa wa.heap.size _ _ _ _ _ _ w4) := M4; have Q1 : Hid (RawIs w4 F1 (.slice p3 1 c3) (.slice p4 1 c4) ⟨[⟨#[81]⟩], [⟨⟨#[81]⟩, alts ++ [alt ++ [⟨false, [⟨0, ⟨#[81]⟩, 0, 0⟩]⟩]]⟩]⟩) := hR1; have s0 := M4.d0; have s1 := M4.d1; have hv4 := M4.lt; have hv5 := Nat.le_of_lt hv4; have hv6 := Nat.lt_succ_of_lt hv4; have hv7 := Nat.le_of_lt hv6; have hv8 := Nat.lt_succ_of_lt hv6; clear b1 hR1 M4) | (go_at_call 20; refine (num_any _ _).mono ?_; rintro e wn ⟨rfl, rfl⟩) | (go_at_call 24; refine (sameRaw_yes ⟨[⟨#[81]⟩], [⟨⟨#[81]⟩, alts ++ [alt ++ [⟨false, [⟨0, ⟨#[81]⟩, 0, 0⟩]⟩]]⟩]⟩ _ _ _ _ _ (((Q1.out.box _).box _).box _).1 (((Q1.out.box _).box _).box _).2 (M4H.out.want2 _).1 (M4H.out.want2 _).2).mono ?_; rintro e w5 ⟨rfl, b5⟩; have B5 : Hid (Below wa.heap.size wa w5) := (((M4H.out.box _).box _).box _).bl.trans (b5.mono (Nat.le_of_lt (((M4H.out.box _).box _).box _).lt)); clear b5))
          all_goals go_ret
          all_goals exact ⟨rfl, B0.out.trans (B5.out.mono hwa)⟩

set_option linter.unusedVariables false
theorem parseMade_own : ownKnob Try.prog.godebug = none := by kernel_rfl
set_option maxRecDepth 100000 in
theorem parseMade_lifted (os : Os) (started : os.Started) (H : Type) (enc : TypeId × Value → H) :
    ReturnsInHanded {} Try.checked os 14 .any (Rows.parseMadeSpec.pre6 enc Try.prog Try.f14 Rows.parseMadeRow.domain false) (Rows.parseMadeSpec.post enc Try.prog Try.f14 false true false false) := by
  refine returnsInHanded_of_change_sized (C := Try.checked) parseMade_own started (by kernel_rfl) Try.func14
    (ChangeSpec.witness6 (enc := enc) (C := Try.checked) false ⟨#[], #[.slice none 0 0], []⟩ 8 (by kernel_rfl) (by kernel_rfl) (by kernel_rfl) (by kernel_rfl)) ?_
  intro W base args ds gs before hval0 hW hcnd hsz0 _
  have hsz : (DataW.weightsEach Try.prog (Try.f14.params.toList ++ Rows.parseMadeSpec.plain.varTypes Try.prog) (ds ++ gs)).all (· ≤ reachBytes) = true := hsz0
  have hval : ∀ (j : Nat) t v, Try.f14.params[j]? = some t → args[j]? = some v → Value.okWide Try.prog W .any base t v := hval0
  have hW' := hW
  obtain ⟨p, q, hA0, hV, rfl, hfz, hnd⟩ := hW
  have hA : DataW.TrodAll enc Try.prog W 0 (fun _ => true) true Try.f14.params.toList args.toList ds p := hA0
  rw [Try.params14] at hA hval hsz
  obtain ⟨v0, vs0, d0, ds0, p0, q0, hargs, rfl, rfl, h0, r0⟩ := trodAll_cons hA
  obtain ⟨rfl, rfl, rfl⟩ := trodAll_nil r0
  obtain rfl : args = #[v0] := by cases args; simp_all
  obtain ⟨rfl, rfl⟩ := trodVars_none hV
  clear hA0 hval0 hsz0
  have k0 := h0
  have lt0 : ∀ x ∈ p0, x.block < W.heap.size := fun x hx => by have := hW'.lt x (by simp [hx]); simpa using this
  obtain ⟨zs0, row0, w0, hd0⟩ := open_irow Try.underlying37 (hval 0 37 v0 rfl rfl) h0
  have z0 := irow_reach hsz (j := 0) (t := 37) rfl rfl Try.underlying37 hd0
  refine (parseMade_walk W v0 zs0 row0 w0 z0).mono fun e W' ⟨he, bel⟩ => ?_
  subst he
  exact ⟨_, rfl, _, _, _, [], _, [], hW', trodAll_mk1 (shut_bool Try.underlying4 _), (trodAll_cons_mk (Below.trod Try.laidOutB (by kernel_rfl) (of_decide_eq_true (by kernel_rfl)) k0 bel lt0) trodAll_mk0), rfl, bel.frame _, fun h => by cases h⟩

theorem parseMade_holds : Rows.ParseMadeSaid :=
  OpenClaim.holds_of_wide 14 Try.f14 rfl rfl rfl rfl rfl rfl rfl ⟨rfl, rfl, rfl, rfl, rfl⟩ rfl rfl rfl rfl rfl (by kernel_rfl) Try.func14 (by kernel_rfl)
    (of_decide_eq_true (by kernel_rfl)) (by unfold Func.isWrapper; first | (rw [if_pos (by decide +kernel)]; kernel_rfl) | (rw [if_neg (by decide +kernel)]; exact ⟨rfl, rfl⟩))
    (fun os started H enc _ => parseMade_lifted os started H enc)
#print axioms parseMade_holds
end Go.Proofs.Ytjfdgdjfgiifeaa
