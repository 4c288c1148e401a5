/- ParseStarts: starts and definitions stand in their rows, however they are mixed: at every argument, with no condition. -/
import Derived.Test.YtjfdgdjfgiifeaaNoteAwake
import Derived.Test.YtjfdgdjfgiifeaaNoteRow
import Derived.Test.YtjfdgdjfgiifeaaLexBlanks
namespace Go.Proofs.Ytjfdgdjfgiifeaa
set_option linter.unusedVariables false
open Go.ChangeShapes Go.WideShapes Go.ChangeAt Go.RowKit

def nilS : Value := .slice none 0 0
theorem Core.first (w : World) (t : TypeId) : Core w w.heap.size (fun _ => False) ⟨0, [], [], ⟨#[]⟩, ⟨#[]⟩, [], [], false, []⟩ ⟨.slice none 0 0, .slice none 0 0, .slice none 0 0, .slice none 0 0, .slice none 0 0, [], [], []⟩ (w.alloc (.cells #[.slice none 0 0, .slice none 0 0] t)) :=
  ⟨fun b h => h.elim, World.ownsRow_nil _ _ _ _, World.ownsRow_nil _ _ _ _, World.ownsRow_nil _ _ _ _, World.ownsRow_nil _ _ _ _, World.ownsRow_nil _ _ _ _, nil_not _, nil_not _, nil_not _, nil_not _, nil_not _, ⟨rfl, fun k c u h1 => by simp at h1⟩, ⟨rfl, fun k c u h1 => by simp at h1⟩, ⟨rfl, fun k c u h1 => by simp at h1⟩, fun j => World.frozen?_alloc_at _ _ _ _ rfl, (Below.refl _ _).alloc (Nat.le_refl _) _, by simp⟩
/-- What a variable holds that is being filled. -/
def WantIs (W : World) (V : Nat) (starts : List ByteArray) (defs : List Df) (w : World) : Prop := ∃ F vs vd dv, Core W V F ⟨0, starts, defs, ⟨#[]⟩, ⟨#[]⟩, [], [], false, []⟩ ⟨vs, vd, .slice none 0 0, .slice none 0 0, .slice none 0 0, dv, [], []⟩ w ∧ w.cell? ⟨V, 0, none⟩ = some vs ∧ w.cell? ⟨V, 1, none⟩ = some vd
theorem WantIs.raw {W w : World} {V : Nat} {starts : List ByteArray} {defs : List Df} (h : WantIs W V starts defs w) : ∃ p1 c1 p2 c2, w.cell? ⟨V, 0, none⟩ = some (.slice p1 starts.length c1) ∧ w.cell? ⟨V, 1, none⟩ = some (.slice p2 defs.length c2) ∧ RawIs w Any (.slice p1 starts.length c1) (.slice p2 defs.length c2) ⟨starts, defs⟩ := by
  obtain ⟨F, vs, vd, dv, hc, h0, h1⟩ := h
  obtain ⟨p1, c1, e1⟩ := row_slice hc.os
  obtain ⟨p2, c2, e2⟩ := row_slice hc.od
  simp only at e1 e2
  subst e1 e2
  exact ⟨_, _, _, _, h0, h1, Reads.of hc.os (fun _ _ => trivial), dv, Reads.of hc.od (fun _ _ => trivial), hc.id.keep ⟨Nat.le_refl _, fun _ _ => rfl⟩ fun _ _ => trivial⟩
def layO (n : Nat) : List Obj := [.cells #[.int .i64 1, .string ⟨#[]⟩, .int .i64 0, .int .i64 0] 61, .cells #[.bool false, .slice (some ⟨n, 0, none⟩) 1 1] 59, .cells #[.slice (some ⟨n + 1, 0, none⟩) 1 1] 56]
/-- The parts of a definition, laid. -/
theorem Core.lay {W w : World} {B : Nat} {F : Nat → Prop} {starts : List ByteArray} {defs : List Df} {s m name : ByteArray} {vs vd : Value} {dv : List Value} (h : Core W B F ⟨0, starts, defs, s, m, [], [], false, []⟩ ⟨vs, vd, .slice none 0 0, .slice none 0 0, .slice none 0 0, dv, [], []⟩ w) (n : Nat) (hn : w.heap.size = n) (o : Obj) :
    Core W B (fun b => F b ∨ b = n ∨ b = n + 1) ⟨0, starts, defs, s, name, emptyAlts, [], false, []⟩ ⟨vs, vd, .slice (some ⟨n + 1 + 1, 0, none⟩) 1 1, .slice none 0 0, .slice none 0 0, dv, [.slice (some ⟨n + 1, 0, none⟩) 1 1], []⟩ ((allocs w (layO n)).alloc o) := by
  have ha := fun k q => allocs_at (layO n) w k q
  rw [hn] at ha
  have hb0 := allocs_below (layO n) w
  have hk := (h.keep hb0).keep (bel1 _ o)
  have hz : (allocs w (layO n)).heap.size = n + 3 := by rw [← hn]; simp [allocs, layO]
  have hz1 : ((allocs w (layO n)).alloc o).heap.size = n + 4 := by simp [hz]
  have hB := h.lt
  have hold : ∀ k, k < n + 3 → ((allocs w (layO n)).alloc o).heap[k]? = (allocs w (layO n)).heap[k]? := fun k hkk => (bel1 (allocs w (layO n)) o).block k (by omega)
  have b0 : ((allocs w (layO n)).alloc o).heap[n]? = some (.cells #[.int .i64 1, .string ⟨#[]⟩, .int .i64 0, .int .i64 0] 61) := (hold n (by omega)).trans (ha 0 _ rfl)
  have b1 : ((allocs w (layO n)).alloc o).heap[n + 1]? = some (.cells #[.bool false, .slice (some ⟨n, 0, none⟩) 1 1] 59) := (hold (n + 1) (by omega)).trans (ha 1 _ rfl)
  have b2 : ((allocs w (layO n)).alloc o).heap[n + 1 + 1]? = some (.cells #[.slice (some ⟨n + 1, 0, none⟩) 1 1] 56) := (hold (n + 1 + 1) (by omega)).trans (ha 2 _ rfl)
  have own := fun (b : Nat) (hb : b < n) => (⟨by omega, by omega⟩ : b ≠ n ∧ b ≠ n + 1)
  have hs : Stay F ((allocs w (layO n)).alloc o) ((allocs w (layO n)).alloc o) := ⟨Nat.le_refl _, fun _ _ => rfl⟩
  have hi := fun (b : Nat) (hF : F b) => (Or.inl hF : F b ∨ b = n ∨ b = n + 1)
  have i0 : IsIts ((allocs w (layO n)).alloc o) (fun b => F b ∨ b = n ∨ b = n + 1) (.slice (some ⟨n, 0, none⟩) 1 1) [⟨1, ⟨#[]⟩, 0, 0⟩] :=
    Reads.of (base := 0) (e := 61) (size := 4) ⟨rfl, .inr ⟨n, 1, _, rfl, Nat.zero_le _, b0, Nat.le_refl _, one_le.1, rfl, rfl⟩⟩ (fun b hb => by injection hb with hb; exact Or.inr (Or.inl hb.symm))
  have i1 : IsCjs ((allocs w (layO n)).alloc o) (fun b => F b ∨ b = n ∨ b = n + 1) (.slice (some ⟨n + 1, 0, none⟩) 1 1) [⟨false, [⟨1, ⟨#[]⟩, 0, 0⟩]⟩] :=
    ⟨[_], Reads.of (base := 0) (e := 59) (size := 2) ⟨rfl, .inr ⟨n + 1, 1, _, rfl, Nat.zero_le _, b1, Nat.le_refl _, one_le.1, rfl, rfl⟩⟩ (fun b hb => by injection hb with hb; exact Or.inr (Or.inr hb.symm)), (CjsIn.nil _ _).snoc (c := ⟨false, [⟨1, ⟨#[]⟩, 0, 0⟩]⟩) i0⟩
  refine ⟨fun b hF => ?_, hk.os, hk.od, ⟨rfl, .inr ⟨n + 1 + 1, 1, _, rfl, by omega, b2, Nat.le_refl _, one_le.1, rfl, rfl⟩⟩, hk.ol, hk.oi, fun b hb hF => ?_, fun b hb hF => ?_, fun b hb hF => ?_, nil_not _, nil_not _, hk.id.keep hs hi, (AltsIn.nil _ _).snoc i1, hk.il.keep hs hi, hk.fz, hk.bl, hk.lt⟩
  · rcases hF with hF | hF | hF
    · exact hk.fl b hF
    · omega
    · omega
  · have hl := (h.os.lt b hb).2
    rcases hF with hF | hF | hF
    · exact h.ns b hb hF
    · omega
    · omega
  · have hl := (h.od.lt b hb).2
    rcases hF with hF | hF | hF
    · exact h.nd b hb hF
    · omega
    · omega
  · obtain rfl : n + 1 + 1 = b := by injection hb
    rcases hF with hF | hF | hF
    · have := (h.fl _ hF).2; omega
    · omega
    · omega

set_option maxHeartbeats 8000000 in
set_option maxRecDepth 100000 in
theorem parseStarts_walk (w : World) (v : Value) (zs : List Int) (hr : IRow w v zs) (hw : ∀ z ∈ zs, (Lit.int .i64 z).wf = true) (hz : zs.length * 8 ≤ 140737488351232) :
    Calls Try.prog 16 #[v] w fun e w' => e = .returned (.bool true) ∧ Below w.heap.size w w' := by
  obtain ⟨p, cap, rfl, hcap, -⟩ := id hr
  have HR : Hid (IRow w (.slice p zs.length cap) zs) := hr
  obtain ⟨i, hi0, hz0, hz1, hz2⟩ := info_parts Try.infoStr
  have HI : Hid (Try.prog.info? 9 = some i ∧ i.zero = some (.string ⟨#[]⟩) ∧ i.size = 1 ∧ i.bytes = 16) := ⟨hi0, hz0, hz1, hz2⟩
  obtain ⟨i2, hj0, hj1, hj2, hj3⟩ := info_parts Try.infoDef
  have HJ : Hid (Try.prog.info? 55 = some i2 ∧ i2.zero = some (.agg #[.string ⟨#[]⟩, .slice none 0 0]) ∧ i2.size = 2 ∧ i2.bytes = 40) := ⟨hj0, hj1, hj2, hj3⟩
  clear hr hw hi0 hz0 hz1 hz2 hj0 hj1 hj2 hj3
  go_enter Try.func16, Try.ntmps16
  go_wp2_with (first | (go_at_call 26; refine (awake3_any _).mono ?_; rintro e wa ⟨rfl, ha⟩; have B0 : Hid (Below w.heap.size w wa) := ha; have hwa : w.heap.size ≤ wa.heap.size := ha.size; clear ha))
  go_loopw [3, 5] (fun t x wr => ∃ (j : Nat) (T : ByteArray) (starts : List ByteArray) (defs : List Df), j ≤ zs.length ∧ j ≤ 30 ∧ x = .int .i64 j ∧ t = .string T ∧ Declares T starts defs ∧ starts.length ≤ j ∧ defs.length ≤ j ∧ T.size ≤ 9 * j ∧ WantIs wa wa.heap.size starts defs wr) (fun _ x _ => 30 - (intOf x).toNat)
  case atStart => exact ⟨0, ⟨#[]⟩, [], [], by omega, by omega, rfl, rfl, Declares.nil, Nat.le_refl _, Nat.le_refl _, Nat.le_refl _, _, _, _, _, Core.first wa _, World.cell?_alloc_at _ _ _ _ rfl, World.cell?_alloc_at _ _ _ _ rfl⟩
  case round =>
    obtain ⟨j, T, starts, defs, hj1, hj2, rfl, rfl, hD, hls, hld, hTs, hWn⟩ := hrel
    have HD : Hid (Declares T starts defs) := hD
    have HWn : Hid (WantIs wa wa.heap.size starts defs wr) := hWn
    by_cases hgo : j < zs.length ∧ j < 30
    · obtain ⟨hlt, h30⟩ := hgo
      obtain ⟨F, vs, vd, dv, hc, h0, h1⟩ := hWn
      obtain ⟨ps, cs, e1⟩ := row_slice hc.os
      obtain ⟨pd, cd, e2⟩ := row_slice hc.od
      simp only at e1 e2
      subst e1 e2
      obtain ⟨z, hzk⟩ : ∃ z, zs[j]? = some z := ⟨_, List.getElem?_eq_getElem hlt⟩
      obtain ⟨m, hm, em⟩ := tmod3 z
      obtain ⟨g, o, hp, hg, hcl⟩ := HR.out.cell hzk
      subst hp
      have hBl := hc.bl
      have hV := hc.lt
      have c0 : wr.cell? ⟨g, o + j, none⟩ = some (.int .i64 z) := (hBl.cell (p := ⟨g, _, none⟩) (Nat.lt_of_lt_of_le hg hwa)).trans ((B0.out.cell (p := ⟨g, _, none⟩) hg).trans hcl)
      have hgr : g < wr.heap.size := Nat.lt_of_lt_of_le hg (Nat.le_trans hwa (Nat.le_of_lt hV))
      have hns := sn_size m
      have hc1 : ∀ wx : World, (wx.alloc (.cells snArr 9)).cell? ⟨wx.heap.size, m, none⟩ = some (.string (sn m)) := fun wx => (World.cell?_alloc_at _ _ _ _ rfl).trans (snArr_at m hm)
      have hc2 := snArr_at m hm
      have D1 := hD.start m
      have D2 := hD.def m
      have HD1 : Hid (Declares (((T ++ ⟨#[115, 116, 97, 114, 116, 32]⟩) ++ sn m) ++ ⟨#[59]⟩) (starts ++ [sn m]) defs) := D1
      have HD2 : Hid (Declares ((T ++ sn m) ++ ⟨#[61, 34, 34, 59, 10]⟩) starts (defs ++ [⟨sn m, emptyAlts⟩])) := D2
      simp only [snArr] at hc1 hc2
      generalize sn m = u at *
      have f0 := hc.fz 0
      have f1 := hc.fz 1
      have HC : Hid (Core wa wa.heap.size F ⟨0, starts, defs, ⟨#[]⟩, ⟨#[]⟩, [], [], false, []⟩ ⟨.slice ps starts.length cs, .slice pd defs.length cd, .slice none 0 0, .slice none 0 0, .slice none 0 0, dv, [], []⟩ wr) := hc
      have MX1 : Hid (starts.length + 1 ≤ maxLen) := by show _ ≤ _; unfold maxLen; omega
      have MX2 : Hid (defs.length + 1 ≤ maxLen) := by show _ ≤ _; unfold maxLen; omega
      have BY1 : Hid ((starts.length + 1) * 16 ≤ 140737488355328) := by show _ ≤ _; omega
      have BY2 : Hid ((defs.length + 1) * 40 ≤ 140737488355328) := by show _ ≤ _; omega
      clear hD hzk hcl hg D1 D2 hBl hc HWn
      by_cases h4 : (bits .and .i64 z 4 == 4) = true
      · have ONE : Hid (∀ x, x ∈ [Value.string u] → x.oneCell' = true) := by show ∀ x, _ → _; simp [Value.oneCell']
        go_wp2_with (first | (at_builtin; refine wpList_append_lies _ rfl _ _ 38 rfl (wa.heap.size + 1) 9 i (.string ⟨#[]⟩) 1 16 Try.underlying38 HI.out.1 HI.out.2.1 HI.out.2.2.1 HI.out.2.2.2 rfl (by decide) _ _ _ rfl ((HC.out.os.alloc _).alloc _) ⟨wr.heap.size + 1, 0, none⟩ 1 1 [.string u] rfl rfl (World.news_of_block (cs := #[.string u]) (t := 9) (fr := (0, 0)) (new_at _ _ _ (sz1 _ _))) ONE.out (by decide) MX1.out BY1.out (Nat.le_trans (Nat.succ_le_of_lt hV) (Nat.le_trans (le_alloc _ _) (le_alloc _ _))) (wr.heap.size + 2) (sz2 _ _ _) ?_))
        intro gg cap1 w1 hown1 hgrow hat hltg
        have hk := (HC.out.keep (bel1 wr (.cells #[.string ⟨#[97]⟩, .string ⟨#[66]⟩, .string ⟨#[95, 48]⟩] 9))).keep (bel1 _ (.cells #[.string u] 9))
        have FIN : Hid (Core wa wa.heap.size F ⟨0, starts ++ [u], defs, ⟨#[]⟩, ⟨#[]⟩, [], [], false, []⟩ ⟨.slice (some ⟨gg, 0, none⟩) (starts.length + 1) cap1, .slice pd defs.length cd, .slice none 0 0, .slice none 0 0, .slice none 0 0, dv, [], []⟩ w1) :=
          hk.growS hgrow hown1 (fun b hb => by
            obtain rfl : gg = b := by injection hb
            exact hk.fresh hk.ns hat (by simp))
        have hcc := (hk.grow hgrow (row_out hk.os hk.ns)).2.1
        have d0 : w1.cell? ⟨wa.heap.size, 0, none⟩ = some (.slice ps starts.length cs) := (hcc 0).trans ((World.cell?_alloc_past _ _ _ (by simp; omega)).trans ((World.cell?_alloc_past _ _ _ hV).trans h0))
        have d1 : w1.cell? ⟨wa.heap.size, 1, none⟩ = some (.slice pd defs.length cd) := (hcc 1).trans ((World.cell?_alloc_past _ _ _ (by simp; omega)).trans ((World.cell?_alloc_past _ _ _ hV).trans h1))
        have g0 : w1.frozen? ⟨wa.heap.size, 0, none⟩ = false := FIN.out.fz 0
        clear hk hown1 hgrow hat hcc hltg c0 hc1 hc2
        go_wp2
        go_roundw
        case rel => exact ⟨j + 1, _, _, _, by omega, by omega, by go_num, rfl, HD1.out, by simp; omega, by omega, by simp only [ByteArray.size_append]; show T.size + 6 + u.size + 1 ≤ _; omega, _, _, _, _, FIN.out.set 0 _, World.cell?_setCell_same _ _ _ d0, (World.cell?_setCell_other _ _ _ _ (ne_off (by decide))).trans d1⟩
        case measure => simp [intOf]; omega
      · have h4' : (bits .and .i64 z 4 == 4) = false := Bool.eq_false_iff.2 h4
        have ONE : Hid (∀ x, x ∈ [Value.string u, .slice (some ⟨wr.heap.size + 1 + 1 + 1, 0, none⟩) 1 1] → x.oneCell' = true) := by show ∀ x, _ → _; simp [Value.oneCell']
        have sz4 : ∀ o0 o1 o2 o3 : Obj, ((((wr.alloc o0).alloc o1).alloc o2).alloc o3).heap.size = wr.heap.size + 1 + 1 + 1 + 1 := fun _ _ _ _ => by simp
        have sz5 : ∀ o0 o1 o2 o3 o4 : Obj, (((((wr.alloc o0).alloc o1).alloc o2).alloc o3).alloc o4).heap.size = wr.heap.size + 1 + 1 + 1 + 1 + 1 := fun _ _ _ _ _ => by simp
        have BS : Hid (∀ o0 o1 o2 o3 o4 : Obj, wa.heap.size + 1 ≤ (((((wr.alloc o0).alloc o1).alloc o2).alloc o3).alloc o4).heap.size) := fun o0 o1 o2 o3 o4 => by rw [sz5]; omega
        have SZ4 : Hid (∀ o0 o1 o2 o3 : Obj, ((((wr.alloc o0).alloc o1).alloc o2).alloc o3).heap.size = wr.heap.size + 1 + 1 + 1 + 1) := sz4
        have SZ5 : Hid (∀ o0 o1 o2 o3 o4 : Obj, (((((wr.alloc o0).alloc o1).alloc o2).alloc o3).alloc o4).heap.size = wr.heap.size + 1 + 1 + 1 + 1 + 1) := sz5
        have k1 : wa.heap.size < wr.heap.size + 1 := Nat.lt_succ_of_lt hV
        have k2 : wa.heap.size < wr.heap.size + 1 + 1 := Nat.lt_succ_of_lt k1
        have k3 : wa.heap.size < wr.heap.size + 1 + 1 + 1 := Nat.lt_succ_of_lt k2
        have k4 : wa.heap.size < wr.heap.size + 1 + 1 + 1 + 1 := Nat.lt_succ_of_lt k3
        have l0 := Nat.le_of_lt hV
        have l1 := Nat.le_of_lt k1
        have l2 := Nat.le_of_lt k2
        have l3 := Nat.le_of_lt k3
        clear h4 sz4 sz5
        go_wp2_with (first | (at_builtin; refine wpList_append_lies _ rfl _ _ 43 rfl (wa.heap.size + 1) 55 i2 (.agg #[.string ⟨#[]⟩, .slice none 0 0]) 2 40 Try.underlying43 HJ.out.1 HJ.out.2.1 HJ.out.2.2.1 HJ.out.2.2.2 rfl (by decide) _ _ _ rfl (((((HC.out.od.alloc _).alloc _).alloc _).alloc _).alloc _) ⟨wr.heap.size + 1 + 1 + 1 + 1, 0, none⟩ 1 1 [.string u, .slice (some ⟨wr.heap.size + 1 + 1 + 1, 0, none⟩) 1 1] rfl rfl (World.news_of_block (cs := #[.string u, .slice (some ⟨wr.heap.size + 1 + 1 + 1, 0, none⟩) 1 1]) (t := 55) (fr := (0, 0)) (new_at _ _ _ (SZ4.out _ _ _ _))) ONE.out (by decide) MX2.out BY2.out (BS.out _ _ _ _ _) (wr.heap.size + 1 + 1 + 1 + 1 + 1) (SZ5.out _ _ _ _ _) ?_))
        intro gg cap1 w1 hown1 hgrow hat hltg
        have hk := (HC.out.keep (bel1 wr (.cells #[.string ⟨#[97]⟩, .string ⟨#[66]⟩, .string ⟨#[95, 48]⟩] 9))).lay (name := u) (wr.heap.size + 1) (by simp) (.cells #[.string u, .slice (some ⟨wr.heap.size + 1 + 1 + 1, 0, none⟩) 1 1] 55)
        have FIN : Hid (∃ F', Core wa wa.heap.size F' ⟨0, starts, defs ++ [⟨u, emptyAlts⟩], ⟨#[]⟩, ⟨#[]⟩, [], [], false, []⟩ ⟨.slice ps starts.length cs, .slice (some ⟨gg, 0, none⟩) (defs.length + 1) cap1, .slice none 0 0, .slice none 0 0, .slice none 0 0, dv ++ [.slice (some ⟨wr.heap.size + 1 + 1 + 1, 0, none⟩) 1 1], [], []⟩ w1) :=
          ⟨_, hk.shutD hgrow hown1 (fun b hb => by
            obtain rfl : gg = b := by injection hb
            exact hk.fresh hk.nd hat (SZ5.out _ _ _ _ _))⟩
        have hcc := (hk.grow hgrow (row_out hk.od hk.nd)).2.1
        have hold : ∀ j, ((allocs (wr.alloc (.cells #[.string ⟨#[97]⟩, .string ⟨#[66]⟩, .string ⟨#[95, 48]⟩] 9)) (layO (wr.heap.size + 1))).alloc (.cells #[.string u, .slice (some ⟨wr.heap.size + 1 + 1 + 1, 0, none⟩) 1 1] 55)).cell? ⟨wa.heap.size, j, none⟩ = wr.cell? ⟨wa.heap.size, j, none⟩ := fun j => (((bel1 wr _).trans ((allocs_below (layO (wr.heap.size + 1)) _).mono (le_alloc _ _))).trans ((bel1 _ _).mono (Nat.le_trans (le_alloc _ _) (allocs_below (layO (wr.heap.size + 1)) _).size))).cell (p := ⟨wa.heap.size, j, none⟩) hV
        have d0 : w1.cell? ⟨wa.heap.size, 0, none⟩ = some (.slice ps starts.length cs) := (hcc 0).trans ((hold 0).trans h0)
        have d1 : w1.cell? ⟨wa.heap.size, 1, none⟩ = some (.slice pd defs.length cd) := (hcc 1).trans ((hold 1).trans h1)
        have g1 : w1.frozen? ⟨wa.heap.size, 1, none⟩ = false := by
          obtain ⟨F', hf⟩ := FIN.out
          exact hf.fz 1
        clear hk hown1 hgrow hat hcc hltg c0 hc1 hc2 hold
        go_wp2
        go_roundw
        case rel =>
          obtain ⟨F', hf⟩ := FIN.out
          exact ⟨j + 1, _, _, _, by omega, by omega, by go_num, rfl, HD2.out, by omega, by simp; omega, by simp only [ByteArray.size_append]; show T.size + u.size + 5 ≤ _; omega, _, _, _, _, hf.set 1 _, (World.cell?_setCell_other _ _ _ _ (ne_off (by decide))).trans d0, World.cell?_setCell_same _ _ _ d1⟩
        case measure => simp [intOf]; omega
    · have hout : zs.length ≤ j ∨ (j < zs.length ∧ 30 ≤ j) := by omega
      have hTs2 : T.size ≤ 270 := by omega
      have hA : parseT T = .ok ⟨starts, defs⟩ := hD.out (by omega)
      have P1 := fun w => parse_ok hA (by unfold maxLen; omega) w
      obtain ⟨p1, c1, p2, c2, x0, x1, hraw⟩ := hWn.raw
      have hV : wa.heap.size < wr.heap.size := by
        obtain ⟨F, vs, vd, dv, hc, -, -⟩ := hWn
        exact hc.lt
      have BW : Hid (Below wa.heap.size wa wr) := by
        obtain ⟨F, vs, vd, dv, hc, -, -⟩ := hWn
        exact hc.bl
      have HRW : Hid (RawIs wr Any (.slice p1 starts.length c1) (.slice p2 defs.length c2) ⟨starts, defs⟩) := hraw
      simp only at P1
      clear hA hD hTs hgo hraw hWn HWn
      rcases hout with hout | ⟨hout1, hout2⟩
      all_goals
        go_wp2_with (first | (go_at_call 22; refine (P1 _).mono ?_; rintro e w1 ⟨p3, c3, p4, c4, F1, rfl, hF1, hR1, b1⟩; have B1 : Hid (Below wa.heap.size wa w1) := BW.out.trans (b1.mono BW.out.size); have Q1 : Hid (RawIs w1 F1 (.slice p3 starts.length c3) (.slice p4 defs.length c4) ⟨starts, defs⟩) := hR1; have Q2 : Hid (RawIs w1 Any (.slice p1 starts.length c1) (.slice p2 defs.length c2) ⟨starts, defs⟩) := HRW.out.any b1; have y0 := (b1.cell (p := ⟨wa.heap.size, 0, none⟩) hV).trans x0; have y1 := (b1.cell (p := ⟨wa.heap.size, 1, none⟩) hV).trans x1; have hv1 : wa.heap.size < w1.heap.size := Nat.lt_of_lt_of_le hV b1.size; clear b1 hR1 hF1) | (go_at_call 20; refine (num_any _ _).mono ?_; rintro e wn ⟨rfl, rfl⟩) | (go_at_call 24; refine (sameRaw_yes ⟨starts, defs⟩ _ _ _ _ _ (Q1.out.any (bel1 _ _)).1 (Q1.out.any (bel1 _ _)).2 (Q2.out.any (bel1 _ _)).1 (Q2.out.any (bel1 _ _)).2).mono ?_; rintro e w5 ⟨rfl, b5⟩; have B5 : Hid (Below wa.heap.size wa w5) := (B1.out.alloc B1.out.size _).trans (b5.mono (Nat.le_trans B1.out.size (le_alloc _ _))); clear b5))
        all_goals go_ret
        all_goals exact ⟨rfl, B0.out.trans (B5.out.mono B0.out.size)⟩

set_option linter.unusedVariables false
theorem parseStarts_own : ownKnob Try.prog.godebug = none := by kernel_rfl
set_option maxRecDepth 100000 in
theorem parseStarts_lifted (os : Os) (started : os.Started) (H : Type) (enc : TypeId × Value → H) :
    ReturnsInHanded {} Try.checked os 16 .any (Rows.parseStartsSpec.pre6 enc Try.prog Try.f16 Rows.parseStartsRow.domain false) (Rows.parseStartsSpec.post enc Try.prog Try.f16 false true false false) := by
  refine returnsInHanded_of_change_sized (C := Try.checked) parseStarts_own started (by kernel_rfl) Try.func16
    (ChangeSpec.witness6 (enc := enc) (C := Try.checked) false ⟨#[], #[.slice none 0 0], []⟩ 8 (by kernel_rfl) (by kernel_rfl) (by kernel_rfl) (by kernel_rfl)) ?_
  intro W base args ds gs before hval0 hW hcnd hsz0 _
  have hsz : (DataW.weightsEach Try.prog (Try.f16.params.toList ++ Rows.parseStartsSpec.plain.varTypes Try.prog) (ds ++ gs)).all (· ≤ reachBytes) = true := hsz0
  have hval : ∀ (j : Nat) t v, Try.f16.params[j]? = some t → args[j]? = some v → Value.okWide Try.prog W .any base t v := hval0
  have hW' := hW
  obtain ⟨p, q, hA0, hV, rfl, hfz, hnd⟩ := hW
  have hA : DataW.TrodAll enc Try.prog W 0 (fun _ => true) true Try.f16.params.toList args.toList ds p := hA0
  rw [Try.params16] at hA hval hsz
  obtain ⟨v0, vs0, d0, ds0, p0, q0, hargs, rfl, rfl, h0, r0⟩ := trodAll_cons hA
  obtain ⟨rfl, rfl, rfl⟩ := trodAll_nil r0
  obtain rfl : args = #[v0] := by cases args; simp_all
  obtain ⟨rfl, rfl⟩ := trodVars_none hV
  clear hA0 hval0 hsz0
  have k0 := h0
  have lt0 : ∀ x ∈ p0, x.block < W.heap.size := fun x hx => by have := hW'.lt x (by simp [hx]); simpa using this
  obtain ⟨zs0, row0, w0, hd0⟩ := open_irow Try.underlying37 (hval 0 37 v0 rfl rfl) h0
  have z0 := irow_reach hsz (j := 0) (t := 37) rfl rfl Try.underlying37 hd0
  refine (parseStarts_walk W v0 zs0 row0 w0 z0).mono fun e W' ⟨he, bel⟩ => ?_
  subst he
  exact ⟨_, rfl, _, _, _, [], _, [], hW', trodAll_mk1 (shut_bool Try.underlying4 _), (trodAll_cons_mk (Below.trod Try.laidOutB (by kernel_rfl) (of_decide_eq_true (by kernel_rfl)) k0 bel lt0) trodAll_mk0), rfl, bel.frame _, fun h => by cases h⟩

theorem parseStarts_holds : Rows.ParseStartsSaid :=
  OpenClaim.holds_of_wide 16 Try.f16 rfl rfl rfl rfl rfl rfl rfl ⟨rfl, rfl, rfl, rfl, rfl⟩ rfl rfl rfl rfl rfl (by kernel_rfl) Try.func16 (by kernel_rfl)
    (of_decide_eq_true (by kernel_rfl)) (by unfold Func.isWrapper; first | (rw [if_pos (by decide +kernel)]; kernel_rfl) | (rw [if_neg (by decide +kernel)]; exact ⟨rfl, rfl⟩))
    (fun os started H enc _ => parseStarts_lifted os started H enc)
#print axioms parseStarts_holds
end Go.Proofs.Ytjfdgdjfgiifeaa
