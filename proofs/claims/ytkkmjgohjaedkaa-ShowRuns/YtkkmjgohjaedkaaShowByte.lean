/- A byte more among the parts: the program's addByte. -/
import Derived.Test.YtkkmjgohjaedkaaShowAdd
import Derived.Deep.AppendLies
namespace Go.Proofs.Ytkkmjgohjaedkaa
set_option linter.unusedVariables false
open Go.ChangeShapes Go.WideShapes Go.ChangeAt Go.RowKit

theorem Try.infoAny : (Try.prog.info? 20).map (fun i => (i.zero, i.size, i.bytes)) = some (some .nilIface, 1, 16) := by kernel_rfl
/-- What holds of parts all along: not too many, no text too long. -/
def Small (ps : List Part) : Prop := ps.length ≤ 1048576 ∧ ∀ l, (.inl l : Part) ∈ ps → l.length ≤ 1048576
theorem new_text (W w : World) (hW : W.heap.size ≤ w.heap.size) (c : UInt8) (o : Obj) : PartNew W w ((w.alloc (.cells #[.int .u8 (c.toNat : Int)] 5)).alloc o) (.inl [c]) (.iface 198 (.slice (some ⟨w.heap.size, 0, none⟩) 1 1)) := by
  have h := heap_alloc_new w (.cells #[.int .u8 (c.toNat : Int)] 5)
  refine ⟨_, rfl, ?_, fun b e => ?_⟩
  · refine row_keep ?_ (bel1 _ _)
    exact ⟨rfl, Or.inr ⟨w.heap.size, 1, _, rfl, hW, h, Nat.le_refl _, by unfold maxLen; omega, rfl, rfl⟩⟩
  · injection e with e
    have e : w.heap.size = b := e
    omega
theorem belA (w : World) (o o' : Obj) : Below w.heap.size w ((w.alloc o).alloc o') := (bel1 w o).trans ((bel1 _ _).mono (le_alloc _ _))
set_option maxHeartbeats 4000000 in
set_option maxRecDepth 100000 in
theorem addByte_any {W w : World} {F : Nat → Prop} {ps : List Part} {us : List Value} {o : Value} (m : PS W F ps us o w) (hs : Small ps) (c : UInt8) :
    Calls Try.prog 160 #[o, .int .u8 (c.toNat : Int)] w fun e w' => ∃ (F' : Nat → Prop) (us' : List Value) (p' : Option Addr) (c' : Nat), e = .returned (.slice p' (addT ps c).length c') ∧ Hid (PS W F' (addT ps c) us' (.slice p' (addT ps c).length c') w') := by
  obtain ⟨i, hi0, hz0, hz1, hz2⟩ := info_parts Try.infoAny
  have HI : Hid (Try.prog.info? 20 = some i ∧ i.zero = some .nilIface ∧ i.size = 1 ∧ i.bytes = 16) := ⟨hi0, hz0, hz1, hz2⟩
  obtain ⟨j, hj0, hy0, hy1, hy2⟩ := info_parts Try.infoU8
  have HJ : Hid (Try.prog.info? 5 = some j ∧ j.zero = some (.int .u8 0) ∧ j.size = 1 ∧ j.bytes = 1) := ⟨hj0, hy0, hy1, hy2⟩
  clear hi0 hz0 hz1 hz2 hj0 hy0 hy1 hy2
  obtain ⟨po, co, ho⟩ := row_slice m.oo
  subst ho
  have HM : Hid (PS W F ps us (.slice po ps.length co) w) := m
  have hsz : W.heap.size ≤ w.heap.size := m.bl.size
  have hlen := m.len
  have A1 := as_tt
  have A2 := as_st
  have A4 := as_nt
  have ONE : Hid (∀ u, u ∈ [Value.iface 198 (.slice (some ⟨w.heap.size, 0, none⟩) 1 1)] → u.oneCell' = true) := by show ∀ u, _ → _; simp [Value.oneCell']
  have MX : Hid (ps.length + 1 ≤ maxLen) := by show _ ≤ _; unfold maxLen; have := hs.1; omega
  have BY : Hid ((ps.length + 1) * 16 ≤ 140737488355328) := by show _ ≤ _; have := hs.1; omega
  have hp1 := hs.1
  -- a text of its own, behind all
  have PU : Hid (∀ (g cap : Nat) (w2 : World), ((w.alloc (.cells #[.int .u8 (c.toNat : Int)] 5)).alloc (.cells #[.iface 198 (.slice (some ⟨w.heap.size, 0, none⟩) 1 1)] 20)).grownBy w2 (Value.slice po ps.length co).ownBlock → w2.ownsRow W.heap.size 20 1 (.slice (some ⟨g, 0, none⟩) (ps.length + 1) cap) (ps.length + 1) (us ++ [.iface 198 (.slice (some ⟨w.heap.size, 0, none⟩) 1 1)]) → ((Value.slice po ps.length co).ownBlock = some g ∨ g = w.heap.size + 1 + 1) → PS W (fun b => F b ∨ lastB us b) (ps ++ [.inl [c]]) (us ++ [.iface 198 (.slice (some ⟨w.heap.size, 0, none⟩) 1 1)]) (.slice (some ⟨g, 0, none⟩) (ps.length + 1) cap) w2) := fun g cap w2 h1 h2 h3 =>
    HM.out.push (belA _ _ _) (new_text W w hsz c _) h1 h2 (by simpa using h3)
  have ARM : Hid (((w.alloc (.cells #[.int .u8 (c.toNat : Int)] 5)).alloc (.cells #[.iface 198 (.slice (some ⟨w.heap.size, 0, none⟩) 1 1)] 20)).ownsRow W.heap.size 20 1 (.slice po ps.length co) ps.length us) := (HM.out.oo.alloc _).alloc _
  clear m
  rcases List.eq_nil_or_concat ps with e | ⟨qs, q, e⟩
  · subst e
    have E : addT [] c = [.inl [c]] := rfl
    rw [E]
    go_enter Try.func160, Try.ntmps160
    go_wp2_with (at_builtin; refine wpList_append_lies _ rfl _ _ 193 rfl W.heap.size 20 i .nilIface 1 16 Try.underlying193 HI.out.1 HI.out.2.1 HI.out.2.2.1 HI.out.2.2.2 rfl (by decide) _ _ _ rfl ARM.out ⟨w.heap.size + 1, 0, none⟩ 1 1 [.iface 198 (.slice (some ⟨w.heap.size, 0, none⟩) 1 1)] rfl rfl (World.news_of_block (cs := #[.iface 198 (.slice (some ⟨w.heap.size, 0, none⟩) 1 1)]) (t := 20) (fr := (0, 0)) (by simpa using heap_alloc_new (w.alloc (.cells #[.int .u8 (c.toNat : Int)] 5)) (.cells #[.iface 198 (.slice (some ⟨w.heap.size, 0, none⟩) 1 1)] 20))) ONE.out (by decide) MX.out BY.out (Nat.le_trans hsz (Nat.le_trans (le_alloc _ _) (le_alloc _ _))) (w.heap.size + 1 + 1) (by simp) ?_)
    intro g cap w2 hown hgrow hat hlt
    have P2 := PU.out g cap w2 hgrow hown hat
    have HP : Hid (PS W (fun b => F b ∨ lastB us b) [.inl [c]] (us ++ [.iface 198 (.slice (some ⟨w.heap.size, 0, none⟩) 1 1)]) (.slice (some ⟨g, 0, none⟩) 1 cap) w2) := P2
    clear P2 hown hgrow hat hlt
    go_wp2
    go_ret
    exact ⟨_, _, _, _, rfl, HP⟩
  · rw [List.concat_eq_append] at e
    subst e
    have hk : (qs ++ [q]).length = qs.length + 1 := by simp
    obtain ⟨go, hpo⟩ : ∃ go, po = some ⟨go, 0, none⟩ := by
      obtain ⟨_, ⟨h1, h2⟩ | ⟨g, cp, cur, h1, _⟩⟩ := HM.out.oo
      · rw [hk] at h2; omega
      · injection h1 with h1; exact ⟨g, h1⟩
    subst hpo
    obtain ⟨vs, x, hx⟩ : ∃ vs x, us = vs ++ [x] := by
      rcases List.eq_nil_or_concat us with e | ⟨vs, x, e⟩
      · rw [e, hk] at hlen; simp at hlen
      · exact ⟨vs, x, by rw [e, List.concat_eq_append]⟩
    subst hx
    have hvl : vs.length = qs.length := by simpa using hlen
    have hlast : PartLast W w F q x := HM.out.rl qs.length q x (by simp) (by rw [← hvl]; simp) (by simp)
    have hcell : w.cell? ⟨go, qs.length, none⟩ = some x := by
      have := HM.out.oo.cells (g := go) rfl qs.length x (by rw [← hvl]; simp)
      simpa [add_plain] using this
    rw [hk] at HM PU ARM MX BY hp1
    rw [hk]
    rw [addT_snoc]
    have fz : w.frozen? ⟨go, qs.length, none⟩ = false := by
      obtain ⟨_, ⟨h1, h2⟩ | ⟨g, cp, cur, h1, _, h3, _⟩⟩ := HM.out.oo
      · cases h1
      · injection h1 with h1; injection h1 with h1; injection h1 with h1; subst h1
        exact Lib.frozen_of_heap h3 _
    have hgol := cell_lt hcell
    have hql : (qs.length : Int) + 1 ≤ 1048576 := by omega
    match q, hlast, hs with
    | .inl l, ⟨v, e1, h2, h3⟩, hs =>
      subst e1
      have hll := hs.2 l (by simp)
      obtain ⟨pv, cv, hv⟩ := row_slice h2
      subst hv
      have HV : Hid (w.ownsRow W.heap.size 5 1 (.slice pv l.length cv) l.length (Lib.byteCells l)) := h2
      have MO : Hid (∀ (v' : Value) (w2 : World), (w.alloc (.cells #[.int .u8 (c.toNat : Int)] 5)).grownBy w2 (Value.slice pv l.length cv).ownBlock → w2.ownsRow W.heap.size 5 1 v' (l.length + 1) (Lib.byteCells l ++ [.int .u8 (c.toNat : Int)]) → (v'.ownBlock = (Value.slice pv l.length cv).ownBlock ∨ v'.ownBlock = some (w.alloc (.cells #[.int .u8 (c.toNat : Int)] 5)).heap.size) → PS W F (qs ++ [.inl (l ++ [c])]) (vs ++ [.iface 198 v']) (.slice (some ⟨go, 0, none⟩) (qs.length + 1) co) (w2.setCell ⟨go, qs.length, none⟩ (.iface 198 v'))) := fun v' w2 h1 h2 h3 =>
        HM.out.more rfl (bel1 _ _) h1 h2 h3
      have NG : Hid ((Value.slice pv l.length cv).ownBlock ≠ some go) := by
        show _ ≠ _
        intro e
        exact (HM.out.lastF (b := go) ⟨_, by simp, e⟩).2.2.2 rfl
      have ON2 : Hid (∀ u, u ∈ [Value.int .u8 (c.toNat : Int)] → u.oneCell' = true) := by show ∀ u, _ → _; simp [Value.oneCell']
      have MX2 : Hid (l.length + 1 ≤ maxLen) := by show _ ≤ _; unfold maxLen; omega
      have BY2 : Hid ((l.length + 1) * 1 ≤ 140737488355328) := by show _ ≤ _; omega
      clear h2 h3 PU ARM ONE hlen hs
      generalize hnl : l.length = nl at *
      show Calls _ _ _ _ fun e w' => ∃ F' us' p' c', e = .returned (.slice p' (qs ++ [Sum.inl (l ++ [c])]).length c') ∧ Hid (PS W F' (qs ++ [.inl (l ++ [c])]) us' (.slice p' (qs ++ [Sum.inl (l ++ [c])]).length c') w')
      rw [show (qs ++ [(Sum.inl (l ++ [c]) : Part)]).length = qs.length + 1 by simp]
      clear hnl
      go_enter Try.func160, Try.ntmps160
      go_wp2_with (at_builtin; refine wpList_append_own_at _ rfl _ _ 198 rfl W.heap.size 5 j (.int .u8 0) 1 1 Try.underlying198 HJ.out.1 HJ.out.2.1 HJ.out.2.2.1 HJ.out.2.2.2 rfl (by decide) _ _ _ rfl (HV.out.alloc _) ⟨w.heap.size, 0, none⟩ 1 1 [.int .u8 (c.toNat : Int)] rfl rfl (cell_one_new _ _ _) ON2.out MX2.out BY2.out (Nat.le_trans hsz (le_alloc _ _)) ?_)
      intro v' w2 hown hgrow _ hat
      obtain ⟨pw, cw, hv'⟩ := row_slice hown
      subst hv'
      have hgz := hgrow.size
      have d1 : w2.cell? ⟨go, qs.length, none⟩ = some (.iface 198 (.slice pv nl cv)) := (hgrow.cell_far ⟨go, qs.length, none⟩ (by simp; omega) (Ne.symm NG.out)).trans ((World.cell?_alloc_past _ _ _ hgol).trans hcell)
      have f1 : w2.frozen? ⟨go, qs.length, none⟩ = false := (hgrow.frozen_far ⟨go, qs.length, none⟩ (by simp; omega) (Ne.symm NG.out)).trans ((World.frozen?_alloc_past _ _ _ hgol).trans fz)
      have HP : Hid (PS W F (qs ++ [.inl (l ++ [c])]) (vs ++ [.iface 198 (.slice pw (nl + 1) cw)]) (.slice (some ⟨go, 0, none⟩) (qs.length + 1) co) (w2.setCell ⟨go, qs.length, none⟩ (.iface 198 (.slice pw (nl + 1) cw)))) := MO.out _ _ hgrow hown (by simpa using hat)
      clear hown hgrow hat hgz
      go_wp2
      go_ret
      exact ⟨_, _, _, _, rfl, HP⟩
    | .inr (.inl (a, d)), hl, hs =>
      subst hl
      show Calls _ _ _ _ fun e w' => ∃ F' us' p' c', e = .returned (.slice p' (qs ++ [(.inr (.inl (a, d)) : Part), Sum.inl [c]]).length c') ∧ Hid (PS W F' (qs ++ [.inr (.inl (a, d)), .inl [c]]) us' (.slice p' (qs ++ [(.inr (.inl (a, d)) : Part), Sum.inl [c]]).length c') w')
      rw [show qs ++ [(.inr (.inl (a, d)) : Part), Sum.inl [c]] = (qs ++ [.inr (.inl (a, d))]) ++ [.inl [c]] by simp, show ((qs ++ [(.inr (.inl (a, d)) : Part)]) ++ [(Sum.inl [c] : Part)]).length = qs.length + 1 + 1 by simp]
      clear hlen hs hvl
      go_enter Try.func160, Try.ntmps160
      go_wp2_with (at_builtin; refine wpList_append_lies _ rfl _ _ 193 rfl W.heap.size 20 i .nilIface 1 16 Try.underlying193 HI.out.1 HI.out.2.1 HI.out.2.2.1 HI.out.2.2.2 rfl (by decide) _ _ _ rfl ARM.out ⟨w.heap.size + 1, 0, none⟩ 1 1 [.iface 198 (.slice (some ⟨w.heap.size, 0, none⟩) 1 1)] rfl rfl (World.news_of_block (cs := #[.iface 198 (.slice (some ⟨w.heap.size, 0, none⟩) 1 1)]) (t := 20) (fr := (0, 0)) (by simpa using heap_alloc_new (w.alloc (.cells #[.int .u8 (c.toNat : Int)] 5)) (.cells #[.iface 198 (.slice (some ⟨w.heap.size, 0, none⟩) 1 1)] 20))) ONE.out (by decide) MX.out BY.out (Nat.le_trans hsz (Nat.le_trans (le_alloc _ _) (le_alloc _ _))) (w.heap.size + 1 + 1) (by simp) ?_)
      intro g cap w2 hown hgrow hat hlt
      have HP : Hid (PS W (fun b => F b ∨ lastB (vs ++ [_]) b) ((qs ++ [.inr (.inl (a, d))]) ++ [.inl [c]]) _ (.slice (some ⟨g, 0, none⟩) (qs.length + 1 + 1) cap) w2) := PU.out g cap w2 hgrow (by simpa using hown) hat
      clear hown hgrow hat hlt
      go_wp2
      go_ret
      exact ⟨_, _, _, _, rfl, HP⟩
    | .inr (.inr s), hl, hs =>
      subst hl
      show Calls _ _ _ _ fun e w' => ∃ F' us' p' c', e = .returned (.slice p' (qs ++ [(.inr (.inr s) : Part), Sum.inl [c]]).length c') ∧ Hid (PS W F' (qs ++ [.inr (.inr s), .inl [c]]) us' (.slice p' (qs ++ [(.inr (.inr s) : Part), Sum.inl [c]]).length c') w')
      rw [show qs ++ [(.inr (.inr s) : Part), Sum.inl [c]] = (qs ++ [.inr (.inr s)]) ++ [.inl [c]] by simp, show ((qs ++ [(.inr (.inr s) : Part)]) ++ [(Sum.inl [c] : Part)]).length = qs.length + 1 + 1 by simp]
      clear hlen hs hvl
      go_enter Try.func160, Try.ntmps160
      go_wp2_with (at_builtin; refine wpList_append_lies _ rfl _ _ 193 rfl W.heap.size 20 i .nilIface 1 16 Try.underlying193 HI.out.1 HI.out.2.1 HI.out.2.2.1 HI.out.2.2.2 rfl (by decide) _ _ _ rfl ARM.out ⟨w.heap.size + 1, 0, none⟩ 1 1 [.iface 198 (.slice (some ⟨w.heap.size, 0, none⟩) 1 1)] rfl rfl (World.news_of_block (cs := #[.iface 198 (.slice (some ⟨w.heap.size, 0, none⟩) 1 1)]) (t := 20) (fr := (0, 0)) (by simpa using heap_alloc_new (w.alloc (.cells #[.int .u8 (c.toNat : Int)] 5)) (.cells #[.iface 198 (.slice (some ⟨w.heap.size, 0, none⟩) 1 1)] 20))) ONE.out (by decide) MX.out BY.out (Nat.le_trans hsz (Nat.le_trans (le_alloc _ _) (le_alloc _ _))) (w.heap.size + 1 + 1) (by simp) ?_)
      intro g cap w2 hown hgrow hat hlt
      have HP : Hid (PS W (fun b => F b ∨ lastB (vs ++ [_]) b) ((qs ++ [.inr (.inr s)]) ++ [.inl [c]]) _ (.slice (some ⟨g, 0, none⟩) (qs.length + 1 + 1) cap) w2) := PU.out g cap w2 hgrow (by simpa using hown) hat
      clear hown hgrow hat hlt
      go_wp2
      go_ret
      exact ⟨_, _, _, _, rfl, HP⟩
end Go.Proofs.Ytkkmjgohjaedkaa
