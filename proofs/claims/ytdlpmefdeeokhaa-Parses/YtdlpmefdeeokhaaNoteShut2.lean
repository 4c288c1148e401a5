/- What the parser's methods do that shut an alternative, a definition. -/
import Derived.Test.YtdlpmefdeeokhaaNoteShut
namespace Go.Proofs.Ytdlpmefdeeokhaa
set_option linter.unusedVariables false
open Go.ChangeShapes Go.WideShapes Go.ChangeAt Go.RowKit

set_option maxRecDepth 100000 in
set_option maxHeartbeats 3200000 in
theorem shutAlt_any {W : World} {B : Nat} {p : Pm} {w0 : World} (hP : Pr W B p w0) (hl : p.alt.length ≤ 65536) (hl2 : p.alts.length ≤ 65536) :
    Calls Try.prog 45 #[.pointer (some ⟨B, 0, none⟩)] w0 fun e w' => e = .returned (.tuple #[]) ∧ Pr W B (sAlt p) w' := by
  obtain ⟨i, hi0, hz0, hz1, hz2⟩ := info_parts Try.infoAlt
  obtain ⟨st, starts, defs, start, name, alts, alt0, neg, items⟩ := p
  simp only at hl2
  have SC : Calls Try.prog 44 #[.pointer (some ⟨B, 0, none⟩)] w0 fun e w' => e = .returned (.tuple #[]) ∧ Pr W B ⟨st, starts, defs, start, name, alts, alt0 ++ [⟨neg, items⟩], false, []⟩ w' := shutConj_any hP hl
  show Calls Try.prog 45 #[.pointer (some ⟨B, 0, none⟩)] w0 fun e w' => e = .returned (.tuple #[]) ∧ Pr W B ⟨st, starts, defs, start, name, alts ++ [alt0 ++ [⟨neg, items⟩]], [], false, []⟩ w'
  generalize alt0 ++ [⟨neg, items⟩] = alt at SC ⊢
  clear hP hl
  go_enter Try.func45, Try.ntmps45
  go_wp2_with (go_at_call 44; refine SC.mono ?_; rintro e w ⟨rfl, hP1⟩)
  obtain ⟨F, ⟨vs, vd, va, vl, vi, dv, av, cv⟩, hc, hx⟩ := hP1
  obtain ⟨pl, cl, hvl⟩ := row_slice hc.ol
  obtain ⟨pa, ca, hva⟩ := row_slice hc.oa
  simp only at hvl hva
  subst hvl hva
  have hlt := hc.lt
  have o5 := hc.oa
  simp only at o5
  have hne : (Value.slice pa alts.length ca).ownBlock ≠ some B := fun e => by have := (o5.lt B e).1; omega
  have O5 : Hid (w.ownsRow (B + 1) 42 1 (.slice pa alts.length ca) alts.length av) := o5
  have HC : Hid (Core W B F ⟨st, starts, defs, start, name, alts, alt, false, []⟩ ⟨vs, vd, .slice pa alts.length ca, .slice pl alt.length cl, vi, dv, av, cv⟩ w) := hc
  have HX : Hid (Cells B st vs vd start name (.slice pa alts.length ca) (.slice pl alt.length cl) false vi w) := hx
  have c5 := hx.c5
  have c6 := hx.c6
  have f5 := hc.fz 5
  have f6 := hc.fz 6
  have hA : alts.length + 1 ≤ maxLen := by unfold maxLen; omega
  have hB' : (alts.length + 1) * 24 ≤ 140737488355328 := by omega
  have cz5 : ∀ o, (w.alloc o).cell? ⟨B, 5, none⟩ = some (.slice pa alts.length ca) := fun o => (World.cell?_alloc_past _ _ _ hlt).trans c5
  have cz6 : ∀ o, (w.alloc o).cell? ⟨B, 6, none⟩ = some (.slice pl alt.length cl) := fun o => (World.cell?_alloc_past _ _ _ hlt).trans c6
  have fz5 : ∀ o, (w.alloc o).frozen? ⟨B, 5, none⟩ = false := fun o => (World.frozen?_alloc_past _ _ _ hlt).trans f5
  have fz6 : ∀ o, (w.alloc o).frozen? ⟨B, 6, none⟩ = false := fun o => (World.frozen?_alloc_past _ _ _ hlt).trans f6
  clear hc hx o5 hl2 SC
  go_region_law
    ((refine step_append_lies _ (by rfl) _ _ _ (by rfl) (B + 1) 42 i _ 1 24 Try.underlying39 hi0 hz0 hz1 hz2 rfl (by omega) (.slice pa alts.length ca) alts.length av (by rfl) ((O5.out.alloc _).drew)
        ⟨w.heap.size, 0, none⟩ 1 1 [.slice pl alt.length cl] (by rfl) (by rfl) (World.news_of_block (cs := #[.slice pl alt.length cl]) (t := 42) (fr := (0, 0)) (heap_alloc_new w _)) (by simp [Value.oneCell'])
        (by omega) hA hB' (by simp; omega) (w.heap.size + 1) (by simp) ?_; intro gg cap1 w1 hown1 hgrow hat hltg
      have d5 : w1.cell? ⟨B, 5, none⟩ = some (.slice pa alts.length ca) := (hgrow.cell_far ⟨B, 5, none⟩ (by simp; omega) (Ne.symm hne)).trans (cz5 _)
      have d6 : w1.cell? ⟨B, 6, none⟩ = some (.slice pl alt.length cl) := (hgrow.cell_far ⟨B, 6, none⟩ (by simp; omega) (Ne.symm hne)).trans (cz6 _)
      have df5 : w1.frozen? ⟨B, 5, none⟩ = false := (hgrow.frozen_far ⟨B, 5, none⟩ (by simp; omega) (Ne.symm hne)).trans (fz5 _)
      have df6 : w1.frozen? ⟨B, 6, none⟩ = false := (hgrow.frozen_far ⟨B, 6, none⟩ (by simp; omega) (Ne.symm hne)).trans (fz6 _)))
  all_goals
    have hg' : (w.alloc (.cells #[.slice pl alt.length cl] 42)).grownBy w1 (Value.slice pa alts.length ca).ownBlock := ⟨hgrow.os, hgrow.tape, hgrow.output, hgrow.size, hgrow.block⟩
    have hk := HC.out.keep (bel1 w (.cells #[.slice pl alt.length cl] 42))
    have FIN : Hid (Core W B (fun b => F b ∨ (Value.slice pl alt.length cl).ownBlock = some b) ⟨st, starts, defs, start, name, alts ++ [alt], [], false, []⟩ ⟨vs, vd, .slice (some ⟨gg, 0, none⟩) (alts.length + 1) cap1, .slice none 0 0, vi, dv, av ++ [.slice pl alt.length cl], []⟩ w1) :=
      hk.shutA hg' hown1 (fun b hb => by
        obtain rfl : gg = b := by injection hb
        exact hk.fresh hk.na hat (by simp))
    have CX : Hid (Cells B st vs vd start name (.slice pa alts.length ca) (.slice pl alt.length cl) false vi w1) := HX.out.same fun j => ((hk.grow hg' (row_out hk.oa hk.na)).2.1 j).trans (World.cell?_alloc_past _ _ _ hlt)
    clear hg' hk hown1 hgrow hat
    go_wp2
    go_end0
    exact ⟨rfl, _, _, (FIN.out.set 5 _).set 6 _, (CX.out.set5 _).set6 _⟩

set_option maxRecDepth 100000 in
set_option maxHeartbeats 3200000 in
theorem shutDef_any {W : World} {B : Nat} {p : Pm} {w0 : World} (hP : Pr W B p w0) (hl : p.alt.length ≤ 65536) (hl2 : p.alts.length ≤ 65536) (hl3 : p.defs.length ≤ 65536) :
    Calls Try.prog 46 #[.pointer (some ⟨B, 0, none⟩)] w0 fun e w' => e = .returned (.tuple #[]) ∧ Pr W B (sDef p) w' := by
  obtain ⟨i, hi0, hz0, hz1, hz2⟩ := info_parts Try.infoDef
  obtain ⟨st, starts, defs, start, name, alts0, alt0, neg, items⟩ := p
  simp only at hl3
  have SC : Calls Try.prog 45 #[.pointer (some ⟨B, 0, none⟩)] w0 fun e w' => e = .returned (.tuple #[]) ∧ Pr W B ⟨st, starts, defs, start, name, alts0 ++ [alt0 ++ [⟨neg, items⟩]], [], false, []⟩ w' := shutAlt_any hP hl hl2
  show Calls Try.prog 46 #[.pointer (some ⟨B, 0, none⟩)] w0 fun e w' => e = .returned (.tuple #[]) ∧ Pr W B ⟨st, starts, defs ++ [⟨name, alts0 ++ [alt0 ++ [⟨neg, items⟩]]⟩], start, ⟨#[]⟩, [], [], false, []⟩ w'
  generalize alts0 ++ [alt0 ++ [⟨neg, items⟩]] = alts at SC ⊢
  clear hP hl hl2
  go_enter Try.func46, Try.ntmps46
  go_wp2_with (go_at_call 45; refine SC.mono ?_; rintro e w ⟨rfl, hP1⟩)
  obtain ⟨F, ⟨vs, vd, va, vl, vi, dv, av, cv⟩, hc, hx⟩ := hP1
  obtain ⟨pd, cd, hvd⟩ := row_slice hc.od
  obtain ⟨pa, ca, hva⟩ := row_slice hc.oa
  simp only at hvd hva
  subst hvd hva
  have hlt := hc.lt
  have o2 := hc.od
  simp only at o2
  have hne : (Value.slice pd defs.length cd).ownBlock ≠ some B := fun e => by have := (o2.lt B e).1; omega
  have O2 : Hid (w.ownsRow (B + 1) 41 2 (.slice pd defs.length cd) defs.length (dfsV defs dv)) := o2
  have HC : Hid (Core W B F ⟨st, starts, defs, start, name, alts, [], false, []⟩ ⟨vs, .slice pd defs.length cd, .slice pa alts.length ca, vl, vi, dv, av, cv⟩ w) := hc
  have HX : Hid (Cells B st vs (.slice pd defs.length cd) start name (.slice pa alts.length ca) vl false vi w) := hx
  have c2 := hx.c2
  have c4 := hx.c4
  have c5 := hx.c5
  have f2 := hc.fz 2
  have f4 := hc.fz 4
  have f5 := hc.fz 5
  have hA : defs.length + 1 ≤ maxLen := by unfold maxLen; omega
  have hB' : (defs.length + 1) * 40 ≤ 140737488355328 := by omega
  have cz2 : ∀ o, (w.alloc o).cell? ⟨B, 2, none⟩ = some (.slice pd defs.length cd) := fun o => (World.cell?_alloc_past _ _ _ hlt).trans c2
  have cz4 : ∀ o, (w.alloc o).cell? ⟨B, 4, none⟩ = some (.string name) := fun o => (World.cell?_alloc_past _ _ _ hlt).trans c4
  have cz5 : ∀ o, (w.alloc o).cell? ⟨B, 5, none⟩ = some (.slice pa alts.length ca) := fun o => (World.cell?_alloc_past _ _ _ hlt).trans c5
  have fz2 : ∀ o, (w.alloc o).frozen? ⟨B, 2, none⟩ = false := fun o => (World.frozen?_alloc_past _ _ _ hlt).trans f2
  have fz4 : ∀ o, (w.alloc o).frozen? ⟨B, 4, none⟩ = false := fun o => (World.frozen?_alloc_past _ _ _ hlt).trans f4
  have fz5 : ∀ o, (w.alloc o).frozen? ⟨B, 5, none⟩ = false := fun o => (World.frozen?_alloc_past _ _ _ hlt).trans f5
  clear hc hx o2 hl3 SC
  go_region_law
    ((refine step_append_lies _ (by rfl) _ _ _ (by rfl) (B + 1) 41 i _ 2 40 Try.underlying23 hi0 hz0 hz1 hz2 rfl (by omega) (.slice pd defs.length cd) defs.length (dfsV defs dv) (by rfl) ((O2.out.alloc _).drew)
        ⟨w.heap.size, 0, none⟩ 1 1 [.string name, .slice pa alts.length ca] (by rfl) (by rfl) (World.news_of_block (cs := #[.string name, .slice pa alts.length ca]) (t := 41) (fr := (0, 0)) (heap_alloc_new w _)) (by simp [Value.oneCell'])
        (by omega) hA hB' (by simp; omega) (w.heap.size + 1) (by simp) ?_; intro gg cap1 w1 hown1 hgrow hat hltg
      have d2 : w1.cell? ⟨B, 2, none⟩ = some (.slice pd defs.length cd) := (hgrow.cell_far ⟨B, 2, none⟩ (by simp; omega) (Ne.symm hne)).trans (cz2 _)
      have d4 : w1.cell? ⟨B, 4, none⟩ = some (.string name) := (hgrow.cell_far ⟨B, 4, none⟩ (by simp; omega) (Ne.symm hne)).trans (cz4 _)
      have d5 : w1.cell? ⟨B, 5, none⟩ = some (.slice pa alts.length ca) := (hgrow.cell_far ⟨B, 5, none⟩ (by simp; omega) (Ne.symm hne)).trans (cz5 _)
      have df2 : w1.frozen? ⟨B, 2, none⟩ = false := (hgrow.frozen_far ⟨B, 2, none⟩ (by simp; omega) (Ne.symm hne)).trans (fz2 _)
      have df4 : w1.frozen? ⟨B, 4, none⟩ = false := (hgrow.frozen_far ⟨B, 4, none⟩ (by simp; omega) (Ne.symm hne)).trans (fz4 _)
      have df5 : w1.frozen? ⟨B, 5, none⟩ = false := (hgrow.frozen_far ⟨B, 5, none⟩ (by simp; omega) (Ne.symm hne)).trans (fz5 _)))
  all_goals
    have hg' : (w.alloc (.cells #[.string name, .slice pa alts.length ca] 41)).grownBy w1 (Value.slice pd defs.length cd).ownBlock := ⟨hgrow.os, hgrow.tape, hgrow.output, hgrow.size, hgrow.block⟩
    have hk := HC.out.keep (bel1 w (.cells #[.string name, .slice pa alts.length ca] 41))
    have FIN : Hid (Core W B (fun b => F b ∨ (Value.slice pa alts.length ca).ownBlock = some b) ⟨st, starts, defs ++ [⟨name, alts⟩], start, ⟨#[]⟩, [], [], false, []⟩ ⟨vs, .slice (some ⟨gg, 0, none⟩) (defs.length + 1) cap1, .slice none 0 0, vl, vi, dv ++ [.slice pa alts.length ca], [], cv⟩ w1) :=
      hk.shutD hg' hown1 (fun b hb => by
        obtain rfl : gg = b := by injection hb
        exact hk.fresh hk.nd hat (by simp))
    have CX : Hid (Cells B st vs (.slice pd defs.length cd) start name (.slice pa alts.length ca) vl false vi w1) := HX.out.same fun j => ((hk.grow hg' (row_out hk.od hk.nd)).2.1 j).trans (World.cell?_alloc_past _ _ _ hlt)
    clear hg' hk hown1 hgrow hat
    go_wp2
    go_end0
    exact ⟨rfl, _, _, ((FIN.out.set 2 _).set 4 _).set 5 _, ((CX.out.set2 _).set4 ⟨#[]⟩).set5 _⟩
end Go.Proofs.Ytdlpmefdeeokhaa
