/- What the parser's methods do that shut a part. -/
import Derived.Test.YtdlpmefdeeokhaaNoteGrow
import Derived.Test.YtdlpmefdeeokhaaLexSame
namespace Go.Proofs.Ytdlpmefdeeokhaa
set_option linter.unusedVariables false
open Go.ChangeShapes Go.WideShapes Go.ChangeAt Go.RowKit

theorem Try.infoConj : (Try.prog.info? 45).map (fun i => (i.zero, i.size, i.bytes)) = some (some (.agg #[.bool false, .slice none 0 0]), 2, 32) := by kernel_rfl
theorem Try.infoItem : (Try.prog.info? 63).map (fun i => (i.zero, i.size, i.bytes)) = some (some (.agg #[.int .i64 0, .string ⟨#[]⟩, .int .i64 0, .int .i64 0]), 4, 40) := by kernel_rfl
theorem Try.infoDef : (Try.prog.info? 41).map (fun i => (i.zero, i.size, i.bytes)) = some (some (.agg #[.string ⟨#[]⟩, .slice none 0 0]), 2, 40) := by kernel_rfl
theorem Try.infoAlt : (Try.prog.info? 42).map (fun i => (i.zero, i.size, i.bytes)) = some (some (.slice none 0 0), 1, 24) := by kernel_rfl
theorem Try.infoStr : (Try.prog.info? 9).map (fun i => (i.zero, i.size, i.bytes)) = some (some (.string ⟨#[]⟩), 1, 16) := by kernel_rfl

set_option maxRecDepth 100000 in
set_option maxHeartbeats 3200000 in
theorem shutConj_any {W : World} {B : Nat} {p : Pm} {w : World} (hP : Pr W B p w) (hl : p.alt.length ≤ 65536) :
    Calls Try.prog 44 #[.pointer (some ⟨B, 0, none⟩)] w fun e w' => e = .returned (.tuple #[]) ∧ Pr W B (sConj p) w' := by
  obtain ⟨i, hi0, hz0, hz1, hz2⟩ := info_parts Try.infoConj
  obtain ⟨F, ⟨vs, vd, va, vl, vi, dv, av, cv⟩, hc, hx⟩ := hP
  obtain ⟨st, starts, defs, start, name, alts, alt, neg, items⟩ := p
  obtain ⟨pl, cl, hvl⟩ := row_slice hc.ol
  obtain ⟨pi, ci, hvi⟩ := row_slice hc.oi
  simp only at hvl hvi hl
  subst hvl hvi
  have hlt := hc.lt
  have o6 := hc.ol
  simp only at o6
  have hne : (Value.slice pl alt.length cl).ownBlock ≠ some B := fun e => by have := (o6.lt B e).1; omega
  have O6 : Hid (w.ownsRow (B + 1) 45 2 (.slice pl alt.length cl) alt.length (cjsV alt cv)) := o6
  have HC : Hid (Core W B F ⟨st, starts, defs, start, name, alts, alt, neg, items⟩ ⟨vs, vd, va, .slice pl alt.length cl, .slice pi items.length ci, dv, av, cv⟩ w) := hc
  have HX : Hid (Cells B st vs vd start name va (.slice pl alt.length cl) neg (.slice pi items.length ci) w) := hx
  have c6 := hx.c6
  have c7 := hx.c7
  have c8 := hx.c8
  have f6 := hc.fz 6
  have f7 := hc.fz 7
  have f8 := hc.fz 8
  have hA : alt.length + 1 ≤ maxLen := by unfold maxLen; omega
  have hB' : (alt.length + 1) * 32 ≤ 140737488355328 := by omega
  have cz6 : ∀ o, (w.alloc o).cell? ⟨B, 6, none⟩ = some (.slice pl alt.length cl) := fun o => (World.cell?_alloc_past _ _ _ hlt).trans c6
  have cz7 : ∀ o, (w.alloc o).cell? ⟨B, 7, none⟩ = some (.bool neg) := fun o => (World.cell?_alloc_past _ _ _ hlt).trans c7
  have cz8 : ∀ o, (w.alloc o).cell? ⟨B, 8, none⟩ = some (.slice pi items.length ci) := fun o => (World.cell?_alloc_past _ _ _ hlt).trans c8
  have fz6 : ∀ o, (w.alloc o).frozen? ⟨B, 6, none⟩ = false := fun o => (World.frozen?_alloc_past _ _ _ hlt).trans f6
  have fz7 : ∀ o, (w.alloc o).frozen? ⟨B, 7, none⟩ = false := fun o => (World.frozen?_alloc_past _ _ _ hlt).trans f7
  have fz8 : ∀ o, (w.alloc o).frozen? ⟨B, 8, none⟩ = false := fun o => (World.frozen?_alloc_past _ _ _ hlt).trans f8
  clear hc hx o6 hl
  go_enter Try.func44, Try.ntmps44
  go_wp2_with fail
  go_region_law
    ((refine step_append_lies _ (by rfl) _ _ _ (by rfl) (B + 1) 45 i _ 2 32 Try.underlying42 hi0 hz0 hz1 hz2 rfl (by omega) (.slice pl alt.length cl) alt.length (cjsV alt cv) (by rfl) ((O6.out.alloc _).drew)
        ⟨w.heap.size, 0, none⟩ 1 1 [.bool neg, .slice pi items.length ci] (by rfl) (by rfl) (World.news_of_block (cs := #[.bool neg, .slice pi items.length ci]) (t := 45) (fr := (0, 0)) (heap_alloc_new w _)) (by simp [Value.oneCell'])
        (by omega) hA hB' (by simp; omega) (w.heap.size + 1) (by simp) ?_; intro gg cap1 w1 hown1 hgrow hat hltg
      have d6 : w1.cell? ⟨B, 6, none⟩ = some (.slice pl alt.length cl) := (hgrow.cell_far ⟨B, 6, none⟩ (by simp; omega) (Ne.symm hne)).trans (cz6 _)
      have d7 : w1.cell? ⟨B, 7, none⟩ = some (.bool neg) := (hgrow.cell_far ⟨B, 7, none⟩ (by simp; omega) (Ne.symm hne)).trans (cz7 _)
      have d8 : w1.cell? ⟨B, 8, none⟩ = some (.slice pi items.length ci) := (hgrow.cell_far ⟨B, 8, none⟩ (by simp; omega) (Ne.symm hne)).trans (cz8 _)
      have df6 : w1.frozen? ⟨B, 6, none⟩ = false := (hgrow.frozen_far ⟨B, 6, none⟩ (by simp; omega) (Ne.symm hne)).trans (fz6 _)
      have df7 : w1.frozen? ⟨B, 7, none⟩ = false := (hgrow.frozen_far ⟨B, 7, none⟩ (by simp; omega) (Ne.symm hne)).trans (fz7 _)
      have df8 : w1.frozen? ⟨B, 8, none⟩ = false := (hgrow.frozen_far ⟨B, 8, none⟩ (by simp; omega) (Ne.symm hne)).trans (fz8 _)))
  all_goals
    have hg' : (w.alloc (.cells #[.bool neg, .slice pi items.length ci] 45)).grownBy w1 (Value.slice pl alt.length cl).ownBlock := ⟨hgrow.os, hgrow.tape, hgrow.output, hgrow.size, hgrow.block⟩
    have hk := HC.out.keep (bel1 w (.cells #[.bool neg, .slice pi items.length ci] 45))
    have FIN : Hid (Core W B (fun b => F b ∨ (Value.slice pi items.length ci).ownBlock = some b) (sConj ⟨st, starts, defs, start, name, alts, alt, neg, items⟩) ⟨vs, vd, va, .slice (some ⟨gg, 0, none⟩) (alt.length + 1) cap1, .slice none 0 0, dv, av, cv ++ [.slice pi items.length ci]⟩ w1) :=
      hk.shutC hg' hown1 (fun b hb => by
        obtain rfl : gg = b := by injection hb
        exact hk.fresh hk.nl hat (by simp))
    have CX : Hid (Cells B st vs vd start name va (.slice pl alt.length cl) neg (.slice pi items.length ci) w1) := HX.out.same fun j => ((hk.grow hg' (row_out hk.ol hk.nl)).2.1 j).trans (World.cell?_alloc_past _ _ _ hlt)
    clear hg' hk hown1 hgrow hat
    go_wp2
    go_end0
    exact ⟨rfl, _, _, ((FIN.out.set 6 _).set 7 _).set 8 _, ((CX.out.set6 _).set7 false).set8 _⟩
end Go.Proofs.Ytdlpmefdeeokhaa
