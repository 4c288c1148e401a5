/- What the parser's methods do that take a start's end, an item. -/
import Derived.Test.YtbpkpfnjgljilaaNoteTake
namespace Go.Proofs.Ytbpkpfnjgljilaa
set_option linter.unusedVariables false
open Go.ChangeShapes Go.WideShapes Go.ChangeAt Go.RowKit

theorem new_at (w : World) (o : Obj) (n : Nat) (h : w.heap.size = n) : (w.alloc o).heap[n]? = some o := by rw [← h]; exact heap_alloc_new w o
theorem sz1 (w : World) (o : Obj) : (w.alloc o).heap.size = w.heap.size + 1 := by simp
theorem sz2 (w : World) (o o' : Obj) : ((w.alloc o).alloc o').heap.size = w.heap.size + 2 := by simp
section
variable {W w : World} {B : Nat} {st : Nat} {starts : List ByteArray} {defs : List Df} {start name : ByteArray} {alts : List (List Cj)} {alt : List Cj} {neg : Bool} {items : List It}

set_option maxRecDepth 100000 in
set_option maxHeartbeats 3200000 in
theorem takeStartEnd_any (hP : Pr W B ⟨st, starts, defs, start, name, alts, alt, neg, items⟩ w) (hl : starts.length ≤ 65536) (kind pl : Nat) (text : ByteArray) (lo hi : Int) :
    Calls Try.prog 16 #[.pointer (some ⟨B, 0, none⟩), .agg #[.int .i64 (kind : Int), .int .i64 (pl : Int), .string text, .int .i64 lo, .int .i64 hi]] w (TakeEnd W B w (take2 ⟨st, starts, defs, start, name, alts, alt, neg, items⟩ ⟨kind, pl, text, lo, hi⟩)) := by
  by_cases e8 : kind = 8
  · subst e8
    show Calls _ _ _ _ (TakeEnd W B _ (some ⟨0, starts ++ [start], defs, start, name, alts, alt, neg, items⟩))
    obtain ⟨i, hi0, hz0, hz1, hz2⟩ := info_parts Try.infoStr
    obtain ⟨F, ⟨vs, vd, va, vl, vi, dv, av, cv⟩, hc, hx⟩ := hP
    obtain ⟨ps, cs, hvs⟩ := row_slice hc.os
    simp only at hvs
    subst hvs
    have hlt := hc.lt
    have o1 := hc.os
    simp only at o1
    have hne : (Value.slice ps starts.length cs).ownBlock ≠ some B := fun e => by have := (o1.lt B e).1; omega
    have O1 : Hid (w.ownsRow (B + 1) 9 1 (.slice ps starts.length cs) starts.length (txV starts)) := o1
    have HC : Hid (Core W B F ⟨st, starts, defs, start, name, alts, alt, neg, items⟩ ⟨.slice ps starts.length cs, vd, va, vl, vi, dv, av, cv⟩ w) := hc
    have HX : Hid (Cells B st (.slice ps starts.length cs) vd start name va vl neg vi w) := hx
    have c0 := hx.c0
    have c1 := hx.c1
    have c3 := hx.c3
    have f0 := hc.fz 0
    have f1 := hc.fz 1
    have hA : starts.length + 1 ≤ maxLen := by unfold maxLen; omega
    have hB' : (starts.length + 1) * 16 ≤ 140737488355328 := by omega
    have hl2 : ∀ o, B < (w.alloc o).heap.size := fun o => by rw [sz1]; omega
    have cy0 : ∀ o, (w.alloc o).cell? ⟨B, 0, none⟩ = some (.int .i64 (st : Int)) := fun o => (World.cell?_alloc_past _ _ _ hlt).trans c0
    have cy1 : ∀ o, (w.alloc o).cell? ⟨B, 1, none⟩ = some (.slice ps starts.length cs) := fun o => (World.cell?_alloc_past _ _ _ hlt).trans c1
    have cy3 : ∀ o, (w.alloc o).cell? ⟨B, 3, none⟩ = some (.string start) := fun o => (World.cell?_alloc_past _ _ _ hlt).trans c3
    have fy0 : ∀ o, (w.alloc o).frozen? ⟨B, 0, none⟩ = false := fun o => (World.frozen?_alloc_past _ _ _ hlt).trans f0
    have fy1 : ∀ o, (w.alloc o).frozen? ⟨B, 1, none⟩ = false := fun o => (World.frozen?_alloc_past _ _ _ hlt).trans f1
    have cz0 : ∀ o o', ((w.alloc o).alloc o').cell? ⟨B, 0, none⟩ = some (.int .i64 (st : Int)) := fun o o' => (World.cell?_alloc_past _ _ _ (hl2 o)).trans (cy0 o)
    have cz1 : ∀ o o', ((w.alloc o).alloc o').cell? ⟨B, 1, none⟩ = some (.slice ps starts.length cs) := fun o o' => (World.cell?_alloc_past _ _ _ (hl2 o)).trans (cy1 o)
    have cz3 : ∀ o o', ((w.alloc o).alloc o').cell? ⟨B, 3, none⟩ = some (.string start) := fun o o' => (World.cell?_alloc_past _ _ _ (hl2 o)).trans (cy3 o)
    have fz0 : ∀ o o', ((w.alloc o).alloc o').frozen? ⟨B, 0, none⟩ = false := fun o o' => (World.frozen?_alloc_past _ _ _ (hl2 o)).trans (fy0 o)
    have fz1 : ∀ o o', ((w.alloc o).alloc o').frozen? ⟨B, 1, none⟩ = false := fun o o' => (World.frozen?_alloc_past _ _ _ (hl2 o)).trans (fy1 o)
    clear hc hx o1 hl
    go_enter Try.func16, Try.ntmps16
    go_wp2_with fail
    go_region_law
      ((refine step_append_lies _ (by rfl) _ _ _ (by rfl) (B + 1) 9 i _ 1 16 Try.underlying23 hi0 hz0 hz1 hz2 rfl (by omega) (.slice ps starts.length cs) starts.length (txV starts) (by rfl) (((O1.out.alloc _).alloc _).drew)
          ⟨w.heap.size + 1, 0, none⟩ 1 1 [.string start] (by rfl) (by rfl) (World.news_of_block (cs := #[.string start]) (t := 9) (fr := (0, 0)) (new_at _ _ _ (sz1 _ _))) (by simp [Value.oneCell'])
          (by omega) hA hB' (by simp; omega) (w.heap.size + 2) (by simp) ?_; intro gg cap1 w1 hown1 hgrow hat hltg
        have d0 : w1.cell? ⟨B, 0, none⟩ = some (.int .i64 (st : Int)) := (hgrow.cell_far ⟨B, 0, none⟩ (by simp; omega) (Ne.symm hne)).trans (cz0 _ _)
        have d1 : w1.cell? ⟨B, 1, none⟩ = some (.slice ps starts.length cs) := (hgrow.cell_far ⟨B, 1, none⟩ (by simp; omega) (Ne.symm hne)).trans (cz1 _ _)
        have df0 : w1.frozen? ⟨B, 0, none⟩ = false := (hgrow.frozen_far ⟨B, 0, none⟩ (by simp; omega) (Ne.symm hne)).trans (fz0 _ _)
        have df1 : w1.frozen? ⟨B, 1, none⟩ = false := (hgrow.frozen_far ⟨B, 1, none⟩ (by simp; omega) (Ne.symm hne)).trans (fz1 _ _)))
    all_goals
      have hg' : ((w.alloc (.cells #[.int .i64 8, .int .i64 (pl : Int), .string text, .int .i64 lo, .int .i64 hi] 48)).alloc (.cells #[.string start] 9)).grownBy w1 (Value.slice ps starts.length cs).ownBlock := ⟨hgrow.os, hgrow.tape, hgrow.output, hgrow.size, hgrow.block⟩
      have hk := (HC.out.keep (bel1 w (.cells #[.int .i64 8, .int .i64 (pl : Int), .string text, .int .i64 lo, .int .i64 hi] 48))).keep (bel1 _ (.cells #[.string start] 9))
      have FIN : Hid (Core W B F ⟨st, starts ++ [start], defs, start, name, alts, alt, neg, items⟩ ⟨.slice (some ⟨gg, 0, none⟩) (starts.length + 1) cap1, vd, va, vl, vi, dv, av, cv⟩ w1) :=
        hk.growS hg' hown1 (fun b hb => by
          obtain rfl : gg = b := by injection hb
          exact hk.fresh hk.ns hat (by simp))
      have CX : Hid (Cells B st (.slice ps starts.length cs) vd start name va vl neg vi w1) := HX.out.same fun j => ((hk.grow hg' (row_out hk.os hk.ns)).2.1 j).trans ((World.cell?_alloc_past _ _ _ (hl2 _)).trans (World.cell?_alloc_past _ _ _ hlt))
      clear hg' hk hown1 hgrow hat
      go_wp2
      go_ret
      exact ⟨rfl, _, _, (((FIN.out.to 0 start name neg).set 1 _).set 0 _), (CX.out.set1 _).set0 0⟩
  · have h0 : ((kind : Int) != 8) = true := by simp; omega
    have E : take2 ⟨st, starts, defs, start, name, alts, alt, neg, items⟩ ⟨kind, pl, text, lo, hi⟩ = none := by unfold take2; rw [if_neg e8]
    rw [E]
    have HK : Hid (Pr W B ⟨st, starts, defs, start, name, alts, alt, neg, items⟩ w) := hP
    clear E e8 hP
    go_enter Try.func16, Try.ntmps16
    go_wp2
    go_ret
    exact ⟨rfl, bel1 _ _⟩

set_option maxRecDepth 100000 in
set_option maxHeartbeats 3200000 in
theorem takeItem_any (hP : Pr W B ⟨st, starts, defs, start, name, alts, alt, neg, items⟩ w) (hl : items.length ≤ 65536) (kind pl : Nat) (text : ByteArray) (lo hi : Int) :
    Calls Try.prog 19 #[.pointer (some ⟨B, 0, none⟩), .agg #[.int .i64 (kind : Int), .int .i64 (pl : Int), .string text, .int .i64 lo, .int .i64 hi]] w (TakeEnd W B w (tItem ⟨st, starts, defs, start, name, alts, alt, neg, items⟩ ⟨kind, pl, text, lo, hi⟩)) := by
  by_cases e2 : kind ≤ 2
  · have E : tItem ⟨st, starts, defs, start, name, alts, alt, neg, items⟩ ⟨kind, pl, text, lo, hi⟩ = some ⟨6, starts, defs, start, name, alts, alt, neg, items ++ [⟨kind, text, lo, hi⟩]⟩ := by unfold tItem; rw [if_pos e2]
    rw [E]
    have IS := isItem_yes kind e2
    obtain ⟨i, hi0, hz0, hz1, hz2⟩ := info_parts Try.infoItem
    obtain ⟨F, ⟨vs, vd, va, vl, vi, dv, av, cv⟩, hc, hx⟩ := hP
    obtain ⟨pi, ci, hvi⟩ := row_slice hc.oi
    simp only at hvi
    subst hvi
    have hlt := hc.lt
    have o8 := hc.oi
    simp only at o8
    have hne : (Value.slice pi items.length ci).ownBlock ≠ some B := fun e => by have := (o8.lt B e).1; omega
    have O8 : Hid (w.ownsRow (B + 1) 34 4 (.slice pi items.length ci) items.length (itsV items)) := o8
    have HC : Hid (Core W B F ⟨st, starts, defs, start, name, alts, alt, neg, items⟩ ⟨vs, vd, va, vl, .slice pi items.length ci, dv, av, cv⟩ w) := hc
    have HX : Hid (Cells B st vs vd start name va vl neg (.slice pi items.length ci) w) := hx
    have c0 := hx.c0
    have c8 := hx.c8
    have f0 := hc.fz 0
    have f8 := hc.fz 8
    have hA : items.length + 1 ≤ maxLen := by unfold maxLen; omega
    have hB' : (items.length + 1) * 40 ≤ 140737488355328 := by omega
    have hl2 : ∀ o o', B < ((w.alloc o).alloc o').heap.size := fun o o' => by rw [sz2]; omega
    have hl1 : ∀ o, B < (w.alloc o).heap.size := fun o => by rw [sz1]; omega
    have cx0 : ∀ o, (w.alloc o).cell? ⟨B, 0, none⟩ = some (.int .i64 (st : Int)) := fun o => (World.cell?_alloc_past _ _ _ hlt).trans c0
    have cx8 : ∀ o, (w.alloc o).cell? ⟨B, 8, none⟩ = some (.slice pi items.length ci) := fun o => (World.cell?_alloc_past _ _ _ hlt).trans c8
    have fx0 : ∀ o, (w.alloc o).frozen? ⟨B, 0, none⟩ = false := fun o => (World.frozen?_alloc_past _ _ _ hlt).trans f0
    have fx8 : ∀ o, (w.alloc o).frozen? ⟨B, 8, none⟩ = false := fun o => (World.frozen?_alloc_past _ _ _ hlt).trans f8
    have cy0 : ∀ o o', ((w.alloc o).alloc o').cell? ⟨B, 0, none⟩ = some (.int .i64 (st : Int)) := fun o o' => (World.cell?_alloc_past _ _ _ (hl1 o)).trans (cx0 o)
    have cy8 : ∀ o o', ((w.alloc o).alloc o').cell? ⟨B, 8, none⟩ = some (.slice pi items.length ci) := fun o o' => (World.cell?_alloc_past _ _ _ (hl1 o)).trans (cx8 o)
    have fy0 : ∀ o o', ((w.alloc o).alloc o').frozen? ⟨B, 0, none⟩ = false := fun o o' => (World.frozen?_alloc_past _ _ _ (hl1 o)).trans (fx0 o)
    have fy8 : ∀ o o', ((w.alloc o).alloc o').frozen? ⟨B, 8, none⟩ = false := fun o o' => (World.frozen?_alloc_past _ _ _ (hl1 o)).trans (fx8 o)
    have cz0 : ∀ o o' o2, (((w.alloc o).alloc o').alloc o2).cell? ⟨B, 0, none⟩ = some (.int .i64 (st : Int)) := fun o o' o2 => (World.cell?_alloc_past _ _ _ (hl2 o o')).trans (cy0 o o')
    have cz8 : ∀ o o' o2, (((w.alloc o).alloc o').alloc o2).cell? ⟨B, 8, none⟩ = some (.slice pi items.length ci) := fun o o' o2 => (World.cell?_alloc_past _ _ _ (hl2 o o')).trans (cy8 o o')
    have fz0 : ∀ o o' o2, (((w.alloc o).alloc o').alloc o2).frozen? ⟨B, 0, none⟩ = false := fun o o' o2 => (World.frozen?_alloc_past _ _ _ (hl2 o o')).trans (fy0 o o')
    have fz8 : ∀ o o' o2, (((w.alloc o).alloc o').alloc o2).frozen? ⟨B, 8, none⟩ = false := fun o o' o2 => (World.frozen?_alloc_past _ _ _ (hl2 o o')).trans (fy8 o o')
    clear hc hx o8 hl E e2
    go_enter Try.func19, Try.ntmps19
    go_wp2_with (go_at_call 28; refine (IS _).mono ?_; rintro e wn ⟨rfl, rfl⟩)
    go_region_law
      ((refine step_append_lies _ (by rfl) _ _ _ (by rfl) (B + 1) 34 i _ 4 40 Try.underlying35 hi0 hz0 hz1 hz2 rfl (by omega) (.slice pi items.length ci) items.length (itsV items) (by rfl) ((((O8.out.alloc _).alloc _).alloc _).drew)
          ⟨w.heap.size + 2, 0, none⟩ 1 1 [.int .i64 (kind : Int), .string text, .int .i64 lo, .int .i64 hi] (by rfl) (by rfl) (World.news_of_block (cs := #[.int .i64 (kind : Int), .string text, .int .i64 lo, .int .i64 hi]) (t := 34) (fr := (0, 0)) (new_at _ _ _ (sz2 _ _ _))) (by simp [Value.oneCell'])
          (by omega) hA hB' (by simp; omega) (w.heap.size + 3) (by simp) ?_; intro gg cap1 w1 hown1 hgrow hat hltg
        have d0 : w1.cell? ⟨B, 0, none⟩ = some (.int .i64 (st : Int)) := (hgrow.cell_far ⟨B, 0, none⟩ (by simp; omega) (Ne.symm hne)).trans (cz0 _ _ _)
        have d8 : w1.cell? ⟨B, 8, none⟩ = some (.slice pi items.length ci) := (hgrow.cell_far ⟨B, 8, none⟩ (by simp; omega) (Ne.symm hne)).trans (cz8 _ _ _)
        have df0 : w1.frozen? ⟨B, 0, none⟩ = false := (hgrow.frozen_far ⟨B, 0, none⟩ (by simp; omega) (Ne.symm hne)).trans (fz0 _ _ _)
        have df8 : w1.frozen? ⟨B, 8, none⟩ = false := (hgrow.frozen_far ⟨B, 8, none⟩ (by simp; omega) (Ne.symm hne)).trans (fz8 _ _ _)))
    all_goals
      have hg' : (((w.alloc (.cells #[.int .i64 (kind : Int), .int .i64 (pl : Int), .string text, .int .i64 lo, .int .i64 hi] 48)).alloc (.cells #[.int .i64 (kind : Int), .string text, .int .i64 lo, .int .i64 hi] 34)).alloc (.cells #[.int .i64 (kind : Int), .string text, .int .i64 lo, .int .i64 hi] 34)).grownBy w1 (Value.slice pi items.length ci).ownBlock := ⟨hgrow.os, hgrow.tape, hgrow.output, hgrow.size, hgrow.block⟩
      have hk := ((HC.out.keep (bel1 w (.cells #[.int .i64 (kind : Int), .int .i64 (pl : Int), .string text, .int .i64 lo, .int .i64 hi] 48))).keep (bel1 _ (.cells #[.int .i64 (kind : Int), .string text, .int .i64 lo, .int .i64 hi] 34))).keep (bel1 _ (.cells #[.int .i64 (kind : Int), .string text, .int .i64 lo, .int .i64 hi] 34))
      have FIN : Hid (Core W B F ⟨st, starts, defs, start, name, alts, alt, neg, items ++ [⟨kind, text, lo, hi⟩]⟩ ⟨vs, vd, va, vl, .slice (some ⟨gg, 0, none⟩) (items.length + 1) cap1, dv, av, cv⟩ w1) :=
        hk.growI hg' hown1 (fun b hb => by
          obtain rfl : gg = b := by injection hb
          exact hk.fresh hk.ni hat (by simp))
      have CX : Hid (Cells B st vs vd start name va vl neg (.slice pi items.length ci) w1) := HX.out.same fun j => ((hk.grow hg' (row_out hk.oi hk.ni)).2.1 j).trans ((World.cell?_alloc_past _ _ _ (hl2 _ _)).trans ((World.cell?_alloc_past _ _ _ (hl1 _)).trans (World.cell?_alloc_past _ _ _ hlt)))
      clear hg' hk hown1 hgrow hat
      go_wp2
      go_ret
      exact ⟨rfl, _, _, (((FIN.out.to 6 start name neg).set 8 _).set 0 _), (CX.out.set8 _).set0 6⟩
  · have IS := isItem_no kind (by omega)
    have E : tItem ⟨st, starts, defs, start, name, alts, alt, neg, items⟩ ⟨kind, pl, text, lo, hi⟩ = none := by unfold tItem; rw [if_neg e2]
    rw [E]
    have HK : Hid (Pr W B ⟨st, starts, defs, start, name, alts, alt, neg, items⟩ w) := hP
    clear E e2 hP
    go_enter Try.func19, Try.ntmps19
    go_wp2_with (go_at_call 28; refine (IS _).mono ?_; rintro e wn ⟨rfl, rfl⟩)
    go_ret
    exact ⟨rfl, bel1 _ _⟩
end
end Go.Proofs.Ytbpkpfnjgljilaa
