import Derived.Test.YtdlpmefdeeokhaaNoteShut2
/- What the parser's methods do that take a token. -/
namespace Go.Proofs.Ytdlpmefdeeokhaa
set_option linter.unusedVariables false
open Go.ChangeShapes Go.WideShapes Go.ChangeAt Go.RowKit

def TakeEnd (W : World) (B : Nat) (w : World) (o : Option Pm) (e : Ending) (w' : World) : Prop := match o with
  | some q => e = .returned (.bool true) ∧ Pr W B q w'
  | none => e = .returned (.bool false) ∧ Below w.heap.size w w'
theorem TakeEnd.out {W w : World} {B : Nat} {b : Obj} {o : Option Pm} {e : Ending} {w' : World} (h : TakeEnd W B (w.alloc b) o e w') : TakeEnd W B w o e w' := by
  cases o with
  | none => exact ⟨h.1, (bel1 w b).trans (h.2.mono (le_alloc _ _))⟩
  | some q => exact h
/-- A parser and a box. -/
theorem Pr.box {W w : World} {B : Nat} {p : Pm} (h : Pr W B p w) (o : Obj) : Pr W B p (w.alloc o) := h.keep (bel1 w o)
theorem Pr.to0 {W w : World} {B : Nat} {st : Nat} {starts : List ByteArray} {defs : List Df} {start name : ByteArray} {alts : List (List Cj)} {alt : List Cj} {neg : Bool} {items : List It} (h : Pr W B ⟨st, starts, defs, start, name, alts, alt, neg, items⟩ w) (k : Nat) (z : Int) (hz : z = (k : Int)) : Pr W B ⟨k, starts, defs, start, name, alts, alt, neg, items⟩ (w.setCell ⟨B, 0, none⟩ (.int .i64 z)) := by
  subst hz
  obtain ⟨F, x, hc, hx⟩ := h
  exact ⟨F, x, (hc.to k start name neg).set 0 _, hx.set0 k⟩
theorem Pr.to3 {W w : World} {B : Nat} {st : Nat} {starts : List ByteArray} {defs : List Df} {start name : ByteArray} {alts : List (List Cj)} {alt : List Cj} {neg : Bool} {items : List It} (h : Pr W B ⟨st, starts, defs, start, name, alts, alt, neg, items⟩ w) (t : ByteArray) : Pr W B ⟨st, starts, defs, t, name, alts, alt, neg, items⟩ (w.setCell ⟨B, 3, none⟩ (.string t)) := by
  obtain ⟨F, x, hc, hx⟩ := h
  exact ⟨F, x, (hc.to st t name neg).set 3 _, hx.set3 t⟩
theorem Pr.to4 {W w : World} {B : Nat} {st : Nat} {starts : List ByteArray} {defs : List Df} {start name : ByteArray} {alts : List (List Cj)} {alt : List Cj} {neg : Bool} {items : List It} (h : Pr W B ⟨st, starts, defs, start, name, alts, alt, neg, items⟩ w) (t : ByteArray) : Pr W B ⟨st, starts, defs, start, t, alts, alt, neg, items⟩ (w.setCell ⟨B, 4, none⟩ (.string t)) := by
  obtain ⟨F, x, hc, hx⟩ := h
  exact ⟨F, x, (hc.to st start t neg).set 4 _, hx.set4 t⟩
theorem Pr.to7 {W w : World} {B : Nat} {st : Nat} {starts : List ByteArray} {defs : List Df} {start name : ByteArray} {alts : List (List Cj)} {alt : List Cj} {neg : Bool} {items : List It} (h : Pr W B ⟨st, starts, defs, start, name, alts, alt, neg, items⟩ w) (b : Bool) : Pr W B ⟨st, starts, defs, start, name, alts, alt, b, items⟩ (w.setCell ⟨B, 7, none⟩ (.bool b)) := by
  obtain ⟨F, x, hc, hx⟩ := h
  exact ⟨F, x, (hc.to st start name b).set 7 _, hx.set7 b⟩
/-- The plain cells of a parser: there, and may be written. -/
theorem Pr.plain {W w : World} {B : Nat} {p : Pm} (h : Pr W B p w) : w.cell? ⟨B, 0, none⟩ = some (.int .i64 (p.st : Int)) ∧ w.cell? ⟨B, 3, none⟩ = some (.string p.start) ∧ w.cell? ⟨B, 4, none⟩ = some (.string p.name) ∧ w.cell? ⟨B, 7, none⟩ = some (.bool p.neg) ∧ (∀ j, w.frozen? ⟨B, j, none⟩ = false) ∧ B < w.heap.size := by
  obtain ⟨F, x, hc, hx⟩ := h
  exact ⟨hx.c0, hx.c3, hx.c4, hx.c7, hc.fz, hc.lt⟩
theorem Pr.below {W w : World} {B : Nat} {p : Pm} (h : Pr W B p w) : Below B W w := by
  obtain ⟨F, x, hc, hx⟩ := h
  exact hc.bl
theorem isItem_yes (k : Nat) (h : k ≤ 2) (w : World) : Calls Try.prog 43 #[.int .i64 (k : Int)] w fun e w' => e = .returned (.bool true) ∧ w = w' := by
  match k, h with
  | 0, _ | 1, _ | 2, _ =>
    go_enter Try.func43, Try.ntmps43
    go_wp2
    go_ret
    exact ⟨rfl, rfl⟩
  | k + 3, h => exact absurd h (by omega)
theorem isItem_no (k : Nat) (h : 2 < k) (w : World) : Calls Try.prog 43 #[.int .i64 (k : Int)] w fun e w' => e = .returned (.bool false) ∧ w = w' := by
  have h0 : ((k : Int) == 0) = false := by simp; omega
  have h1 : ((k : Int) == 1) = false := by simp; omega
  have h2 : ((k : Int) == 2) = false := by simp; omega
  go_enter Try.func43, Try.ntmps43
  go_wp2
  go_ret
  exact ⟨rfl, rfl⟩

section
variable {W w : World} {B : Nat} {st : Nat} {starts : List ByteArray} {defs : List Df} {start name : ByteArray} {alts : List (List Cj)} {alt : List Cj} {neg : Bool} {items : List It}

set_option maxHeartbeats 1600000 in
theorem takeDecl_any (hP : Pr W B ⟨st, starts, defs, start, name, alts, alt, neg, items⟩ w) (kind pl : Nat) (text : ByteArray) (lo hi : Int) :
    Calls Try.prog 20 #[.pointer (some ⟨B, 0, none⟩), .agg #[.int .i64 (kind : Int), .int .i64 (pl : Int), .string text, .int .i64 lo, .int .i64 hi]] w (TakeEnd W B w (take0 ⟨st, starts, defs, start, name, alts, alt, neg, items⟩ ⟨kind, pl, text, lo, hi⟩)) := by
  obtain ⟨c0, c3, c4, c7, fz, hlt⟩ := hP.plain
  have HK : Hid (Pr W B ⟨st, starts, defs, start, name, alts, alt, neg, items⟩ w) := hP
  have f0 := fz 0
  have f4 := fz 4
  clear hP fz c3 c7
  by_cases e3 : kind = 3
  · subst e3
    show Calls _ _ _ _ (TakeEnd W B _ (some ⟨1, starts, defs, start, name, alts, alt, neg, items⟩))
    go_enter Try.func20, Try.ntmps20
    go_wp2
    go_ret
    exact ⟨rfl, (HK.out.to0 1 _ rfl).box _⟩
  · by_cases e0 : kind = 0
    · subst e0
      show Calls _ _ _ _ (TakeEnd W B _ (some ⟨3, starts, defs, start, text, alts, alt, neg, items⟩))
      go_enter Try.func20, Try.ntmps20
      go_wp2
      go_ret
      exact ⟨rfl, ((HK.out.to4 text).to0 3 _ rfl).box _⟩
    · have h3 : ((kind : Int) == 3) = false := by simp; omega
      have h0 : ((kind : Int) == 0) = false := by simp; omega
      have E : take0 ⟨st, starts, defs, start, name, alts, alt, neg, items⟩ ⟨kind, pl, text, lo, hi⟩ = none := by unfold take0; rw [if_neg e3, if_neg e0]
      rw [E]
      clear E e3 e0
      go_enter Try.func20, Try.ntmps20
      go_wp2
      go_ret
      exact ⟨rfl, bel1 _ _⟩

set_option maxHeartbeats 1600000 in
theorem takeStartName_any (hP : Pr W B ⟨st, starts, defs, start, name, alts, alt, neg, items⟩ w) (kind pl : Nat) (text : ByteArray) (lo hi : Int) :
    Calls Try.prog 21 #[.pointer (some ⟨B, 0, none⟩), .agg #[.int .i64 (kind : Int), .int .i64 (pl : Int), .string text, .int .i64 lo, .int .i64 hi]] w (TakeEnd W B w (take1 ⟨st, starts, defs, start, name, alts, alt, neg, items⟩ ⟨kind, pl, text, lo, hi⟩)) := by
  obtain ⟨c0, c3, c4, c7, fz, hlt⟩ := hP.plain
  have HK : Hid (Pr W B ⟨st, starts, defs, start, name, alts, alt, neg, items⟩ w) := hP
  have f0 := fz 0
  have f3 := fz 3
  clear hP fz c4 c7
  by_cases e0 : kind = 0
  · subst e0
    show Calls _ _ _ _ (TakeEnd W B _ (some ⟨2, starts, defs, text, name, alts, alt, neg, items⟩))
    go_enter Try.func21, Try.ntmps21
    go_wp2
    go_ret
    exact ⟨rfl, ((HK.out.to3 text).to0 2 _ rfl).box _⟩
  · have h0 : ((kind : Int) != 0) = true := by simp; omega
    have E : take1 ⟨st, starts, defs, start, name, alts, alt, neg, items⟩ ⟨kind, pl, text, lo, hi⟩ = none := by unfold take1; rw [if_neg e0]
    rw [E]
    clear E e0
    go_enter Try.func21, Try.ntmps21
    go_wp2
    go_ret
    exact ⟨rfl, bel1 _ _⟩

set_option maxHeartbeats 1600000 in
theorem takeIs_any (hP : Pr W B ⟨st, starts, defs, start, name, alts, alt, neg, items⟩ w) (kind pl : Nat) (text : ByteArray) (lo hi : Int) :
    Calls Try.prog 23 #[.pointer (some ⟨B, 0, none⟩), .agg #[.int .i64 (kind : Int), .int .i64 (pl : Int), .string text, .int .i64 lo, .int .i64 hi]] w (TakeEnd W B w (take3 ⟨st, starts, defs, start, name, alts, alt, neg, items⟩ ⟨kind, pl, text, lo, hi⟩)) := by
  obtain ⟨c0, c3, c4, c7, fz, hlt⟩ := hP.plain
  have HK : Hid (Pr W B ⟨st, starts, defs, start, name, alts, alt, neg, items⟩ w) := hP
  have f0 := fz 0
  clear hP fz c3 c4 c7
  by_cases e4 : kind = 4
  · subst e4
    show Calls _ _ _ _ (TakeEnd W B _ (some ⟨4, starts, defs, start, name, alts, alt, neg, items⟩))
    go_enter Try.func23, Try.ntmps23
    go_wp2
    go_ret
    exact ⟨rfl, (HK.out.to0 4 _ rfl).box _⟩
  · have h0 : ((kind : Int) != 4) = true := by simp; omega
    have E : take3 ⟨st, starts, defs, start, name, alts, alt, neg, items⟩ ⟨kind, pl, text, lo, hi⟩ = none := by unfold take3; rw [if_neg e4]
    rw [E]
    clear E e4
    go_enter Try.func23, Try.ntmps23
    go_wp2
    go_ret
    exact ⟨rfl, bel1 _ _⟩
end
end Go.Proofs.Ytdlpmefdeeokhaa
/- What the parser's methods do that take a start's end, an item. -/
namespace Go.Proofs.Ytdlpmefdeeokhaa
set_option linter.unusedVariables false
open Go.ChangeShapes Go.WideShapes Go.ChangeAt Go.RowKit

theorem new_at (w : World) (o : Obj) (n : Nat) (h : w.heap.size = n) : (w.alloc o).heap[n]? = some o := by rw [← h]; exact heap_alloc_new w o
theorem sz1 (w : World) (o : Obj) : (w.alloc o).heap.size = w.heap.size + 1 := by simp
theorem sz2 (w : World) (o o' : Obj) : ((w.alloc o).alloc o').heap.size = w.heap.size + 2 := by simp
section
variable {W w : World} {B : Nat} {st : Nat} {starts : List ByteArray} {defs : List Df} {start name : ByteArray} {alts : List (List Cj)} {alt : List Cj} {neg : Bool} {items : List It}

set_option maxRecDepth 100000 in
set_option maxHeartbeats 3200000 in
theorem takeStartEnd_any (hP : Pr W B ⟨st, starts, defs, start, name, alts, alt, neg, items⟩ w) (hl : starts.length ≤ 65536) (kind pl : Nat) (text : ByteArray) (lo hi : Int) :
    Calls Try.prog 22 #[.pointer (some ⟨B, 0, none⟩), .agg #[.int .i64 (kind : Int), .int .i64 (pl : Int), .string text, .int .i64 lo, .int .i64 hi]] w (TakeEnd W B w (take2 ⟨st, starts, defs, start, name, alts, alt, neg, items⟩ ⟨kind, pl, text, lo, hi⟩)) := by
  by_cases e8 : kind = 8
  · subst e8
    show Calls _ _ _ _ (TakeEnd W B _ (some ⟨0, starts ++ [start], defs, start, name, alts, alt, neg, items⟩))
    obtain ⟨i, hi0, hz0, hz1, hz2⟩ := info_parts Try.infoStr
    obtain ⟨F, ⟨vs, vd, va, vl, vi, dv, av, cv⟩, hc, hx⟩ := hP
    obtain ⟨ps, cs, hvs⟩ := row_slice hc.os
    simp only at hvs
    subst hvs
    have hlt := hc.lt
    have o1 := hc.os
    simp only at o1
    have hne : (Value.slice ps starts.length cs).ownBlock ≠ some B := fun e => by have := (o1.lt B e).1; omega
    have O1 : Hid (w.ownsRow (B + 1) 9 1 (.slice ps starts.length cs) starts.length (txV starts)) := o1
    have HC : Hid (Core W B F ⟨st, starts, defs, start, name, alts, alt, neg, items⟩ ⟨.slice ps starts.length cs, vd, va, vl, vi, dv, av, cv⟩ w) := hc
    have HX : Hid (Cells B st (.slice ps starts.length cs) vd start name va vl neg vi w) := hx
    have c0 := hx.c0
    have c1 := hx.c1
    have c3 := hx.c3
    have f0 := hc.fz 0
    have f1 := hc.fz 1
    have hA : starts.length + 1 ≤ maxLen := by unfold maxLen; omega
    have hB' : (starts.length + 1) * 16 ≤ 140737488355328 := by omega
    have hl2 : ∀ o, B < (w.alloc o).heap.size := fun o => by rw [sz1]; omega
    have cy0 : ∀ o, (w.alloc o).cell? ⟨B, 0, none⟩ = some (.int .i64 (st : Int)) := fun o => (World.cell?_alloc_past _ _ _ hlt).trans c0
    have cy1 : ∀ o, (w.alloc o).cell? ⟨B, 1, none⟩ = some (.slice ps starts.length cs) := fun o => (World.cell?_alloc_past _ _ _ hlt).trans c1
    have cy3 : ∀ o, (w.alloc o).cell? ⟨B, 3, none⟩ = some (.string start) := fun o => (World.cell?_alloc_past _ _ _ hlt).trans c3
    have fy0 : ∀ o, (w.alloc o).frozen? ⟨B, 0, none⟩ = false := fun o => (World.frozen?_alloc_past _ _ _ hlt).trans f0
    have fy1 : ∀ o, (w.alloc o).frozen? ⟨B, 1, none⟩ = false := fun o => (World.frozen?_alloc_past _ _ _ hlt).trans f1
    have cz0 : ∀ o o', ((w.alloc o).alloc o').cell? ⟨B, 0, none⟩ = some (.int .i64 (st : Int)) := fun o o' => (World.cell?_alloc_past _ _ _ (hl2 o)).trans (cy0 o)
    have cz1 : ∀ o o', ((w.alloc o).alloc o').cell? ⟨B, 1, none⟩ = some (.slice ps starts.length cs) := fun o o' => (World.cell?_alloc_past _ _ _ (hl2 o)).trans (cy1 o)
    have cz3 : ∀ o o', ((w.alloc o).alloc o').cell? ⟨B, 3, none⟩ = some (.string start) := fun o o' => (World.cell?_alloc_past _ _ _ (hl2 o)).trans (cy3 o)
    have fz0 : ∀ o o', ((w.alloc o).alloc o').frozen? ⟨B, 0, none⟩ = false := fun o o' => (World.frozen?_alloc_past _ _ _ (hl2 o)).trans (fy0 o)
    have fz1 : ∀ o o', ((w.alloc o).alloc o').frozen? ⟨B, 1, none⟩ = false := fun o o' => (World.frozen?_alloc_past _ _ _ (hl2 o)).trans (fy1 o)
    clear hc hx o1 hl
    go_enter Try.func22, Try.ntmps22
    go_wp2_with fail
    go_region_law
      ((refine step_append_lies _ (by rfl) _ _ _ (by rfl) (B + 1) 9 i _ 1 16 Try.underlying22 hi0 hz0 hz1 hz2 rfl (by omega) (.slice ps starts.length cs) starts.length (txV starts) (by rfl) (((O1.out.alloc _).alloc _).drew)
          ⟨w.heap.size + 1, 0, none⟩ 1 1 [.string start] (by rfl) (by rfl) (World.news_of_block (cs := #[.string start]) (t := 9) (fr := (0, 0)) (new_at _ _ _ (sz1 _ _))) (by simp [Value.oneCell'])
          (by omega) hA hB' (by simp; omega) (w.heap.size + 2) (by simp) ?_; intro gg cap1 w1 hown1 hgrow hat hltg
        have d0 : w1.cell? ⟨B, 0, none⟩ = some (.int .i64 (st : Int)) := (hgrow.cell_far ⟨B, 0, none⟩ (by simp; omega) (Ne.symm hne)).trans (cz0 _ _)
        have d1 : w1.cell? ⟨B, 1, none⟩ = some (.slice ps starts.length cs) := (hgrow.cell_far ⟨B, 1, none⟩ (by simp; omega) (Ne.symm hne)).trans (cz1 _ _)
        have df0 : w1.frozen? ⟨B, 0, none⟩ = false := (hgrow.frozen_far ⟨B, 0, none⟩ (by simp; omega) (Ne.symm hne)).trans (fz0 _ _)
        have df1 : w1.frozen? ⟨B, 1, none⟩ = false := (hgrow.frozen_far ⟨B, 1, none⟩ (by simp; omega) (Ne.symm hne)).trans (fz1 _ _)))
    all_goals
      have hg' : ((w.alloc (.cells #[.int .i64 8, .int .i64 (pl : Int), .string text, .int .i64 lo, .int .i64 hi] 49)).alloc (.cells #[.string start] 9)).grownBy w1 (Value.slice ps starts.length cs).ownBlock := ⟨hgrow.os, hgrow.tape, hgrow.output, hgrow.size, hgrow.block⟩
      have hk := (HC.out.keep (bel1 w (.cells #[.int .i64 8, .int .i64 (pl : Int), .string text, .int .i64 lo, .int .i64 hi] 49))).keep (bel1 _ (.cells #[.string start] 9))
      have FIN : Hid (Core W B F ⟨st, starts ++ [start], defs, start, name, alts, alt, neg, items⟩ ⟨.slice (some ⟨gg, 0, none⟩) (starts.length + 1) cap1, vd, va, vl, vi, dv, av, cv⟩ w1) :=
        hk.growS hg' hown1 (fun b hb => by
          obtain rfl : gg = b := by injection hb
          exact hk.fresh hk.ns hat (by simp))
      have CX : Hid (Cells B st (.slice ps starts.length cs) vd start name va vl neg vi w1) := HX.out.same fun j => ((hk.grow hg' (row_out hk.os hk.ns)).2.1 j).trans ((World.cell?_alloc_past _ _ _ (hl2 _)).trans (World.cell?_alloc_past _ _ _ hlt))
      clear hg' hk hown1 hgrow hat
      go_wp2
      go_ret
      exact ⟨rfl, _, _, (((FIN.out.to 0 start name neg).set 1 _).set 0 _), (CX.out.set1 _).set0 0⟩
  · have h0 : ((kind : Int) != 8) = true := by simp; omega
    have E : take2 ⟨st, starts, defs, start, name, alts, alt, neg, items⟩ ⟨kind, pl, text, lo, hi⟩ = none := by unfold take2; rw [if_neg e8]
    rw [E]
    have HK : Hid (Pr W B ⟨st, starts, defs, start, name, alts, alt, neg, items⟩ w) := hP
    clear E e8 hP
    go_enter Try.func22, Try.ntmps22
    go_wp2
    go_ret
    exact ⟨rfl, bel1 _ _⟩

set_option maxRecDepth 100000 in
set_option maxHeartbeats 3200000 in
theorem takeItem_any (hP : Pr W B ⟨st, starts, defs, start, name, alts, alt, neg, items⟩ w) (hl : items.length ≤ 65536) (kind pl : Nat) (text : ByteArray) (lo hi : Int) :
    Calls Try.prog 25 #[.pointer (some ⟨B, 0, none⟩), .agg #[.int .i64 (kind : Int), .int .i64 (pl : Int), .string text, .int .i64 lo, .int .i64 hi]] w (TakeEnd W B w (tItem ⟨st, starts, defs, start, name, alts, alt, neg, items⟩ ⟨kind, pl, text, lo, hi⟩)) := by
  by_cases e2 : kind ≤ 2
  · have E : tItem ⟨st, starts, defs, start, name, alts, alt, neg, items⟩ ⟨kind, pl, text, lo, hi⟩ = some ⟨6, starts, defs, start, name, alts, alt, neg, items ++ [⟨kind, text, lo, hi⟩]⟩ := by unfold tItem; rw [if_pos e2]
    rw [E]
    have IS := isItem_yes kind e2
    obtain ⟨i, hi0, hz0, hz1, hz2⟩ := info_parts Try.infoItem
    obtain ⟨F, ⟨vs, vd, va, vl, vi, dv, av, cv⟩, hc, hx⟩ := hP
    obtain ⟨pi, ci, hvi⟩ := row_slice hc.oi
    simp only at hvi
    subst hvi
    have hlt := hc.lt
    have o8 := hc.oi
    simp only at o8
    have hne : (Value.slice pi items.length ci).ownBlock ≠ some B := fun e => by have := (o8.lt B e).1; omega
    have O8 : Hid (w.ownsRow (B + 1) 63 4 (.slice pi items.length ci) items.length (itsV items)) := o8
    have HC : Hid (Core W B F ⟨st, starts, defs, start, name, alts, alt, neg, items⟩ ⟨vs, vd, va, vl, .slice pi items.length ci, dv, av, cv⟩ w) := hc
    have HX : Hid (Cells B st vs vd start name va vl neg (.slice pi items.length ci) w) := hx
    have c0 := hx.c0
    have c8 := hx.c8
    have f0 := hc.fz 0
    have f8 := hc.fz 8
    have hA : items.length + 1 ≤ maxLen := by unfold maxLen; omega
    have hB' : (items.length + 1) * 40 ≤ 140737488355328 := by omega
    have hl2 : ∀ o o', B < ((w.alloc o).alloc o').heap.size := fun o o' => by rw [sz2]; omega
    have hl1 : ∀ o, B < (w.alloc o).heap.size := fun o => by rw [sz1]; omega
    have cx0 : ∀ o, (w.alloc o).cell? ⟨B, 0, none⟩ = some (.int .i64 (st : Int)) := fun o => (World.cell?_alloc_past _ _ _ hlt).trans c0
    have cx8 : ∀ o, (w.alloc o).cell? ⟨B, 8, none⟩ = some (.slice pi items.length ci) := fun o => (World.cell?_alloc_past _ _ _ hlt).trans c8
    have fx0 : ∀ o, (w.alloc o).frozen? ⟨B, 0, none⟩ = false := fun o => (World.frozen?_alloc_past _ _ _ hlt).trans f0
    have fx8 : ∀ o, (w.alloc o).frozen? ⟨B, 8, none⟩ = false := fun o => (World.frozen?_alloc_past _ _ _ hlt).trans f8
    have cy0 : ∀ o o', ((w.alloc o).alloc o').cell? ⟨B, 0, none⟩ = some (.int .i64 (st : Int)) := fun o o' => (World.cell?_alloc_past _ _ _ (hl1 o)).trans (cx0 o)
    have cy8 : ∀ o o', ((w.alloc o).alloc o').cell? ⟨B, 8, none⟩ = some (.slice pi items.length ci) := fun o o' => (World.cell?_alloc_past _ _ _ (hl1 o)).trans (cx8 o)
    have fy0 : ∀ o o', ((w.alloc o).alloc o').frozen? ⟨B, 0, none⟩ = false := fun o o' => (World.frozen?_alloc_past _ _ _ (hl1 o)).trans (fx0 o)
    have fy8 : ∀ o o', ((w.alloc o).alloc o').frozen? ⟨B, 8, none⟩ = false := fun o o' => (World.frozen?_alloc_past _ _ _ (hl1 o)).trans (fx8 o)
    have cz0 : ∀ o o' o2, (((w.alloc o).alloc o').alloc o2).cell? ⟨B, 0, none⟩ = some (.int .i64 (st : Int)) := fun o o' o2 => (World.cell?_alloc_past _ _ _ (hl2 o o')).trans (cy0 o o')
    have cz8 : ∀ o o' o2, (((w.alloc o).alloc o').alloc o2).cell? ⟨B, 8, none⟩ = some (.slice pi items.length ci) := fun o o' o2 => (World.cell?_alloc_past _ _ _ (hl2 o o')).trans (cy8 o o')
    have fz0 : ∀ o o' o2, (((w.alloc o).alloc o').alloc o2).frozen? ⟨B, 0, none⟩ = false := fun o o' o2 => (World.frozen?_alloc_past _ _ _ (hl2 o o')).trans (fy0 o o')
    have fz8 : ∀ o o' o2, (((w.alloc o).alloc o').alloc o2).frozen? ⟨B, 8, none⟩ = false := fun o o' o2 => (World.frozen?_alloc_past _ _ _ (hl2 o o')).trans (fy8 o o')
    clear hc hx o8 hl E e2
    go_enter Try.func25, Try.ntmps25
    go_wp2_with (go_at_call 43; refine (IS _).mono ?_; rintro e wn ⟨rfl, rfl⟩)
    go_region_law
      ((refine step_append_lies _ (by rfl) _ _ _ (by rfl) (B + 1) 63 i _ 4 40 Try.underlying43 hi0 hz0 hz1 hz2 rfl (by omega) (.slice pi items.length ci) items.length (itsV items) (by rfl) ((((O8.out.alloc _).alloc _).alloc _).drew)
          ⟨w.heap.size + 2, 0, none⟩ 1 1 [.int .i64 (kind : Int), .string text, .int .i64 lo, .int .i64 hi] (by rfl) (by rfl) (World.news_of_block (cs := #[.int .i64 (kind : Int), .string text, .int .i64 lo, .int .i64 hi]) (t := 63) (fr := (0, 0)) (new_at _ _ _ (sz2 _ _ _))) (by simp [Value.oneCell'])
          (by omega) hA hB' (by simp; omega) (w.heap.size + 3) (by simp) ?_; intro gg cap1 w1 hown1 hgrow hat hltg
        have d0 : w1.cell? ⟨B, 0, none⟩ = some (.int .i64 (st : Int)) := (hgrow.cell_far ⟨B, 0, none⟩ (by simp; omega) (Ne.symm hne)).trans (cz0 _ _ _)
        have d8 : w1.cell? ⟨B, 8, none⟩ = some (.slice pi items.length ci) := (hgrow.cell_far ⟨B, 8, none⟩ (by simp; omega) (Ne.symm hne)).trans (cz8 _ _ _)
        have df0 : w1.frozen? ⟨B, 0, none⟩ = false := (hgrow.frozen_far ⟨B, 0, none⟩ (by simp; omega) (Ne.symm hne)).trans (fz0 _ _ _)
        have df8 : w1.frozen? ⟨B, 8, none⟩ = false := (hgrow.frozen_far ⟨B, 8, none⟩ (by simp; omega) (Ne.symm hne)).trans (fz8 _ _ _)))
    all_goals
      have hg' : (((w.alloc (.cells #[.int .i64 (kind : Int), .int .i64 (pl : Int), .string text, .int .i64 lo, .int .i64 hi] 49)).alloc (.cells #[.int .i64 (kind : Int), .string text, .int .i64 lo, .int .i64 hi] 63)).alloc (.cells #[.int .i64 (kind : Int), .string text, .int .i64 lo, .int .i64 hi] 63)).grownBy w1 (Value.slice pi items.length ci).ownBlock := ⟨hgrow.os, hgrow.tape, hgrow.output, hgrow.size, hgrow.block⟩
      have hk := ((HC.out.keep (bel1 w (.cells #[.int .i64 (kind : Int), .int .i64 (pl : Int), .string text, .int .i64 lo, .int .i64 hi] 49))).keep (bel1 _ (.cells #[.int .i64 (kind : Int), .string text, .int .i64 lo, .int .i64 hi] 63))).keep (bel1 _ (.cells #[.int .i64 (kind : Int), .string text, .int .i64 lo, .int .i64 hi] 63))
      have FIN : Hid (Core W B F ⟨st, starts, defs, start, name, alts, alt, neg, items ++ [⟨kind, text, lo, hi⟩]⟩ ⟨vs, vd, va, vl, .slice (some ⟨gg, 0, none⟩) (items.length + 1) cap1, dv, av, cv⟩ w1) :=
        hk.growI hg' hown1 (fun b hb => by
          obtain rfl : gg = b := by injection hb
          exact hk.fresh hk.ni hat (by simp))
      have CX : Hid (Cells B st vs vd start name va vl neg (.slice pi items.length ci) w1) := HX.out.same fun j => ((hk.grow hg' (row_out hk.oi hk.ni)).2.1 j).trans ((World.cell?_alloc_past _ _ _ (hl2 _ _)).trans ((World.cell?_alloc_past _ _ _ (hl1 _)).trans (World.cell?_alloc_past _ _ _ hlt)))
      clear hg' hk hown1 hgrow hat
      go_wp2
      go_ret
      exact ⟨rfl, _, _, (((FIN.out.to 6 start name neg).set 8 _).set 0 _), (CX.out.set8 _).set0 6⟩
  · have IS := isItem_no kind (by omega)
    have E : tItem ⟨st, starts, defs, start, name, alts, alt, neg, items⟩ ⟨kind, pl, text, lo, hi⟩ = none := by unfold tItem; rw [if_neg e2]
    rw [E]
    have HK : Hid (Pr W B ⟨st, starts, defs, start, name, alts, alt, neg, items⟩ w) := hP
    clear E e2 hP
    go_enter Try.func25, Try.ntmps25
    go_wp2_with (go_at_call 43; refine (IS _).mono ?_; rintro e wn ⟨rfl, rfl⟩)
    go_ret
    exact ⟨rfl, bel1 _ _⟩
end
end Go.Proofs.Ytdlpmefdeeokhaa
/- The parser takes a token. -/
namespace Go.Proofs.Ytdlpmefdeeokhaa
set_option linter.unusedVariables false
open Go.ChangeShapes Go.WideShapes Go.ChangeAt Go.RowKit

theorem TakeEnd.ways {W w : World} {B : Nat} {o : Option Pm} {e : Ending} {w' : World} (h : TakeEnd W B w o e w') : ∃ b, e = .returned (.bool b) ∧ TakeEnd W B w o (.returned (.bool b)) w' := by
  cases o with
  | none => exact ⟨false, h.1, rfl, h.2⟩
  | some q => exact ⟨true, h.1, rfl, h.2⟩
section
variable {W w : World} {B : Nat} {st : Nat} {starts : List ByteArray} {defs : List Df} {start name : ByteArray} {alts : List (List Cj)} {alt : List Cj} {neg : Bool} {items : List It}

set_option maxHeartbeats 1600000 in
theorem takeConj_any (hP : Pr W B ⟨st, starts, defs, start, name, alts, alt, neg, items⟩ w) (hl : items.length ≤ 65536) (kind pl : Nat) (text : ByteArray) (lo hi : Int) :
    Calls Try.prog 24 #[.pointer (some ⟨B, 0, none⟩), .agg #[.int .i64 (kind : Int), .int .i64 (pl : Int), .string text, .int .i64 lo, .int .i64 hi]] w (TakeEnd W B w (take4 ⟨st, starts, defs, start, name, alts, alt, neg, items⟩ ⟨kind, pl, text, lo, hi⟩)) := by
  obtain ⟨c0, c3, c4, c7, fz, hlt⟩ := hP.plain
  have HK : Hid (Pr W B ⟨st, starts, defs, start, name, alts, alt, neg, items⟩ w) := hP
  have f0 := fz 0
  have f7 := fz 7
  by_cases e7 : kind = 7
  · subst e7
    show Calls _ _ _ _ (TakeEnd W B _ (some ⟨5, starts, defs, start, name, alts, alt, true, items⟩))
    clear hP fz c3 c4
    go_enter Try.func24, Try.ntmps24
    go_wp2
    go_ret
    exact ⟨rfl, ((HK.out.to7 true).to0 5 _ rfl).box _⟩
  · have h7 : ((kind : Int) != 7) = true := by simp; omega
    have SUB := fun o => takeItem_any (hP.box o) hl kind pl text lo hi
    have E : take4 ⟨st, starts, defs, start, name, alts, alt, neg, items⟩ ⟨kind, pl, text, lo, hi⟩ = tItem ⟨st, starts, defs, start, name, alts, alt, neg, items⟩ ⟨kind, pl, text, lo, hi⟩ := by unfold take4; rw [if_neg e7]
    rw [E]
    generalize tItem ⟨st, starts, defs, start, name, alts, alt, neg, items⟩ ⟨kind, pl, text, lo, hi⟩ = R at SUB ⊢
    clear E e7 hP fz c3 c4 c7
    go_enter Try.func24, Try.ntmps24
    go_wp2_with (go_at_call 25; refine (SUB _).mono ?_; intro e w1 hT; obtain ⟨b, rfl, hT⟩ := hT.ways)
    go_ret
    exact hT.out

set_option maxHeartbeats 3200000 in
theorem takeBehind_any (hP : Pr W B ⟨st, starts, defs, start, name, alts, alt, neg, items⟩ w) (hl : items.length ≤ 65536) (hl2 : alt.length ≤ 65536) (hl3 : alts.length ≤ 65536) (hl4 : defs.length ≤ 65536) (kind pl : Nat) (text : ByteArray) (lo hi : Int) :
    Calls Try.prog 26 #[.pointer (some ⟨B, 0, none⟩), .agg #[.int .i64 (kind : Int), .int .i64 (pl : Int), .string text, .int .i64 lo, .int .i64 hi]] w (TakeEnd W B w (take6 ⟨st, starts, defs, start, name, alts, alt, neg, items⟩ ⟨kind, pl, text, lo, hi⟩)) := by
  by_cases e6 : kind = 6
  · subst e6
    have SUB := fun o => shutConj_any (hP.box o) hl2
    show Calls _ _ _ _ (TakeEnd W B _ (some ((sConj ⟨st, starts, defs, start, name, alts, alt, neg, items⟩).to 4)))
    generalize sConj ⟨st, starts, defs, start, name, alts, alt, neg, items⟩ = q at SUB ⊢
    clear hP
    go_enter Try.func26, Try.ntmps26
    go_wp2_with (go_at_call 44; refine (SUB _).mono ?_; rintro e w1 ⟨rfl, hq⟩; have HQ : Hid (Pr W B q w1) := hq; obtain ⟨d0, -, -, -, fz, -⟩ := hq.plain; have g0 := fz 0; clear hq fz)
    go_ret
    exact ⟨rfl, HQ.out.to0 4 _ rfl⟩
  by_cases e5 : kind = 5
  · subst e5
    have SUB := fun o => shutAlt_any (hP.box o) hl2 hl3
    show Calls _ _ _ _ (TakeEnd W B _ (some ((sAlt ⟨st, starts, defs, start, name, alts, alt, neg, items⟩).to 4)))
    generalize sAlt ⟨st, starts, defs, start, name, alts, alt, neg, items⟩ = q at SUB ⊢
    clear hP
    go_enter Try.func26, Try.ntmps26
    go_wp2_with (go_at_call 45; refine (SUB _).mono ?_; rintro e w1 ⟨rfl, hq⟩; have HQ : Hid (Pr W B q w1) := hq; obtain ⟨d0, -, -, -, fz, -⟩ := hq.plain; have g0 := fz 0; clear hq fz)
    go_ret
    exact ⟨rfl, HQ.out.to0 4 _ rfl⟩
  by_cases e8 : kind = 8
  · subst e8
    have SUB := fun o => shutDef_any (hP.box o) hl2 hl3 hl4
    show Calls _ _ _ _ (TakeEnd W B _ (some ((sDef ⟨st, starts, defs, start, name, alts, alt, neg, items⟩).to 0)))
    generalize sDef ⟨st, starts, defs, start, name, alts, alt, neg, items⟩ = q at SUB ⊢
    clear hP
    go_enter Try.func26, Try.ntmps26
    go_wp2_with (go_at_call 46; refine (SUB _).mono ?_; rintro e w1 ⟨rfl, hq⟩; have HQ : Hid (Pr W B q w1) := hq; obtain ⟨d0, -, -, -, fz, -⟩ := hq.plain; have g0 := fz 0; clear hq fz)
    go_ret
    exact ⟨rfl, HQ.out.to0 0 _ rfl⟩
  · have h6 : ((kind : Int) == 6) = false := by simp; omega
    have h5 : ((kind : Int) == 5) = false := by simp; omega
    have h8 : ((kind : Int) == 8) = false := by simp; omega
    have SUB := fun o => takeItem_any (hP.box o) hl kind pl text lo hi
    have E : take6 ⟨st, starts, defs, start, name, alts, alt, neg, items⟩ ⟨kind, pl, text, lo, hi⟩ = tItem ⟨st, starts, defs, start, name, alts, alt, neg, items⟩ ⟨kind, pl, text, lo, hi⟩ := by unfold take6; rw [if_neg e6, if_neg e5, if_neg e8]
    rw [E]
    generalize tItem ⟨st, starts, defs, start, name, alts, alt, neg, items⟩ ⟨kind, pl, text, lo, hi⟩ = R at SUB ⊢
    clear E e6 e5 e8 hP
    go_enter Try.func26, Try.ntmps26
    go_wp2_with (go_at_call 25; refine (SUB _).mono ?_; intro e w1 hT; obtain ⟨b, rfl, hT⟩ := hT.ways)
    go_ret
    exact hT.out
end

set_option maxHeartbeats 3200000 in
theorem take_any {W w : World} {B : Nat} {p : Pm} (hP : Pr W B p w) {k : Nat} (hf : Fits p k) (hk : k ≤ 65536) (kind pl : Nat) (text : ByteArray) (lo hi : Int) :
    Calls Try.prog 11 #[.pointer (some ⟨B, 0, none⟩), .agg #[.int .i64 (kind : Int), .int .i64 (pl : Int), .string text, .int .i64 lo, .int .i64 hi]] w (TakeEnd W B w (take p ⟨kind, pl, text, lo, hi⟩)) := by
  obtain ⟨c0, -, -, -, -, hlt⟩ := hP.plain
  have h1 := hf.starts; have h2 := hf.defs; have h3 := hf.alts; have h4 := hf.alt; have h5 := hf.items; have h6 := hf.st
  obtain ⟨st, starts, defs, start, name, alts, alt, neg, items⟩ := p
  simp only at h1 h2 h3 h4 h5 h6 c0
  unfold take
  have S0 := fun o => takeDecl_any (hP.box o) kind pl text lo hi
  have S1 := fun o => takeStartName_any (hP.box o) kind pl text lo hi
  have S2 := fun o => takeStartEnd_any (hP.box o) (by omega) kind pl text lo hi
  have S3 := fun o => takeIs_any (hP.box o) kind pl text lo hi
  have S4 := fun o => takeConj_any (hP.box o) (by omega) kind pl text lo hi
  have S5 := fun o => takeItem_any (hP.box o) (by omega) kind pl text lo hi
  have S6 := fun o => takeBehind_any (hP.box o) (by omega) (by omega) (by omega) (by omega) kind pl text lo hi
  clear hP hf hk h1 h2 h3 h4 h5
  match st, h6 with
  | 0, _ =>
    show Calls _ _ _ _ (TakeEnd W B _ (take0 ⟨0, starts, defs, start, name, alts, alt, neg, items⟩ ⟨kind, pl, text, lo, hi⟩))
    generalize take0 ⟨0, starts, defs, start, name, alts, alt, neg, items⟩ ⟨kind, pl, text, lo, hi⟩ = R at S0 ⊢
    go_enter Try.func11, Try.ntmps11
    go_wp2_with (go_at_call 20; refine (S0 _).mono ?_; intro e w1 hT; obtain ⟨b, rfl, hT⟩ := hT.ways)
    go_ret
    exact hT.out
  | 1, _ =>
    show Calls _ _ _ _ (TakeEnd W B _ (take1 ⟨1, starts, defs, start, name, alts, alt, neg, items⟩ ⟨kind, pl, text, lo, hi⟩))
    generalize take1 ⟨1, starts, defs, start, name, alts, alt, neg, items⟩ ⟨kind, pl, text, lo, hi⟩ = R at S1 ⊢
    go_enter Try.func11, Try.ntmps11
    go_wp2_with (go_at_call 21; refine (S1 _).mono ?_; intro e w1 hT; obtain ⟨b, rfl, hT⟩ := hT.ways)
    go_ret
    exact hT.out
  | 2, _ =>
    show Calls _ _ _ _ (TakeEnd W B _ (take2 ⟨2, starts, defs, start, name, alts, alt, neg, items⟩ ⟨kind, pl, text, lo, hi⟩))
    generalize take2 ⟨2, starts, defs, start, name, alts, alt, neg, items⟩ ⟨kind, pl, text, lo, hi⟩ = R at S2 ⊢
    go_enter Try.func11, Try.ntmps11
    go_wp2_with (go_at_call 22; refine (S2 _).mono ?_; intro e w1 hT; obtain ⟨b, rfl, hT⟩ := hT.ways)
    go_ret
    exact hT.out
  | 3, _ =>
    show Calls _ _ _ _ (TakeEnd W B _ (take3 ⟨3, starts, defs, start, name, alts, alt, neg, items⟩ ⟨kind, pl, text, lo, hi⟩))
    generalize take3 ⟨3, starts, defs, start, name, alts, alt, neg, items⟩ ⟨kind, pl, text, lo, hi⟩ = R at S3 ⊢
    go_enter Try.func11, Try.ntmps11
    go_wp2_with (go_at_call 23; refine (S3 _).mono ?_; intro e w1 hT; obtain ⟨b, rfl, hT⟩ := hT.ways)
    go_ret
    exact hT.out
  | 4, _ =>
    show Calls _ _ _ _ (TakeEnd W B _ (take4 ⟨4, starts, defs, start, name, alts, alt, neg, items⟩ ⟨kind, pl, text, lo, hi⟩))
    generalize take4 ⟨4, starts, defs, start, name, alts, alt, neg, items⟩ ⟨kind, pl, text, lo, hi⟩ = R at S4 ⊢
    go_enter Try.func11, Try.ntmps11
    go_wp2_with (go_at_call 24; refine (S4 _).mono ?_; intro e w1 hT; obtain ⟨b, rfl, hT⟩ := hT.ways)
    go_ret
    exact hT.out
  | 5, _ =>
    show Calls _ _ _ _ (TakeEnd W B _ (tItem ⟨5, starts, defs, start, name, alts, alt, neg, items⟩ ⟨kind, pl, text, lo, hi⟩))
    generalize tItem ⟨5, starts, defs, start, name, alts, alt, neg, items⟩ ⟨kind, pl, text, lo, hi⟩ = R at S5 ⊢
    go_enter Try.func11, Try.ntmps11
    go_wp2_with (go_at_call 25; refine (S5 _).mono ?_; intro e w1 hT; obtain ⟨b, rfl, hT⟩ := hT.ways)
    go_ret
    exact hT.out
  | 6, _ =>
    show Calls _ _ _ _ (TakeEnd W B _ (take6 ⟨6, starts, defs, start, name, alts, alt, neg, items⟩ ⟨kind, pl, text, lo, hi⟩))
    generalize take6 ⟨6, starts, defs, start, name, alts, alt, neg, items⟩ ⟨kind, pl, text, lo, hi⟩ = R at S6 ⊢
    go_enter Try.func11, Try.ntmps11
    go_wp2_with (go_at_call 26; refine (S6 _).mono ?_; intro e w1 hT; obtain ⟨b, rfl, hT⟩ := hT.ways)
    go_ret
    exact hT.out
  | m + 7, h => exact absurd h (by omega)
end Go.Proofs.Ytdlpmefdeeokhaa
