/- What the program's reader does to take a byte, and to end a token. -/
import Derived.Test.YtbpkpfnjgljilaaLexSmall
import Derived.OwnWalk
import Derived.Laws.Pointers
import Derived.Deep.RegionLaw
import Derived.Deep.AppendLies
namespace Go.Proofs.Ytbpkpfnjgljilaa
set_option linter.unusedVariables false
open Go.ChangeShapes Go.WideShapes Go.ChangeAt Go.RowKit

theorem Try.infoByte : (Try.prog.info? 5).map (fun i => (i.zero, i.size, i.bytes)) = some (some (.int .u8 0), 1, 1) := by kernel_rfl
theorem Try.infoPiece : (Try.prog.info? 61).map (fun i => (i.zero, i.size, i.bytes)) = some (some (.agg #[.int .i64 0, .int .i64 0, .nilIface]), 3, 32) := by kernel_rfl

set_option maxHeartbeats 1000000 in
theorem add_any {W : World} {B : Nat} {s : ByteArray} {st nx bg : Nat} {rd : List Int} {ps : List Pc} {ft : Nat} {w : World} (hR : Rd W B s ⟨st, nx, bg, rd, ps, ft⟩ w) (c : Int) (k : Nat) (z : Int) (hz : z = (k : Int)) (hrd : rd.length ≤ 65536) (hnx : nx ≤ 65536) (hk : k ≤ 65536) :
    Calls Try.prog 39 #[.pointer (some ⟨B, 0, none⟩), .int .u8 c, .int .i64 z] w fun e w' => e = .returned (.tuple #[]) ∧ Rd W B s ⟨st, nx + k, bg, rd ++ [c], ps, ft⟩ w' := by
  subst hz
  obtain ⟨i, hi0, hz0, hz1, hz2⟩ := info_parts Try.infoByte
  obtain ⟨r0, r1, r2, r3, r6⟩ := hR.all
  obtain ⟨v4, r4, o4⟩ := hR.c4
  have hlt := hR.lt
  have HR : Hid (Rd W B s ⟨st, nx, bg, rd, ps, ft⟩ (w.alloc (.cells #[.int .u8 c] 5))) := hR.keep ((Below.refl _ _).alloc (Nat.le_refl _) _)
  have HL : Hid (rd.length ≤ 65536) := hrd
  have O4 : Hid (w.ownsRow (B + 1) 5 1 v4 rd.length (bytesV rd)) := o4
  obtain ⟨pp, cap, hv⟩ := row_slice o4
  subst hv
  have o4' := o4
  clear hR o4 hrd r1 r3 r6 r0
  go_enter Try.func39, Try.ntmps39
  go_wp2_with (at_builtin; refine wpList_append_own _ rfl _ _ 52 rfl (B + 1) 5 i (.int .u8 0) 1 1 Try.underlying52 hi0 hz0 hz1 hz2 rfl (by decide) _ _ _ rfl (O4.out.alloc _) ⟨w.heap.size, 0, none⟩ 1 1 [.int .u8 c] rfl rfl ?c1 ?c2 ?c3 ?c4 ?c5 ?_)
  case c2 => rfl
  case c3 => have := HL.out; unfold maxLen; omega
  case c4 => have := HL.out; omega
  case c5 => omega
  · intro v' w1 hown' hgrow _
    obtain ⟨p', cap', hv'⟩ := row_slice hown'
    subst hv'
    have c4 : (w.alloc (.cells #[.int .u8 c] 5)).cell? ⟨B, 4, none⟩ = some (.slice pp rd.length cap) := (World.cell?_alloc_past _ _ _ hlt).trans r4
    obtain ⟨q1, q2, q3, v5, q5, q6⟩ := HR.out.grown4 c4 hgrow
    have hR1 : Rd W B s ⟨st, nx, bg, rd, ps, ft⟩ w1 ∨ True := Or.inr trivial
    have d0 := (q1 0).trans HR.out.c0
    have d1 := (q1 1).trans HR.out.c1
    have d2 := (q1 2).trans HR.out.c2
    have d3 := (q1 3).trans HR.out.c3
    have d4 := (q1 4).trans c4
    have d6 := (q1 6).trans HR.out.c6
    have f4 := q2 4
    have f2 := q2 2
    have H1 : Hid (Rd W B s ⟨st, nx, bg, rd ++ [c], ps, ft⟩ (w1.setCell ⟨B, 4, none⟩ (.slice p' (rd.length + 1) cap'))) := by
      have hc : ∀ j, j ≠ 4 → (w1.setCell ⟨B, 4, none⟩ (.slice p' (rd.length + 1) cap')).cell? ⟨B, j, none⟩ = w1.cell? ⟨B, j, none⟩ := fun j hj => World.cell?_setCell_other _ _ _ _ (ne_off (Ne.symm hj))
      have hown2 : w1.ownsRow (B + 1) 5 1 (.slice p' (rd.length + 1) cap') (rd ++ [c]).length (bytesV (rd ++ [c])) := by rw [bytesV_append, List.length_append]; exact hown'
      exact ⟨(hc 0 (by decide)).trans d0, (hc 1 (by decide)).trans d1, (hc 2 (by decide)).trans d2, (hc 3 (by decide)).trans d3, ⟨_, World.cell?_setCell_same _ _ _ d4, ownsRow_setCell_below hown2 (by show B < B + 1; omega) _⟩,
        ⟨v5, (hc 5 (by decide)).trans q5, ownsRow_setCell_below q6 (by show B < B + 1; omega) _⟩, (hc 6 (by decide)).trans d6, fun j => (World.frozen?_setCell _ _ _ _).trans (q2 j), q3.setCell (p := ⟨B, 4, none⟩) (Nat.le_refl _) _⟩
    have e2 : (w1.setCell ⟨B, 4, none⟩ (.slice p' (rd.length + 1) cap')).cell? ⟨B, 2, none⟩ = some (.int .i64 (nx : Int)) := H1.out.c2
    clear hR1 hown' hgrow q1 q2 q3 q5 q6 d0 d1 d3 d6 c4 r2 r4
    go_wp2
    go_end0
    exact ⟨rfl, H1.out.put2 (nx + k) _ (by omega)⟩

set_option maxRecDepth 100000 in
set_option maxHeartbeats 3200000 in
theorem shut_no {W : World} {B : Nat} {s : ByteArray} {st nx bg : Nat} {rd : List Int} {ps : List Pc} {ft : Nat} {w : World} (hR : Rd W B s ⟨st, nx, bg, rd, ps, ft⟩ w) (kind : Nat)  (z : Int) (hz : z = (kind : Int)) (hps : ps.length ≤ 65536) :
    Calls Try.prog 40 #[.pointer (some ⟨B, 0, none⟩), .int .i64 z, .nilIface] w fun e w' => e = .returned (.tuple #[]) ∧ Rd W B s ⟨0, nx, bg, rd, ps ++ [⟨kind, bg, .no⟩], ft⟩ w' := by
  subst hz
  obtain ⟨i, hi0, hz0, hz1, hz2⟩ := info_parts Try.infoPiece
  obtain ⟨r0, r1, r2, r3, r6⟩ := hR.all
  obtain ⟨v5, r5, o5⟩ := hR.c5
  have f5 := hR.fz 5
  have hlt := hR.lt
  have hne : v5.ownBlock ≠ some B := fun e => by have := o5.lt B e; omega
  have HR : Hid (Rd W B s ⟨st, nx, bg, rd, ps, ft⟩ (w.alloc (.cells #[.int .i64 (kind : Int), .int .i64 (bg : Int), .nilIface] 61))) := hR.keep ((Below.refl _ _).alloc (Nat.le_refl _) _)
  have HL : Hid (ps.length ≤ 65536) := hps
  have O5 : Hid (w.ownsRow (B + 1) 61 3 v5 ps.length (pcsV ps)) := o5
  have hA : ps.length + 1 ≤ maxLen := by unfold maxLen; omega
  have hB' : (ps.length + 1) * 32 ≤ 140737488355328 := by omega
  obtain ⟨pp, cap, hv⟩ := row_slice o5
  subst hv
  have cz5 : ∀ o, (w.alloc o).cell? ⟨B, 5, none⟩ = some (.slice pp ps.length cap) := fun o => (World.cell?_alloc_past _ _ _ hlt).trans r5
  have cz3 : ∀ o, (w.alloc o).cell? ⟨B, 3, none⟩ = some (.int .i64 (bg : Int)) := fun o => (World.cell?_alloc_past _ _ _ hlt).trans r3
  have fz5 : ∀ o, (w.alloc o).frozen? ⟨B, 5, none⟩ = false := fun o => (World.frozen?_alloc_past _ _ _ hlt).trans f5
  have cz1 : ∀ o, (w.alloc o).cell? ⟨B, 1, none⟩ = some (.int .i64 (st : Int)) := fun o => (World.cell?_alloc_past _ _ _ hlt).trans r1
  have fz1 : ∀ o, (w.alloc o).frozen? ⟨B, 1, none⟩ = false := fun o => (World.frozen?_alloc_past _ _ _ hlt).trans (hR.fz 1)
  clear hR o5 hps r1 r6 r0 r2
  go_enter Try.func40, Try.ntmps40
  go_wp2_with fail
  go_region_law
    ((refine step_append_lies _ (by rfl) _ _ _ (by rfl) (B + 1) 61 i _ 3 32 Try.underlying53 hi0 hz0 hz1 hz2 rfl (by omega) (.slice pp ps.length cap) ps.length (pcsV ps) (by rfl) ((O5.out.alloc _).drew)
        ⟨w.heap.size, 0, none⟩ 1 1 [.int .i64 (kind : Int), .int .i64 (bg : Int), .nilIface] (by rfl) (by rfl) (World.news_of_block (cs := #[.int .i64 (kind : Int), .int .i64 (bg : Int), .nilIface]) (t := 61) (fr := (0, 0)) (heap_alloc_new w _)) (by simp [Value.oneCell'])
        (by omega) hA hB' (by simp; omega) (w.heap.size + 1) (by simp) ?_; intro gg cap1 w1 hown1 hgrow hat hltg
      have d5 : w1.cell? ⟨B, 5, none⟩ = some (.slice pp ps.length cap) := (hgrow.cell_far ⟨B, 5, none⟩ (by simp; omega) (Ne.symm hne)).trans (cz5 _)
      have df5 : w1.frozen? ⟨B, 5, none⟩ = false := (hgrow.frozen_far ⟨B, 5, none⟩ (by simp; omega) (Ne.symm hne)).trans (fz5 _)
      have d1 : w1.cell? ⟨B, 1, none⟩ = some (.int .i64 (st : Int)) := (hgrow.cell_far ⟨B, 1, none⟩ (by simp; omega) (Ne.symm hne)).trans (cz1 _)
      have df1 : w1.frozen? ⟨B, 1, none⟩ = false := (hgrow.frozen_far ⟨B, 1, none⟩ (by simp; omega) (Ne.symm hne)).trans (fz1 _)))
  all_goals
    have H1 : Hid (Rd W B s ⟨st, nx, bg, rd, ps ++ [⟨kind, bg, .no⟩], ft⟩ (w1.setCell ⟨B, 5, none⟩ (.slice (some ⟨gg, 0, none⟩) (ps.length + 1) cap1))) := by
      have hg' : (w.alloc (.cells #[.int .i64 (kind : Int), .int .i64 (bg : Int), .nilIface] 61)).grownBy w1 (Value.slice pp ps.length cap).ownBlock := ⟨hgrow.os, hgrow.tape, hgrow.output, hgrow.size, hgrow.block⟩
      obtain ⟨q1, q2, q3, v4, q4, q6⟩ := HR.out.grown5 (cz5 _) hg'
      have hc : ∀ j, j ≠ 5 → (w1.setCell ⟨B, 5, none⟩ (.slice (some ⟨gg, 0, none⟩) (ps.length + 1) cap1)).cell? ⟨B, j, none⟩ = w1.cell? ⟨B, j, none⟩ := fun j hj => World.cell?_setCell_other _ _ _ _ (ne_off (Ne.symm hj))
      have hown2 : w1.ownsRow (B + 1) 61 3 (.slice (some ⟨gg, 0, none⟩) (ps.length + 1) cap1) (ps ++ [(⟨kind, bg, .no⟩ : Pc)]).length (pcsV (ps ++ [(⟨kind, bg, .no⟩ : Pc)])) := by rw [pcsV_append, List.length_append]; exact hown1
      exact ⟨(hc 0 (by decide)).trans ((q1 0).trans HR.out.c0), (hc 1 (by decide)).trans ((q1 1).trans HR.out.c1), (hc 2 (by decide)).trans ((q1 2).trans HR.out.c2), (hc 3 (by decide)).trans ((q1 3).trans HR.out.c3),
        ⟨v4, (hc 4 (by decide)).trans q4, ownsRow_setCell_below q6 (by show B < B + 1; omega) _⟩, ⟨_, World.cell?_setCell_same _ _ _ d5, ownsRow_setCell_below hown2 (by show B < B + 1; omega) _⟩,
        (hc 6 (by decide)).trans ((q1 6).trans HR.out.c6), fun j => (World.frozen?_setCell _ _ _ _).trans (q2 j), q3.setCell (p := ⟨B, 5, none⟩) (Nat.le_refl _) _⟩
    go_wp2
    go_end0
    exact ⟨rfl, H1.out.put1 0⟩
set_option maxRecDepth 100000 in
set_option maxHeartbeats 3200000 in
theorem shut_str {W : World} {B : Nat} {s : ByteArray} {st nx bg : Nat} {rd : List Int} {ps : List Pc} {ft : Nat} {w : World} (hR : Rd W B s ⟨st, nx, bg, rd, ps, ft⟩ w) (kind : Nat) (t:ByteArray) (z : Int) (hz : z = (kind : Int)) (hps : ps.length ≤ 65536) :
    Calls Try.prog 40 #[.pointer (some ⟨B, 0, none⟩), .int .i64 z, (.iface 9 (.string t))] w fun e w' => e = .returned (.tuple #[]) ∧ Rd W B s ⟨0, nx, bg, rd, ps ++ [⟨kind, bg, (.str t)⟩], ft⟩ w' := by
  subst hz
  obtain ⟨i, hi0, hz0, hz1, hz2⟩ := info_parts Try.infoPiece
  obtain ⟨r0, r1, r2, r3, r6⟩ := hR.all
  obtain ⟨v5, r5, o5⟩ := hR.c5
  have f5 := hR.fz 5
  have hlt := hR.lt
  have hne : v5.ownBlock ≠ some B := fun e => by have := o5.lt B e; omega
  have HR : Hid (Rd W B s ⟨st, nx, bg, rd, ps, ft⟩ (w.alloc (.cells #[.int .i64 (kind : Int), .int .i64 (bg : Int), (.iface 9 (.string t))] 61))) := hR.keep ((Below.refl _ _).alloc (Nat.le_refl _) _)
  have HL : Hid (ps.length ≤ 65536) := hps
  have O5 : Hid (w.ownsRow (B + 1) 61 3 v5 ps.length (pcsV ps)) := o5
  have hA : ps.length + 1 ≤ maxLen := by unfold maxLen; omega
  have hB' : (ps.length + 1) * 32 ≤ 140737488355328 := by omega
  obtain ⟨pp, cap, hv⟩ := row_slice o5
  subst hv
  have cz5 : ∀ o, (w.alloc o).cell? ⟨B, 5, none⟩ = some (.slice pp ps.length cap) := fun o => (World.cell?_alloc_past _ _ _ hlt).trans r5
  have cz3 : ∀ o, (w.alloc o).cell? ⟨B, 3, none⟩ = some (.int .i64 (bg : Int)) := fun o => (World.cell?_alloc_past _ _ _ hlt).trans r3
  have fz5 : ∀ o, (w.alloc o).frozen? ⟨B, 5, none⟩ = false := fun o => (World.frozen?_alloc_past _ _ _ hlt).trans f5
  have cz1 : ∀ o, (w.alloc o).cell? ⟨B, 1, none⟩ = some (.int .i64 (st : Int)) := fun o => (World.cell?_alloc_past _ _ _ hlt).trans r1
  have fz1 : ∀ o, (w.alloc o).frozen? ⟨B, 1, none⟩ = false := fun o => (World.frozen?_alloc_past _ _ _ hlt).trans (hR.fz 1)
  clear hR o5 hps r1 r6 r0 r2
  go_enter Try.func40, Try.ntmps40
  go_wp2_with fail
  go_region_law
    ((refine step_append_lies _ (by rfl) _ _ _ (by rfl) (B + 1) 61 i _ 3 32 Try.underlying53 hi0 hz0 hz1 hz2 rfl (by omega) (.slice pp ps.length cap) ps.length (pcsV ps) (by rfl) ((O5.out.alloc _).drew)
        ⟨w.heap.size, 0, none⟩ 1 1 [.int .i64 (kind : Int), .int .i64 (bg : Int), (.iface 9 (.string t))] (by rfl) (by rfl) (World.news_of_block (cs := #[.int .i64 (kind : Int), .int .i64 (bg : Int), (.iface 9 (.string t))]) (t := 61) (fr := (0, 0)) (heap_alloc_new w _)) (by simp [Value.oneCell'])
        (by omega) hA hB' (by simp; omega) (w.heap.size + 1) (by simp) ?_; intro gg cap1 w1 hown1 hgrow hat hltg
      have d5 : w1.cell? ⟨B, 5, none⟩ = some (.slice pp ps.length cap) := (hgrow.cell_far ⟨B, 5, none⟩ (by simp; omega) (Ne.symm hne)).trans (cz5 _)
      have df5 : w1.frozen? ⟨B, 5, none⟩ = false := (hgrow.frozen_far ⟨B, 5, none⟩ (by simp; omega) (Ne.symm hne)).trans (fz5 _)
      have d1 : w1.cell? ⟨B, 1, none⟩ = some (.int .i64 (st : Int)) := (hgrow.cell_far ⟨B, 1, none⟩ (by simp; omega) (Ne.symm hne)).trans (cz1 _)
      have df1 : w1.frozen? ⟨B, 1, none⟩ = false := (hgrow.frozen_far ⟨B, 1, none⟩ (by simp; omega) (Ne.symm hne)).trans (fz1 _)))
  all_goals
    have H1 : Hid (Rd W B s ⟨st, nx, bg, rd, ps ++ [⟨kind, bg, (.str t)⟩], ft⟩ (w1.setCell ⟨B, 5, none⟩ (.slice (some ⟨gg, 0, none⟩) (ps.length + 1) cap1))) := by
      have hg' : (w.alloc (.cells #[.int .i64 (kind : Int), .int .i64 (bg : Int), (.iface 9 (.string t))] 61)).grownBy w1 (Value.slice pp ps.length cap).ownBlock := ⟨hgrow.os, hgrow.tape, hgrow.output, hgrow.size, hgrow.block⟩
      obtain ⟨q1, q2, q3, v4, q4, q6⟩ := HR.out.grown5 (cz5 _) hg'
      have hc : ∀ j, j ≠ 5 → (w1.setCell ⟨B, 5, none⟩ (.slice (some ⟨gg, 0, none⟩) (ps.length + 1) cap1)).cell? ⟨B, j, none⟩ = w1.cell? ⟨B, j, none⟩ := fun j hj => World.cell?_setCell_other _ _ _ _ (ne_off (Ne.symm hj))
      have hown2 : w1.ownsRow (B + 1) 61 3 (.slice (some ⟨gg, 0, none⟩) (ps.length + 1) cap1) (ps ++ [(⟨kind, bg, (.str t)⟩ : Pc)]).length (pcsV (ps ++ [(⟨kind, bg, (.str t)⟩ : Pc)])) := by rw [pcsV_append, List.length_append]; exact hown1
      exact ⟨(hc 0 (by decide)).trans ((q1 0).trans HR.out.c0), (hc 1 (by decide)).trans ((q1 1).trans HR.out.c1), (hc 2 (by decide)).trans ((q1 2).trans HR.out.c2), (hc 3 (by decide)).trans ((q1 3).trans HR.out.c3),
        ⟨v4, (hc 4 (by decide)).trans q4, ownsRow_setCell_below q6 (by show B < B + 1; omega) _⟩, ⟨_, World.cell?_setCell_same _ _ _ d5, ownsRow_setCell_below hown2 (by show B < B + 1; omega) _⟩,
        (hc 6 (by decide)).trans ((q1 6).trans HR.out.c6), fun j => (World.frozen?_setCell _ _ _ _).trans (q2 j), q3.setCell (p := ⟨B, 5, none⟩) (Nat.le_refl _) _⟩
    go_wp2
    go_end0
    exact ⟨rfl, H1.out.put1 0⟩
set_option maxRecDepth 100000 in
set_option maxHeartbeats 3200000 in
theorem shut_ends {W : World} {B : Nat} {s : ByteArray} {st nx bg : Nat} {rd : List Int} {ps : List Pc} {ft : Nat} {w : World} (hR : Rd W B s ⟨st, nx, bg, rd, ps, ft⟩ w) (kind : Nat) (lo:Int) (hi:Int) (z : Int) (hz : z = (kind : Int)) (hps : ps.length ≤ 65536) :
    Calls Try.prog 40 #[.pointer (some ⟨B, 0, none⟩), .int .i64 z, (.iface 74 (.agg #[.int .i64 lo,.int .i64 hi]))] w fun e w' => e = .returned (.tuple #[]) ∧ Rd W B s ⟨0, nx, bg, rd, ps ++ [⟨kind, bg, (.ends lo hi)⟩], ft⟩ w' := by
  subst hz
  obtain ⟨i, hi0, hz0, hz1, hz2⟩ := info_parts Try.infoPiece
  obtain ⟨r0, r1, r2, r3, r6⟩ := hR.all
  obtain ⟨v5, r5, o5⟩ := hR.c5
  have f5 := hR.fz 5
  have hlt := hR.lt
  have hne : v5.ownBlock ≠ some B := fun e => by have := o5.lt B e; omega
  have HR : Hid (Rd W B s ⟨st, nx, bg, rd, ps, ft⟩ (w.alloc (.cells #[.int .i64 (kind : Int), .int .i64 (bg : Int), (.iface 74 (.agg #[.int .i64 lo,.int .i64 hi]))] 61))) := hR.keep ((Below.refl _ _).alloc (Nat.le_refl _) _)
  have HL : Hid (ps.length ≤ 65536) := hps
  have O5 : Hid (w.ownsRow (B + 1) 61 3 v5 ps.length (pcsV ps)) := o5
  have hA : ps.length + 1 ≤ maxLen := by unfold maxLen; omega
  have hB' : (ps.length + 1) * 32 ≤ 140737488355328 := by omega
  obtain ⟨pp, cap, hv⟩ := row_slice o5
  subst hv
  have cz5 : ∀ o, (w.alloc o).cell? ⟨B, 5, none⟩ = some (.slice pp ps.length cap) := fun o => (World.cell?_alloc_past _ _ _ hlt).trans r5
  have cz3 : ∀ o, (w.alloc o).cell? ⟨B, 3, none⟩ = some (.int .i64 (bg : Int)) := fun o => (World.cell?_alloc_past _ _ _ hlt).trans r3
  have fz5 : ∀ o, (w.alloc o).frozen? ⟨B, 5, none⟩ = false := fun o => (World.frozen?_alloc_past _ _ _ hlt).trans f5
  have cz1 : ∀ o, (w.alloc o).cell? ⟨B, 1, none⟩ = some (.int .i64 (st : Int)) := fun o => (World.cell?_alloc_past _ _ _ hlt).trans r1
  have fz1 : ∀ o, (w.alloc o).frozen? ⟨B, 1, none⟩ = false := fun o => (World.frozen?_alloc_past _ _ _ hlt).trans (hR.fz 1)
  clear hR o5 hps r1 r6 r0 r2
  go_enter Try.func40, Try.ntmps40
  go_wp2_with fail
  go_region_law
    ((refine step_append_lies _ (by rfl) _ _ _ (by rfl) (B + 1) 61 i _ 3 32 Try.underlying53 hi0 hz0 hz1 hz2 rfl (by omega) (.slice pp ps.length cap) ps.length (pcsV ps) (by rfl) ((O5.out.alloc _).drew)
        ⟨w.heap.size, 0, none⟩ 1 1 [.int .i64 (kind : Int), .int .i64 (bg : Int), (.iface 74 (.agg #[.int .i64 lo,.int .i64 hi]))] (by rfl) (by rfl) (World.news_of_block (cs := #[.int .i64 (kind : Int), .int .i64 (bg : Int), (.iface 74 (.agg #[.int .i64 lo,.int .i64 hi]))]) (t := 61) (fr := (0, 0)) (heap_alloc_new w _)) (by simp [Value.oneCell'])
        (by omega) hA hB' (by simp; omega) (w.heap.size + 1) (by simp) ?_; intro gg cap1 w1 hown1 hgrow hat hltg
      have d5 : w1.cell? ⟨B, 5, none⟩ = some (.slice pp ps.length cap) := (hgrow.cell_far ⟨B, 5, none⟩ (by simp; omega) (Ne.symm hne)).trans (cz5 _)
      have df5 : w1.frozen? ⟨B, 5, none⟩ = false := (hgrow.frozen_far ⟨B, 5, none⟩ (by simp; omega) (Ne.symm hne)).trans (fz5 _)
      have d1 : w1.cell? ⟨B, 1, none⟩ = some (.int .i64 (st : Int)) := (hgrow.cell_far ⟨B, 1, none⟩ (by simp; omega) (Ne.symm hne)).trans (cz1 _)
      have df1 : w1.frozen? ⟨B, 1, none⟩ = false := (hgrow.frozen_far ⟨B, 1, none⟩ (by simp; omega) (Ne.symm hne)).trans (fz1 _)))
  all_goals
    have H1 : Hid (Rd W B s ⟨st, nx, bg, rd, ps ++ [⟨kind, bg, (.ends lo hi)⟩], ft⟩ (w1.setCell ⟨B, 5, none⟩ (.slice (some ⟨gg, 0, none⟩) (ps.length + 1) cap1))) := by
      have hg' : (w.alloc (.cells #[.int .i64 (kind : Int), .int .i64 (bg : Int), (.iface 74 (.agg #[.int .i64 lo,.int .i64 hi]))] 61)).grownBy w1 (Value.slice pp ps.length cap).ownBlock := ⟨hgrow.os, hgrow.tape, hgrow.output, hgrow.size, hgrow.block⟩
      obtain ⟨q1, q2, q3, v4, q4, q6⟩ := HR.out.grown5 (cz5 _) hg'
      have hc : ∀ j, j ≠ 5 → (w1.setCell ⟨B, 5, none⟩ (.slice (some ⟨gg, 0, none⟩) (ps.length + 1) cap1)).cell? ⟨B, j, none⟩ = w1.cell? ⟨B, j, none⟩ := fun j hj => World.cell?_setCell_other _ _ _ _ (ne_off (Ne.symm hj))
      have hown2 : w1.ownsRow (B + 1) 61 3 (.slice (some ⟨gg, 0, none⟩) (ps.length + 1) cap1) (ps ++ [(⟨kind, bg, (.ends lo hi)⟩ : Pc)]).length (pcsV (ps ++ [(⟨kind, bg, (.ends lo hi)⟩ : Pc)])) := by rw [pcsV_append, List.length_append]; exact hown1
      exact ⟨(hc 0 (by decide)).trans ((q1 0).trans HR.out.c0), (hc 1 (by decide)).trans ((q1 1).trans HR.out.c1), (hc 2 (by decide)).trans ((q1 2).trans HR.out.c2), (hc 3 (by decide)).trans ((q1 3).trans HR.out.c3),
        ⟨v4, (hc 4 (by decide)).trans q4, ownsRow_setCell_below q6 (by show B < B + 1; omega) _⟩, ⟨_, World.cell?_setCell_same _ _ _ d5, ownsRow_setCell_below hown2 (by show B < B + 1; omega) _⟩,
        (hc 6 (by decide)).trans ((q1 6).trans HR.out.c6), fun j => (World.frozen?_setCell _ _ _ _).trans (q2 j), q3.setCell (p := ⟨B, 5, none⟩) (Nat.le_refl _) _⟩
    go_wp2
    go_end0
    exact ⟨rfl, H1.out.put1 0⟩
end Go.Proofs.Ytbpkpfnjgljilaa
