/- compare of the program, and the sort by it. -/
import Derived.Test.YtkihbgikdbaelaaDepMem
import Derived.Shelf.SlicesG.Cmp
import Derived.Shelf.Lay
import Derived.Ground.SlsfProg
import Derived.Ground.SlgcProg
import Derived.Deep.RegionHeld3
import Derived.ProofKit
import Derived.OpenShut
import Derived.WalkLawsBesides
namespace Go.Proofs.Ytkihbgikdbaelaa
set_option linter.unusedVariables false
open Go.RowKit Go.Maps Go.Sort Go.Shelf Go.Lib

shelf_lay_g SlLaysF0.n6 Slsf 6 at Try 31 as Try.sortEd
shelf_lay_g SlLaysC2.n5 Slgc 5 at Try 46 as Try.cmpInt
theorem asNumber_any (b : Bool) (w : World) : Calls Try.prog 47 #[.bool b] w fun e w' => e = .returned (.int .i64 (numB b)) ∧ w = w' := by
  cases b
  all_goals
    go_enter Try.func47, Try.ntmps47
    go_wp2
    go_ret
    exact ⟨rfl, rfl⟩
set_option maxHeartbeats 2000000 in
theorem or_any (a b c : Int) (g : Nat) (w : World) (h0 : w.cell? ⟨g, 0, none⟩ = some (.int .i64 a)) (h1 : w.cell? ⟨g, 1, none⟩ = some (.int .i64 b)) (h2 : w.cell? ⟨g, 2, none⟩ = some (.int .i64 c)) :
    Calls Try.prog 45 #[.slice (some ⟨g, 0, none⟩) 3 3] w fun e w' => e = .returned (.int .i64 (orI a (orI b c))) ∧ w = w' := by
  by_cases e0 : a = 0
  · by_cases e1 : b = 0
    · by_cases e2 : c = 0
      · subst e0 e1 e2
        go_enter Try.func45, Try.ntmps45
        go_wp2
        refine wp_loop_rounds 4 ?_
        rw [rounds_succ]
        go_wp2
        rw [rounds_succ]
        go_wp2
        rw [rounds_succ]
        go_wp2
        rw [rounds_succ]
        go_wp2
        go_ret
        exact ⟨rfl, rfl⟩
      · subst e0 e1
        have f2 : (c == 0) = false := by simpa using e2
        go_enter Try.func45, Try.ntmps45
        go_wp2
        refine wp_loop_rounds 3 ?_
        rw [rounds_succ]
        go_wp2
        rw [rounds_succ]
        go_wp2
        rw [rounds_succ]
        go_wp2
        go_ret
        exact ⟨by simp [orI], rfl⟩
    · subst e0
      have f1 : (b == 0) = false := by simpa using e1
      go_enter Try.func45, Try.ntmps45
      go_wp2
      refine wp_loop_rounds 2 ?_
      rw [rounds_succ]
      go_wp2
      rw [rounds_succ]
      go_wp2
      go_ret
      exact ⟨by simp [orI, e1], rfl⟩
  · have f0 : (a == 0) = false := by simpa using e0
    go_enter Try.func45, Try.ntmps45
    go_wp2
    refine wp_loop_rounds 1 ?_
    rw [rounds_succ]
    go_wp2
    go_ret
    exact ⟨by simp [orI, e0], rfl⟩
/-- Grown from W by new blocks and draws alone. -/
def Gw (W w : World) : Prop := ∃ q os, w = grow (W.drewN q) os
theorem Gw.refl (W : World) : Gw W W := ⟨0, #[], by rw [grow_empty]; rfl⟩
theorem Gw.alloc {W w : World} (h : Gw W w) (o : Obj) : Gw W (w.alloc o) := by
  obtain ⟨q, os, rfl⟩ := h
  exact ⟨q, os ++ #[o], by rw [alloc_eq_grow, grow_grow]⟩
theorem Gw.drew {W w : World} (h : Gw W w) : Gw W w.drew := by
  obtain ⟨q, os, rfl⟩ := h
  exact ⟨q + 1, os, rfl⟩
theorem Gw.drewN {W w : World} (h : Gw W w) (n : Nat) : Gw W (w.drewN n) := by
  obtain ⟨q, os, rfl⟩ := h
  exact ⟨q + n, os, by rw [← World.drewN_drewN]; rfl⟩
theorem Gw.trans {W w w' : World} (h : Gw W w) (k : Gw w w') : Gw W w' := by
  obtain ⟨q, os, rfl⟩ := h
  obtain ⟨q', os', rfl⟩ := k
  exact ⟨q + q', os ++ os', by rw [← World.drewN_drewN, ← grow_grow]; rfl⟩
theorem Gw.cell {W w : World} (h : Gw W w) {a : Addr} (ha : a.block < W.heap.size) : w.cell? a = W.cell? a := by
  obtain ⟨q, os, rfl⟩ := h
  exact cell?_grow _ _ _ ha
set_option maxHeartbeats 16000000 in
set_option maxRecDepth 100000 in
theorem compare_any (x y : Ed) (W : World) : Calls Try.prog 32 #[.agg #[.int .i64 x.1, .int .i64 x.2.1, .bool x.2.2], .agg #[.int .i64 y.1, .int .i64 y.2.1, .bool y.2.2]] W fun e w' => e = .returned (.int .i64 (cfE x y)) ∧ Gw W w' := by
  obtain ⟨x1, x2, x3⟩ := x
  obtain ⟨y1, y2, y3⟩ := y
  have C : ∀ a b w, Calls Try.prog 46 #[.int .i64 a, .int .i64 b] w fun e w' => e = .returned (.int .i64 (Lib.compareInt a b)) ∧ w = w' := fun a b w => (AnyG.cmp_Compare_int Try.cmpInt a b w).mono fun _ _ ⟨h1, h2⟩ => ⟨h1, h2.symm⟩
  have K1 := C x1 y1
  have K2 := C x2 y2
  have K3 := C (numB x3) (numB y3)
  have N1 := asNumber_any x3
  have N2 := asNumber_any y3
  have e : cfE (x1, x2, x3) (y1, y2, y3) = orI (Lib.compareInt x1 y1) (orI (Lib.compareInt x2 y2) (Lib.compareInt (numB x3) (numB y3))) := rfl
  rw [e]
  clear e C
  show Calls Try.prog 32 #[.agg #[.int .i64 x1, .int .i64 x2, .bool x3], .agg #[.int .i64 y1, .int .i64 y2, .bool y3]] W _
  generalize Lib.compareInt x1 y1 = c1 at K1 ⊢
  generalize Lib.compareInt x2 y2 = c2 at K2 ⊢
  generalize Lib.compareInt (numB x3) (numB y3) = c3 at K3 ⊢
  generalize numB x3 = n1 at K3 N1
  generalize numB y3 = n2 at K3 N2
  have O1 : ∀ w : World, Calls Try.prog 45 #[.slice (some ⟨w.heap.size, 0, none⟩) 3 3] (w.alloc (.cells #[.int .i64 c1, .int .i64 c2, .int .i64 c3] 3)) fun e w' => e = .returned (.int .i64 (orI c1 (orI c2 c3))) ∧ w.alloc (.cells #[.int .i64 c1, .int .i64 c2, .int .i64 c3] 3) = w' := fun w => or_any c1 c2 c3 _ _ (World.cell?_alloc_at _ _ _ _ rfl) (World.cell?_alloc_at _ _ _ _ rfl) (World.cell?_alloc_at _ _ _ _ rfl)
  have O2 : ∀ w : World, Calls Try.prog 45 #[.slice (some ⟨w.heap.size, 0, none⟩) 3 3] (w.alloc (.cells #[.int .i64 c1, .int .i64 c2, .int .i64 c3] 3)).drew fun e w' => e = .returned (.int .i64 (orI c1 (orI c2 c3))) ∧ (w.alloc (.cells #[.int .i64 c1, .int .i64 c2, .int .i64 c3] 3)).drew = w' := fun w => or_any c1 c2 c3 _ _ (World.cell?_alloc_at _ _ _ _ rfl) (World.cell?_alloc_at _ _ _ _ rfl) (World.cell?_alloc_at _ _ _ _ rfl)
  have O3 : ∀ w : World, Calls Try.prog 45 #[.slice (some ⟨w.heap.size, 0, none⟩) 3 3] (w.drew.alloc (.cells #[.int .i64 c1, .int .i64 c2, .int .i64 c3] 3)) fun e w' => e = .returned (.int .i64 (orI c1 (orI c2 c3))) ∧ w.drew.alloc (.cells #[.int .i64 c1, .int .i64 c2, .int .i64 c3] 3) = w' := fun w => or_any c1 c2 c3 _ _ (World.cell?_alloc_at _ _ _ _ rfl) (World.cell?_alloc_at _ _ _ _ rfl) (World.cell?_alloc_at _ _ _ _ rfl)
  obtain ⟨W1, hW1⟩ : ∃ W1, W1 = (W.alloc (.cells #[.int .i64 x1, .int .i64 x2, .bool x3] 63)).alloc (.cells #[.int .i64 y1, .int .i64 y2, .bool y3] 63) := ⟨_, rfl⟩
  have HW : Hid (Gw W W1) := by rw [hW1]; exact ((Gw.refl W).alloc _).alloc _
  have hz : W1.heap.size = W.heap.size + 2 := by rw [hW1]; simp
  have q1 : ∀ j, W1.cell? ⟨W.heap.size, j, none⟩ = (#[.int .i64 x1, .int .i64 x2, .bool x3] : Array Value)[j]? := fun j => by
    rw [hW1, World.cell?_alloc_past _ _ _ (by simp)]; exact World.cell?_alloc_at _ _ _ _ rfl
  have q2 : ∀ j, W1.cell? ⟨W.heap.size + 1, j, none⟩ = (#[.int .i64 y1, .int .i64 y2, .bool y3] : Array Value)[j]? := fun j => by
    rw [hW1]; exact World.cell?_alloc_at _ _ _ _ (by simp)
  have HSS : Hid (∀ w', Gw W1 w' → (Gw W1 w' ∧ w'.cell? ⟨W.heap.size, 0, none⟩ = some (.int .i64 x1) ∧ w'.cell? ⟨W.heap.size, 1, none⟩ = some (.int .i64 x2) ∧ w'.cell? ⟨W.heap.size, 2, none⟩ = some (.bool x3) ∧ w'.cell? ⟨W.heap.size + 1, 0, none⟩ = some (.int .i64 y1) ∧ w'.cell? ⟨W.heap.size + 1, 1, none⟩ = some (.int .i64 y2) ∧ w'.cell? ⟨W.heap.size + 1, 2, none⟩ = some (.bool y3))) := fun w' h =>
    ⟨h, (h.cell (by simp; omega)).trans (q1 0), (h.cell (by simp; omega)).trans (q1 1), (h.cell (by simp; omega)).trans (q1 2), (h.cell (by simp; omega)).trans (q2 0), (h.cell (by simp; omega)).trans (q2 1), (h.cell (by simp; omega)).trans (q2 2)⟩
  go_enter Try.func32, Try.ntmps32
  go_wp2
  rw [← hW1]
  clear q1 q2 hz hW1
  go_region_held3 (fun w' => Gw W1 w' ∧ w'.cell? ⟨W.heap.size, 0, none⟩ = some (.int .i64 x1) ∧ w'.cell? ⟨W.heap.size, 1, none⟩ = some (.int .i64 x2) ∧ w'.cell? ⟨W.heap.size, 2, none⟩ = some (.bool x3) ∧ w'.cell? ⟨W.heap.size + 1, 0, none⟩ = some (.int .i64 y1) ∧ w'.cell? ⟨W.heap.size + 1, 1, none⟩ = some (.int .i64 y2) ∧ w'.cell? ⟨W.heap.size + 1, 2, none⟩ = some (.bool y3))
    ((refine HSS.out _ ?_; (repeat' (first | with_reducible assumption | with_reducible exact Gw.refl _ | with_reducible apply Gw.drew | with_reducible apply Gw.alloc))))
    (first
      | (go_at_call 47; first | (with_reducible refine (N1 _).mono ?_; rintro e w1 ⟨rfl, rfl⟩) | (with_reducible refine (N2 _).mono ?_; rintro e w1 ⟨rfl, rfl⟩))
      | (go_at_call 46; first | (with_reducible refine (K1 _).mono ?_; rintro e w1 ⟨rfl, rfl⟩) | (with_reducible refine (K2 _).mono ?_; rintro e w1 ⟨rfl, rfl⟩) | (with_reducible refine (K3 _).mono ?_; rintro e w1 ⟨rfl, rfl⟩))
      | (go_at_call 45; first | (with_reducible refine (O1 _).mono ?_; rintro e w1 ⟨rfl, rfl⟩) | (with_reducible refine (O2 _).mono ?_; rintro e w1 ⟨rfl, rfl⟩) | (with_reducible refine (O3 _).mono ?_; rintro e w1 ⟨rfl, rfl⟩)))
  go_wp2
  go_ret
  exact ⟨rfl, HW.out.trans ((Gw.refl _).alloc _).drew⟩
theorem swoC : SWO (ltOf cfE) := by rw [lt_cf]; exact swoE
theorem totC (x y : Ed) (h1 : ltOf cfE x y = false) (h2 : ltOf cfE y x = false) : x = y := by
  rw [lt_cf] at h1 h2
  exact totE x y h1 h2
theorem cmpE (blk off size : Nat) (w : World) : CmpLays Try.prog 32 #[] edV 3 cfE blk off size w := fun _ _ _ _ x y => compare_any x y _
/-- The sort of a row of edges by compare. -/
theorem sort_some (l : List Ed) (g o cap : Nat) (w : World) (hH : HoldsK edV 3 w g o l.toArray) (hg : g < w.heap.size) (hl : l.length ≤ 100000) :
    Calls Try.prog 31 #[.slice (some ⟨g, o, none⟩) l.length cap, .func (.func 32) #[] #[]] w fun e w' => e = .returned (.tuple #[]) ∧ HoldsK edV 3 w' g o (sortE l).toArray ∧ w.heap.size ≤ w'.heap.size ∧ (∀ i, i < w.heap.size → i ≠ g → w'.heap[i]? = w.heap[i]?) ∧ ∀ B, B ≤ g → Below B w w' := by
  have eg : ∀ args w, (callFunc 32 args).run Try.prog w = .ok (.enter 32 args) w := enters_of Try.func32 (by kernel_rfl) rfl
  have hcon := AnyQ.slices_SortFunc_total Try.sortEd 3 Try.isAgg63 Try.sizeOf63 edV (fun _ => rfl) (fun x v hv => by simp [edV] at hv; rcases hv with rfl | rfl | rfl <;> rfl) cfE swoC 32 #[] g o cap l.toArray w eg (cmpE g o _ w) hH hg (by simp; omega) totC
  have hs : l.toArray.size = l.length := by simp
  rw [hs] at hcon
  refine hcon.mono fun e w' ⟨h1, n, os, h2⟩ => ⟨h1, ?_⟩
  have e3 : (l.toArray.toList.mergeSort fun x y => !ltOf cfE y x) = sortE l := by rw [lt_cf]; rfl
  rw [e3] at h2
  subst h2
  exact ⟨holdsK_sortWorldK_c edV 3 w g o l.toArray _ n os hH hg (by simp [(sort_perm l).length_eq]), size_sortWorldK_c edV 3 w g o n _ os, fun i hi hn => sortW_block w g o n _ os hi hn, fun B hB => sortW_below w B g o n _ os hB (by omega)⟩
theorem sort_none (p : Option Addr) (cap : Nat) (fv : Value) (w : World) : Calls Try.prog 31 #[.slice p 0 cap, fv] w fun e w' => e = .returned (.tuple #[]) ∧ w = w' :=
  (AnyF.slices_SortFunc_none Try.sortEd p cap fv w).mono fun _ _ ⟨h1, h2⟩ => ⟨h1, h2.symm⟩
end Go.Proofs.Ytkihbgikdbaelaa
