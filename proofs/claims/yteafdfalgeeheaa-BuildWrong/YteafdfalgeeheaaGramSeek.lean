/- The search for the first item that is wanted, with each of the three closures. -/
import Derived.Test.YteafdfalgeeheaaGramFind
namespace Go.Proofs.Yteafdfalgeeheaa
set_option linter.unusedVariables false
open Go.ChangeShapes Go.WideShapes Go.ChangeAt Go.RowKit Go.Maps

theorem grown_set (w : World) (b j : Nat) (v : Value) : w.grownBy (w.setCell ⟨b, j, none⟩ v) (some b) :=
  ⟨rfl, rfl, rfl, by simp [World.setCell], fun i hi hne => Go.Deep.blk_setCell_other w ⟨b, j, none⟩ v i (fun e => hne (by rw [e]))⟩
set_option maxRecDepth 100000 in
set_option maxHeartbeats 2000000 in
theorem wantLong_any (i : It) (hs : i.text.size ≤ 140737488355328) (n : Nat) (hn : n ≤ 1024) (bs : Nat) (w : World) (hc : w.cell? ⟨bs, 0, none⟩ = some (.int .i64 (n : Int))) (hf : w.frozen? ⟨bs, 0, none⟩ = false) :
    Calls Try.prog 49 #[itA i, .pointer (some ⟨bs, 0, none⟩)] w fun e w' => e = .returned (.bool (stopL n i)) ∧ w.grownBy w' (some bs) ∧ w'.cell? ⟨bs, 0, none⟩ = some (.int .i64 ((n + width i : Nat) : Int)) ∧ w'.frozen? ⟨bs, 0, none⟩ = false := by
  have hw : width i ≤ 140737488355328 := by unfold width; split <;> omega
  have hlt := cell_lt hc
  have WD := fun w => width_any i (by unfold maxLen; omega) w
  obtain ⟨kd, tx, lo, hi⟩ := i
  show Calls Try.prog 49 #[.agg #[.int .i64 kd, .string tx, .int .i64 lo, .int .i64 hi], .pointer (some ⟨bs, 0, none⟩)] w _
  have E : stopL n ⟨kd, tx, lo, hi⟩ = decide (1024 < n + width ⟨kd, tx, lo, hi⟩) := rfl
  rw [E]
  generalize width ⟨kd, tx, lo, hi⟩ = wd at hw WD ⊢
  have WE : ∀ w, Calls Try.prog 50 #[.agg #[.int .i64 kd, .string tx, .int .i64 lo, .int .i64 hi]] w fun e w' => e = .returned (.int .i64 (wd : Int)) ∧ ∃ o, w' = w.alloc o := WD
  clear WD E
  have FIN : Hid (∀ w', Below w.heap.size (w.setCell ⟨bs, 0, none⟩ (.int .i64 ((n : Int) + (wd : Int)))) w' → w.grownBy w' (some bs) ∧ w'.cell? ⟨bs, 0, none⟩ = some (.int .i64 ((n + wd : Nat) : Int)) ∧ w'.frozen? ⟨bs, 0, none⟩ = false) := by
    intro w' hb
    have hz : (w.setCell ⟨bs, 0, none⟩ (.int .i64 ((n : Int) + (wd : Int)))).heap.size = w.heap.size := by simp [World.setCell]
    exact ⟨(grown_set w bs 0 _).trans (grown_of _ (hz.symm ▸ hb)), (hb.cell (p := ⟨_, _, none⟩) hlt).trans (World.cell?_setCell_same _ _ _ hc), (hb.frozen (p := ⟨_, _, none⟩) hlt).trans ((World.frozen?_setCell _ _ _ _).trans hf)⟩
  have hz : (w.setCell ⟨bs, 0, none⟩ (.int .i64 ((n : Int) + (wd : Int)))).heap.size = w.heap.size := by simp [World.setCell]
  have BB : Hid (∀ o o', Below w.heap.size (w.setCell ⟨bs, 0, none⟩ (.int .i64 ((n : Int) + (wd : Int)))) (((w.setCell ⟨bs, 0, none⟩ (.int .i64 ((n : Int) + (wd : Int)))).alloc o).alloc o').drew) := fun o o' => (((Below.refl _ _).alloc (Nat.le_of_eq hz.symm) _).alloc (Nat.le_trans (Nat.le_of_eq hz.symm) (le_alloc _ _)) _).drew
  clear hz
  by_cases h : 1024 < n + wd
  · rw [show decide (1024 < n + wd) = true by simp [h]]
    have h' : (1024 : Int) < (n : Int) + (wd : Int) := by omega
    go_enter Try.func49, Try.ntmps49
    go_wp2
    go_region_with (go_at_call 50; refine (WE _).mono ?_; rintro e w2 ⟨rfl, o, rfl⟩)
    all_goals go_wp2
    all_goals go_ret
    all_goals exact ⟨by simp [go_sem], FIN.out _ (BB.out _ _)⟩
  · rw [show decide (1024 < n + wd) = false by simp [h]]
    have h' : ¬ (1024 : Int) < (n : Int) + (wd : Int) := by omega
    go_enter Try.func49, Try.ntmps49
    go_wp2
    go_region_with (go_at_call 50; refine (WE _).mono ?_; rintro e w2 ⟨rfl, o, rfl⟩)
    all_goals go_wp2
    all_goals go_ret
    all_goals exact ⟨by simp [go_sem, h'], FIN.out _ (BB.out _ _)⟩

theorem flatD_drop {n : ByteArray} {l : List (List Cj)} {k : Nat} {a : List Cj} (h : l[k]? = some a) (m : List (ByteArray × It)) : (l.drop k).flatMap (flatA n) ++ m = flatA n a ++ ((l.drop (k + 1)).flatMap (flatA n) ++ m) := by
  rw [drop_at h, List.flatMap_cons, List.append_assoc]
theorem flatA_drop {n : ByteArray} {l : List Cj} {k : Nat} {a : Cj} (h : l[k]? = some a) (m : List (ByteArray × It)) : (l.drop k).flatMap (flatC n) ++ m = flatC n a ++ ((l.drop (k + 1)).flatMap (flatC n) ++ m) := by
  rw [drop_at h, List.flatMap_cons, List.append_assoc]
theorem flat_drop {l : List Df} {k : Nat} {d : Df} (h : l[k]? = some d) : (l.drop k).flatMap flatD = flatD d ++ (l.drop (k + 1)).flatMap flatD := by
  rw [drop_at h, List.flatMap_cons]
theorem flatC_drop {n : ByteArray} {l : List It} {k : Nat} {i : It} (h : l[k]? = some i) (m : List (ByteArray × It)) : (l.drop k).map (fun i => (n, i)) ++ m = (n, i) :: ((l.drop (k + 1)).map (fun i => (n, i)) ++ m) := by
  rw [drop_at h]; rfl
/-- All texts of items are no longer than memory. -/
def Fit (l : List Df) : Prop := ∀ d, d ∈ l → ∀ a, a ∈ d.alts → ∀ c, c ∈ a → ∀ i, i ∈ c.items → i.text.size ≤ 140737488355328
theorem grown_stay {w w' : World} {row : Option Nat} {B : Nat} (h : w.grownBy w' row) (hr : ∀ b, row = some b → B ≤ b) (hB : B ≤ w.heap.size) : Stay (fun b => b < B) w w' :=
  ⟨h.size, fun b hb => h.block b (Nat.lt_of_lt_of_le hb hB) (fun e => by have := hr b e.symm; omega)⟩

end Go.Proofs.Yteafdfalgeeheaa
