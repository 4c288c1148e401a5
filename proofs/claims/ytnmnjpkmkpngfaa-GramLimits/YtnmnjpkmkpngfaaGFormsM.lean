/- Rows that are made of nothing. -/
import Derived.Test.YtnmnjpkmkpngfaaGForms1
import Derived.Deep.OwnRows
namespace Go.Proofs.Ytnmnjpkmkpngfaa
set_option linter.unusedVariables false
open Go.ChangeShapes Go.WideShapes Go.ChangeAt Go.RowKit

set_option maxRecDepth 100000 in
theorem make_cn (m : Nat) (hm : m ≤ 63) (w : World) : (Instr.makeSlice 77 (.int .i64 (8 + (1 + (m : Int)))) (.int .i64 (8 + (1 + (m : Int))))).run Try.prog w = .ok (.slice (some ⟨w.heap.size, 0, none⟩) (9 + m) (9 + m)) (w.alloc (.cells (madeCells #[.bool false, .slice none 0 0] ((9 + m) * 2)) 82)) := by
  obtain ⟨i, hi, hz, hs, hb⟩ := info_parts Try.infoCn
  have h := run_make (P := Try.prog) w 77 82 i _ Try.underlying77 hi hz .i64 .i64 ((9 + m : Nat) : Int) ((9 + m : Nat) : Int) (by omega) (Int.le_refl _) (by rw [hb]; omega) (by omega)
  simp only [Int.toNat_natCast, hs] at h
  rw [show (8 + (1 + (m : Int))) = ((9 + m : Nat) : Int) by omega]
  exact h
set_option maxRecDepth 100000 in
theorem make_sy (m : Nat) (hm : m ≤ 63) (w : World) : (Instr.makeSlice 80 (.int .i64 (64 + (1 + (m : Int)))) (.int .i64 (64 + (1 + (m : Int))))).run Try.prog w = .ok (.slice (some ⟨w.heap.size, 0, none⟩) (65 + m) (65 + m)) (w.alloc (.cells (madeCells #[.int .i64 0, .int .i64 0, .int .i64 0] ((65 + m) * 3)) 84)) := by
  obtain ⟨i, hi, hz, hs, hb⟩ := info_parts Try.infoSym
  have h := run_make (P := Try.prog) w 80 84 i _ Try.underlying80 hi hz .i64 .i64 ((65 + m : Nat) : Int) ((65 + m : Nat) : Int) (by omega) (Int.le_refl _) (by rw [hb]; omega) (by omega)
  simp only [Int.toNat_natCast, hs] at h
  rw [show (64 + (1 + (m : Int))) = ((65 + m : Nat) : Int) by omega]
  exact h
theorem cnsV_rep : ∀ k j : Nat, (cnsV (List.replicate k ⟨false, []⟩) (List.replicate k (.slice none 0 0)))[j]? = if j < k * 2 then some (if j % 2 = 0 then .bool false else .slice none 0 0) else none
  | 0, j => by simp [cnsV]
  | k + 1, 0 => by simp [List.replicate, cnsV]
  | k + 1, 1 => by
    rw [if_pos (by omega)]
    rfl
  | k + 1, j + 2 => by
    show (cnsV (List.replicate k ⟨false, []⟩) (List.replicate k (.slice none 0 0)))[j]? = _
    rw [cnsV_rep k j]
    by_cases h : j < k * 2
    · rw [if_pos h, if_pos (show j + 2 < (k + 1) * 2 by omega), show (j + 2) % 2 = j % 2 by omega]
    · rw [if_neg h, if_neg (by omega)]
theorem sysV_rep : ∀ k j : Nat, (sysV (List.replicate k ⟨0, 0, 0⟩))[j]? = if j < k * 3 then some (.int .i64 0) else none
  | 0, j => by simp [sysV]
  | k + 1, 0 => by simp [List.replicate, sysV, syV]
  | k + 1, 1 => by rw [if_pos (by omega)]; rfl
  | k + 1, 2 => by rw [if_pos (by omega)]; rfl
  | k + 1, j + 3 => by
    show (sysV (List.replicate k ⟨0, 0, 0⟩))[j]? = _
    rw [sysV_rep k j]
    by_cases h : j < k * 3
    · rw [if_pos h, if_pos (by omega)]
    · rw [if_neg h, if_neg (by omega)]
theorem made_cns {X : World} {B k : Nat} (h : X.heap[B]? = some (.cells (madeCells #[.bool false, .slice none 0 0] (k * 2)) 82)) (hk : k ≤ 1000) : IsCns X Any (.slice (some ⟨B, 0, none⟩) k k) (List.replicate k ⟨false, []⟩) := by
  refine ⟨List.replicate k (.slice none 0 0), ?_, by simp, fun i c u h1 h2 => ?_⟩
  · rw [List.length_replicate]
    refine ⟨_, _, rfl, ⟨by unfold maxLen; omega, Nat.le_refl _⟩, fun _ => ⟨B, rfl, trivial, block_lt h, fun j u hj => ?_, fun j => by simp [World.frozen?, h]⟩⟩
    rw [cnsV_rep] at hj
    by_cases hlt : j < k * 2
    · rw [if_pos hlt] at hj
      rw [cell_of_cells h j]
      simp only [madeCells, Array.getElem?_map, Array.getElem?_range, hlt, if_true, Option.map_some]
      rw [← hj]
      rcases (by omega : j % 2 = 0 ∨ j % 2 = 1) with e | e
      · simp [e]
      · simp [e]
    · rw [if_neg hlt] at hj; cases hj
  · have e1 : c = ⟨false, []⟩ := by
      have := List.eq_of_mem_replicate (List.mem_of_getElem? h1)
      exact this
    have e2 : u = .slice none 0 0 := List.eq_of_mem_replicate (List.mem_of_getElem? h2)
    subst e1 e2
    exact Reads.nil _ _
theorem made_sys {X : World} {B k : Nat} (h : X.heap[B]? = some (.cells (madeCells #[.int .i64 0, .int .i64 0, .int .i64 0] (k * 3)) 84)) (hk : k ≤ 1000) : IsSys X Any (.slice (some ⟨B, 0, none⟩) k k) (List.replicate k ⟨0, 0, 0⟩) := by
  unfold IsSys
  rw [List.length_replicate]
  refine ⟨_, _, rfl, ⟨by unfold maxLen; omega, Nat.le_refl _⟩, fun _ => ⟨B, rfl, trivial, block_lt h, fun j u hj => ?_, fun j => by simp [World.frozen?, h]⟩⟩
  rw [sysV_rep] at hj
  by_cases hlt : j < k * 3
  · rw [if_pos hlt] at hj
    rw [cell_of_cells h j]
    simp only [madeCells, Array.getElem?_map, Array.getElem?_range, hlt, if_true, Option.map_some]
    rw [← hj]
    rcases (by omega : j % 3 = 0 ∨ j % 3 = 1 ∨ j % 3 = 2) with e | e | e
    · simp [e]
    · simp [e]
    · simp [e]
  · rw [if_neg hlt] at hj; cases hj
end Go.Proofs.Ytnmnjpkmkpngfaa
