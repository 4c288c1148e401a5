/- The document's edgesMay, reached, Reaches, against their plain functions. -/
import Derived.Test.YtkihbgikdbaelaaHangW
import Derived.Laws.MakeOwn
namespace Go.Proofs.Ytkihbgikdbaelaa
set_option linter.unusedVariables false
open Go.ChangeShapes Go.WideShapes Go.ChangeAt Go.RowKit

theorem eds_bad {n : Int} {l : List Ed} {k : Nat} {t : Ed} (ht : l[k]? = some t) (h : edB n t = false) : edsB n l = false := by
  unfold edsB
  rw [← Bool.not_eq_true, List.all_eq_true]
  intro hh
  have := hh _ (List.mem_of_getElem? ht)
  rw [h] at this; cases this
theorem mayE_bad {n : Int} {l : List Ed} (h : edsB n l = false) : mayE n l = false := by unfold mayE; rw [h]; simp
def boolsA (n : Nat) (s : Nat → Bool) : Array Value := ((List.range n).map fun i => Value.bool (s i)).toArray
theorem boolsA_size (n : Nat) (s : Nat → Bool) : (boolsA n s).size = n := by simp [boolsA]
theorem boolsA_at {n : Nat} (s : Nat → Bool) {k : Nat} (hk : k < n) : (boolsA n s)[k]? = some (.bool (s k)) := by simp [boolsA, hk]
theorem boolsA_put (n : Nat) (s : Nat → Bool) (k : Nat) : (boolsA n s).setIfInBounds k (.bool true) = boolsA n (putS s k) := by
  apply Array.ext_getElem?
  intro i
  rw [Array.getElem?_setIfInBounds, boolsA_size]
  by_cases e : k = i
  · subst e
    rw [if_pos rfl]
    by_cases hk : k < n
    · rw [if_pos hk, boolsA_at _ hk]; simp [putS]
    · rw [if_neg hk, Array.getElem?_eq_none (by rw [boolsA_size]; omega)]
  · rw [if_neg e]
    by_cases hi : i < n
    · rw [boolsA_at _ hi, boolsA_at _ hi]; simp [putS, Ne.symm e]
    · rw [Array.getElem?_eq_none (by rw [boolsA_size]; omega), Array.getElem?_eq_none (by rw [boolsA_size]; omega)]
theorem made_bools (n : Nat) : madeCells #[.bool false] n = boolsA n (fun _ => false) := by
  apply Array.ext_getElem?
  intro i
  by_cases hi : i < n
  · rw [boolsA_at _ hi]
    simp [madeCells, hi, Nat.mod_one]
  · rw [Array.getElem?_eq_none (by rw [size_madeCells]; omega), Array.getElem?_eq_none (by rw [boolsA_size]; omega)]
/-- Block b is the bools s. -/
def BlAt (w : World) (b n : Nat) (s : Nat → Bool) : Prop := w.heap[b]? = some (.cells (boolsA n s) 4)
section
variable {w w' : World} {b n : Nat} {s : Nat → Bool}
theorem BlAt.lt (h : BlAt w b n s) : b < w.heap.size := heap_lt h
theorem BlAt.cell (h : BlAt w b n s) {k : Nat} (hk : k < n) : w.cell? ⟨b, k, none⟩ = some (.bool (s k)) := by
  rw [cell_of_row _ _ k _ _ (0, 0) h]; exact boolsA_at s hk
theorem BlAt.frozen (h : BlAt w b n s) (k : Nat) : w.frozen? ⟨b, k, none⟩ = false := by simp [World.frozen?, show w.heap[b]? = _ from h]
theorem BlAt.keep (h : BlAt w b n s) (hb : Below w.heap.size w w') : BlAt w' b n s := (hb.block b h.lt).trans h
theorem BlAt.put (h : BlAt w b n s) (k : Nat) : BlAt (w.setCell ⟨b, k, none⟩ (.bool true)) b n (putS s k) := by
  unfold BlAt at *
  simp only [World.setCell, Array.getElem?_modify, if_pos, h, Option.map_some]
  rw [← boolsA_put]; rfl
theorem BlAt.new (w : World) (n : Nat) (s : Nat → Bool) : BlAt (w.alloc (.cells (boolsA n s) 4)) w.heap.size n s := heap_alloc_new w _
end
theorem Try.infoBool : (Try.prog.info? 4).map (fun i => (i.zero, i.size, i.bytes)) = some (some (.bool false), 1, 1) := by kernel_rfl
theorem make_bools (n : Nat) (hn : n ≤ 64) (w : World) : (Instr.makeSlice 27 (.int .i64 (n : Int)) (.int .i64 (n : Int))).run Try.prog w = .ok (.slice (some ⟨w.heap.size, 0, none⟩) n n) (w.alloc (.cells (boolsA n (fun _ => false)) 4)) := by
  obtain ⟨i, hi, hz, hs, hb⟩ := info_parts Try.infoBool
  have h := run_make (P := Try.prog) w 27 4 i _ Try.underlying27 hi hz .i64 .i64 (n : Int) (n : Int) (by omega) (Int.le_refl _) (by rw [hb]; omega) (by omega)
  simp only [Int.toNat_natCast, hs, Nat.mul_one] at h
  rw [← made_bools]
  exact h
theorem take_rnd {l : List Ed} {k : Nat} {t : Ed} (ht : l[k]? = some t) (s : Nat → Bool) : rndS s (l.take (k + 1)) = stepS (rndS s (l.take k)) t := by
  rw [List.take_add_one, ht]; exact rndS_snoc _ _ _
end Go.Proofs.Ytkihbgikdbaelaa
