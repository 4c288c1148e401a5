/- Edges in memory: rows of edges, the set of what was seen, and what a sort leaves. -/
import Derived.Test.YtdoibpgkfdpbdaaDepPl
import Derived.Test.YtdoibpgkfdpbdaaGramMem
import Derived.Test.YtdoibpgkfdpbdaaRows
import Derived.Shelf.SlSortCmp.NoneTotal
import Derived.DeepKeys4
import Derived.Maps.OwnSet
namespace Go.Proofs.Ytdoibpgkfdpbdaa
set_option linter.unusedVariables false
open Go.RowKit Go.Maps Go.Sort Go.Shelf

def edV (e : Ed) : List Value := [.int .i64 e.1, .int .i64 e.2.1, .bool e.2.2]
def edsV : List Ed → List Value
  | [] => []
  | e :: l => edV e ++ edsV l
theorem edsV_append : ∀ l m : List Ed, edsV (l ++ m) = edsV l ++ edsV m
  | [], _ => rfl
  | i :: l, m => by simp [edsV, edsV_append l m]
theorem edsV_length : ∀ l : List Ed, (edsV l).length = l.length * 3
  | [] => rfl
  | i :: l => by simp [edsV, edV, edsV_length l]; omega
theorem edsV_at : ∀ (l : List Ed) (k : Nat) (s : Ed), l[k]? = some s → (edsV l)[k * 3]? = some (.int .i64 s.1) ∧ (edsV l)[k * 3 + 1]? = some (.int .i64 s.2.1) ∧ (edsV l)[k * 3 + 2]? = some (.bool s.2.2)
  | [], k, i, h => by simp at h
  | q :: l, 0, i, h => by
    obtain rfl : q = i := by simpa using h
    exact ⟨rfl, rfl, rfl⟩
  | q :: l, k + 1, i, h => by
    have := edsV_at l k i (by simpa using h)
    rw [show (k + 1) * 3 = k * 3 + 1 + 1 + 1 by omega]
    simpa [edsV, edV] using this
def IsEds (w : World) (F : Nat → Prop) (v : Value) (l : List Ed) : Prop := Reads w F v l.length (edsV l)
theorem IsEds.any {w w' : World} {F : Nat → Prop} {v : Value} {l : List Ed} (h : IsEds w F v l) (hb : Below w.heap.size w w') : IsEds w' F v l := Reads.any h hb
theorem eds_nil (w : World) (F : Nat → Prop) : IsEds w F (.slice none 0 0) [] := ⟨none, 0, rfl, ⟨Nat.zero_le _, Nat.zero_le _⟩, fun h => absurd h (Nat.lt_irrefl _)⟩
theorem IsEds.slc {w : World} {F : Nat → Prop} {v : Value} {l : List Ed} (h : IsEds w F v l) : ∃ p c, v = .slice p l.length c := by
  obtain ⟨p, c, e, _⟩ := h
  exact ⟨p, c, e⟩

theorem flat_get (l : List Ed) (t : Nat) (h : t < l.length * 3) : (edsV l)[t]? = some ((flatK edV 3 l.toArray)[t]!) := by
  rw [get_flatK _ _ _ t (by simpa using h)]
  have hk : t / 3 < l.length := by omega
  have e : l.toArray[t / 3]! = l[t / 3] := by simp [hk]
  obtain ⟨a, b, c⟩ := edsV_at l (t / 3) l[t / 3] (List.getElem?_eq_getElem hk)
  rw [e]
  have hr : t % 3 = 0 ∨ t % 3 = 1 ∨ t % 3 = 2 := by omega
  rcases hr with hr | hr | hr
  · rw [hr]; have : t = t / 3 * 3 := by omega
    rw [← this] at a; rw [a]; rfl
  · rw [hr]; have : t = t / 3 * 3 + 1 := by omega
    rw [← this] at b; rw [b]; rfl
  · rw [hr]; have : t = t / 3 * 3 + 2 := by omega
    rw [← this] at c; rw [c]; rfl
theorem holds_eds {w : World} {blk o : Nat} {l : List Ed} (h1 : ∀ j c, (edsV l)[j]? = some c → w.cell? ⟨blk, o + j, none⟩ = some c) (h2 : ∀ j, j < (edsV l).length → w.frozen? ⟨blk, o + j, none⟩ = false) : HoldsK edV 3 w blk o l.toArray := fun j hj => by
  have hj' : j < l.length * 3 := by simpa using hj
  exact ⟨h1 j _ (flat_get l j hj'), h2 j (by rw [edsV_length]; exact hj')⟩
theorem eds_holds {w : World} {blk o : Nat} {l : List Ed} (h : HoldsK edV 3 w blk o l.toArray) : (∀ j c, (edsV l)[j]? = some c → w.cell? ⟨blk, o + j, none⟩ = some c) ∧ ∀ j, j < (edsV l).length → w.frozen? ⟨blk, o + j, none⟩ = false := by
  have hl : ∀ j, j < l.length * 3 → j < (flatK edV 3 l.toArray).size := fun j hj => by simpa using hj
  refine ⟨fun j c hc => ?_, fun j hj => (h j (hl j (by rw [edsV_length] at hj; exact hj))).2⟩
  have hj : j < (edsV l).length := (List.getElem?_eq_some_iff.1 hc).1
  rw [edsV_length] at hj
  rw [(h j (hl j hj)).1, ← hc, flat_get l j hj]
  rfl
/-- What a sort leaves as it was: all but its row. -/
theorem sortW_block (w : World) (blk o n : Nat) (d : Array Ed) (os : Array Obj) {i : Nat} (hi : i < w.heap.size) (hne : i ≠ blk) : (sortWorldK edV 3 w blk o n d os).heap[i]? = w.heap[i]? := by
  unfold sortWorldK
  rw [heap_grow_old _ _ (by simpa [putRowK] using hi)]
  unfold putRowK putRow mapBlock
  simp [Array.getElem?_modify, Ne.symm hne]
theorem sortW_below (w : World) (B blk o n : Nat) (d : Array Ed) (os : Array Obj) (hB : B ≤ blk) (hw : B ≤ w.heap.size) : Below B w (sortWorldK edV 3 w blk o n d os) :=
  ⟨rfl, rfl, rfl, size_sortWorldK_c edV 3 w blk o n d os, fun i hi => sortW_block w blk o n d os (by omega) (by omega)⟩

def edA (e : Ed) : Value := .agg #[.int .i64 e.1, .int .i64 e.2.1, .bool e.2.2]
def edLit (e : Ed) : Lit := .string (keyBytes [.int .i64 e.1, .int .i64 e.2.1, .bool e.2.2])
def okE (e : Ed) : Prop := (Lit.int .i64 e.1).wf = true ∧ (Lit.int .i64 e.2.1).wf = true
theorem Try.laidOut : laidOutB Try.prog = true := by kernel_rfl
set_option maxRecDepth 100000 in
theorem Try.rowEd : (42 : TypeId) < Try.prog.types.size := of_decide_eq_true (by kernel_rfl)
theorem Try.wideEd : (match Try.prog.underlying 42 with | some (.array _ _) | some (.struct _) => true | _ => false) = true := by kernel_rfl
theorem Try.ktaEd : Try.prog.keyTypeAt 2 42 = true := by kernel_rfl
set_option maxRecDepth 100000 in
theorem Try.lawEd : WideMaps.KeyLaw Try.prog 42 := deep_law_laid Try.laidOut (m := 2) (by omega) Try.rowEd Try.ktaEd Try.wideEd
theorem Try.keyedEd : Keyed Try.prog 42 := Keyed.of_law Try.lawEd
theorem Try.keyEd : Try.prog.keyType 42 = true := by kernel_rfl
theorem Try.cellsEd : Try.prog.cellsOf 42 = 3 := by kernel_rfl
theorem Try.cellsInt : Try.prog.cellsOf 3 = 1 := by kernel_rfl
theorem Try.cellsBool : Try.prog.cellsOf 4 = 1 := by kernel_rfl
theorem size_pos {n k : Nat} (h : k < n) : ∃ m, n = m + 1 := ⟨n - 1, by omega⟩
set_option maxRecDepth 100000 in
theorem Try.sizeTypes : ∃ m, Try.prog.types.size = m + 1 := size_pos Try.rowEd
theorem key_ed (e : Ed) (h : okE e) : keyOf Try.prog 42 (edA e) = some (edLit e) := by
  obtain ⟨m, hm⟩ := Try.sizeTypes
  unfold keyOf edA
  simp only [Try.underlying42]
  rw [if_pos (by simp [Try.keyEd, Value.formed, Try.underlying42, Try.cellsEd]), hm]
  unfold Program.keyLits
  simp only [Try.underlying42, Value.cells]
  rw [if_pos (by rw [Try.cellsEd]; exact ⟨rfl, by kernel_rfl⟩)]
  simp [Program.keyLits, Try.underlying3, Try.underlying4, Try.cellsInt, Try.cellsBool, h.1, h.2, edLit]
theorem edLit_inj {a b : Ed} (ha : okE a) (hb : okE b) (h : edLit a = edLit b) : a = b := by
  have k := Try.keyedEd.inj (key_ed a ha) (h ▸ key_ed b hb)
  unfold edA at k
  injection k with k
  injection k with k
  simp only [List.cons.injEq, Value.int.injEq, Value.bool.injEq, true_and, and_true] at k
  exact Prod.ext k.1 (Prod.ext k.2.1 k.2.2)
/-- Block M is the set of the edges l. -/
def EdMap (w : World) (M : Nat) (l : List Ed) : Prop :=
  ∃ D : DataW Unit, w.ownsMap Try.prog 42 unitElem M l.length D ∧ IsMap D ∧ ∀ e : Ed, okE e → Maps.has D (edLit e) = decide (e ∈ l)
theorem EdMap.new (w : World) : EdMap (w.alloc (.map #[] 0)) w.heap.size [] :=
  ⟨.map [], World.ownsMap_made _ _ _ _, isMap_empty, fun s _ => by simp; rfl⟩
theorem EdMap.put {w' : World} {M : Nat} {l : List Ed} {s : Ed} {D : DataW Unit} (hm : IsMap D) (hd : ∀ e : Ed, okE e → Maps.has D (edLit e) = decide (e ∈ l)) (hs : okE s) (hll : ∀ e, e ∈ l → okE e)
    (hown : w'.ownsMap Try.prog 42 unitElem M (l.length + 1) (D.put (edLit s) (.agg []))) : EdMap w' M (l ++ [s]) := by
  refine ⟨_, by rw [List.length_append]; exact hown, hm.put _ _, fun t ht => ?_⟩
  by_cases e : s = t
  · subst e
    refine (has_put_same hm (k := edLit s) (by unfold edLit; trivial) _).trans ?_
    simp
  · have ne : edLit t ≠ edLit s := fun h => e (edLit_inj ht hs h).symm
    refine (has_put_other ne _).trans ((hd t ht).trans ?_)
    simp [Ne.symm e]
theorem EdMap.keep {w w' : World} {M : Nat} {l : List Ed} (h : EdMap w M l) (hb : w'.heap[M]? = w.heap[M]?) : EdMap w' M l := by
  obtain ⟨D, ⟨es, clock, h1, h2⟩, h3⟩ := h
  exact ⟨D, ⟨es, clock, hb.trans h1, h2⟩, h3⟩
end Go.Proofs.Ytdoibpgkfdpbdaa
