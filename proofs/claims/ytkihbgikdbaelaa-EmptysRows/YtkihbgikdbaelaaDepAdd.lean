/- add and addRow of the program: edges being collected. -/
import Derived.Test.YtkihbgikdbaelaaDepMem
import Derived.Lib.Builder
import Derived.Test.YtkihbgikdbaelaaGramMay
import Derived.Deep.AppendLies
import Derived.Deep.RegionHeld3
namespace Go.Proofs.Ytkihbgikdbaelaa
set_option linter.unusedVariables false
open Go.ChangeShapes Go.WideShapes Go.ChangeAt Go.RowKit Go.Maps

theorem step_mapUpdate_in {H : Type} {P : Program} {w : World} {ops : Array Oper} {o : Oper} {a : Act} {K : Act → World → Prop} {Q : Exit → Act → World → Prop} {E : Prop} (hg : o.guard = none) (m x v : Operand) (t : TypeId) (hop : o.op = Op.mapUpdate t m x v)
    (k e : TypeId) (Kd : Keyed P k) (ht : P.underlying t = some (.map k e)) (R : Value → Option (DataW H × List MemPlace)) (b n : Nat) (D : DataW H)
    (hm : a.eval m = .map (some b)) (hown : w.ownsMap P k R b n D) (hn : n < maxLen) (key val : Value) (kl : Lit) (hx : a.eval x = key) (hv : a.eval v = val) (hkey : keyOf P k key = some kl)
    (d : DataW H) (ps : List MemPlace) (hval : R val = some (d, ps))
    (hK : ∀ w', w'.ownsMap P k R b (n + 1) (D.put kl d) → w.mapTurned w' b → K (a.put o.dst undef) w') :
    if Region.wanted o (yielded ops a.tmps) = true then Oper.wp P o a w K Q else E := by
  have hw : Region.wanted o (yielded ops a.tmps) = true := by simp [Region.wanted, hg]
  rw [if_pos hw]
  obtain ⟨w', hrun, r1, r2⟩ := hown.store Kd ht hn hkey hval
  unfold Oper.wp
  simp [execOp, hop, hm, hx, hv, hrun, Result.andThen]
  exact hK w' r1 r2

theorem heapE_lt {w : World} {b : Nat} {o : Obj} (h : w.heap[b]? = some o) : b < w.heap.size := by
  by_cases hh : b < w.heap.size
  · exact hh
  · rw [Array.getElem?_eq_none (by omega)] at h; cases h
/-- The block of the row of the edges at block b. -/
def rowAt (b : Nat) (w : World) : Option Nat := (w.cell? ⟨b, 0, none⟩).bind Value.ownBlock
/-- From w to w' edges were added at block b, with the set M; no other old block has turned. -/
structure Ek (b M : Nat) (w w' : World) : Prop where
  os : w'.os = w.os
  tape : w'.tape = w.tape
  output : w'.output = w.output
  size : w.heap.size ≤ w'.heap.size
  block : ∀ i, i < w.heap.size → i ≠ b → i ≠ M → rowAt b w ≠ some i → w'.heap[i]? = w.heap[i]?
  row : rowAt b w' = rowAt b w ∨ ∃ i, rowAt b w' = some i ∧ w.heap.size ≤ i
section
variable {b M B : Nat} {w w' w'' : World} {F G : Nat → Prop} {l : List Ed}
theorem Ek.refl (b M : Nat) (w : World) : Ek b M w w := ⟨rfl, rfl, rfl, Nat.le_refl _, fun _ _ _ _ _ => rfl, Or.inl rfl⟩
theorem Ek.ne (h : Ek b M w w') {i : Nat} (hi : i < w.heap.size) (hg : rowAt b w ≠ some i) : rowAt b w' ≠ some i := by
  rcases h.row with e | ⟨j, e, hj⟩
  · rw [e]; exact hg
  · rw [e]; intro e'; injection e' with e'; omega
theorem Ek.trans (h : Ek b M w w') (k : Ek b M w' w'') : Ek b M w w'' := by
  refine ⟨k.os.trans h.os, k.tape.trans h.tape, k.output.trans h.output, Nat.le_trans h.size k.size, fun i hi hb hm hg => ?_, ?_⟩
  · exact (k.block i (Nat.lt_of_lt_of_le hi h.size) hb hm (h.ne hi hg)).trans (h.block i hi hb hm hg)
  · rcases k.row with e | ⟨j, e, hj⟩
    · rw [e]; exact h.row
    · exact Or.inr ⟨j, e, Nat.le_trans h.size hj⟩
theorem rowAt_below (hb : Below w.heap.size w w') (hlt : b < w.heap.size) : rowAt b w' = rowAt b w := by
  unfold rowAt; rw [hb.cell (p := ⟨b, 0, none⟩) hlt]
theorem Ek.below (hb : Below w.heap.size w w') (hlt : b < w.heap.size) : Ek b M w w' :=
  ⟨hb.os, hb.tape, hb.output, hb.size, fun i hi _ _ _ => hb.block i hi, Or.inl (rowAt_below hb hlt)⟩
/-- The blocks F lie aside of the edges. -/
def OffE (b M : Nat) (F : Nat → Prop) (w : World) : Prop := ∀ i, F i → i < w.heap.size ∧ i ≠ b ∧ i ≠ M ∧ rowAt b w ≠ some i
theorem OffE.stay (h : OffE b M F w) (k : Ek b M w w') : Stay F w w' := ⟨k.size, fun i hF => k.block i (h i hF).1 (h i hF).2.1 (h i hF).2.2.1 (h i hF).2.2.2⟩
theorem OffE.next (h : OffE b M F w) (k : Ek b M w w') : OffE b M F w' := fun i hF => ⟨Nat.lt_of_lt_of_le (h i hF).1 k.size, (h i hF).2.1, (h i hF).2.2.1, k.ne (h i hF).1 (h i hF).2.2.2⟩
/-- Block b holds the edges l in a row, and their set in block M. -/
def Es (B b M : Nat) (l : List Ed) (w : World) : Prop :=
  B ≤ b ∧ B ≤ M ∧ (∀ e, e ∈ l → okE e) ∧ EdMap w M l ∧ ∃ v, w.heap[b]? = some (.cells #[v, .map (some M)] 73) ∧ w.ownsRow B 63 3 v l.length (edsV l)
theorem Es.lt (h : Es B b M l w) : b < w.heap.size := by
  obtain ⟨_, _, _, _, v, hb, _⟩ := h
  exact heapE_lt hb
theorem EdMap.lt (h : EdMap w M l) : M < w.heap.size := by
  obtain ⟨D, ho, _⟩ := h
  exact ho.lt
theorem rowAt_eq {v u : Value} {t : TypeId} (h : w.heap[b]? = some (.cells #[v, u] t)) : rowAt b w = v.ownBlock := by
  unfold rowAt
  rw [Lib.cell_of_heap h]; rfl
theorem EdMap.not_row (h : EdMap w M l) {v : Value} {n : Nat} {xs : List Value} {B s : Nat} {t : TypeId} (ho : w.ownsRow B t s v n xs) : v.ownBlock ≠ some M := by
  obtain ⟨D, ⟨es, c, hm, _⟩, _⟩ := h
  intro e
  rcases ho.2 with ⟨rfl, _⟩ | ⟨g, cap, cur, rfl, _, hg, _⟩
  · simp [Value.ownBlock] at e
  · simp only [Value.ownBlock, Option.some.injEq] at e
    subst e
    rw [hm] at hg; cases hg
theorem own_ne {B s n c : Nat} {v : Value} {e t : TypeId} {cs : Array Value} {fr : Nat × Nat} {xs : List Value} (h : w.ownsRow B e s v n xs) (hc : w.heap[c]? = some (.cells cs t fr)) (hne : e ≠ t) : v.ownBlock ≠ some c := by
  intro hh
  rcases h.2 with ⟨rfl, _⟩ | ⟨g, cap, cur, rfl, _, hg, _⟩
  · simp [Value.ownBlock] at hh
  · simp only [Value.ownBlock, Option.some.injEq] at hh
    subst hh
    rw [hc] at hg
    injection hg with hg
    injection hg with _ h2
    exact hne h2.symm
theorem Es.row (h : Es B b M l w) {i : Nat} (hi : rowAt b w = some i) : B ≤ i ∧ i < w.heap.size ∧ i ≠ b ∧ i ≠ M := by
  obtain ⟨_, _, _, hm, v, hb, ho⟩ := h
  rw [rowAt_eq hb] at hi
  exact ⟨(ho.lt i hi).1, (ho.lt i hi).2, fun e => own_ne ho hb (by decide) (by rw [hi, e]), fun e => hm.not_row ho (by rw [hi, e])⟩
theorem Es.keep (h : Es B b M l w) (hb : Below w.heap.size w w') : Es B b M l w' := by
  have hlt := h.lt
  obtain ⟨h1, h2, h3, hm, v, h4, ho⟩ := h
  exact ⟨h1, h2, h3, hm.keep (hb.block M hm.lt), v, (hb.block b hlt).trans h4, row_keep ho hb⟩
theorem Es.below (h : Es B b M l w) (k : Ek b M w w') : Below B w w' :=
  ⟨k.os, k.tape, k.output, k.size, fun i hi => k.block i (by have := h.1; have := h.lt; omega) (by have := h.1; omega) (by have := h.2.1; omega) (fun e => by have := (h.row e).1; omega)⟩
theorem OffE.fresh (h : Es B b M l w) (hb : Below w.heap.size w w') (hF : ∀ i, F i → w.heap.size ≤ i ∧ i < w'.heap.size) : OffE b M F w' := fun i hi =>
  ⟨(hF i hi).2, by have := (hF i hi).1; have := h.lt; omega, by have := (hF i hi).1; have := h.2.2.2.1.lt; omega, fun e => by rw [rowAt_below hb h.lt] at e; have := (h.row e).2.1; have := (hF i hi).1; omega⟩
theorem OffE.old (h : Es B b M l w) (hF : ∀ i, F i → i < B) : OffE b M F w := fun i hi =>
  ⟨by have := hF i hi; have := h.1; have := h.lt; omega, by have := hF i hi; have := h.1; omega, by have := hF i hi; have := h.2.1; omega, fun e => by have := (h.row e).1; have := hF i hi; omega⟩
theorem OffE.bel (h : Es B b M l w) (o : OffE b M F w) (hb : Below w.heap.size w w') : OffE b M F w' := o.next (Ek.below hb h.lt)
/-- An edge more: its row grown, its set grown. -/
theorem Es.fin {e : Ed} {w2 w3 w4 w5 : World} {v : Value} {gg cap H : Nat} (h : Es B b M l w) (he : okE e) (hb2 : Below w.heap.size w w2)
    (h2 : w2.heap[b]? = some (.cells #[v, .map (some M)] 73)) (o2 : w2.ownsRow B 63 3 v l.length (edsV l)) (ht : w2.mapTurned w3 M) (hm3 : EdMap w3 M (l ++ [e]))
    (hb3 : Below w3.heap.size w3 w4) (hg : w4.grownBy w5 v.ownBlock) (hown : w5.ownsRow B 63 3 (.slice (some ⟨gg, 0, none⟩) (l.length + 1) cap) (l.length + 1) (edsV l ++ edV e)) (hat : v.ownBlock = some gg ∨ gg = H) (hH : w4.heap.size = H) :
    Es B b M (l ++ [e]) (w5.setCell ⟨b, 0, none⟩ (.slice (some ⟨gg, 0, none⟩) (l.length + 1) cap)) ∧ Ek b M w (w5.setCell ⟨b, 0, none⟩ (.slice (some ⟨gg, 0, none⟩) (l.length + 1) cap)) := by
  have hlt := h.lt
  have hMl := h.2.2.2.1.lt
  have hrow : ∀ i, rowAt b w = some i → _ := fun i => h.row (i := i)
  have hra : rowAt b w = v.ownBlock := by rw [← rowAt_below hb2 hlt]; exact rowAt_eq h2
  have z2 := hb2.size
  have tg := ht.grown
  have z3 := tg.size
  have z4 := hb3.size
  have z5 := hg.size
  have hbM : b ≠ M := fun e => by
    obtain ⟨D, ⟨es, c, hm, _⟩, _⟩ := hm3.keep (w' := w3) rfl
    obtain ⟨es1, c1, es2, c2, hx, _⟩ := ht
    rw [← e, h2] at hx; cases hx
  have hvb : v.ownBlock ≠ some b := own_ne o2 h2 (by decide)
  have hvM : v.ownBlock ≠ some M := fun e => by rw [hra] at hrow; exact (hrow _ e).2.2.2 rfl
  have b3 : w3.heap[b]? = some (.cells #[v, .map (some M)] 73) := (tg.block b (by omega) (fun e => by injection e with e; exact hbM e)).trans h2
  have b4 := (hb3.block b (by omega)).trans b3
  have b5 := (hg.block b (by omega) (Ne.symm hvb)).trans b4
  have hgb : (Value.slice (some ⟨gg, 0, none⟩) (l.length + 1) cap).ownBlock ≠ some b := own_ne hown b5 (by decide)
  have hb6 : (w5.setCell ⟨b, 0, none⟩ (.slice (some ⟨gg, 0, none⟩) (l.length + 1) cap)).heap[b]? = some (.cells #[.slice (some ⟨gg, 0, none⟩) (l.length + 1) cap, .map (some M)] 73) := by simp [World.setCell, Array.getElem?_modify, b5]
  have M4 := hb3.block M (by have := hm3.lt; omega)
  have M5 := (hg.block M (by have := hm3.lt; omega) (fun e => hvM e.symm)).trans M4
  have M6 : (w5.setCell ⟨b, 0, none⟩ (.slice (some ⟨gg, 0, none⟩) (l.length + 1) cap)).heap[M]? = w3.heap[M]? := (Below.heap_setCell _ _ _ _ (Ne.symm hbM)).trans M5
  refine ⟨⟨h.1, h.2.1, fun x hx => ?_, hm3.keep M6, _, hb6, ?_⟩, ⟨?_, ?_, ?_, ?_, ?_, ?_⟩⟩
  · rcases List.mem_append.1 hx with hx | hx
    · exact h.2.2.1 x hx
    · obtain rfl : x = e := by simpa using hx
      exact he
  · rw [List.length_append, edsV_append]
    have : edsV [e] = edV e := by simp [edsV]
    rw [this]
    exact hown.kept (row := some b) ⟨rfl, rfl, rfl, by simp [World.setCell], fun k _ hk => Below.heap_setCell _ _ _ _ (fun e => hk (by simp [e]))⟩ (Or.inr hgb)
  · exact hg.os.trans (hb3.os.trans (tg.os.trans hb2.os))
  · exact hg.tape.trans (hb3.tape.trans (tg.tape.trans hb2.tape))
  · exact hg.output.trans (hb3.output.trans (tg.output.trans hb2.output))
  · have : (w5.setCell ⟨b, 0, none⟩ (.slice (some ⟨gg, 0, none⟩) (l.length + 1) cap)).heap.size = w5.heap.size := by simp [World.setCell]
    omega
  · intro i hi hb hm hr
    rw [hra] at hr
    refine (Below.heap_setCell _ _ _ _ hb).trans ((hg.block i (by omega) (fun e => hr e.symm)).trans ((hb3.block i (by omega)).trans ((tg.block i (by omega) (fun e => ?_)).trans (hb2.block i hi))))
    injection e with e; exact hm e
  · rw [rowAt_eq hb6, hra]
    rcases hat with e | e
    · exact Or.inl (by rw [e]; rfl)
    · exact Or.inr ⟨gg, rfl, by omega⟩
end
end Go.Proofs.Ytkihbgikdbaelaa
