import Derived.Test.YtdoibpgkfdpbdaaDepMem
import Derived.Lib.Builder
import Derived.Test.YtdoibpgkfdpbdaaGramMay
import Derived.Deep.AppendLies
import Derived.Deep.RegionHeld3
import Derived.Test.YtdoibpgkfdpbdaaGramName
import Derived.Shelf.SlicesG.Cmp
import Derived.Shelf.Lay
import Derived.Ground.SlsfProg
import Derived.Ground.SlgcProg
import Derived.ProofKit
import Derived.OpenShut
import Derived.WalkLawsBesides
import Derived.Test.YtdoibpgkfdpbdaaGramMayG
import Derived.Test.YtdoibpgkfdpbdaaGramLow
/- add and addRow of the program: edges being collected. -/
namespace Go.Proofs.Ytdoibpgkfdpbdaa
set_option linter.unusedVariables false
open Go.ChangeShapes Go.WideShapes Go.ChangeAt Go.RowKit Go.Maps

theorem step_mapUpdate_in {H : Type} {P : Program} {w : World} {ops : Array Oper} {o : Oper} {a : Act} {K : Act → World → Prop} {Q : Exit → Act → World → Prop} {E : Prop} (hg : o.guard = none) (m x v : Operand) (t : TypeId) (hop : o.op = Op.mapUpdate t m x v)
    (k e : TypeId) (Kd : Keyed P k) (ht : P.underlying t = some (.map k e)) (R : Value → Option (DataW H × List MemPlace)) (b n : Nat) (D : DataW H)
    (hm : a.eval m = .map (some b)) (hown : w.ownsMap P k R b n D) (hn : n < maxLen) (key val : Value) (kl : Lit) (hx : a.eval x = key) (hv : a.eval v = val) (hkey : keyOf P k key = some kl)
    (d : DataW H) (ps : List MemPlace) (hval : R val = some (d, ps))
    (hK : ∀ w', w'.ownsMap P k R b (n + 1) (D.put kl d) → w.mapTurned w' b → K (a.put o.dst undef) w') :
    if Region.wanted o (yielded ops a.tmps) = true then Oper.wp P o a w K Q else E := by
  have hw : Region.wanted o (yielded ops a.tmps) = true := by simp [Region.wanted, hg]
  rw [if_pos hw]
  obtain ⟨w', hrun, r1, r2⟩ := hown.store Kd ht hn hkey hval
  unfold Oper.wp
  simp [execOp, hop, hm, hx, hv, hrun, Result.andThen]
  exact hK w' r1 r2

theorem heapE_lt {w : World} {b : Nat} {o : Obj} (h : w.heap[b]? = some o) : b < w.heap.size := by
  by_cases hh : b < w.heap.size
  · exact hh
  · rw [Array.getElem?_eq_none (by omega)] at h; cases h
/-- The block of the row of the edges at block b. -/
def rowAt (b : Nat) (w : World) : Option Nat := (w.cell? ⟨b, 0, none⟩).bind Value.ownBlock
/-- From w to w' edges were added at block b, with the set M; no other old block has turned. -/
structure Ek (b M : Nat) (w w' : World) : Prop where
  os : w'.os = w.os
  tape : w'.tape = w.tape
  output : w'.output = w.output
  size : w.heap.size ≤ w'.heap.size
  block : ∀ i, i < w.heap.size → i ≠ b → i ≠ M → rowAt b w ≠ some i → w'.heap[i]? = w.heap[i]?
  row : rowAt b w' = rowAt b w ∨ ∃ i, rowAt b w' = some i ∧ w.heap.size ≤ i
section
variable {b M B : Nat} {w w' w'' : World} {F G : Nat → Prop} {l : List Ed}
theorem Ek.refl (b M : Nat) (w : World) : Ek b M w w := ⟨rfl, rfl, rfl, Nat.le_refl _, fun _ _ _ _ _ => rfl, Or.inl rfl⟩
theorem Ek.ne (h : Ek b M w w') {i : Nat} (hi : i < w.heap.size) (hg : rowAt b w ≠ some i) : rowAt b w' ≠ some i := by
  rcases h.row with e | ⟨j, e, hj⟩
  · rw [e]; exact hg
  · rw [e]; intro e'; injection e' with e'; omega
theorem Ek.trans (h : Ek b M w w') (k : Ek b M w' w'') : Ek b M w w'' := by
  refine ⟨k.os.trans h.os, k.tape.trans h.tape, k.output.trans h.output, Nat.le_trans h.size k.size, fun i hi hb hm hg => ?_, ?_⟩
  · exact (k.block i (Nat.lt_of_lt_of_le hi h.size) hb hm (h.ne hi hg)).trans (h.block i hi hb hm hg)
  · rcases k.row with e | ⟨j, e, hj⟩
    · rw [e]; exact h.row
    · exact Or.inr ⟨j, e, Nat.le_trans h.size hj⟩
theorem rowAt_below (hb : Below w.heap.size w w') (hlt : b < w.heap.size) : rowAt b w' = rowAt b w := by
  unfold rowAt; rw [hb.cell (p := ⟨b, 0, none⟩) hlt]
theorem Ek.below (hb : Below w.heap.size w w') (hlt : b < w.heap.size) : Ek b M w w' :=
  ⟨hb.os, hb.tape, hb.output, hb.size, fun i hi _ _ _ => hb.block i hi, Or.inl (rowAt_below hb hlt)⟩
/-- The blocks F lie aside of the edges. -/
def OffE (b M : Nat) (F : Nat → Prop) (w : World) : Prop := ∀ i, F i → i < w.heap.size ∧ i ≠ b ∧ i ≠ M ∧ rowAt b w ≠ some i
theorem OffE.stay (h : OffE b M F w) (k : Ek b M w w') : Stay F w w' := ⟨k.size, fun i hF => k.block i (h i hF).1 (h i hF).2.1 (h i hF).2.2.1 (h i hF).2.2.2⟩
theorem OffE.next (h : OffE b M F w) (k : Ek b M w w') : OffE b M F w' := fun i hF => ⟨Nat.lt_of_lt_of_le (h i hF).1 k.size, (h i hF).2.1, (h i hF).2.2.1, k.ne (h i hF).1 (h i hF).2.2.2⟩
/-- Block b holds the edges l in a row, and their set in block M. -/
def Es (B b M : Nat) (l : List Ed) (w : World) : Prop :=
  B ≤ b ∧ B ≤ M ∧ (∀ e, e ∈ l → okE e) ∧ EdMap w M l ∧ ∃ v, w.heap[b]? = some (.cells #[v, .map (some M)] 52) ∧ w.ownsRow B 42 3 v l.length (edsV l)
theorem Es.lt (h : Es B b M l w) : b < w.heap.size := by
  obtain ⟨_, _, _, _, v, hb, _⟩ := h
  exact heapE_lt hb
theorem EdMap.lt (h : EdMap w M l) : M < w.heap.size := by
  obtain ⟨D, ho, _⟩ := h
  exact ho.lt
theorem rowAt_eq {v u : Value} {t : TypeId} (h : w.heap[b]? = some (.cells #[v, u] t)) : rowAt b w = v.ownBlock := by
  unfold rowAt
  rw [Lib.cell_of_heap h]; rfl
theorem EdMap.not_row (h : EdMap w M l) {v : Value} {n : Nat} {xs : List Value} {B s : Nat} {t : TypeId} (ho : w.ownsRow B t s v n xs) : v.ownBlock ≠ some M := by
  obtain ⟨D, ⟨es, c, hm, _⟩, _⟩ := h
  intro e
  rcases ho.2 with ⟨rfl, _⟩ | ⟨g, cap, cur, rfl, _, hg, _⟩
  · simp [Value.ownBlock] at e
  · simp only [Value.ownBlock, Option.some.injEq] at e
    subst e
    rw [hm] at hg; cases hg
theorem own_ne {B s n c : Nat} {v : Value} {e t : TypeId} {cs : Array Value} {fr : Nat × Nat} {xs : List Value} (h : w.ownsRow B e s v n xs) (hc : w.heap[c]? = some (.cells cs t fr)) (hne : e ≠ t) : v.ownBlock ≠ some c := by
  intro hh
  rcases h.2 with ⟨rfl, _⟩ | ⟨g, cap, cur, rfl, _, hg, _⟩
  · simp [Value.ownBlock] at hh
  · simp only [Value.ownBlock, Option.some.injEq] at hh
    subst hh
    rw [hc] at hg
    injection hg with hg
    injection hg with _ h2
    exact hne h2.symm
theorem Es.row (h : Es B b M l w) {i : Nat} (hi : rowAt b w = some i) : B ≤ i ∧ i < w.heap.size ∧ i ≠ b ∧ i ≠ M := by
  obtain ⟨_, _, _, hm, v, hb, ho⟩ := h
  rw [rowAt_eq hb] at hi
  exact ⟨(ho.lt i hi).1, (ho.lt i hi).2, fun e => own_ne ho hb (by decide) (by rw [hi, e]), fun e => hm.not_row ho (by rw [hi, e])⟩
theorem Es.keep (h : Es B b M l w) (hb : Below w.heap.size w w') : Es B b M l w' := by
  have hlt := h.lt
  obtain ⟨h1, h2, h3, hm, v, h4, ho⟩ := h
  exact ⟨h1, h2, h3, hm.keep (hb.block M hm.lt), v, (hb.block b hlt).trans h4, row_keep ho hb⟩
theorem Es.below (h : Es B b M l w) (k : Ek b M w w') : Below B w w' :=
  ⟨k.os, k.tape, k.output, k.size, fun i hi => k.block i (by have := h.1; have := h.lt; omega) (by have := h.1; omega) (by have := h.2.1; omega) (fun e => by have := (h.row e).1; omega)⟩
theorem OffE.fresh (h : Es B b M l w) (hb : Below w.heap.size w w') (hF : ∀ i, F i → w.heap.size ≤ i ∧ i < w'.heap.size) : OffE b M F w' := fun i hi =>
  ⟨(hF i hi).2, by have := (hF i hi).1; have := h.lt; omega, by have := (hF i hi).1; have := h.2.2.2.1.lt; omega, fun e => by rw [rowAt_below hb h.lt] at e; have := (h.row e).2.1; have := (hF i hi).1; omega⟩
theorem OffE.old (h : Es B b M l w) (hF : ∀ i, F i → i < B) : OffE b M F w := fun i hi =>
  ⟨by have := hF i hi; have := h.1; have := h.lt; omega, by have := hF i hi; have := h.1; omega, by have := hF i hi; have := h.2.1; omega, fun e => by have := (h.row e).1; have := hF i hi; omega⟩
theorem OffE.bel (h : Es B b M l w) (o : OffE b M F w) (hb : Below w.heap.size w w') : OffE b M F w' := o.next (Ek.below hb h.lt)
/-- An edge more: its row grown, its set grown. -/
theorem Es.fin {e : Ed} {w2 w3 w4 w5 : World} {v : Value} {gg cap H : Nat} (h : Es B b M l w) (he : okE e) (hb2 : Below w.heap.size w w2)
    (h2 : w2.heap[b]? = some (.cells #[v, .map (some M)] 52)) (o2 : w2.ownsRow B 42 3 v l.length (edsV l)) (ht : w2.mapTurned w3 M) (hm3 : EdMap w3 M (l ++ [e]))
    (hb3 : Below w3.heap.size w3 w4) (hg : w4.grownBy w5 v.ownBlock) (hown : w5.ownsRow B 42 3 (.slice (some ⟨gg, 0, none⟩) (l.length + 1) cap) (l.length + 1) (edsV l ++ edV e)) (hat : v.ownBlock = some gg ∨ gg = H) (hH : w4.heap.size = H) :
    Es B b M (l ++ [e]) (w5.setCell ⟨b, 0, none⟩ (.slice (some ⟨gg, 0, none⟩) (l.length + 1) cap)) ∧ Ek b M w (w5.setCell ⟨b, 0, none⟩ (.slice (some ⟨gg, 0, none⟩) (l.length + 1) cap)) := by
  have hlt := h.lt
  have hMl := h.2.2.2.1.lt
  have hrow : ∀ i, rowAt b w = some i → _ := fun i => h.row (i := i)
  have hra : rowAt b w = v.ownBlock := by rw [← rowAt_below hb2 hlt]; exact rowAt_eq h2
  have z2 := hb2.size
  have tg := ht.grown
  have z3 := tg.size
  have z4 := hb3.size
  have z5 := hg.size
  have hbM : b ≠ M := fun e => by
    obtain ⟨D, ⟨es, c, hm, _⟩, _⟩ := hm3.keep (w' := w3) rfl
    obtain ⟨es1, c1, es2, c2, hx, _⟩ := ht
    rw [← e, h2] at hx; cases hx
  have hvb : v.ownBlock ≠ some b := own_ne o2 h2 (by decide)
  have hvM : v.ownBlock ≠ some M := fun e => by rw [hra] at hrow; exact (hrow _ e).2.2.2 rfl
  have b3 : w3.heap[b]? = some (.cells #[v, .map (some M)] 52) := (tg.block b (by omega) (fun e => by injection e with e; exact hbM e)).trans h2
  have b4 := (hb3.block b (by omega)).trans b3
  have b5 := (hg.block b (by omega) (Ne.symm hvb)).trans b4
  have hgb : (Value.slice (some ⟨gg, 0, none⟩) (l.length + 1) cap).ownBlock ≠ some b := own_ne hown b5 (by decide)
  have hb6 : (w5.setCell ⟨b, 0, none⟩ (.slice (some ⟨gg, 0, none⟩) (l.length + 1) cap)).heap[b]? = some (.cells #[.slice (some ⟨gg, 0, none⟩) (l.length + 1) cap, .map (some M)] 52) := by simp [World.setCell, Array.getElem?_modify, b5]
  have M4 := hb3.block M (by have := hm3.lt; omega)
  have M5 := (hg.block M (by have := hm3.lt; omega) (fun e => hvM e.symm)).trans M4
  have M6 : (w5.setCell ⟨b, 0, none⟩ (.slice (some ⟨gg, 0, none⟩) (l.length + 1) cap)).heap[M]? = w3.heap[M]? := (Below.heap_setCell _ _ _ _ (Ne.symm hbM)).trans M5
  refine ⟨⟨h.1, h.2.1, fun x hx => ?_, hm3.keep M6, _, hb6, ?_⟩, ⟨?_, ?_, ?_, ?_, ?_, ?_⟩⟩
  · rcases List.mem_append.1 hx with hx | hx
    · exact h.2.2.1 x hx
    · obtain rfl : x = e := by simpa using hx
      exact he
  · rw [List.length_append, edsV_append]
    have : edsV [e] = edV e := by simp [edsV]
    rw [this]
    exact hown.kept (row := some b) ⟨rfl, rfl, rfl, by simp [World.setCell], fun k _ hk => Below.heap_setCell _ _ _ _ (fun e => hk (by simp [e]))⟩ (Or.inr hgb)
  · exact hg.os.trans (hb3.os.trans (tg.os.trans hb2.os))
  · exact hg.tape.trans (hb3.tape.trans (tg.tape.trans hb2.tape))
  · exact hg.output.trans (hb3.output.trans (tg.output.trans hb2.output))
  · have : (w5.setCell ⟨b, 0, none⟩ (.slice (some ⟨gg, 0, none⟩) (l.length + 1) cap)).heap.size = w5.heap.size := by simp [World.setCell]
    omega
  · intro i hi hb hm hr
    rw [hra] at hr
    refine (Below.heap_setCell _ _ _ _ hb).trans ((hg.block i (by omega) (fun e => hr e.symm)).trans ((hb3.block i (by omega)).trans ((tg.block i (by omega) (fun e => ?_)).trans (hb2.block i hi))))
    injection e with e; exact hm e
  · rw [rowAt_eq hb6, hra]
    rcases hat with e | e
    · exact Or.inl (by rw [e]; rfl)
    · exact Or.inr ⟨gg, rfl, by omega⟩
end
end Go.Proofs.Ytdoibpgkfdpbdaa
/- add, walked. -/
namespace Go.Proofs.Ytdoibpgkfdpbdaa
set_option linter.unusedVariables false
open Go.ChangeShapes Go.WideShapes Go.ChangeAt Go.RowKit Go.Maps

theorem Try.zeroUnit (w : World) : (zeroValue 78).run Try.prog w = .ok (.agg #[]) w := by kernel_rfl
theorem Try.underEd : Try.prog.underlying 50 = some (.map 42 78) := by kernel_rfl
theorem Try.infoEd : (Try.prog.info? 42).map (fun i => (i.zero, i.size, i.bytes)) = some (some (.agg #[.int .i64 0, .int .i64 0, .bool false]), 3, 24) := by kernel_rfl
theorem belE_alloc {W w' : World} {o : Obj} (h : Below W.heap.size W w') : Below W.heap.size W (w'.alloc o) := h.alloc h.size o
theorem look_ed {w : World} {M : Nat} {l : List Ed} (h : EdMap w M l) (e : Ed) (he : okE e) : (Instr.lookup 50 (.map (some M)) (edA e) true).run Try.prog w = .ok (.tuple #[.agg #[], .bool (decide (e ∈ l))]) w := by
  obtain ⟨D, ho, hm, hd⟩ := h
  obtain ⟨v, ps, hr, hv⟩ := ho.look_ok Try.keyedEd Try.underEd (Try.zeroUnit w) unitElem_mk (key_ed e he)
  obtain ⟨rfl, _⟩ := unitElem_inv hv
  rw [hr, hd e he]
set_option maxHeartbeats 8000000 in
set_option maxRecDepth 100000 in
theorem addEd_any {B b M : Nat} {l : List Ed} {w : World} (e : Ed) (h : Es B b M l w) (he : okE e) (hl : l.length ≤ 100000) :
    Calls Try.prog 24 #[.pointer (some ⟨b, 0, none⟩), edA e] w fun x w' => x = .returned (.tuple #[]) ∧ Hid (Es B b M (addE l e) w') ∧ Hid (Ek b M w w') := by
  obtain ⟨x1, x2, x3⟩ := e
  obtain ⟨W1, hW1⟩ : ∃ W1, W1 = w.alloc (.cells #[.int .i64 x1, .int .i64 x2, .bool x3] 42) := ⟨_, rfl⟩
  have bW1 : Below w.heap.size w W1 := by rw [hW1]; exact bel1 _ _
  have hz : W1.heap.size = w.heap.size + 1 := by rw [hW1]; simp
  have q1 : ∀ j, W1.cell? ⟨w.heap.size, j, none⟩ = (#[.int .i64 x1, .int .i64 x2, .bool x3] : Array Value)[j]? := fun j => by rw [hW1]; exact World.cell?_alloc_at _ _ _ _ rfl
  have E1 := h.keep bW1
  have HSS : Hid (∀ w', Below W1.heap.size W1 w' → (Below W1.heap.size W1 w' ∧ w'.cell? ⟨b, 1, none⟩ = some (.map (some M)) ∧ w'.cell? ⟨w.heap.size, 0, none⟩ = some (.int .i64 x1) ∧ w'.cell? ⟨w.heap.size, 1, none⟩ = some (.int .i64 x2) ∧ w'.cell? ⟨w.heap.size, 2, none⟩ = some (.bool x3) ∧ (Instr.lookup 50 (.map (some M)) (.agg #[.int .i64 x1, .int .i64 x2, .bool x3]) true).run Try.prog w' = .ok (.tuple #[.agg #[], .bool (decide ((x1, x2, x3) ∈ l))]) w')) := fun w' hb => by
    have E2 := E1.keep hb
    obtain ⟨_, _, _, hm, v, hbb, _⟩ := E2
    exact ⟨hb, by rw [Lib.cell_of_heap hbb]; rfl, (hb.cell (p := ⟨_, _, none⟩) (by simp; omega)).trans (q1 0), (hb.cell (p := ⟨_, _, none⟩) (by simp; omega)).trans (q1 1), (hb.cell (p := ⟨_, _, none⟩) (by simp; omega)).trans (q1 2), look_ed hm (x1, x2, x3) he⟩
  have HE : Hid (Es B b M l w) := h
  have HB1 : Hid (Below w.heap.size w W1) := bW1
  cases hin : decide ((x1, x2, x3) ∈ l) with
  | true =>
    rw [hin] at HSS
    rw [show addE l (x1, x2, x3) = l from if_pos (of_decide_eq_true hin)]
    show Calls Try.prog 24 #[.pointer (some ⟨b, 0, none⟩), .agg #[.int .i64 x1, .int .i64 x2, .bool x3]] w _
    go_enter Try.func24, Try.ntmps24
    go_wp2
    rw [← hW1]
    clear q1 bW1 E1 h hW1
    go_region_held3 (fun w' => Below W1.heap.size W1 w' ∧ w'.cell? ⟨b, 1, none⟩ = some (.map (some M)) ∧ w'.cell? ⟨w.heap.size, 0, none⟩ = some (.int .i64 x1) ∧ w'.cell? ⟨w.heap.size, 1, none⟩ = some (.int .i64 x2) ∧ w'.cell? ⟨w.heap.size, 2, none⟩ = some (.bool x3) ∧ (Instr.lookup 50 (.map (some M)) (.agg #[.int .i64 x1, .int .i64 x2, .bool x3]) true).run Try.prog w' = .ok (.tuple #[.agg #[], .bool true]) w')
      ((refine HSS.out _ ?_; (repeat' (first | with_reducible assumption | with_reducible exact Below.refl _ _ | with_reducible apply Below.drew | with_reducible apply belE_alloc)); all_goals omega))
      (fail)
    all_goals
      go_wp2
      refine bodyPost_ret (v := .tuple #[]) (results_none rfl _ _ _) rfl ?_
      refine ⟨rfl, HE.out.keep (HB1.out.trans (Below.mono ?_ HB1.out.size)), Ek.below (HB1.out.trans (Below.mono ?_ HB1.out.size)) HE.out.lt⟩
      all_goals repeat' (first | exact Below.refl _ _ | apply Below.drew | apply belE_alloc)
  | false =>
    rw [hin] at HSS
    rw [show addE l (x1, x2, x3) = l ++ [(x1, x2, x3)] from if_neg (of_decide_eq_false hin)]
    show Calls Try.prog 24 #[.pointer (some ⟨b, 0, none⟩), .agg #[.int .i64 x1, .int .i64 x2, .bool x3]] w _
    go_enter Try.func24, Try.ntmps24
    go_wp2
    rw [← hW1]
    clear q1 bW1 E1 h hW1
    go_cut [4, 5] from 6 (fun p x wc => (∃ q, p = .pointer (some ⟨q, 0, none⟩)) ∧ x = .bool false ∧ Hid (Below W1.heap.size W1 wc))
    case first =>
      go_region_held3 (fun w' => Below W1.heap.size W1 w' ∧ w'.cell? ⟨b, 1, none⟩ = some (.map (some M)) ∧ w'.cell? ⟨w.heap.size, 0, none⟩ = some (.int .i64 x1) ∧ w'.cell? ⟨w.heap.size, 1, none⟩ = some (.int .i64 x2) ∧ w'.cell? ⟨w.heap.size, 2, none⟩ = some (.bool x3) ∧ (Instr.lookup 50 (.map (some M)) (.agg #[.int .i64 x1, .int .i64 x2, .bool x3]) true).run Try.prog w' = .ok (.tuple #[.agg #[], .bool false]) w')
      ((refine HSS.out _ ?_; (repeat' (first | with_reducible assumption | with_reducible exact Below.refl _ _ | with_reducible apply Below.drew | with_reducible apply belE_alloc)); all_goals omega))
        (fail)
      all_goals
        go_wp2
        go_meet
        case rel => exact ⟨⟨_, rfl⟩, rfl, by repeat' (first | exact Below.refl _ _ | apply Below.drew | apply belE_alloc)⟩
    case rest =>
      obtain ⟨⟨q, rfl⟩, rfl, HW2⟩ := hcut
      obtain ⟨V, hV⟩ : ∃ V, V = wc := ⟨_, rfl⟩
      subst hV
      obtain ⟨-, y1, z0, z1, z2, -⟩ := HSS.out _ HW2.out
      have HB2 : Hid (Below w.heap.size w V) := HB1.out.trans (HW2.out.mono HB1.out.size)
      have E2 := HE.out.keep HB2.out
      have HE2 : Hid (Es B b M l V) := E2
      obtain ⟨_, _, hok, ⟨D, hown, hD, hd⟩, v, hbb, hrow⟩ := E2
      have hkey : keyOf Try.prog 42 (.agg #[.int .i64 x1, .int .i64 x2, .bool x3]) = some (edLit (x1, x2, x3)) := key_ed (x1, x2, x3) he
      have hlm : l.length < maxLen := by unfold maxLen; omega
      have HP : Hid (∀ w3, w3.ownsMap Try.prog 42 unitElem M (l.length + 1) (D.put (edLit (x1, x2, x3)) (.agg [])) → EdMap w3 M (l ++ [(x1, x2, x3)])) := fun w3 h3 => EdMap.put hD hd he hok h3
      have HRW : Hid (V.ownsRow B 42 3 v l.length (edsV l)) := hrow
      have HBB : Hid (V.heap[b]? = some (.cells #[v, .map (some M)] 52)) := hbb
      obtain ⟨w3, hrun, hown3, hturn3⟩ := hown.drew.store (val := .agg #[]) Try.keyedEd Try.underEd hlm hkey unitElem_mk
      clear hok hd hD hrow hbb HSS
      go_wp2
      go_cut [] from 16 (fun w3 => Hid (V.drew.mapTurned w3 M) ∧ Hid (EdMap w3 M (l ++ [(x1, x2, x3)])))
      case first =>
        go_region
        all_goals
          go_wp2
          go_meet
          case rel => exact ⟨hturn3, HP.out _ hown3⟩
      case rest =>
        obtain ⟨HT3, HM3⟩ := hcut
        obtain ⟨w3, hV3⟩ : ∃ w3, w3 = wc := ⟨_, rfl⟩
        subst hV3
        clear hown hkey HP
        have tg := HT3.out.grown
        have hbM : b ≠ M := fun e => by
          obtain ⟨es1, c1, es2, c2, hx, _⟩ := HT3.out
          rw [← e] at hx
          have := HBB.out.symm.trans hx
          cases this
        have hblt : b < V.heap.size := HE2.out.lt
        have hzl : w.heap.size < V.heap.size := by have := HW2.out.size; omega
        have hzM : w.heap.size ≠ M := fun e => by
          have := HE.out.2.2.2.1.lt
          omega
        have hb3 : w3.heap[b]? = some (.cells #[v, .map (some M)] 52) := (tg.block b hblt (fun e => hbM (by injection e))).trans HBB.out
        have hr3 : w3.ownsRow B 42 3 v l.length (edsV l) := HRW.out.kept (w' := w3) ⟨tg.os, tg.tape, tg.output, tg.size, tg.block⟩ (Or.inr (HE2.out.2.2.2.1.not_row HRW.out))
        obtain ⟨pv, cv, hv⟩ := row_slice hr3
        subst hv
        have hne : (Value.slice pv l.length cv).ownBlock ≠ some b := own_ne hr3 hb3 (by decide)
        have hnz : (Value.slice pv l.length cv).ownBlock ≠ some w.heap.size := fun e => by
          have q1 : rowAt b w = some w.heap.size := by rw [← rowAt_below HB2.out HE.out.lt, rowAt_eq HBB.out]; exact e
          have := (HE.out.row q1).2.1
          omega
        have z3 := tg.size
        have c0 : w3.cell? ⟨b, 0, none⟩ = some (.slice pv l.length cv) := by rw [Lib.cell_of_heap hb3]; rfl
        have k0 : w3.cell? ⟨w.heap.size, 0, none⟩ = some (.int .i64 x1) := (tg.cell_far ⟨w.heap.size, 0, none⟩ (by simpa using hzl) (fun e => hzM (by injection e))).trans z0
        have k1 : w3.cell? ⟨w.heap.size, 1, none⟩ = some (.int .i64 x2) := (tg.cell_far ⟨w.heap.size, 1, none⟩ (by simpa using hzl) (fun e => hzM (by injection e))).trans z1
        have k2 : w3.cell? ⟨w.heap.size, 2, none⟩ = some (.bool x3) := (tg.cell_far ⟨w.heap.size, 2, none⟩ (by simpa using hzl) (fun e => hzM (by injection e))).trans z2
        have f0 : w3.frozen? ⟨b, 0, none⟩ = false := by unfold World.frozen?; rw [hb3]; simp
        obtain ⟨i, hi0, hz0, hz1, hz2⟩ := info_parts Try.infoEd
        have hA : l.length + 1 ≤ maxLen := by unfold maxLen; omega
        have hB' : (l.length + 1) * 24 ≤ 140737488355328 := by omega
        have R3 : Hid (w3.ownsRow B 42 3 (.slice pv l.length cv) l.length (edsV l)) := hr3
        have hlt3 : b < w3.heap.size := Nat.lt_of_lt_of_le hblt z3
        have hBw : B ≤ w3.heap.size := by have := HE.out.1; omega
        have cz0 : ∀ o, (w3.alloc o).cell? ⟨b, 0, none⟩ = some (.slice pv l.length cv) := fun o => (World.cell?_alloc_past _ _ _ hlt3).trans c0
        have fz0 : ∀ o, (w3.alloc o).frozen? ⟨b, 0, none⟩ = false := fun o => (World.frozen?_alloc_past _ _ _ hlt3).trans f0
        have HB2d : Hid (Below w.heap.size w V.drew) := HB2.out.drew
        have HRW2 : Hid (V.drew.ownsRow B 42 3 (.slice pv l.length cv) l.length (edsV l)) := HRW.out
        clear hb3 hr3 tg hlm y1 z0 z1 z2 hz hnz hzl hzM hbM HW2 HB1 HE2 HB2 HRW
        go_wp2_with fail
        go_region_law
          ((refine step_append_lies _ (by rfl) _ _ _ (by rfl) B 42 i _ 3 24 Try.underlying27 hi0 hz0 hz1 hz2 rfl (by omega) (.slice pv l.length cv) l.length (edsV l) (by rfl) ((R3.out.alloc _).drew)
              ⟨w3.heap.size, 0, none⟩ 1 1 [.int .i64 x1, .int .i64 x2, .bool x3] (by rfl) (by rfl) (World.news_of_block (cs := #[.int .i64 x1, .int .i64 x2, .bool x3]) (t := 42) (fr := (0, 0)) (heap_alloc_new w3 _)) (by simp [Value.oneCell'])
              (by omega) hA hB' (by simp; omega) (w3.heap.size + 1) (by simp) ?_; intro gg cap1 w5 hown5 hgrow hat hltg
            have d0 : w5.cell? ⟨b, 0, none⟩ = some (.slice pv l.length cv) := (hgrow.cell_far ⟨b, 0, none⟩ (by simp; omega) (Ne.symm hne)).trans (cz0 _)
            have df0 : w5.frozen? ⟨b, 0, none⟩ = false := (hgrow.frozen_far ⟨b, 0, none⟩ (by simp; omega) (Ne.symm hne)).trans (fz0 _)))
        all_goals
          have hg' : (w3.alloc (.cells #[.int .i64 x1, .int .i64 x2, .bool x3] 42)).grownBy w5 (Value.slice pv l.length cv).ownBlock := ⟨hgrow.os, hgrow.tape, hgrow.output, hgrow.size, hgrow.block⟩
          have FIN := Es.fin (e := (x1, x2, x3)) HE.out he HB2d.out HBB.out HRW2.out HT3.out HM3.out (bel1 w3 (.cells #[.int .i64 x1, .int .i64 x2, .bool x3] 42)) hg' hown5 hat (by simp)
          have F1 : Hid _ := FIN.1
          have F2 : Hid _ := FIN.2
          clear hg' hown5 hgrow hat FIN
          go_wp2
          go_end0
          exact ⟨rfl, F1, F2⟩
end Go.Proofs.Ytdoibpgkfdpbdaa
/- addRow, walked. -/
namespace Go.Proofs.Ytdoibpgkfdpbdaa
set_option linter.unusedVariables false
open Go.ChangeShapes Go.WideShapes Go.ChangeAt Go.RowKit Go.Maps

theorem addAll_one (l : List Ed) (e : Ed) : addAll l [e] = addE l e := rfl
theorem seqE_snoc {hd : Int} {n : Bool} {l : List Sy} {k : Nat} {s : Sy} (h : l[k]? = some s) : seqE hd n (l.take (k + 1)) = seqE hd n (l.take k) ++ (if s.name = -1 then [] else [(hd, s.name, n)]) := by
  rw [take_snoc h, seqE_append]; rfl
set_option maxHeartbeats 4000000 in
set_option maxRecDepth 100000 in
theorem addRow_any {B b M : Nat} {l : List Ed} {w : World} {F : Nat → Prop} (hd : Int) (c : Cn) (v : Value) (h : Es B b M l w) (hc : IsSys w F v c.seq) (hF : OffE b M F w) (hh : (Lit.int .i64 hd).wf = true) (hs : ∀ s, s ∈ c.seq → (Lit.int .i64 s.name).wf = true) (hl : l.length + c.seq.length ≤ 100000) :
    Calls Try.prog 14 #[.pointer (some ⟨b, 0, none⟩), .int .i64 hd, .agg #[.bool c.neg, v]] w fun x w' => x = .returned (.tuple #[]) ∧ Hid (Es B b M (addAll l (seqE hd c.neg c.seq)) w') ∧ Hid (Ek b M w w') := by
  obtain ⟨ng, sq⟩ := c
  simp only at hc hs hl ⊢
  obtain ⟨p, cp, hv, hm, hca⟩ := id hc
  subst hv
  have hm2 := hm.1
  unfold maxLen at hm2
  obtain ⟨n0, hn0⟩ : ∃ n0, n0 = w.heap.size := ⟨_, rfl⟩
  have HC : Hid (∀ w', Ek b M w w' → ∀ k s, sq[k]? = some s → ∃ g o, p = some ⟨g, o, none⟩ ∧ w'.cell? ⟨g, o + k * 3, none⟩ = some (.int .i64 s.name) ∧ w'.cell? ⟨g, o + k * 3 + 1, none⟩ = some (.int .i64 s.lo) ∧ w'.cell? ⟨g, o + k * 3 + 2, none⟩ = some (.int .i64 s.hi)) := fun w' hk k s hks => by
    obtain ⟨p2, c2, e2, _, h2⟩ := IsSys.keep hc (hF.stay hk) (fun _ x => x)
    injection e2 with e3
    subst e3
    obtain ⟨g, o, e, _, _, cc, _⟩ := h2 (by have := (List.getElem?_eq_some_iff.1 hks).1; omega)
    obtain ⟨a0, a1, a2⟩ := sysV_at sq k s hks
    exact ⟨g, o, e, cc _ _ a0, by rw [Nat.add_assoc]; exact cc _ _ a1, by rw [Nat.add_assoc]; exact cc _ _ a2⟩
  have HE : Hid (Es B b M l w) := h
  have hsl : Hid (∀ s, s ∈ sq → (Lit.int .i64 s.name).wf = true) := hs
  have HN : Hid (n0 = w.heap.size) := hn0
  clear hc hca hs h hF hm
  go_enter Try.func14, Try.ntmps14
  go_wp2
  rw [← hn0]
  clear hn0
  go_loopw [11] (fun i wr => ∃ k : Nat, k ≤ sq.length ∧ i = .int .i64 k ∧ Hid (Es B b M (addAll l (seqE hd ng (sq.take k))) wr) ∧ Hid (Ek b M w wr) ∧ Hid (OffE b M (fun i => i = n0) wr) ∧ n0 < wr.heap.size ∧ wr.cell? ⟨n0, 0, none⟩ = some (.bool ng)) (fun i _ => sq.length - (intOf i).toNat)
  case atStart =>
    refine ⟨0, Nat.zero_le _, rfl, HE.out.keep (bel1 _ _), Ek.below (bel1 _ _) HE.out.lt, OffE.fresh HE.out (bel1 _ _) (fun i e => ?_), ?_, ?_⟩
    · rw [e, HN.out]; simp
    · rw [HN.out]; simp
    · rw [HN.out]; exact World.cell?_alloc_at _ _ _ _ rfl
  case round =>
    obtain ⟨k, hk, rfl, HEr, HKr, HOr, hnr, hbx⟩ := hrel
    by_cases hlt : k < sq.length
    · obtain ⟨s, ht⟩ : ∃ t, sq[k]? = some t := ⟨_, List.getElem?_eq_getElem hlt⟩
      obtain ⟨g1, o1, hp, a0, a1, a2⟩ := HC.out _ HKr.out k s ht
      subst hp
      by_cases hn : s.name = -1
      · go_wp2
        go_roundw
        case rel => exact ⟨k + 1, by omega, by go_num, by show Es B b M _ _; rw [seqE_snoc ht, if_pos hn, List.append_nil]; exact HEr.out.keep (bel1 _ _), HKr.out.trans (Ek.below (bel1 _ _) HEr.out.lt), HOr.out.bel HEr.out (bel1 _ _), by simp; omega, (World.cell?_alloc_past _ _ _ hnr).trans hbx⟩
        case measure => simp [intOf]; omega
      · have hsn : (Lit.int .i64 s.name).wf = true := hsl.out s (List.mem_of_getElem? ht)
        have hlen : (addAll l (seqE hd ng (sq.take k))).length ≤ 100000 := by
          have h1 := addAll_len (seqE hd ng (sq.take k)) l
          have h2 := seqE_len hd ng (sq.take k)
          rw [take_len hk] at h2
          omega
        have KA : Hid (∀ o, Calls Try.prog 24 #[.pointer (some ⟨b, 0, none⟩), .agg #[.int .i64 hd, .int .i64 s.name, .bool ng]] (wr.alloc o) fun x w' => x = .returned (.tuple #[]) ∧ Hid (Es B b M (addAll l (seqE hd ng (sq.take (k + 1)))) w') ∧ Hid (Ek b M w w') ∧ Hid (OffE b M (fun i => i = n0) w') ∧ n0 < w'.heap.size ∧ w'.cell? ⟨n0, 0, none⟩ = some (.bool ng)) := fun o =>
          (addEd_any (hd, s.name, ng) (HEr.out.keep (bel1 wr o)) ⟨hh, hsn⟩ hlen).mono fun x w' ⟨h1, h2, h3⟩ => by
            have o1 := OffE.bel HEr.out HOr.out (bel1 wr o)
            have hz : n0 < (wr.alloc o).heap.size := by simp; omega
            refine ⟨h1, ?_, HKr.out.trans ((Ek.below (bel1 _ _) HEr.out.lt).trans h3.out), o1.next h3.out, Nat.lt_of_lt_of_le hz h3.out.size, ?_⟩
            · show Es B b M _ _
              rw [seqE_snoc ht, if_neg hn, addAll_append]; exact h2.out
            · have hb := h3.out.block n0 hz (o1 n0 rfl).2.1 (o1 n0 rfl).2.2.1 (o1 n0 rfl).2.2.2
              have hc : w'.cell? ⟨n0, 0, none⟩ = (wr.alloc o).cell? ⟨n0, 0, none⟩ := by unfold World.cell?; rw [hb]
              rw [hc, World.cell?_alloc_past _ _ _ hnr]; exact hbx
        clear hlen hsn
        go_wp2_with (go_at_call 24; refine (KA.out _).mono ?_; rintro e w2 ⟨rfl, e2, k2, o2, n2, c2⟩)
        go_roundw
        case rel => exact ⟨k + 1, by omega, by go_num, e2, k2, o2, n2, c2⟩
        case measure => simp [intOf]; omega
    · obtain rfl : k = sq.length := by omega
      go_wp2
      go_end0
      exact ⟨rfl, by rw [List.take_length] at HEr; exact HEr, HKr⟩
end Go.Proofs.Ytdoibpgkfdpbdaa
/- compare of the program, and the sort by it. -/
namespace Go.Proofs.Ytdoibpgkfdpbdaa
set_option linter.unusedVariables false
open Go.RowKit Go.Maps Go.Sort Go.Shelf Go.Lib

shelf_lay_g SlLaysF0.n6 Slsf 6 at Try 15 as Try.sortEd
shelf_lay_g SlLaysC2.n5 Slgc 5 at Try 28 as Try.cmpInt
theorem asNumber_any (b : Bool) (w : World) : Calls Try.prog 29 #[.bool b] w fun e w' => e = .returned (.int .i64 (numB b)) ∧ w = w' := by
  cases b
  all_goals
    go_enter Try.func29, Try.ntmps29
    go_wp2
    go_ret
    exact ⟨rfl, rfl⟩
set_option maxHeartbeats 2000000 in
theorem or_any (a b c : Int) (g : Nat) (w : World) (h0 : w.cell? ⟨g, 0, none⟩ = some (.int .i64 a)) (h1 : w.cell? ⟨g, 1, none⟩ = some (.int .i64 b)) (h2 : w.cell? ⟨g, 2, none⟩ = some (.int .i64 c)) :
    Calls Try.prog 27 #[.slice (some ⟨g, 0, none⟩) 3 3] w fun e w' => e = .returned (.int .i64 (orI a (orI b c))) ∧ w = w' := by
  by_cases e0 : a = 0
  · by_cases e1 : b = 0
    · by_cases e2 : c = 0
      · subst e0 e1 e2
        go_enter Try.func27, Try.ntmps27
        go_wp2
        refine wp_loop_rounds 4 ?_
        rw [rounds_succ]
        go_wp2
        rw [rounds_succ]
        go_wp2
        rw [rounds_succ]
        go_wp2
        rw [rounds_succ]
        go_wp2
        go_ret
        exact ⟨rfl, rfl⟩
      · subst e0 e1
        have f2 : (c == 0) = false := by simpa using e2
        go_enter Try.func27, Try.ntmps27
        go_wp2
        refine wp_loop_rounds 3 ?_
        rw [rounds_succ]
        go_wp2
        rw [rounds_succ]
        go_wp2
        rw [rounds_succ]
        go_wp2
        go_ret
        exact ⟨by simp [orI], rfl⟩
    · subst e0
      have f1 : (b == 0) = false := by simpa using e1
      go_enter Try.func27, Try.ntmps27
      go_wp2
      refine wp_loop_rounds 2 ?_
      rw [rounds_succ]
      go_wp2
      rw [rounds_succ]
      go_wp2
      go_ret
      exact ⟨by simp [orI, e1], rfl⟩
  · have f0 : (a == 0) = false := by simpa using e0
    go_enter Try.func27, Try.ntmps27
    go_wp2
    refine wp_loop_rounds 1 ?_
    rw [rounds_succ]
    go_wp2
    go_ret
    exact ⟨by simp [orI, e0], rfl⟩
/-- Grown from W by new blocks and draws alone. -/
def Gw (W w : World) : Prop := ∃ q os, w = grow (W.drewN q) os
theorem Gw.refl (W : World) : Gw W W := ⟨0, #[], by rw [grow_empty]; rfl⟩
theorem Gw.alloc {W w : World} (h : Gw W w) (o : Obj) : Gw W (w.alloc o) := by
  obtain ⟨q, os, rfl⟩ := h
  exact ⟨q, os ++ #[o], by rw [alloc_eq_grow, grow_grow]⟩
theorem Gw.drew {W w : World} (h : Gw W w) : Gw W w.drew := by
  obtain ⟨q, os, rfl⟩ := h
  exact ⟨q + 1, os, rfl⟩
theorem Gw.drewN {W w : World} (h : Gw W w) (n : Nat) : Gw W (w.drewN n) := by
  obtain ⟨q, os, rfl⟩ := h
  exact ⟨q + n, os, by rw [← World.drewN_drewN]; rfl⟩
theorem Gw.trans {W w w' : World} (h : Gw W w) (k : Gw w w') : Gw W w' := by
  obtain ⟨q, os, rfl⟩ := h
  obtain ⟨q', os', rfl⟩ := k
  exact ⟨q + q', os ++ os', by rw [← World.drewN_drewN, ← grow_grow]; rfl⟩
theorem Gw.cell {W w : World} (h : Gw W w) {a : Addr} (ha : a.block < W.heap.size) : w.cell? a = W.cell? a := by
  obtain ⟨q, os, rfl⟩ := h
  exact cell?_grow _ _ _ ha
set_option maxHeartbeats 16000000 in
set_option maxRecDepth 100000 in
theorem compare_any (x y : Ed) (W : World) : Calls Try.prog 16 #[.agg #[.int .i64 x.1, .int .i64 x.2.1, .bool x.2.2], .agg #[.int .i64 y.1, .int .i64 y.2.1, .bool y.2.2]] W fun e w' => e = .returned (.int .i64 (cfE x y)) ∧ Gw W w' := by
  obtain ⟨x1, x2, x3⟩ := x
  obtain ⟨y1, y2, y3⟩ := y
  have C : ∀ a b w, Calls Try.prog 28 #[.int .i64 a, .int .i64 b] w fun e w' => e = .returned (.int .i64 (Lib.compareInt a b)) ∧ w = w' := fun a b w => (AnyG.cmp_Compare_int Try.cmpInt a b w).mono fun _ _ ⟨h1, h2⟩ => ⟨h1, h2.symm⟩
  have K1 := C x1 y1
  have K2 := C x2 y2
  have K3 := C (numB x3) (numB y3)
  have N1 := asNumber_any x3
  have N2 := asNumber_any y3
  have e : cfE (x1, x2, x3) (y1, y2, y3) = orI (Lib.compareInt x1 y1) (orI (Lib.compareInt x2 y2) (Lib.compareInt (numB x3) (numB y3))) := rfl
  rw [e]
  clear e C
  show Calls Try.prog 16 #[.agg #[.int .i64 x1, .int .i64 x2, .bool x3], .agg #[.int .i64 y1, .int .i64 y2, .bool y3]] W _
  generalize Lib.compareInt x1 y1 = c1 at K1 ⊢
  generalize Lib.compareInt x2 y2 = c2 at K2 ⊢
  generalize Lib.compareInt (numB x3) (numB y3) = c3 at K3 ⊢
  generalize numB x3 = n1 at K3 N1
  generalize numB y3 = n2 at K3 N2
  have O1 : ∀ w : World, Calls Try.prog 27 #[.slice (some ⟨w.heap.size, 0, none⟩) 3 3] (w.alloc (.cells #[.int .i64 c1, .int .i64 c2, .int .i64 c3] 3)) fun e w' => e = .returned (.int .i64 (orI c1 (orI c2 c3))) ∧ w.alloc (.cells #[.int .i64 c1, .int .i64 c2, .int .i64 c3] 3) = w' := fun w => or_any c1 c2 c3 _ _ (World.cell?_alloc_at _ _ _ _ rfl) (World.cell?_alloc_at _ _ _ _ rfl) (World.cell?_alloc_at _ _ _ _ rfl)
  have O2 : ∀ w : World, Calls Try.prog 27 #[.slice (some ⟨w.heap.size, 0, none⟩) 3 3] (w.alloc (.cells #[.int .i64 c1, .int .i64 c2, .int .i64 c3] 3)).drew fun e w' => e = .returned (.int .i64 (orI c1 (orI c2 c3))) ∧ (w.alloc (.cells #[.int .i64 c1, .int .i64 c2, .int .i64 c3] 3)).drew = w' := fun w => or_any c1 c2 c3 _ _ (World.cell?_alloc_at _ _ _ _ rfl) (World.cell?_alloc_at _ _ _ _ rfl) (World.cell?_alloc_at _ _ _ _ rfl)
  have O3 : ∀ w : World, Calls Try.prog 27 #[.slice (some ⟨w.heap.size, 0, none⟩) 3 3] (w.drew.alloc (.cells #[.int .i64 c1, .int .i64 c2, .int .i64 c3] 3)) fun e w' => e = .returned (.int .i64 (orI c1 (orI c2 c3))) ∧ w.drew.alloc (.cells #[.int .i64 c1, .int .i64 c2, .int .i64 c3] 3) = w' := fun w => or_any c1 c2 c3 _ _ (World.cell?_alloc_at _ _ _ _ rfl) (World.cell?_alloc_at _ _ _ _ rfl) (World.cell?_alloc_at _ _ _ _ rfl)
  obtain ⟨W1, hW1⟩ : ∃ W1, W1 = (W.alloc (.cells #[.int .i64 x1, .int .i64 x2, .bool x3] 42)).alloc (.cells #[.int .i64 y1, .int .i64 y2, .bool y3] 42) := ⟨_, rfl⟩
  have HW : Hid (Gw W W1) := by rw [hW1]; exact ((Gw.refl W).alloc _).alloc _
  have hz : W1.heap.size = W.heap.size + 2 := by rw [hW1]; simp
  have q1 : ∀ j, W1.cell? ⟨W.heap.size, j, none⟩ = (#[.int .i64 x1, .int .i64 x2, .bool x3] : Array Value)[j]? := fun j => by
    rw [hW1, World.cell?_alloc_past _ _ _ (by simp)]; exact World.cell?_alloc_at _ _ _ _ rfl
  have q2 : ∀ j, W1.cell? ⟨W.heap.size + 1, j, none⟩ = (#[.int .i64 y1, .int .i64 y2, .bool y3] : Array Value)[j]? := fun j => by
    rw [hW1]; exact World.cell?_alloc_at _ _ _ _ (by simp)
  have HSS : Hid (∀ w', Gw W1 w' → (Gw W1 w' ∧ w'.cell? ⟨W.heap.size, 0, none⟩ = some (.int .i64 x1) ∧ w'.cell? ⟨W.heap.size, 1, none⟩ = some (.int .i64 x2) ∧ w'.cell? ⟨W.heap.size, 2, none⟩ = some (.bool x3) ∧ w'.cell? ⟨W.heap.size + 1, 0, none⟩ = some (.int .i64 y1) ∧ w'.cell? ⟨W.heap.size + 1, 1, none⟩ = some (.int .i64 y2) ∧ w'.cell? ⟨W.heap.size + 1, 2, none⟩ = some (.bool y3))) := fun w' h =>
    ⟨h, (h.cell (by simp; omega)).trans (q1 0), (h.cell (by simp; omega)).trans (q1 1), (h.cell (by simp; omega)).trans (q1 2), (h.cell (by simp; omega)).trans (q2 0), (h.cell (by simp; omega)).trans (q2 1), (h.cell (by simp; omega)).trans (q2 2)⟩
  go_enter Try.func16, Try.ntmps16
  go_wp2
  rw [← hW1]
  clear q1 q2 hz hW1
  go_region_held3 (fun w' => Gw W1 w' ∧ w'.cell? ⟨W.heap.size, 0, none⟩ = some (.int .i64 x1) ∧ w'.cell? ⟨W.heap.size, 1, none⟩ = some (.int .i64 x2) ∧ w'.cell? ⟨W.heap.size, 2, none⟩ = some (.bool x3) ∧ w'.cell? ⟨W.heap.size + 1, 0, none⟩ = some (.int .i64 y1) ∧ w'.cell? ⟨W.heap.size + 1, 1, none⟩ = some (.int .i64 y2) ∧ w'.cell? ⟨W.heap.size + 1, 2, none⟩ = some (.bool y3))
    ((refine HSS.out _ ?_; (repeat' (first | with_reducible assumption | with_reducible exact Gw.refl _ | with_reducible apply Gw.drew | with_reducible apply Gw.alloc))))
    (first
      | (go_at_call 29; first | (with_reducible refine (N1 _).mono ?_; rintro e w1 ⟨rfl, rfl⟩) | (with_reducible refine (N2 _).mono ?_; rintro e w1 ⟨rfl, rfl⟩))
      | (go_at_call 28; first | (with_reducible refine (K1 _).mono ?_; rintro e w1 ⟨rfl, rfl⟩) | (with_reducible refine (K2 _).mono ?_; rintro e w1 ⟨rfl, rfl⟩) | (with_reducible refine (K3 _).mono ?_; rintro e w1 ⟨rfl, rfl⟩))
      | (go_at_call 27; first | (with_reducible refine (O1 _).mono ?_; rintro e w1 ⟨rfl, rfl⟩) | (with_reducible refine (O2 _).mono ?_; rintro e w1 ⟨rfl, rfl⟩) | (with_reducible refine (O3 _).mono ?_; rintro e w1 ⟨rfl, rfl⟩)))
  go_wp2
  go_ret
  exact ⟨rfl, HW.out.trans ((Gw.refl _).alloc _).drew⟩
theorem swoC : SWO (ltOf cfE) := by rw [lt_cf]; exact swoE
theorem totC (x y : Ed) (h1 : ltOf cfE x y = false) (h2 : ltOf cfE y x = false) : x = y := by
  rw [lt_cf] at h1 h2
  exact totE x y h1 h2
theorem cmpE (blk off size : Nat) (w : World) : CmpLays Try.prog 16 #[] edV 3 cfE blk off size w := fun _ _ _ _ x y => compare_any x y _
/-- The sort of a row of edges by compare. -/
theorem sort_some (l : List Ed) (g o cap : Nat) (w : World) (hH : HoldsK edV 3 w g o l.toArray) (hg : g < w.heap.size) (hl : l.length ≤ 100000) :
    Calls Try.prog 15 #[.slice (some ⟨g, o, none⟩) l.length cap, .func (.func 16) #[] #[]] w fun e w' => e = .returned (.tuple #[]) ∧ HoldsK edV 3 w' g o (sortE l).toArray ∧ w.heap.size ≤ w'.heap.size ∧ (∀ i, i < w.heap.size → i ≠ g → w'.heap[i]? = w.heap[i]?) ∧ ∀ B, B ≤ g → Below B w w' := by
  have eg : ∀ args w, (callFunc 16 args).run Try.prog w = .ok (.enter 16 args) w := enters_of Try.func16 (by kernel_rfl) rfl
  have hcon := AnyQ.slices_SortFunc_total Try.sortEd 3 Try.isAgg42 Try.sizeOf42 edV (fun _ => rfl) (fun x v hv => by simp [edV] at hv; rcases hv with rfl | rfl | rfl <;> rfl) cfE swoC 16 #[] g o cap l.toArray w eg (cmpE g o _ w) hH hg (by simp; omega) totC
  have hs : l.toArray.size = l.length := by simp
  rw [hs] at hcon
  refine hcon.mono fun e w' ⟨h1, n, os, h2⟩ => ⟨h1, ?_⟩
  have e3 : (l.toArray.toList.mergeSort fun x y => !ltOf cfE y x) = sortE l := by rw [lt_cf]; rfl
  rw [e3] at h2
  subst h2
  exact ⟨holdsK_sortWorldK_c edV 3 w g o l.toArray _ n os hH hg (by simp [(sort_perm l).length_eq]), size_sortWorldK_c edV 3 w g o n _ os, fun i hi hn => sortW_block w g o n _ os hi hn, fun B hB => sortW_below w B g o n _ os hB (by omega)⟩
theorem sort_none (p : Option Addr) (cap : Nat) (fv : Value) (w : World) : Calls Try.prog 15 #[.slice p 0 cap, fv] w fun e w' => e = .returned (.tuple #[]) ∧ w = w' :=
  (AnyF.slices_SortFunc_none Try.sortEd p cap fv w).mono fun _ _ ⟨h1, h2⟩ => ⟨h1, h2.symm⟩
end Go.Proofs.Ytdoibpgkfdpbdaa
/- Edges of the program against its plain function. -/
namespace Go.Proofs.Ytdoibpgkfdpbdaa
set_option linter.unusedVariables false
open Go.ChangeShapes Go.WideShapes Go.ChangeAt Go.RowKit Go.Maps Go.Sort

theorem cnsE_snoc {hd : Int} {l : List Cn} {k : Nat} {c : Cn} (h : l[k]? = some c) : cnsE hd (l.take (k + 1)) = cnsE hd (l.take k) ++ seqE hd c.neg c.seq := by
  rw [take_snoc h, cnsE_append]; simp [cnsE]
theorem allE_snoc {l : List Ru} {k : Nat} {r : Ru} (h : l[k]? = some r) : allE (l.take (k + 1)) = allE (l.take k) ++ cnsE r.head r.conj := by
  rw [take_snoc h, allE_append]; simp [allE]
/-- What is known of a grammar that may be: its rows in any later world. -/
def Gk (w : World) (F : Nat → Prop) (v2 : Value) (g : Gr) : Prop := IsRus w F v2 g.rules ∧ mayG g = true
theorem small_wf {a : Int} (h0 : -1 ≤ a) (h1 : a ≤ 64) : (Lit.int .i64 a).wf = true := WalkArith.wf_i64 (by omega)
theorem allE_pre {g : Gr} (h : mayG g = true) (k : Nat) : (allE (g.rules.take k)).length ≤ 1024 := by
  have h1 := allE_len h
  have h2 : allE g.rules = allE (g.rules.take k) ++ allE (g.rules.drop k) := by rw [← allE_append, List.take_append_drop]
  rw [h2, List.length_append] at h1; omega
theorem mayG_seq {g : Gr} (h : mayG g = true) : ∀ r, r ∈ g.rules → ∀ c, c ∈ r.conj → c.seq.length ≤ 64 := by
  unfold mayG mayRules at h
  simp only [Bool.and_eq_true] at h
  intro r hr c hc
  have := mayRs_row _ _ _ h.2.2.2.2.2 r hr c hc
  unfold mayRow at this
  simp only [Bool.and_eq_true, decide_eq_true_eq] at this
  exact this.1
theorem mayRs_conj (k : Nat) : ∀ (l : List Ru) (n : Nat), mayRs k n l = true → ∀ r, r ∈ l → r.conj.length ≤ 8
  | [], _, _, r, hr => by simp at hr
  | a :: l, n, e, r, hr => by
    unfold mayRs at e
    split at e
    · rename_i hc
      split at e
      · cases e
      · rename_i m hm
        rcases List.mem_cons.1 hr with rfl | hr
        · exact hc.2
        · exact mayRs_conj k l m e r hr
    · cases e
theorem mayG_conj {g : Gr} (h : mayG g = true) : ∀ r, r ∈ g.rules → r.conj.length ≤ 8 := by
  unfold mayG mayRules at h
  simp only [Bool.and_eq_true] at h
  exact mayRs_conj _ _ _ h.2.2.2.2.2
theorem Es.new (w : World) : Es w.heap.size (w.heap.size + 1) w.heap.size [] ((w.alloc (.map #[] 0)).alloc (.cells #[.slice none 0 0, .map (some w.heap.size)] 52)) := by
  refine ⟨Nat.le_succ _, Nat.le_refl _, fun e he => by simp at he, (EdMap.new w).keep ?_, .slice none 0 0, ?_, World.ownsRow_nil _ _ _ _⟩
  · exact (bel1 _ _).block _ (by simp)
  · have := heap_alloc_new (w.alloc (.map #[] 0)) (.cells #[.slice none 0 0, .map (some w.heap.size)] 52)
    simpa using this
theorem sort_nil : sortE [] = [] := by simp [sortE]
theorem sorted_eds {l : List Ed} {w' : World} {g c : Nat} {F : Nat → Prop} (hH : HoldsK edV 3 w' g 0 (sortE l).toArray) (hg : g < w'.heap.size) (hF : F g) (hm : l.length ≤ c) (hl : l.length ≤ 100000) : IsEds w' F (.slice (some ⟨g, 0, none⟩) l.length c) (sortE l) := by
  have hle : (sortE l).length = l.length := (sort_perm l).length_eq
  obtain ⟨h1, h2⟩ := eds_holds hH
  refine ⟨some ⟨g, 0, none⟩, c, by rw [hle], ⟨by rw [hle]; unfold maxLen; omega, by rw [hle]; exact hm⟩, fun _ => ⟨g, 0, rfl, hF, hg, h1, h2⟩⟩
theorem row_holds {w : World} {g : Nat} {cur : Array Value} {t : TypeId} {l : List Ed} (hg : w.heap[g]? = some (.cells cur t (0, 0))) (ht : cur.toList.take (l.length * 3) = edsV l) : HoldsK edV 3 w g 0 l.toArray := by
  refine holds_eds (fun j c hc => ?_) (fun j _ => ?_)
  · rw [← ht, List.getElem?_take] at hc
    split at hc
    · rw [Lib.cell_of_heap hg]; simpa using hc
    · cases hc
  · unfold World.frozen?; simp [hg]
set_option maxHeartbeats 4000000 in
set_option maxRecDepth 100000 in
theorem edges_no (g : Gr) (v1 v2 : Value) (w : World) {F : Nat → Prop} (hg : GrIs w F v1 v2 g) (hn : ∀ s, s ∈ g.names → s.size ≤ maxLen) (hS : Short g.rules) (hM : mayG g = false) :
    Calls Try.prog 6 #[.agg #[.int .i64 g.start, v1, v2]] w fun e w' => e = .returned (.tuple #[.slice none 0 0, .int .i64 600]) ∧ Hid (Below w.heap.size w w') := by
  have K1 : ∀ o, Calls Try.prog 13 #[.agg #[.int .i64 g.start, v1, v2]] (w.alloc o) fun e w' => e = .returned (.bool false) ∧ Below (w.alloc o).heap.size (w.alloc o) w' := fun o => by
    have := may_any g v1 v2 (w.alloc o) (hg.any (bel1 w o)) hn hS
    rwa [hM] at this
  obtain ⟨p1, c1, l1, hv1⟩ : ∃ p n c, v1 = .slice p n c := by obtain ⟨p, c, e, _⟩ := hg.1; exact ⟨_, _, _, e⟩
  obtain ⟨p2, c2, hv2⟩ := hg.2.slc
  subst hv1 hv2
  clear hg hn hS hM
  go_enter Try.func6, Try.ntmps6
  go_wp2_with (go_at_call 13; refine (K1 _).mono ?_; rintro e w1 ⟨rfl, b1⟩; have H1 : Hid (Below w.heap.size w w1) := (bel1 w _).trans (b1.mono (bel1 w _).size); clear b1)
  go_ret2
  exact ⟨rfl, H1⟩
set_option maxHeartbeats 8000000 in
set_option maxRecDepth 100000 in
theorem edges_ok (g : Gr) (v1 v2 : Value) (w : World) {F : Nat → Prop} (hg : GrIs w F v1 v2 g) (hn : ∀ s, s ∈ g.names → s.size ≤ maxLen) (hS : Short g.rules) (hM : mayG g = true) :
    Calls Try.prog 6 #[.agg #[.int .i64 g.start, v1, v2]] w fun e w' => ∃ v, e = .returned (.tuple #[v, .int .i64 0]) ∧ Hid (IsEds w' (fun i => w.heap.size ≤ i) v (edgesT g)) ∧ Hid (Below w.heap.size w w') := by
  have K1 : ∀ o, Calls Try.prog 13 #[.agg #[.int .i64 g.start, v1, v2]] (w.alloc o) fun e w' => e = .returned (.bool true) ∧ Below (w.alloc o).heap.size (w.alloc o) w' := fun o => by
    have := may_any g v1 v2 (w.alloc o) (hg.any (bel1 w o)) hn hS
    rwa [hM] at this
  obtain ⟨p1, c1, l1, hv1⟩ : ∃ p n c, v1 = .slice p n c := by obtain ⟨p, c, e, _⟩ := hg.1; exact ⟨_, _, _, e⟩
  obtain ⟨p2, c2, hv2⟩ := hg.2.slc
  subst hv1 hv2
  have HG : Hid (IsRus w (fun i => i < w.heap.size) (.slice p2 g.rules.length c2) g.rules) := IsRus.low hg.2 (fun _ _ h => h)
  have HM : Hid (mayG g = true) := hM
  obtain ⟨n, hnn⟩ : ∃ n, n = g.rules.length := ⟨_, rfl⟩
  have hn6 : n ≤ 256 := by
    unfold mayG mayRules at hM
    simp only [Bool.and_eq_true, decide_eq_true_eq] at hM
    rw [hnn]; exact hM.2.2.2.2.1
  have HN : Hid (n = g.rules.length) := hnn
  rw [← hnn] at HG K1 ⊢
  clear hg hn hS hM hnn
  have hmm := @run_makeMap Try.prog
  go_enter Try.func6, Try.ntmps6
  go_wp2_with (go_at_call 13; refine (K1 _).mono ?_; rintro e w1 ⟨rfl, b1⟩; have H1 : Hid (Below w.heap.size w w1) := (bel1 w _).trans (b1.mono (bel1 w _).size); have q2 : w1.cell? ⟨w.heap.size, 2, none⟩ = some (.slice p2 n c2) := (b1.cell (p := ⟨_, _, none⟩) (by simp)).trans (World.cell?_alloc_at _ _ _ _ rfl); have q2s : w.heap.size < w1.heap.size := (by have := b1.size; simp at this; omega); clear b1)
  go_loopw [17] (fun i wr => ∃ k : Nat, k ≤ n ∧ i = .int .i64 k ∧ Hid (Es w1.heap.size (w1.heap.size + 1) w1.heap.size (addAll [] (allE (g.rules.take k))) wr) ∧ Hid (Below w1.heap.size w1 wr)) (fun i _ => n - (intOf i).toNat)
  case atStart => exact ⟨0, Nat.zero_le _, rfl, Es.new w1, (bel1 w1 _).alloc (by simp) _⟩
  case round =>
    obtain ⟨k, hk, rfl, HEr, HBr⟩ := hrel
    obtain ⟨V, hV⟩ : ∃ V, V = wr := ⟨_, rfl⟩
    subst hV
    have HBw : Hid (Below w.heap.size w V) := H1.out.trans (HBr.out.mono H1.out.size)
    by_cases hlt : k < n
    · obtain ⟨r, ht⟩ : ∃ r, g.rules[k]? = some r := ⟨_, List.getElem?_eq_getElem (by rw [← HN.out]; exact hlt)⟩
      have hrm : r ∈ g.rules := List.mem_of_getElem? ht
      obtain ⟨g1, o1, u, hp, a0, a1, icn⟩ := (HG.out.any HBw.out).row ht
      subst hp
      obtain ⟨p3, c3, hu⟩ := icn.slc
      subst hu
      have HIC : Hid (IsCns V (fun i => i < w.heap.size) (.slice p3 r.conj.length c3) r.conj) := icn
      obtain ⟨m, hmn⟩ : ∃ m, m = r.conj.length := ⟨_, rfl⟩
      have HMN : Hid (m = r.conj.length) := hmn
      have hm8 : m ≤ 8 := by rw [hmn]; exact mayG_conj HM.out r hrm
      have HH : Hid ((Lit.int .i64 r.head).wf = true) := by
        have h1 := mayG_head HM.out r hrm
        have h2 := mayG_names HM.out
        exact small_wf (by omega) (by omega)
      obtain ⟨l0, hl0⟩ : ∃ l0, l0 = addAll [] (allE (g.rules.take k)) := ⟨_, rfl⟩
      have HL0 : Hid (l0 = addAll [] (allE (g.rules.take k))) := hl0
      have HL1 : Hid (addAll l0 (cnsE r.head r.conj) = addAll [] (allE (g.rules.take (k + 1)))) := by show _ = _; rw [hl0, ← addAll_append, ← allE_snoc ht]
      rw [← hl0] at HEr
      rw [← hmn] at a1 HIC
      clear icn hl0 hmn
      have HLEN : Hid (∀ q, (addAll l0 (cnsE r.head (r.conj.take q))).length + 64 ≤ 100000) := fun q => by
        have h1 := addAll_len (cnsE r.head (r.conj.take q)) l0
        have h2 := addAll_len (allE (g.rules.take k)) []
        rw [← HL0.out] at h2
        have h3 := allE_pre HM.out (k + 1)
        rw [allE_snoc ht, List.length_append] at h3
        have h4 : (cnsE r.head r.conj).length = (cnsE r.head (r.conj.take q)).length + (cnsE r.head (r.conj.drop q)).length := by rw [← List.length_append, ← cnsE_append, List.take_append_drop]
        simp only [List.length_nil] at h2
        omega
      have HSQ : Hid (∀ c, c ∈ r.conj → c.seq.length ≤ 64 ∧ ∀ s, s ∈ c.seq → (Lit.int .i64 s.name).wf = true) := fun c hc => by
        refine ⟨mayG_seq HM.out r hrm c hc, fun s hs => ?_⟩
        have h1 := mayG_sym HM.out r hrm c hc s hs
        have h2 := mayG_names HM.out
        exact small_wf (by omega) (by omega)
      go_wp2
      go_loopw [24] (fun i wr => ∃ q : Nat, q ≤ m ∧ i = .int .i64 q ∧ Hid (Es w1.heap.size (w1.heap.size + 1) w1.heap.size (addAll l0 (cnsE r.head (r.conj.take q))) wr) ∧ Hid (Below w1.heap.size w1 wr) ∧ Hid (OffE (w1.heap.size + 1) w1.heap.size (fun i => i = V.heap.size) wr) ∧ V.heap.size < wr.heap.size ∧ wr.cell? ⟨V.heap.size, 0, none⟩ = some (.int .i64 r.head)) (fun i _ => m - (intOf i).toNat)
      case atStart =>
        refine ⟨0, Nat.zero_le _, rfl, HEr.out.keep (bel1 _ _), HBr.out.alloc HBr.out.size _, OffE.fresh HEr.out (bel1 _ _) (fun i e => ?_), by simp, World.cell?_alloc_at _ _ _ _ rfl⟩
        rw [e]; simp
      case round =>
        obtain ⟨q, hq, rfl, HEq, HBq, HOq, hzq, hcq⟩ := hrel
        by_cases hlq : q < m
        · obtain ⟨c, hcc⟩ : ∃ c, r.conj[q]? = some c := ⟨_, List.getElem?_eq_getElem (by rw [← HMN.out]; exact hlq)⟩
          have HBv : Hid (Below w.heap.size w wr) := H1.out.trans (HBq.out.mono H1.out.size)
          have hzw := H1.out.size
          have icn9 : IsCns wr (fun i => i < w.heap.size) (.slice p3 m c3) r.conj := HIC.out.keep ⟨Nat.le_of_lt hzq, fun i hi => (HBq.out.block i (Nat.lt_of_lt_of_le hi hzw)).trans (HBr.out.block i (Nat.lt_of_lt_of_le hi hzw)).symm⟩ (fun _ x => x)
          obtain ⟨g2, o2, u2, hp2, d0, d1, isy⟩ := icn9.row hcc
          subst hp2
          obtain ⟨p4, c4, hu2⟩ := isy.slc
          subst hu2
          have KA : Hid (∀ o, Calls Try.prog 14 #[.pointer (some ⟨w1.heap.size + 1, 0, none⟩), .int .i64 r.head, .agg #[.bool c.neg, .slice p4 c.seq.length c4]] (wr.alloc o) fun x w' => x = .returned (.tuple #[]) ∧ Hid (Es w1.heap.size (w1.heap.size + 1) w1.heap.size (addAll l0 (cnsE r.head (r.conj.take (q + 1)))) w') ∧ Hid (Below w1.heap.size w1 w') ∧ Hid (OffE (w1.heap.size + 1) w1.heap.size (fun i => i = V.heap.size) w') ∧ V.heap.size < w'.heap.size ∧ w'.cell? ⟨V.heap.size, 0, none⟩ = some (.int .i64 r.head)) := fun o =>
            (addRow_any r.head c (.slice p4 c.seq.length c4) (HEq.out.keep (bel1 wr o)) (isy.any (bel1 wr o)) (OffE.old (HEq.out.keep (bel1 wr o)) (fun i hi => Nat.lt_of_lt_of_le hi hzw)) HH.out (HSQ.out c (List.mem_of_getElem? hcc)).2 (by have := HLEN.out q; have := (HSQ.out c (List.mem_of_getElem? hcc)).1; omega)).mono fun x w' ⟨h1, h2, h3⟩ => by
              have of1 := OffE.bel HEq.out HOq.out (bel1 wr o)
              have hz : V.heap.size < (wr.alloc o).heap.size := by simp; omega
              refine ⟨h1, ?_, (HBq.out.alloc HBq.out.size o).trans (Es.below (HEq.out.keep (bel1 wr o)) h3.out), of1.next h3.out, Nat.lt_of_lt_of_le hz h3.out.size, ?_⟩
              · show Es _ _ _ _ _
                rw [cnsE_snoc hcc, addAll_append]; exact h2.out
              · have hb := h3.out.block V.heap.size hz (of1 _ rfl).2.1 (of1 _ rfl).2.2.1 (of1 _ rfl).2.2.2
                have hc : w'.cell? ⟨V.heap.size, 0, none⟩ = (wr.alloc o).cell? ⟨V.heap.size, 0, none⟩ := by unfold World.cell?; rw [hb]
                rw [hc, World.cell?_alloc_past _ _ _ hzq]; exact hcq
          clear icn9 isy
          go_wp2_with (go_at_call 14; refine (KA.out _).mono ?_; rintro e w2 ⟨rfl, e2, k2, o2, n2, c2⟩)
          go_roundw
          case rel => exact ⟨q + 1, by omega, by go_num, e2, k2, o2, n2, c2⟩
          case measure => simp [intOf]; omega
        · obtain rfl : q = m := by omega
          go_wp2
          go_roundw
          case rel => exact ⟨k + 1, by omega, by go_num, by show Es _ _ _ _ _; have e9 := HEq.out; rw [HMN.out, List.take_length, HL1.out] at e9; exact e9, HBq⟩
          case measure => simp [intOf]; omega
    · obtain rfl : k = n := by omega
      obtain ⟨l, hl⟩ : ∃ l, l = addAll [] (allE g.rules) := ⟨_, rfl⟩
      rw [show addAll [] (allE (g.rules.take k)) = l by rw [hl, HN.out, List.take_length]] at HEr
      have HT : Hid (edgesT g = sortE l) := by show _ = _; rw [hl]; rfl
      have hll : l.length ≤ 100000 := by
        have h1 := allE_len HM.out
        have h2 := addAll_len (allE g.rules) []
        rw [← hl] at h2
        simp only [List.length_nil] at h2
        omega
      obtain ⟨_, _, _, _, v, hbb, hrow⟩ := HEr.out
      have c0 : V.cell? ⟨w1.heap.size + 1, 0, none⟩ = some v := by rw [Lib.cell_of_heap hbb]; rfl
      have hblt := HEr.out.lt
      have hzw := H1.out.size
      rcases id hrow.2 with ⟨hv, hl0⟩ | ⟨g5, cap, cur, hv, hbg, hg5, hnc, hcm, hcs, htk⟩
      · subst hv
        have hle : l = [] := List.length_eq_zero_iff.1 hl0
        clear hrow hbb hl
        go_wp2_with (go_at_call 15; refine (sort_none _ _ _ _).mono ?_; rintro e w2 ⟨rfl, rfl⟩)
        go_ret2
        exact ⟨.slice none 0 0, rfl, by show IsEds _ _ _ _; rw [HT.out, hle, sort_nil]; exact eds_nil _ _, HBw⟩
      · subst hv
        have hgb : g5 ≠ w1.heap.size + 1 := fun e => own_ne hrow hbb (by decide) (by rw [← e]; rfl)
        have hg5l : g5 < V.heap.size := heapE_lt hg5
        have KS : Calls Try.prog 15 #[.slice (some ⟨g5, 0, none⟩) l.length cap, .func (.func 16) #[] #[]] V fun e w' => e = .returned (.tuple #[]) ∧ Hid (IsEds w' (fun i => w.heap.size ≤ i) (.slice (some ⟨g5, 0, none⟩) l.length cap) (edgesT g)) ∧ Hid (Below w.heap.size w w') ∧ w'.cell? ⟨w1.heap.size + 1, 0, none⟩ = some (.slice (some ⟨g5, 0, none⟩) l.length cap) :=
          (sort_some l g5 0 cap V (row_holds hg5 htk) hg5l hll).mono fun e w' ⟨h1, h2, h3, h4, h5⟩ => by
            refine ⟨h1, ?_, HBw.out.trans (h5 _ (Nat.le_trans hzw hbg)), ?_⟩
            · show IsEds _ _ _ _
              rw [HT.out]
              exact sorted_eds h2 (Nat.lt_of_lt_of_le hg5l h3) (Nat.le_trans hzw hbg) hnc hll
            · have hb := h4 _ hblt (Ne.symm hgb)
              have hc : w'.cell? ⟨w1.heap.size + 1, 0, none⟩ = V.cell? ⟨w1.heap.size + 1, 0, none⟩ := by unfold World.cell?; rw [hb]
              rw [hc]; exact c0
        clear hrow hbb hl hg5 htk
        go_wp2_with (go_at_call 15; refine KS.mono ?_; rintro e w2 ⟨rfl, i2, b2, q9⟩)
        go_ret2
        exact ⟨_, rfl, i2, b2⟩
end Go.Proofs.Ytdoibpgkfdpbdaa
