/- A writer in memory: a builder of bytes, the names; what a write leaves as it was. No program in sight. -/
import Derived.Test.YteanhhehjlhhbaaGramMem
import Derived.Test.YteanhhehjlhhbaaShowBackT
import Derived.Lib.AppendStr
import Derived.Lib.Builder
import Derived.Lib.UnsafeStr
import Derived.Maps.AppendAt
namespace Go.Proofs.Yteanhhehjlhhbaa
set_option linter.unusedVariables false
open Go.RowKit

theorem run_append_str_at {P : Program} (w : World) (base : Nat) (t u ty e : TypeId) (i : TypeInfo) (ht : P.underlying t = some (.slice e)) (hu : P.underlying u = some .string) (hi : P.info? e = some i) (hz : i.zero = some (.int .u8 0))
    (hsize : i.size = 1) (hby : i.bytes = 1) (v : Value) (n : Nat) (xs : List Value) (hown : w.ownsRow base e 1 v n xs) (s : ByteArray)
    (h63 : n + s.size ≤ maxLen) (hbytes : n + s.size ≤ 140737488355328) (hbase : base ≤ w.heap.size) :
    ∃ v' w', (Builtin.append_ #[t, u] ty #[v, .string s]).run P w = .ok v' w' ∧ w'.ownsRow base e 1 v' (n + s.size) (xs ++ Lib.strCells s) ∧ w.grownBy w' v.ownBlock ∧ (v'.ownBlock = v.ownBlock ∨ v'.ownBlock = some w.heap.size) := by
  obtain ⟨v', w', hr, h2, h3, h4⟩ := Lib.run_append_own_string (P := P) w base t u ty e i ht hu hi hz hsize hby v n xs hown s h63 hbytes hbase
  refine ⟨v', w', hr, h2, h3, ?_⟩
  have hsmall : n + s.size ≤ 9223372036854775807 := by simp only [maxLen] at h63; omega
  have hxl : xs.length = n := by simpa using hown.1
  rcases id hown.2 with ⟨rfl, rfl⟩ | ⟨g, cap, cur, rfl, hbg, hg, hnc, hcm, hcs, htake⟩
  · by_cases hm : s.size = 0
    · left; rw [h4.2 ⟨rfl, hm⟩]
    · right
      have hr2 := run_append_nil_string (P := P) w t u ty e i (.int .u8 0) ht hu hi hz s (by omega) (by omega) (by rw [hby]; omega)
      rw [hr] at hr2
      injection hr2 with e1
      rw [e1]; rfl
  · by_cases hroom : n + s.size ≤ cap
    · left
      have hr2 := Lib.run_append_room_string (P := P) w t u ty e i ht hu hi hsize g n cap cur hg s hroom (by omega)
      rw [hr] at hr2
      injection hr2 with e1
      rw [e1]; rfl
    · right
      have holds := hown.cells (g := g) rfl
      have hr2 := Lib.run_append_grow_string (P := P) w t u ty e i (.int .u8 0) ht hu hi hz ⟨g, 0, none⟩ n cap xs (by rw [hsize]; simpa using hxl) holds s (by omega) (by omega) (by rw [hby]; exact growslice_fits (by omega) (by omega))
      rw [hr] at hr2
      injection hr2 with e1
      rw [e1]; rfl
theorem wpList_append_str_at {P : Program} {w : World} {ops : Array Oper} {rest : List Oper} {o : Oper} {a : Act} {Q : Exit → Act → World → Prop} (hgd : o.guard = none) (sl x : Operand) (t u : TypeId)
    (ho : o.op = .call { callee := .builtin .append, args := #[sl, x], argTypes := #[t, u] })
    (base : Nat) (e : TypeId) (i : TypeInfo) (ht : P.underlying t = some (.slice e)) (hu : P.underlying u = some .string) (hi : P.info? e = some i) (hz : i.zero = some (.int .u8 0))
    (hsize : i.size = 1) (hby : i.bytes = 1)
    (v : Value) (n : Nat) (xs : List Value) (hs : a.eval sl = v) (hown : w.ownsRow base e 1 v n xs) (s : ByteArray) (hx : a.eval x = .string s)
    (h63 : n + s.size ≤ maxLen) (hbytes : n + s.size ≤ 140737488355328) (hbase : base ≤ w.heap.size)
    (h : ∀ v' w', w'.ownsRow base e 1 v' (n + s.size) (xs ++ Lib.strCells s) → w.grownBy w' v.ownBlock → (v'.ownBlock = v.ownBlock ∨ v'.ownBlock = some w.heap.size) → wpList P ops Q rest (a.put o.dst v') w') : wpList P ops Q (o :: rest) a w := by
  refine wpList_plain hgd fun K hK => ?_
  obtain ⟨v', w', hr, h2, h3, h4⟩ := run_append_str_at (P := P) w base t u o.type e i ht hu hi hz hsize hby v n xs hown s h63 hbytes hbase
  unfold Oper.wp execOp
  simp only [ho, resolve, invoke, builtin, Sem.run_bind, Sem.run_pure, Result.andThen_ok, List.map_toArray, List.map_cons, List.map_nil, hs, hx, hr]
  exact hK _ _ (h v' w' h2 h3 h4)

/-- The block in which the buffer of the builder at block b lies. -/
def bufAt (b : Nat) (w : World) : Option Nat := (w.cell? ⟨b, 1, none⟩).bind Value.ownBlock
/-- From w to w' the builder at block b was written to, and no other old block. -/
structure Wk (b : Nat) (w w' : World) : Prop where
  os : w'.os = w.os
  tape : w'.tape = w.tape
  output : w'.output = w.output
  size : w.heap.size ≤ w'.heap.size
  block : ∀ i, i < w.heap.size → i ≠ b → bufAt b w ≠ some i → w'.heap[i]? = w.heap[i]?
  buf : bufAt b w' = bufAt b w ∨ ∃ i, bufAt b w' = some i ∧ w.heap.size ≤ i
section
variable {b : Nat} {w w' w'' : World} {F G : Nat → Prop}
theorem Wk.refl (b : Nat) (w : World) : Wk b w w := ⟨rfl, rfl, rfl, Nat.le_refl _, fun _ _ _ _ => rfl, Or.inl rfl⟩
theorem Wk.ne (h : Wk b w w') {i : Nat} (hi : i < w.heap.size) (hg : bufAt b w ≠ some i) : bufAt b w' ≠ some i := by
  rcases h.buf with e | ⟨j, e, hj⟩
  · rw [e]; exact hg
  · rw [e]; intro e'; injection e' with e'; omega
theorem Wk.trans (h : Wk b w w') (k : Wk b w' w'') : Wk b w w'' := by
  refine ⟨k.os.trans h.os, k.tape.trans h.tape, k.output.trans h.output, Nat.le_trans h.size k.size, fun i hi hb hg => ?_, ?_⟩
  · exact (k.block i (Nat.lt_of_lt_of_le hi h.size) hb (h.ne hi hg)).trans (h.block i hi hb hg)
  · rcases k.buf with e | ⟨j, e, hj⟩
    · rw [e]; exact h.buf
    · exact Or.inr ⟨j, e, Nat.le_trans h.size hj⟩
theorem bufAt_below (hb : Below w.heap.size w w') (hlt : b < w.heap.size) : bufAt b w' = bufAt b w := by
  unfold bufAt; rw [hb.cell (p := ⟨b, 1, none⟩) hlt]
theorem Wk.below (hb : Below w.heap.size w w') (hlt : b < w.heap.size) : Wk b w w' :=
  ⟨hb.os, hb.tape, hb.output, hb.size, fun i hi _ _ => hb.block i hi, Or.inl (bufAt_below hb hlt)⟩
/-- The blocks F lie aside of the builder. -/
def Off (b : Nat) (F : Nat → Prop) (w : World) : Prop := ∀ i, F i → i < w.heap.size ∧ i ≠ b ∧ bufAt b w ≠ some i
theorem Off.stay (h : Off b F w) (k : Wk b w w') : Stay F w w' := ⟨k.size, fun i hF => k.block i (h i hF).1 (h i hF).2.1 (h i hF).2.2⟩
theorem Off.next (h : Off b F w) (k : Wk b w w') : Off b F w' := fun i hF => ⟨Nat.lt_of_lt_of_le (h i hF).1 k.size, (h i hF).2.1, k.ne (h i hF).1 (h i hF).2.2⟩
theorem Off.or (h : Off b F w) (h' : Off b G w) : Off b (fun i => F i ∨ G i) w := fun i hi => hi.elim (h i) (h' i)
theorem Off.mono (h : Off b F w) (hm : ∀ i, G i → F i) : Off b G w := fun i hi => h i (hm i hi)
end

/-- Block b is a writer: it holds the bytes acc; nv is its names. -/
def Wr (B b : Nat) (nv : Value) (acc : List UInt8) (w : World) : Prop :=
  B ≤ b ∧ ∃ p v, (p = .pointer none ∨ p = .pointer (some ⟨b, 0, none⟩)) ∧ w.heap[b]? = some (.cells #[p, v, nv] 47) ∧ w.ownsRow B 5 1 v acc.length (Lib.byteCells acc) ∧ v.ownBlock ≠ some b
theorem heap_lt {w : World} {b : Nat} {o : Obj} (h : w.heap[b]? = some o) : b < w.heap.size := by
  by_cases hh : b < w.heap.size
  · exact hh
  · rw [Array.getElem?_eq_none (by omega)] at h; cases h
section
variable {B b : Nat} {nv : Value} {acc : List UInt8} {w w' : World} {F : Nat → Prop}
theorem Wr.lt (h : Wr B b nv acc w) : b < w.heap.size := by
  obtain ⟨_, p, v, _, hb, _⟩ := h
  exact heap_lt hb
theorem bufAt_eq {p v : Value} {t : TypeId} (h : w.heap[b]? = some (.cells #[p, v, nv] t)) : bufAt b w = v.ownBlock := by
  unfold bufAt
  rw [Lib.cell_of_heap h]; rfl
theorem Wr.buf (h : Wr B b nv acc w) {i : Nat} (hi : bufAt b w = some i) : B ≤ i ∧ i < w.heap.size ∧ i ≠ b := by
  obtain ⟨_, p, v, _, hb, ho, hn⟩ := h
  rw [bufAt_eq hb] at hi
  exact ⟨(ho.lt i hi).1, (ho.lt i hi).2, fun e => hn (by rw [hi, e])⟩
theorem Wr.keep (h : Wr B b nv acc w) (hb : Below w.heap.size w w') : Wr B b nv acc w' := by
  have hlt := h.lt
  obtain ⟨h1, p, v, h2, h3, ho, hn⟩ := h
  exact ⟨h1, p, v, h2, (hb.block b hlt).trans h3, row_keep ho hb, hn⟩
theorem Wr.below (h : Wr B b nv acc w) (k : Wk b w w') : Below B w w' :=
  ⟨k.os, k.tape, k.output, k.size, fun i hi => k.block i (by have := h.1; have := h.lt; omega) (by have := h.1; omega) (fun e => by have := (h.buf e).1; omega)⟩
theorem Off.fresh (h : Wr B b nv acc w) (hb : Below w.heap.size w w') (hF : ∀ i, F i → w.heap.size ≤ i ∧ i < w'.heap.size) : Off b F w' := fun i hi =>
  ⟨(hF i hi).2, by have := (hF i hi).1; have := h.lt; omega, fun e => by rw [bufAt_below hb h.lt] at e; have := (h.buf e).2.1; have := (hF i hi).1; omega⟩
theorem Off.old (h : Wr B b nv acc w) (hF : ∀ i, F i → i < B) : Off b F w := fun i hi =>
  ⟨by have := hF i hi; have := h.1; have := h.lt; omega, by have := hF i hi; have := h.1; omega, fun e => by have := (h.buf e).1; have := hF i hi; omega⟩
theorem Off.bel (h : Wr B b nv acc w) (o : Off b F w) (hb : Below w.heap.size w w') : Off b F w' := o.next (Wk.below hb h.lt)
theorem Wk.set0 {p v : Value} {t : TypeId} (h : w.heap[b]? = some (.cells #[p, v, nv] t)) (q : Value) : Wk b w (w.setCell ⟨b, 0, none⟩ q) ∧ (w.setCell ⟨b, 0, none⟩ q).heap[b]? = some (.cells #[q, v, nv] t) := by
  have h2 : (w.setCell ⟨b, 0, none⟩ q).heap[b]? = some (.cells #[q, v, nv] t) := by simp [World.setCell, Array.getElem?_modify, h]
  exact ⟨⟨rfl, rfl, rfl, by simp [World.setCell], fun i hi hb _ => Below.heap_setCell _ _ _ _ hb, Or.inl (by rw [bufAt_eq h2, bufAt_eq h])⟩, h2⟩
theorem Wk.write {p v v' : Value} {t : TypeId} {w2 : World} {H : Nat} (h : w.heap[b]? = some (.cells #[p, v, nv] t)) (hg : w.grownBy w2 v.ownBlock) (hne : v.ownBlock ≠ some b) (hat : v'.ownBlock = v.ownBlock ∨ v'.ownBlock = some H) (hH : w.heap.size ≤ H) :
    Wk b w (w2.setCell ⟨b, 1, none⟩ v') ∧ (w2.setCell ⟨b, 1, none⟩ v').heap[b]? = some (.cells #[p, v', nv] t) := by
  have hb2 : w2.heap[b]? = some (.cells #[p, v, nv] t) := (hg.block b (heap_lt h) (Ne.symm hne)).trans h
  have h2 : (w2.setCell ⟨b, 1, none⟩ v').heap[b]? = some (.cells #[p, v', nv] t) := by simp [World.setCell, Array.getElem?_modify, hb2]
  refine ⟨⟨hg.os, hg.tape, hg.output, by have := hg.size; simpa [World.setCell] using this, fun i hi hb hb' => (Below.heap_setCell _ _ _ _ hb).trans (hg.block i hi (fun e => hb' (by rw [bufAt_eq h, e]))), ?_⟩, h2⟩
  rw [bufAt_eq h2, bufAt_eq h]
  rcases hat with e | e
  · exact Or.inl e
  · exact Or.inr ⟨H, e, hH⟩
/-- What a write leaves: a writer. -/
theorem Wr.put {p v v' : Value} {w2 : World} {l : List UInt8} (hB : B ≤ b) (h : w2.heap[b]? = some (.cells #[.pointer (some ⟨b, 0, none⟩), v, nv] 47)) (hown : w2.ownsRow B 5 1 v' l.length (Lib.byteCells l)) :
    Wr B b nv l (w2.setCell ⟨b, 1, none⟩ v') := by
  have hne := Lib.ownBlock_ne hown h (by decide)
  refine ⟨hB, _, v', Or.inr rfl, by simp [World.setCell, Array.getElem?_modify, h], ?_, hne⟩
  exact hown.kept (row := some b) ⟨rfl, rfl, rfl, by simp [World.setCell], fun k _ hk => Below.heap_setCell _ _ _ _ (fun e => hk (by simp [e]))⟩ (Or.inr hne)
end
theorem Wr.new (w : World) (nv : Value) : Wr w.heap.size w.heap.size nv [] (w.alloc (.cells #[.pointer none, .slice none 0 0, nv] 47)) :=
  ⟨Nat.le_refl _, _, _, Or.inl rfl, heap_alloc_new _ _, World.ownsRow_nil _ _ _ _, by simp [Value.ownBlock]⟩
end Go.Proofs.Yteanhhehjlhhbaa
