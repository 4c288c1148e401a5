/- A writer of bytes in memory: a builder, what a write leaves as it was, each of its methods. -/
import Derived.Test.YtgeajdfajfdjcaaGramMem
import Derived.Test.YtgeajdfajfdjcaaLexTokens
import Derived.Laws.Externs
import Derived.Lib.AppendStr
import Derived.Lib.Builder
import Derived.Lib.UnsafeStr
import Derived.Maps.AppendAt
namespace Go.Proofs.Ytgeajdfajfdjcaa
set_option linter.unusedVariables false
open Go.ChangeShapes Go.WideShapes Go.ChangeAt Go.RowKit

theorem run_append_str_at {P : Program} (w : World) (base : Nat) (t u ty e : TypeId) (i : TypeInfo) (ht : P.underlying t = some (.slice e)) (hu : P.underlying u = some .string) (hi : P.info? e = some i) (hz : i.zero = some (.int .u8 0))
    (hsize : i.size = 1) (hby : i.bytes = 1) (v : Value) (n : Nat) (xs : List Value) (hown : w.ownsRow base e 1 v n xs) (s : ByteArray)
    (h63 : n + s.size ≤ maxLen) (hbytes : n + s.size ≤ 140737488355328) (hbase : base ≤ w.heap.size) :
    ∃ v' w', (Builtin.append_ #[t, u] ty #[v, .string s]).run P w = .ok v' w' ∧ w'.ownsRow base e 1 v' (n + s.size) (xs ++ Lib.strCells s) ∧ w.grownBy w' v.ownBlock ∧ (v'.ownBlock = v.ownBlock ∨ v'.ownBlock = some w.heap.size) := by
  obtain ⟨v', w', hr, h2, h3, h4⟩ := Lib.run_append_own_string (P := P) w base t u ty e i ht hu hi hz hsize hby v n xs hown s h63 hbytes hbase
  refine ⟨v', w', hr, h2, h3, ?_⟩
  have hsmall : n + s.size ≤ 9223372036854775807 := by simp only [maxLen] at h63; omega
  have hxl : xs.length = n := by simpa using hown.1
  rcases id hown.2 with ⟨rfl, rfl⟩ | ⟨g, cap, cur, rfl, hbg, hg, hnc, hcm, hcs, htake⟩
  · by_cases hm : s.size = 0
    · left; rw [h4.2 ⟨rfl, hm⟩]
    · right
      have hr2 := run_append_nil_string (P := P) w t u ty e i (.int .u8 0) ht hu hi hz s (by omega) (by omega) (by rw [hby]; omega)
      rw [hr] at hr2
      injection hr2 with e1
      rw [e1]; rfl
  · by_cases hroom : n + s.size ≤ cap
    · left
      have hr2 := Lib.run_append_room_string (P := P) w t u ty e i ht hu hi hsize g n cap cur hg s hroom (by omega)
      rw [hr] at hr2
      injection hr2 with e1
      rw [e1]; rfl
    · right
      have holds := hown.cells (g := g) rfl
      have hr2 := Lib.run_append_grow_string (P := P) w t u ty e i (.int .u8 0) ht hu hi hz ⟨g, 0, none⟩ n cap xs (by rw [hsize]; simpa using hxl) holds s (by omega) (by omega) (by rw [hby]; exact growslice_fits (by omega) (by omega))
      rw [hr] at hr2
      injection hr2 with e1
      rw [e1]; rfl
theorem wpList_append_str_at {P : Program} {w : World} {ops : Array Oper} {rest : List Oper} {o : Oper} {a : Act} {Q : Exit → Act → World → Prop} (hgd : o.guard = none) (sl x : Operand) (t u : TypeId)
    (ho : o.op = .call { callee := .builtin .append, args := #[sl, x], argTypes := #[t, u] })
    (base : Nat) (e : TypeId) (i : TypeInfo) (ht : P.underlying t = some (.slice e)) (hu : P.underlying u = some .string) (hi : P.info? e = some i) (hz : i.zero = some (.int .u8 0))
    (hsize : i.size = 1) (hby : i.bytes = 1)
    (v : Value) (n : Nat) (xs : List Value) (hs : a.eval sl = v) (hown : w.ownsRow base e 1 v n xs) (s : ByteArray) (hx : a.eval x = .string s)
    (h63 : n + s.size ≤ maxLen) (hbytes : n + s.size ≤ 140737488355328) (hbase : base ≤ w.heap.size)
    (h : ∀ v' w', w'.ownsRow base e 1 v' (n + s.size) (xs ++ Lib.strCells s) → w.grownBy w' v.ownBlock → (v'.ownBlock = v.ownBlock ∨ v'.ownBlock = some w.heap.size) → wpList P ops Q rest (a.put o.dst v') w') : wpList P ops Q (o :: rest) a w := by
  refine wpList_plain hgd fun K hK => ?_
  obtain ⟨v', w', hr, h2, h3, h4⟩ := run_append_str_at (P := P) w base t u o.type e i ht hu hi hz hsize hby v n xs hown s h63 hbytes hbase
  unfold Oper.wp execOp
  simp only [ho, resolve, invoke, builtin, Sem.run_bind, Sem.run_pure, Result.andThen_ok, List.map_toArray, List.map_cons, List.map_nil, hs, hx, hr]
  exact hK _ _ (h v' w' h2 h3 h4)

/-- The block in which the buffer of the builder at block b lies. -/
def bufAt (b : Nat) (w : World) : Option Nat := (w.cell? ⟨b, 1, none⟩).bind Value.ownBlock
/-- From w to w' the builder at block b was written to, and no other old block. -/
structure Wk (b : Nat) (w w' : World) : Prop where
  os : w'.os = w.os
  tape : w'.tape = w.tape
  output : w'.output = w.output
  size : w.heap.size ≤ w'.heap.size
  block : ∀ i, i < w.heap.size → i ≠ b → bufAt b w ≠ some i → w'.heap[i]? = w.heap[i]?
  buf : bufAt b w' = bufAt b w ∨ ∃ i, bufAt b w' = some i ∧ w.heap.size ≤ i
section
variable {b : Nat} {w w' w'' : World} {F G : Nat → Prop}
theorem Wk.refl (b : Nat) (w : World) : Wk b w w := ⟨rfl, rfl, rfl, Nat.le_refl _, fun _ _ _ _ => rfl, Or.inl rfl⟩
theorem Wk.ne (h : Wk b w w') {i : Nat} (hi : i < w.heap.size) (hg : bufAt b w ≠ some i) : bufAt b w' ≠ some i := by
  rcases h.buf with e | ⟨j, e, hj⟩
  · rw [e]; exact hg
  · rw [e]; intro e'; injection e' with e'; omega
theorem Wk.trans (h : Wk b w w') (k : Wk b w' w'') : Wk b w w'' := by
  refine ⟨k.os.trans h.os, k.tape.trans h.tape, k.output.trans h.output, Nat.le_trans h.size k.size, fun i hi hb hg => ?_, ?_⟩
  · exact (k.block i (Nat.lt_of_lt_of_le hi h.size) hb (h.ne hi hg)).trans (h.block i hi hb hg)
  · rcases k.buf with e | ⟨j, e, hj⟩
    · rw [e]; exact h.buf
    · exact Or.inr ⟨j, e, Nat.le_trans h.size hj⟩
theorem bufAt_below (hb : Below w.heap.size w w') (hlt : b < w.heap.size) : bufAt b w' = bufAt b w := by
  unfold bufAt; rw [hb.cell (p := ⟨b, 1, none⟩) hlt]
theorem Wk.below (hb : Below w.heap.size w w') (hlt : b < w.heap.size) : Wk b w w' :=
  ⟨hb.os, hb.tape, hb.output, hb.size, fun i hi _ _ => hb.block i hi, Or.inl (bufAt_below hb hlt)⟩
/-- The blocks F lie aside of the builder. -/
def Off (b : Nat) (F : Nat → Prop) (w : World) : Prop := ∀ i, F i → i < w.heap.size ∧ i ≠ b ∧ bufAt b w ≠ some i
theorem Off.stay (h : Off b F w) (k : Wk b w w') : Stay F w w' := ⟨k.size, fun i hF => k.block i (h i hF).1 (h i hF).2.1 (h i hF).2.2⟩
theorem Off.next (h : Off b F w) (k : Wk b w w') : Off b F w' := fun i hF => ⟨Nat.lt_of_lt_of_le (h i hF).1 k.size, (h i hF).2.1, k.ne (h i hF).1 (h i hF).2.2⟩
theorem Off.or (h : Off b F w) (h' : Off b G w) : Off b (fun i => F i ∨ G i) w := fun i hi => hi.elim (h i) (h' i)
theorem Off.mono (h : Off b F w) (hm : ∀ i, G i → F i) : Off b G w := fun i hi => h i (hm i hi)
end

/-- Block b is a writer: it holds the bytes acc. -/
def Wr (B b : Nat) (acc : List UInt8) (w : World) : Prop :=
  B ≤ b ∧ ∃ p v, (p = .pointer none ∨ p = .pointer (some ⟨b, 0, none⟩)) ∧ w.heap[b]? = some (.cells #[p, v] 62) ∧ w.ownsRow B 5 1 v acc.length (Lib.byteCells acc) ∧ v.ownBlock ≠ some b
theorem heap_lt {w : World} {b : Nat} {o : Obj} (h : w.heap[b]? = some o) : b < w.heap.size := by
  by_cases hh : b < w.heap.size
  · exact hh
  · rw [Array.getElem?_eq_none (by omega)] at h; cases h
section
variable {B b : Nat} {acc : List UInt8} {w w' : World} {F : Nat → Prop}
theorem Wr.lt (h : Wr B b acc w) : b < w.heap.size := by
  obtain ⟨_, p, v, _, hb, _⟩ := h
  exact heap_lt hb
theorem bufAt_eq {p v : Value} {t : TypeId} (h : w.heap[b]? = some (.cells #[p, v] t)) : bufAt b w = v.ownBlock := by
  unfold bufAt
  rw [Lib.cell_of_heap h]; rfl
theorem Wr.buf (h : Wr B b acc w) {i : Nat} (hi : bufAt b w = some i) : B ≤ i ∧ i < w.heap.size ∧ i ≠ b := by
  obtain ⟨_, p, v, _, hb, ho, hn⟩ := h
  rw [bufAt_eq hb] at hi
  exact ⟨(ho.lt i hi).1, (ho.lt i hi).2, fun e => hn (by rw [hi, e])⟩
theorem Wr.keep (h : Wr B b acc w) (hb : Below w.heap.size w w') : Wr B b acc w' := by
  have hlt := h.lt
  obtain ⟨h1, p, v, h2, h3, ho, hn⟩ := h
  exact ⟨h1, p, v, h2, (hb.block b hlt).trans h3, row_keep ho hb, hn⟩
theorem Wr.below (h : Wr B b acc w) (k : Wk b w w') : Below B w w' :=
  ⟨k.os, k.tape, k.output, k.size, fun i hi => k.block i (by have := h.1; have := h.lt; omega) (by have := h.1; omega) (fun e => by have := (h.buf e).1; omega)⟩
theorem Off.fresh (h : Wr B b acc w) (hb : Below w.heap.size w w') (hF : ∀ i, F i → w.heap.size ≤ i ∧ i < w'.heap.size) : Off b F w' := fun i hi =>
  ⟨(hF i hi).2, by have := (hF i hi).1; have := h.lt; omega, fun e => by rw [bufAt_below hb h.lt] at e; have := (h.buf e).2.1; have := (hF i hi).1; omega⟩
theorem Off.old (h : Wr B b acc w) (hF : ∀ i, F i → i < B) : Off b F w := fun i hi =>
  ⟨by have := hF i hi; have := h.1; have := h.lt; omega, by have := hF i hi; have := h.1; omega, fun e => by have := (h.buf e).1; have := hF i hi; omega⟩
theorem Off.bel (h : Wr B b acc w) (o : Off b F w) (hb : Below w.heap.size w w') : Off b F w' := o.next (Wk.below hb h.lt)
theorem Wk.set0 {p v : Value} {t : TypeId} (h : w.heap[b]? = some (.cells #[p, v] t)) (q : Value) : Wk b w (w.setCell ⟨b, 0, none⟩ q) ∧ (w.setCell ⟨b, 0, none⟩ q).heap[b]? = some (.cells #[q, v] t) := by
  have h2 : (w.setCell ⟨b, 0, none⟩ q).heap[b]? = some (.cells #[q, v] t) := by simp [World.setCell, Array.getElem?_modify, h]
  exact ⟨⟨rfl, rfl, rfl, by simp [World.setCell], fun i hi hb _ => Below.heap_setCell _ _ _ _ hb, Or.inl (by rw [bufAt_eq h2, bufAt_eq h])⟩, h2⟩
theorem Wk.write {p v v' : Value} {t : TypeId} {w2 : World} {H : Nat} (h : w.heap[b]? = some (.cells #[p, v] t)) (hg : w.grownBy w2 v.ownBlock) (hne : v.ownBlock ≠ some b) (hat : v'.ownBlock = v.ownBlock ∨ v'.ownBlock = some H) (hH : w.heap.size ≤ H) :
    Wk b w (w2.setCell ⟨b, 1, none⟩ v') ∧ (w2.setCell ⟨b, 1, none⟩ v').heap[b]? = some (.cells #[p, v'] t) := by
  have hb2 : w2.heap[b]? = some (.cells #[p, v] t) := (hg.block b (heap_lt h) (Ne.symm hne)).trans h
  have h2 : (w2.setCell ⟨b, 1, none⟩ v').heap[b]? = some (.cells #[p, v'] t) := by simp [World.setCell, Array.getElem?_modify, hb2]
  refine ⟨⟨hg.os, hg.tape, hg.output, by have := hg.size; simpa [World.setCell] using this, fun i hi hb hb' => (Below.heap_setCell _ _ _ _ hb).trans (hg.block i hi (fun e => hb' (by rw [bufAt_eq h, e]))), ?_⟩, h2⟩
  rw [bufAt_eq h2, bufAt_eq h]
  rcases hat with e | e
  · exact Or.inl e
  · exact Or.inr ⟨H, e, hH⟩
/-- What a write leaves: a writer. -/
theorem Wr.put {p v v' : Value} {w2 : World} {l : List UInt8} (hB : B ≤ b) (h : w2.heap[b]? = some (.cells #[.pointer (some ⟨b, 0, none⟩), v] 62)) (hown : w2.ownsRow B 5 1 v' l.length (Lib.byteCells l)) :
    Wr B b l (w2.setCell ⟨b, 1, none⟩ v') := by
  have hne := Lib.ownBlock_ne hown h (by decide)
  refine ⟨hB, _, v', Or.inr rfl, by simp [World.setCell, Array.getElem?_modify, h], ?_, hne⟩
  exact hown.kept (row := some b) ⟨rfl, rfl, rfl, by simp [World.setCell], fun k _ hk => Below.heap_setCell _ _ _ _ (fun e => hk (by simp [e]))⟩ (Or.inr hne)
end
theorem Wr.new (w : World) : Wr w.heap.size w.heap.size [] (w.alloc (.cells #[.pointer none, .slice none 0 0] 62)) :=
  ⟨Nat.le_refl _, _, _, Or.inl rfl, heap_alloc_new _ _, World.ownsRow_nil _ _ _ _, by simp [Value.ownBlock]⟩

theorem Try.sizeBld : (Try.prog.info? 60).map (·.size) = some 2 := by kernel_rfl
theorem Try.liesBld : liesAt Try.prog Try.prog.depth 62 (2 / Try.prog.cellsOf 62) 0 60 1 = true := by kernel_rfl
theorem Try.infoU8 : (Try.prog.info? 5).map (fun i => (i.zero, i.size, i.bytes)) = some (some (.int .u8 0), 1, 1) := by kernel_rfl
set_option maxHeartbeats 1000000 in
set_option maxRecDepth 100000 in
theorem chk_used (b : Nat) (w : World) (h0 : w.cell? ⟨b, 0, none⟩ = some (.pointer (some ⟨b, 0, none⟩))) :
    Calls Try.prog 42 #[.pointer (some ⟨b, 0, none⟩)] w fun e w' => e = .returned (.tuple #[]) ∧ w' = w := by
  obtain ⟨j, hj, _⟩ := Option.map_eq_some_iff.1 Try.sizeBld
  go_enter Try.func42, Try.ntmps42
  go_wp2
  rw [Lib.run_neq_ptr_same w _ Try.underlying58 hj]
  go_wp2
  go_end0
  exact ⟨rfl, rfl⟩
set_option maxHeartbeats 1000000 in
set_option maxRecDepth 100000 in
theorem chk_fresh (b : Nat) (w : World) (h0 : w.cell? ⟨b, 0, none⟩ = some (.pointer none)) (hsh : w.shape? b = some (62, 2)) (hfz : w.frozen? ⟨b, 0, none⟩ = false) :
    Calls Try.prog 42 #[.pointer (some ⟨b, 0, none⟩)] w fun e w' => e = .returned (.tuple #[]) ∧ w' = w.setCell ⟨b, 0, none⟩ (.pointer (some ⟨b, 0, none⟩)) := by
  obtain ⟨j, hj, hjs⟩ := Option.map_eq_some_iff.1 Try.sizeBld
  go_enter Try.func42, Try.ntmps42
  go_wp2
  rw [Lib.run_to_unsafe w ⟨b, 0, none⟩ Try.underlying58 Try.underlying106 hj (by rw [hjs]; decide) hsh (Nat.zero_lt_succ 1)]
  simp only [Result.andThen]
  rw [Oper.upon_value]
  go_wp2
  rw [run_callFunc_extern Try.func55 (by kernel_rfl) (by kernel_rfl) (by kernel_rfl) (e := Extern.AbiNoEscape.same) (by kernel_rfl)]
  rw [Lib.run_noEscape]
  simp only [Result.andThen]
  rw [Oper.upon_value]
  go_wp2
  rw [Lib.run_from_unsafe w ⟨b, 0, none⟩ Try.underlying106 Try.underlying58 hj hsh Try.liesBld]
  simp only [Result.andThen]
  rw [Oper.upon_value]
  go_wp2
  go_end0
  exact ⟨rfl, rfl⟩
theorem chk_any {B b : Nat} {acc : List UInt8} {w : World} (h : Wr B b acc w) :
    Calls Try.prog 42 #[.pointer (some ⟨b, 0, none⟩)] w fun e w' => e = .returned (.tuple #[]) ∧ ∃ v, w'.heap[b]? = some (.cells #[.pointer (some ⟨b, 0, none⟩), v] 62) ∧ w'.ownsRow B 5 1 v acc.length (Lib.byteCells acc) ∧ v.ownBlock ≠ some b ∧ Wk b w w' := by
  obtain ⟨hB, p, v, hp, hb, ho, hne⟩ := h
  rcases hp with rfl | rfl
  · refine (chk_fresh b w (by rw [Lib.cell_of_heap hb]; rfl) (by simp [World.shape?, hb]) (Lib.frozen_of_heap hb 0)).mono ?_
    rintro e w' ⟨rfl, rfl⟩
    have h2 := Wk.set0 hb (.pointer (some ⟨b, 0, none⟩))
    refine ⟨rfl, v, h2.2, ?_, hne, h2.1⟩
    exact ho.kept (row := some b) ⟨rfl, rfl, rfl, by simp [World.setCell], fun k _ hk => Below.heap_setCell _ _ _ _ (fun e => hk (by simp [e]))⟩ (Or.inr hne)
  · refine (chk_used b w (by rw [Lib.cell_of_heap hb]; rfl)).mono ?_
    rintro e w' ⟨rfl, rfl⟩
    exact ⟨rfl, v, hb, ho, hne, Wk.refl _ _⟩
theorem byteCells_app (l m : List UInt8) : Lib.byteCells (l ++ m) = Lib.byteCells l ++ Lib.byteCells m := by simp [Lib.byteCells]
set_option maxHeartbeats 2000000 in
set_option maxRecDepth 100000 in
/-- WriteString. -/
theorem wStr_any {B b : Nat} {acc : List UInt8} {w : World} (h : Wr B b acc w) (s : ByteArray) (hs : acc.length + s.size ≤ 1099511627776) :
    Calls Try.prog 33 #[.pointer (some ⟨b, 0, none⟩), .string s] w fun e w' => e = .returned (.tuple #[.int .i64 s.size, .nilIface]) ∧ Wr B b (acc ++ s.data.toList) w' ∧ Wk b w w' := by
  obtain ⟨i, hi0, hz0, hz1, hz2⟩ := info_parts Try.infoU8
  have HI : Hid (Try.prog.info? 5 = some i ∧ i.zero = some (.int .u8 0) ∧ i.size = 1 ∧ i.bytes = 1) := ⟨hi0, hz0, hz1, hz2⟩
  clear hi0 hz0 hz1 hz2
  have hB := h.1
  have hlt := h.lt
  go_enter Try.func33, Try.ntmps33
  go_wp2_with (go_at_call 42; refine (chk_any h).mono ?_)
  rintro e w1 ⟨rfl, v, hbk, hown, hne, hk⟩
  have hsz := hk.size
  obtain ⟨pv, cv, hv⟩ := row_slice hown
  subst hv
  have c0 : w1.cell? ⟨b, 0, none⟩ = some (.pointer (some ⟨b, 0, none⟩)) := by rw [Lib.cell_of_heap hbk]; rfl
  have c1 : w1.cell? ⟨b, 1, none⟩ = some (.slice pv acc.length cv) := by rw [Lib.cell_of_heap hbk]; rfl
  have H1 : Hid (w1.heap[b]? = some (.cells #[.pointer (some ⟨b, 0, none⟩), .slice pv acc.length cv] 62) ∧ (Value.slice pv acc.length cv).ownBlock ≠ some b ∧ Wk b w w1) := ⟨hbk, hne, hk⟩
  clear hbk hne hk h
  go_wp2_with (at_builtin; refine wpList_append_str_at rfl _ _ 56 9 rfl B 5 i Try.underlying56 Try.underlying9 HI.out.1 HI.out.2.1 HI.out.2.2.1 HI.out.2.2.2 _ _ _ rfl hown s rfl ?c3 ?c4 ?c5 ?_)
  case c3 => unfold maxLen; omega
  case c4 => omega
  case c5 => omega
  intro v' w2 hown' hgrow hat
  obtain ⟨hbk, hne, hk⟩ := H1.out
  have hb2 : w2.heap[b]? = some (.cells #[.pointer (some ⟨b, 0, none⟩), .slice pv acc.length cv] 62) := (hgrow.block b (heap_lt hbk) (Ne.symm hne)).trans hbk
  have d0 : w2.cell? ⟨b, 0, none⟩ = some (.pointer (some ⟨b, 0, none⟩)) := by rw [Lib.cell_of_heap hb2]; rfl
  have d1 : w2.cell? ⟨b, 1, none⟩ = some (.slice pv acc.length cv) := by rw [Lib.cell_of_heap hb2]; rfl
  have f1 : w2.frozen? ⟨b, 1, none⟩ = false := Lib.frozen_of_heap hb2 1
  obtain ⟨ao, cap, hv'⟩ := row_slice hown'
  have HE : Hid (Wr B b (acc ++ s.data.toList) (w2.setCell ⟨b, 1, none⟩ v') ∧ Wk b w (w2.setCell ⟨b, 1, none⟩ v')) := by
    refine ⟨Wr.put (p := .nilIface) hB hb2 ?_, hk.trans (Wk.write hbk hgrow hne hat (Nat.le_refl _)).1⟩
    rw [byteCells_app, List.length_append, Array.length_toList]
    exact hown'
  subst hv'
  clear hbk hne hk hb2 hown' hgrow hat hown
  go_wp2
  go_ret2
  exact ⟨rfl, HE.out.1, HE.out.2⟩
set_option maxHeartbeats 2000000 in
set_option maxRecDepth 100000 in
/-- WriteByte. -/
theorem wByte_any {B b : Nat} {acc : List UInt8} {w : World} (h : Wr B b acc w) (c : UInt8) (z : Int) (hz : z = (c.toNat : Int)) (hs : acc.length + 1 ≤ 1099511627776) :
    Calls Try.prog 57 #[.pointer (some ⟨b, 0, none⟩), .int .u8 z] w fun e w' => e = .returned .nilIface ∧ Wr B b (acc ++ [c]) w' ∧ Wk b w w' := by
  obtain ⟨i, hi0, hz0, hz1, hz2⟩ := info_parts Try.infoU8
  have HI : Hid (Try.prog.info? 5 = some i ∧ i.zero = some (.int .u8 0) ∧ i.size = 1 ∧ i.bytes = 1) := ⟨hi0, hz0, hz1, hz2⟩
  clear hi0 hz0 hz1 hz2
  have HZ : Hid (z = (c.toNat : Int)) := hz
  clear hz
  have hB := h.1
  have hlt := h.lt
  go_enter Try.func57, Try.ntmps57
  go_wp2_with (go_at_call 42; refine (chk_any h).mono ?_)
  rintro e w1 ⟨rfl, v, hbk, hown, hne, hk⟩
  have hsz := hk.size
  obtain ⟨pv, cv, hv⟩ := row_slice hown
  subst hv
  have c0 : w1.cell? ⟨b, 0, none⟩ = some (.pointer (some ⟨b, 0, none⟩)) := by rw [Lib.cell_of_heap hbk]; rfl
  have c1 : w1.cell? ⟨b, 1, none⟩ = some (.slice pv acc.length cv) := by rw [Lib.cell_of_heap hbk]; rfl
  have H1 : Hid (w1.heap[b]? = some (.cells #[.pointer (some ⟨b, 0, none⟩), .slice pv acc.length cv] 62) ∧ (Value.slice pv acc.length cv).ownBlock ≠ some b ∧ Wk b w w1) := ⟨hbk, hne, hk⟩
  clear hbk hne hk h
  go_wp2_with (at_builtin; refine wpList_append_own_at _ rfl _ _ 56 rfl B 5 i (.int .u8 0) 1 1 Try.underlying56 HI.out.1 HI.out.2.1 HI.out.2.2.1 HI.out.2.2.2 rfl (by decide) _ _ _ rfl (hown.alloc _) ⟨w1.heap.size, 0, none⟩ 1 1 [.int .u8 z] rfl rfl (cell_one_new _ _ _) ?c2 ?c3 ?c4 ?c5 ?_)
  case c2 => intro u hu; simp at hu; subst hu; rfl
  case c3 => unfold maxLen; omega
  case c4 => omega
  case c5 => simp; omega
  intro v' w2 hown' hgrow _ hat
  obtain ⟨hbk, hne, hk⟩ := H1.out
  have hba : (w1.alloc (.cells #[.int .u8 z] 5)).heap[b]? = some (.cells #[.pointer (some ⟨b, 0, none⟩), .slice pv acc.length cv] 62) := ((bel1 _ _).block b (heap_lt hbk)).trans hbk
  have hb2 : w2.heap[b]? = some (.cells #[.pointer (some ⟨b, 0, none⟩), .slice pv acc.length cv] 62) := (hgrow.block b (heap_lt hba) (Ne.symm hne)).trans hba
  have d0 : w2.cell? ⟨b, 0, none⟩ = some (.pointer (some ⟨b, 0, none⟩)) := by rw [Lib.cell_of_heap hb2]; rfl
  have d1 : w2.cell? ⟨b, 1, none⟩ = some (.slice pv acc.length cv) := by rw [Lib.cell_of_heap hb2]; rfl
  have f1 : w2.frozen? ⟨b, 1, none⟩ = false := Lib.frozen_of_heap hb2 1
  obtain ⟨ao, cap, hv'⟩ := row_slice hown'
  have HE : Hid (Wr B b (acc ++ [c]) (w2.setCell ⟨b, 1, none⟩ v') ∧ Wk b w (w2.setCell ⟨b, 1, none⟩ v')) := by
    refine ⟨Wr.put (p := .nilIface) hB hb2 ?_, (hk.trans (Wk.below (bel1 _ _) (heap_lt hbk))).trans (Wk.write hba hgrow hne hat (by simp)).1⟩
    rw [byteCells_app, List.length_append]
    rw [HZ.out] at hown'
    exact hown'
  subst hv'
  clear hbk hne hk hb2 hown' hgrow hat hown hba
  go_wp2
  go_ret
  exact ⟨rfl, HE.out.1, HE.out.2⟩
theorem Try.cellsU8 : Try.prog.cellsOf 5 = 1 := by kernel_rfl
set_option maxHeartbeats 2000000 in
set_option maxRecDepth 100000 in
/-- String. -/
theorem wEnd_any {B b : Nat} {l : List UInt8} {w : World} (h : Wr B b l w) (h0 : l ≠ []) :
    Calls Try.prog 22 #[.pointer (some ⟨b, 0, none⟩)] w fun e w' => e = .returned (.string ⟨l.toArray⟩) ∧ Below B w w' := by
  obtain ⟨hB, p, v, hp, hbk, hown, hne⟩ := h
  have hl0 : l.length ≠ 0 := by simpa using h0
  obtain ⟨g, cap, cur, rfl, hbg, hg, hnc, hcm, hcs, htake⟩ : ∃ g cap cur, v = .slice (some ⟨g, 0, none⟩) l.length cap ∧ B ≤ g ∧ w.heap[g]? = some (.cells cur 5 (0, 0)) ∧ l.length ≤ cap ∧ cap ≤ maxLen ∧ cur.size = cap * 1 ∧ cur.toList.take (l.length * 1) = Lib.byteCells l := by
    rcases hown.2 with ⟨_, hz⟩ | ⟨g, cap, cur, hv, r⟩
    · exact absurd hz hl0
    · exact ⟨g, cap, cur, hv, r⟩
  have c1 : w.cell? ⟨b, 1, none⟩ = some (.slice (some ⟨g, 0, none⟩) l.length cap) := by rw [Lib.cell_of_heap hbk]; rfl
  have hSD : (Builtin.unsafeSliceData_ #[56] 88 #[.slice (some ⟨g, 0, none⟩) l.length cap]).run Try.prog w.drew = .ok (.pointer (some ⟨g, 0, none⟩)) w.drew :=
    Lib.run_unsafeSliceData_row _ _ _ _ _ _ (by omega)
  have hUS : (Builtin.unsafeString_ #[88, 3] 9 #[.pointer (some ⟨g, 0, none⟩), .int .i64 l.length]).run Try.prog w.drew = .ok (.string ⟨l.toArray⟩) (w.drew.freeze ⟨g, 0, none⟩ l.length) := by
    refine Lib.run_unsafeString_row w.drew 88 3 9 5 Try.underlying88 Try.cellsU8 g cur.size (by have hg' : w.drew.heap[g]? = some (.cells cur 5 (0, 0)) := hg; simp [World.shape?, hg']) l h0 (by omega) (by unfold maxLen at hcm; omega) ?_
    intro j x hx
    exact hown.cells (g := g) rfl j (.int .u8 x.toNat) (by simp [Lib.byteCells, hx])
  have HE : Hid (Below B w (w.drew.freeze ⟨g, 0, none⟩ l.length)) := Lib.below_freeze (Below.drew (Below.refl B w)) (p := ⟨g, 0, none⟩) hbg _
  clear hcm hcs htake hown hne hp hbk hg
  go_enter Try.func22, Try.ntmps22
  go_wp2
  go_region
  all_goals (go_wp2; go_ret; exact ⟨rfl, HE.out⟩)
end Go.Proofs.Ytgeajdfajfdjcaa
