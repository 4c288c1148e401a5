/- The reader: its mark, its numbers; rows that it lays. -/
import Derived.Test.YtgeajdfajfdjcaaPkU
import Derived.Test.YtgeajdfajfdjcaaPkM
import Derived.Deep.AppendLies
import Derived.Laws.OwnMore
import Derived.Maps.AppendAt
namespace Go.Proofs.Ytgeajdfajfdjcaa
set_option linter.unusedVariables false
set_option linter.unusedSimpArgs false
open Go.ChangeShapes Go.WideShapes Go.ChangeAt Go.RowKit

theorem wpList_run_appendP {P : Program} {w : World} {ops : Array Oper} {rest : List Oper} {o : Oper} {a : Act} {Q : Exit → Act → World → Prop} (hgd : o.guard = none) (s x : Operand) (t : TypeId)
    (ho : o.op = .call { callee := .builtin .append, args := #[s, x], argTypes := #[t, t] }) (v u : Value) (hs : a.eval s = v) (hx : a.eval x = u) {v' : Value} {w' : World} (hr : (Builtin.append_ #[t, t] o.type #[v, u]).run P w = .ok v' w') (h : wpList P ops Q rest (a.put o.dst v') w') :
    wpList P ops Q (o :: rest) a w := wpList_plain hgd fun K hK => by
  unfold Oper.wp execOp
  simp only [ho, resolve, invoke, builtin, Sem.run_bind, Sem.run_pure, Result.andThen_ok, List.map_toArray, List.map_cons, List.map_nil, hs, hx, hr]
  exact hK _ _ h
/-- One element more, laid in a block of its own. -/
theorem run_append_one {P : Program} {w : World} (base : Nat) (t e : TypeId) (i : TypeInfo) (z : Value) (size bytes : Nat) (ht : P.underlying t = some (.slice e)) (hi : P.info? e = some i) (hz : i.zero = some z)
    (hsize : i.size = size) (hby : i.bytes = bytes) (hzs : z.cells.size = size) (hsz : 0 < size) (v : Value) (n : Nat) (xs : List Value) (hown : w.ownsRow base e size v n xs)
    (g : Nat) (cs : List Value) (hg : ∀ j x, cs[j]? = some x → w.cell? ⟨g, j, none⟩ = some x) (hl : cs.length = size) (h1 : ∀ x ∈ cs, x.oneCell' = true) (h63 : n + 1 ≤ maxLen) (hbytes : (n + 1) * bytes ≤ 140737488355328) (hbase : base ≤ w.heap.size) :
    ∃ p c w', (Builtin.append_ #[t, t] t #[v, .slice (some ⟨g, 0, none⟩) 1 1]).run P w = .ok (.slice p (n + 1) c) w' ∧ w'.ownsRow base e size (.slice p (n + 1) c) (n + 1) (xs ++ cs) ∧ w.grownBy w' v.ownBlock ∧ ((Value.slice p (n + 1) c).ownBlock = v.ownBlock ∨ (Value.slice p (n + 1) c).ownBlock = some w.heap.size) := by
  obtain ⟨v', w', h2, h3, h4, h5, h6⟩ := run_append_own_at (P := P) w base t t e i z size bytes ht hi hz hsize hby hzs hsz v n xs hown ⟨g, 0, none⟩ 1 1 cs (by rw [hl]; omega) (fun j x hx => by
    have hadd : (⟨g, 0, none⟩ : Addr).add j = ⟨g, j, none⟩ := by simp [Addr.add]; exact fun h9 => h9.symm
    rw [hadd]; exact hg j x hx) h1 h63 hbytes hbase
  obtain ⟨p, c, rfl⟩ := row_slice h3
  exact ⟨p, c, w', h2, h3, h4, h6⟩
theorem setAll_same : ∀ (ads : List (Nat × Nat)) (vs : List Int) (w w' : World) (b : Nat), w'.heap[b]? = w.heap[b]? → (setAll w' ads vs).heap[b]? = (setAll w ads vs).heap[b]?
  | [], vs, w, w', b, h => by cases vs <;> exact h
  | _ :: _, [], w, w', b, h => h
  | a :: ads, x :: vs, w, w', b, h => by
    refine setAll_same ads vs (w.setCell (adr a) (.int .i64 x)) (w'.setCell (adr a) (.int .i64 x)) b ?_
    simp only [World.setCell, Array.getElem?_modify, h]
theorem heap_alloc_old' {w : World} (o : Obj) {b : Nat} (h : b < w.heap.size) : (w.alloc o).heap[b]? = w.heap[b]? := (bel1 w o).block b h
/-- All stays but the reader. -/
abbrev Gb (rb : Nat) (w w' : World) : Prop := w.grownBy w' (some rb)
theorem Gb.below {rb : Nat} {w w' : World} (h : Below w.heap.size w w') : Gb rb w w' := ⟨h.os, h.tape, h.output, h.size, fun k hk _ => h.block k hk⟩
theorem Gb.blk {rb : Nat} {w w' : World} (h : Gb rb w w') {i : Nat} (hi : i < w.heap.size) (hr : i ≠ rb) : w'.heap[i]? = w.heap[i]? := h.block i hi (fun e => hr (Option.some.inj e))
theorem Gb.stay {rb : Nat} {w w' : World} (h : Gb rb w w') {F : Nat → Prop} (hF : ∀ b, F b → b < w.heap.size ∧ b ≠ rb) : Stay F w w' := ⟨h.size, fun b hb => h.blk (hF b hb).1 (hF b hb).2⟩
theorem Oth.grown {W0 W w' : World} {rb : Nat} {ads : List (Nat × Nat)} (h0 : Gb rb W0 W) (h : Oth W rb ads w') (ha : ∀ a ∈ ads, W0.heap.size ≤ a.1) : Gb rb W0 w' :=
  ⟨h.os.trans h0.os, h.tape.trans h0.tape, h.output.trans h0.output, Nat.le_trans h0.size h.size, fun i hi hne => by
    have hr : i ≠ rb := fun e => hne (by rw [e])
    rw [h.block i (Nat.lt_of_lt_of_le hi h0.size) hr (fun a h1 e => by have := ha a h1; omega)]
    exact h0.blk hi hr⟩
/-- take, of a literal row of places. -/
theorem taken_u8 (W0 W : World) (rb : Nat) (l : List UInt8) (ads : List (Nat × Nat)) {n : Nat} (hn : n = ads.length) (hm : ads.length ≤ 4) (h0 : Gb rb W0 W) (hrb : rb < W0.heap.size) (hr : RdAt W rb l) (hl : l.length ≤ 1048576) (ha : ∀ a ∈ ads, W0.heap.size ≤ a.1 ∧ ∃ arr t, W.heap[a.1]? = some (.cells arr t) ∧ a.2 < arr.size) :
    Calls Try.prog 51 #[.pointer (some ⟨rb, 0, none⟩), .slice (some ⟨W.heap.size, 0, none⟩) n n] (W.alloc (.cells (ptV ads).toArray 92)) fun e w' => ∃ ok, e = .returned (.bool ok) ∧ Hid (Gb rb W0 w') ∧ Hid (match manyR (numR 1) ads.length l with
      | some (vs, l') => ok = true ∧ vs.length = ads.length ∧ RdAt w' rb l' ∧ W.heap.size ≤ w'.heap.size ∧ l'.length ≤ 1048576 ∧ ∀ b, b < W.heap.size → b ≠ rb → w'.heap[b]? = (setAll W ads vs).heap[b]?
      | none => ok = false) := by
  have hbel := bel1 W (.cells (ptV ads).toArray 92)
  have hnew := heap_alloc_new W (.cells (ptV ads).toArray 92)
  have hrw := heap_lt hr
  have hlt : ∀ a ∈ ads, a.1 < W.heap.size := fun a h => by
    obtain ⟨arr, t, h1, _⟩ := (ha a h).2
    exact heap_lt h1
  have hr2 : RdAt (W.alloc (.cells (ptV ads).toArray 92)) rb l := (hbel.block rb hrw).trans hr
  refine (take_u8 _ rb l ads _ (G := fun b => b = W.heap.size) hr2 ?_ (fun a h => ?_) (fun g hg => ?_) hl).mono ?_
  · subst hn
    refine ⟨_, _, rfl, ⟨by unfold maxLen; omega, Nat.le_refl _⟩, fun h0 => ⟨W.heap.size, 0, rfl, rfl, by simp, fun j x hj => ?_, fun j hj => Lib.frozen_of_heap hnew _⟩⟩
    rw [Nat.zero_add, Lib.cell_of_heap hnew]
    simpa using hj
  · obtain ⟨h1, arr, t, h2, h3⟩ := ha a h
    exact ⟨by omega, arr, t, (hbel.block _ (hlt a h)).trans h2, h3⟩
  · subst hg
    exact ⟨by omega, fun a h => by have := hlt a h; omega⟩
  · rintro e w' ⟨ok, rfl, h1, h2⟩
    refine ⟨ok, rfl, ?_, ?_⟩
    · have hg0 : Gb rb W0 (W.alloc (.cells (ptV ads).toArray 92)) := h0.trans (Gb.below hbel)
      exact Oth.grown hg0 h1.out (fun a h => (ha a h).1)
    · have h3 := h2.out
      show (match manyR (numR 1) ads.length l with | some (vs, l') => _ | none => _)
      cases hm : manyR (numR 1) ads.length l with
      | none => rw [hm] at h3; exact h3
      | some p =>
        obtain ⟨vs, l'⟩ := p
        rw [hm] at h3
        obtain ⟨e1, e2, e3⟩ := h3
        have hl' : l'.length ≤ 1048576 := by
          have := ((many_codec (num_codec 1)).2 _ _ _ _ hm).2.2
          rw [this] at hl
          simp only [List.length_append] at hl
          omega
        have hblk : ∀ b, b < W.heap.size → (setAll (W.alloc (.cells (ptV ads).toArray 92)) ads vs).heap[b]? = (setAll W ads vs).heap[b]? := fun b hb => setAll_same ads vs _ _ b (hbel.block b hb)
        have hS : RdAt (setAll (W.alloc (.cells (ptV ads).toArray 92)) ads vs) rb l := (setAll_blk _ _ _ _ (fun a h => by have := (ha a h).1; omega)).trans hr2
        have hsz := e3.size
        have hsz2 : ((setAll (W.alloc (.cells (ptV ads).toArray 92)) ads vs).setCell ⟨rb, 0, none⟩ (.string ⟨l'.toArray⟩)).heap.size = W.heap.size + 1 := by simp [World.setCell, setAll_size]
        refine ⟨e1, e2, (e3.block rb (by simp; omega)).trans (hS.set l'), by omega, hl', fun b hb hbr => ?_⟩
        rw [e3.block b (by simp; omega), Go.Deep.blk_setCell_other _ ⟨rb, 0, none⟩ _ b hbr, hblk b hb]
/-- take, of a literal row of places. -/
theorem taken_u16 (W0 W : World) (rb : Nat) (l : List UInt8) (ads : List (Nat × Nat)) {n : Nat} (hn : n = ads.length) (hm : ads.length ≤ 4) (h0 : Gb rb W0 W) (hrb : rb < W0.heap.size) (hr : RdAt W rb l) (hl : l.length ≤ 1048576) (ha : ∀ a ∈ ads, W0.heap.size ≤ a.1 ∧ ∃ arr t, W.heap[a.1]? = some (.cells arr t) ∧ a.2 < arr.size) :
    Calls Try.prog 52 #[.pointer (some ⟨rb, 0, none⟩), .slice (some ⟨W.heap.size, 0, none⟩) n n] (W.alloc (.cells (ptV ads).toArray 92)) fun e w' => ∃ ok, e = .returned (.bool ok) ∧ Hid (Gb rb W0 w') ∧ Hid (match manyR (numR 2) ads.length l with
      | some (vs, l') => ok = true ∧ vs.length = ads.length ∧ RdAt w' rb l' ∧ W.heap.size ≤ w'.heap.size ∧ l'.length ≤ 1048576 ∧ ∀ b, b < W.heap.size → b ≠ rb → w'.heap[b]? = (setAll W ads vs).heap[b]?
      | none => ok = false) := by
  have hbel := bel1 W (.cells (ptV ads).toArray 92)
  have hnew := heap_alloc_new W (.cells (ptV ads).toArray 92)
  have hrw := heap_lt hr
  have hlt : ∀ a ∈ ads, a.1 < W.heap.size := fun a h => by
    obtain ⟨arr, t, h1, _⟩ := (ha a h).2
    exact heap_lt h1
  have hr2 : RdAt (W.alloc (.cells (ptV ads).toArray 92)) rb l := (hbel.block rb hrw).trans hr
  refine (take_u16 _ rb l ads _ (G := fun b => b = W.heap.size) hr2 ?_ (fun a h => ?_) (fun g hg => ?_) hl).mono ?_
  · subst hn
    refine ⟨_, _, rfl, ⟨by unfold maxLen; omega, Nat.le_refl _⟩, fun h0 => ⟨W.heap.size, 0, rfl, rfl, by simp, fun j x hj => ?_, fun j hj => Lib.frozen_of_heap hnew _⟩⟩
    rw [Nat.zero_add, Lib.cell_of_heap hnew]
    simpa using hj
  · obtain ⟨h1, arr, t, h2, h3⟩ := ha a h
    exact ⟨by omega, arr, t, (hbel.block _ (hlt a h)).trans h2, h3⟩
  · subst hg
    exact ⟨by omega, fun a h => by have := hlt a h; omega⟩
  · rintro e w' ⟨ok, rfl, h1, h2⟩
    refine ⟨ok, rfl, ?_, ?_⟩
    · have hg0 : Gb rb W0 (W.alloc (.cells (ptV ads).toArray 92)) := h0.trans (Gb.below hbel)
      exact Oth.grown hg0 h1.out (fun a h => (ha a h).1)
    · have h3 := h2.out
      show (match manyR (numR 2) ads.length l with | some (vs, l') => _ | none => _)
      cases hm : manyR (numR 2) ads.length l with
      | none => rw [hm] at h3; exact h3
      | some p =>
        obtain ⟨vs, l'⟩ := p
        rw [hm] at h3
        obtain ⟨e1, e2, e3⟩ := h3
        have hl' : l'.length ≤ 1048576 := by
          have := ((many_codec (num_codec 2)).2 _ _ _ _ hm).2.2
          rw [this] at hl
          simp only [List.length_append] at hl
          omega
        have hblk : ∀ b, b < W.heap.size → (setAll (W.alloc (.cells (ptV ads).toArray 92)) ads vs).heap[b]? = (setAll W ads vs).heap[b]? := fun b hb => setAll_same ads vs _ _ b (hbel.block b hb)
        have hS : RdAt (setAll (W.alloc (.cells (ptV ads).toArray 92)) ads vs) rb l := (setAll_blk _ _ _ _ (fun a h => by have := (ha a h).1; omega)).trans hr2
        have hsz := e3.size
        have hsz2 : ((setAll (W.alloc (.cells (ptV ads).toArray 92)) ads vs).setCell ⟨rb, 0, none⟩ (.string ⟨l'.toArray⟩)).heap.size = W.heap.size + 1 := by simp [World.setCell, setAll_size]
        refine ⟨e1, e2, (e3.block rb (by simp; omega)).trans (hS.set l'), by omega, hl', fun b hb hbr => ?_⟩
        rw [e3.block b (by simp; omega), Go.Deep.blk_setCell_other _ ⟨rb, 0, none⟩ _ b hbr, hblk b hb]
/-- take, of a literal row of places. -/
theorem taken_u32 (W0 W : World) (rb : Nat) (l : List UInt8) (ads : List (Nat × Nat)) {n : Nat} (hn : n = ads.length) (hm : ads.length ≤ 4) (h0 : Gb rb W0 W) (hrb : rb < W0.heap.size) (hr : RdAt W rb l) (hl : l.length ≤ 1048576) (ha : ∀ a ∈ ads, W0.heap.size ≤ a.1 ∧ ∃ arr t, W.heap[a.1]? = some (.cells arr t) ∧ a.2 < arr.size) :
    Calls Try.prog 38 #[.pointer (some ⟨rb, 0, none⟩), .slice (some ⟨W.heap.size, 0, none⟩) n n] (W.alloc (.cells (ptV ads).toArray 92)) fun e w' => ∃ ok, e = .returned (.bool ok) ∧ Hid (Gb rb W0 w') ∧ Hid (match manyR (numR 4) ads.length l with
      | some (vs, l') => ok = true ∧ vs.length = ads.length ∧ RdAt w' rb l' ∧ W.heap.size ≤ w'.heap.size ∧ l'.length ≤ 1048576 ∧ ∀ b, b < W.heap.size → b ≠ rb → w'.heap[b]? = (setAll W ads vs).heap[b]?
      | none => ok = false) := by
  have hbel := bel1 W (.cells (ptV ads).toArray 92)
  have hnew := heap_alloc_new W (.cells (ptV ads).toArray 92)
  have hrw := heap_lt hr
  have hlt : ∀ a ∈ ads, a.1 < W.heap.size := fun a h => by
    obtain ⟨arr, t, h1, _⟩ := (ha a h).2
    exact heap_lt h1
  have hr2 : RdAt (W.alloc (.cells (ptV ads).toArray 92)) rb l := (hbel.block rb hrw).trans hr
  refine (take_u32 _ rb l ads _ (G := fun b => b = W.heap.size) hr2 ?_ (fun a h => ?_) (fun g hg => ?_) hl).mono ?_
  · subst hn
    refine ⟨_, _, rfl, ⟨by unfold maxLen; omega, Nat.le_refl _⟩, fun h0 => ⟨W.heap.size, 0, rfl, rfl, by simp, fun j x hj => ?_, fun j hj => Lib.frozen_of_heap hnew _⟩⟩
    rw [Nat.zero_add, Lib.cell_of_heap hnew]
    simpa using hj
  · obtain ⟨h1, arr, t, h2, h3⟩ := ha a h
    exact ⟨by omega, arr, t, (hbel.block _ (hlt a h)).trans h2, h3⟩
  · subst hg
    exact ⟨by omega, fun a h => by have := hlt a h; omega⟩
  · rintro e w' ⟨ok, rfl, h1, h2⟩
    refine ⟨ok, rfl, ?_, ?_⟩
    · have hg0 : Gb rb W0 (W.alloc (.cells (ptV ads).toArray 92)) := h0.trans (Gb.below hbel)
      exact Oth.grown hg0 h1.out (fun a h => (ha a h).1)
    · have h3 := h2.out
      show (match manyR (numR 4) ads.length l with | some (vs, l') => _ | none => _)
      cases hm : manyR (numR 4) ads.length l with
      | none => rw [hm] at h3; exact h3
      | some p =>
        obtain ⟨vs, l'⟩ := p
        rw [hm] at h3
        obtain ⟨e1, e2, e3⟩ := h3
        have hl' : l'.length ≤ 1048576 := by
          have := ((many_codec (num_codec 4)).2 _ _ _ _ hm).2.2
          rw [this] at hl
          simp only [List.length_append] at hl
          omega
        have hblk : ∀ b, b < W.heap.size → (setAll (W.alloc (.cells (ptV ads).toArray 92)) ads vs).heap[b]? = (setAll W ads vs).heap[b]? := fun b hb => setAll_same ads vs _ _ b (hbel.block b hb)
        have hS : RdAt (setAll (W.alloc (.cells (ptV ads).toArray 92)) ads vs) rb l := (setAll_blk _ _ _ _ (fun a h => by have := (ha a h).1; omega)).trans hr2
        have hsz := e3.size
        have hsz2 : ((setAll (W.alloc (.cells (ptV ads).toArray 92)) ads vs).setCell ⟨rb, 0, none⟩ (.string ⟨l'.toArray⟩)).heap.size = W.heap.size + 1 := by simp [World.setCell, setAll_size]
        refine ⟨e1, e2, (e3.block rb (by simp; omega)).trans (hS.set l'), by omega, hl', fun b hb hbr => ?_⟩
        rw [e3.block b (by simp; omega), Go.Deep.blk_setCell_other _ ⟨rb, 0, none⟩ _ b hbr, hblk b hb]
theorem two_list (a b : UInt8) : (⟨#[a, b]⟩ : ByteArray).toList = [a, b] := by
  simp [ByteArray.toList, ByteArray.toList.loop, ByteArray.size, ByteArray.get!]
set_option maxHeartbeats 1000000 in
set_option maxRecDepth 100000 in
theorem hasPrefix_any (l : List UInt8) (w : World) : Calls Try.prog 61 #[.string ⟨l.toArray⟩, .string ⟨#[84, 67]⟩] w fun e w' => e = .returned (.bool (decide (l.take 2 = [84, 67]))) ∧ w' = w := by
  have hsz : (⟨l.toArray⟩ : ByteArray).size = l.length := by simp [ByteArray.size]
  have hex := ext_front l 2
  obtain ⟨s, hs⟩ : ∃ s : ByteArray, (⟨l.toArray⟩ : ByteArray) = s := ⟨_, rfl⟩
  rw [hs] at hsz hex ⊢
  have h2 : (⟨#[84, 67]⟩ : ByteArray).size = 2 := rfl
  by_cases hl : 2 ≤ l.length
  · have hlI : (2 : Int) ≤ ((s.size : Nat) : Int) := by omega
    have he : ((s.extract 0 2).toList == [84, 67]) = decide (l.take 2 = [84, 67]) := by
      rw [hex]
      match l, hl with
      | a :: b :: r, _ =>
        simp only [List.take_succ_cons, List.take_zero]
        rw [two_list]
        by_cases h1 : a = 84 <;> by_cases h2 : b = 67 <;> simp [h1, h2]
    obtain ⟨ok, hok⟩ : ∃ ok, decide (l.take 2 = [84, 67]) = ok := ⟨_, rfl⟩
    rw [hok] at he ⊢
    clear hs hex hok
    go_enter Try.func61, Try.ntmps61
    go_wp2
    go_ret
    exact ⟨rfl, rfl⟩
  · have hlI : ¬ (2 : Int) ≤ ((s.size : Nat) : Int) := by omega
    have he : decide (l.take 2 = [84, 67]) = false := by
      rw [decide_eq_false_iff_not]
      intro h
      have := congrArg List.length h
      simp at this; omega
    rw [he]
    clear hs hex
    go_enter Try.func61, Try.ntmps61
    go_wp2
    go_ret
    exact ⟨rfl, rfl⟩
set_option maxHeartbeats 1000000 in
set_option maxRecDepth 100000 in
theorem cutPrefix_any (l : List UInt8) (hl : l.length ≤ 1048576) (w : World) : Calls Try.prog 60 #[.string ⟨l.toArray⟩, .string ⟨#[84, 67]⟩] w fun e w' => e = .returned (.tuple #[.string ⟨(if l.take 2 = [84, 67] then l.drop 2 else l).toArray⟩, .bool (decide (l.take 2 = [84, 67]))]) ∧ w' = w := by
  have hsz : (⟨l.toArray⟩ : ByteArray).size = l.length := by simp [ByteArray.size]
  have hex := ext_back l 2
  have h2 : (⟨#[84, 67]⟩ : ByteArray).size = 2 := rfl
  have KH := hasPrefix_any l w
  obtain ⟨s, hs⟩ : ∃ s : ByteArray, (⟨l.toArray⟩ : ByteArray) = s := ⟨_, rfl⟩
  rw [hs] at hsz hex KH ⊢
  have hszI : ((s.size : Nat) : Int) = (l.length : Int) := by omega
  have HK : Hid (Calls Try.prog 61 #[.string s, .string ⟨#[84, 67]⟩] w fun e w' => e = .returned (.bool (decide (l.take 2 = [84, 67]))) ∧ w' = w) := KH
  have HS : Hid (⟨l.toArray⟩ = s) := hs
  have HEX : Hid (s.extract 2 l.length = ⟨(l.drop 2).toArray⟩) := hex
  clear KH hs hex
  by_cases ht : l.take 2 = [84, 67]
  · have hl2 : 2 ≤ l.length := by
      have := congrArg List.length ht
      simp at this; omega
    have hd : decide (l.take 2 = [84, 67]) = true := decide_eq_true ht
    rw [hd] at HK
    rw [if_pos ht, hd]
    clear ht hd
    have hl2I : (2 : Int) ≤ (l.length : Int) := by omega
    go_enter Try.func60, Try.ntmps60
    go_wp2_with (go_at_call 61; refine HK.out.mono ?_; rintro e w1 ⟨rfl, rfl⟩)
    go_ret2
    exact ⟨by rw [← HEX.out]; rfl, rfl⟩
  · have hd : decide (l.take 2 = [84, 67]) = false := decide_eq_false ht
    rw [hd] at HK
    rw [if_neg ht, hd]
    clear ht hd
    go_enter Try.func60, Try.ntmps60
    go_wp2_with (go_at_call 61; refine HK.out.mono ?_; rintro e w1 ⟨rfl, rfl⟩)
    go_ret2
    exact ⟨by rw [HS.out]; rfl, rfl⟩
set_option maxHeartbeats 1000000 in
set_option maxRecDepth 100000 in
theorem cutPrefixS_any (l : List UInt8) (hl : l.length ≤ 1048576) (w : World) : Calls Try.prog 50 #[.string ⟨l.toArray⟩, .string ⟨#[84, 67]⟩] w fun e w' => e = .returned (.tuple #[.string ⟨(if l.take 2 = [84, 67] then l.drop 2 else l).toArray⟩, .bool (decide (l.take 2 = [84, 67]))]) ∧ w' = w := by
  have HK : Hid (Calls Try.prog 60 #[.string ⟨l.toArray⟩, .string ⟨#[84, 67]⟩] w fun e w' => e = .returned (.tuple #[.string ⟨(if l.take 2 = [84, 67] then l.drop 2 else l).toArray⟩, .bool (decide (l.take 2 = [84, 67]))]) ∧ w' = w) := cutPrefix_any l hl w
  obtain ⟨s, hs⟩ : ∃ s : ByteArray, (⟨l.toArray⟩ : ByteArray) = s := ⟨_, rfl⟩
  obtain ⟨t, ht⟩ : ∃ t : ByteArray, (⟨(if l.take 2 = [84, 67] then l.drop 2 else l).toArray⟩ : ByteArray) = t := ⟨_, rfl⟩
  obtain ⟨b, hb⟩ : ∃ b, decide (l.take 2 = [84, 67]) = b := ⟨_, rfl⟩
  rw [hs, ht, hb] at HK ⊢
  clear hs ht hb
  go_enter Try.func50, Try.ntmps50
  go_wp2_with (go_at_call 60; refine HK.out.mono ?_; rintro e w1 ⟨rfl, rfl⟩)
  go_ret2
  exact ⟨rfl, rfl⟩
set_option maxHeartbeats 1000000 in
set_option maxRecDepth 100000 in
theorem mark_any (W : World) (rb : Nat) (l : List UInt8) (hr : RdAt W rb l) (hl : l.length ≤ 1048576) :
    Calls Try.prog 37 #[.pointer (some ⟨rb, 0, none⟩)] W fun e w' => e = .returned (.bool (decide (l.take 2 = [84, 67]))) ∧ Hid (Gb rb W w' ∧ RdAt w' rb (if l.take 2 = [84, 67] then l.drop 2 else l)) := by
  have HR : Hid (RdAt W rb l) := hr
  have c0 : W.cell? ⟨rb, 0, none⟩ = some (.string ⟨l.toArray⟩) := Lib.cell_of_heap hr 0
  have z0 : W.frozen? ⟨rb, 0, none⟩ = false := Lib.frozen_of_heap hr 0
  have HK : Hid (Calls Try.prog 50 #[.string ⟨l.toArray⟩, .string ⟨#[84, 67]⟩] W fun e w' => e = .returned (.tuple #[.string ⟨(if l.take 2 = [84, 67] then l.drop 2 else l).toArray⟩, .bool (decide (l.take 2 = [84, 67]))]) ∧ w' = W) := cutPrefixS_any l hl W
  obtain ⟨l2, hl2⟩ : ∃ l2, (if l.take 2 = [84, 67] then l.drop 2 else l) = l2 := ⟨_, rfl⟩
  rw [hl2] at HK ⊢
  clear hl2
  obtain ⟨s, hs⟩ : ∃ s : ByteArray, (⟨l.toArray⟩ : ByteArray) = s := ⟨_, rfl⟩
  obtain ⟨t, ht⟩ : ∃ t : ByteArray, (⟨l2.toArray⟩ : ByteArray) = t := ⟨_, rfl⟩
  obtain ⟨b, hb⟩ : ∃ b, decide (l.take 2 = [84, 67]) = b := ⟨_, rfl⟩
  have HT : Hid ((⟨l2.toArray⟩ : ByteArray) = t) := ht
  rw [hs] at c0
  rw [hs, ht, hb] at HK
  rw [hb]
  clear hs ht hb hr
  go_enter Try.func37, Try.ntmps37
  go_wp2_with (go_at_call 50; refine HK.out.mono ?_; rintro e w1 ⟨rfl, rfl⟩)
  go_ret
  refine ⟨rfl, ⟨rfl, rfl, rfl, by simp [World.setCell], fun k hk hne => ?_⟩, ?_⟩
  · exact Go.Deep.blk_setCell_other _ ⟨rb, 0, none⟩ _ k (fun e => hne (by rw [e]))
  · rw [← HT.out]
    exact HR.out.set _
end Go.Proofs.Ytgeajdfajfdjcaa
