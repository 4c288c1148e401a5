/- Ranges over functions: a region that draws within a round; marks among the deferred calls; slices.Backward over symbols. -/
import Derived.Test.YtopokicdgdjgkaaGramVar
import Derived.Test.YtopokicdgdjgkaaGg
import Derived.Test.YtopokicdgdjgkaaButF
import Derived.RangeFuncNested
import Derived.RangeFuncBound
import Derived.RangeFuncCalls
import Derived.RangeFuncLeaves
import Derived.Shelf.Abstract
import Derived.Shelf.RegionOpen
import Derived.WalkKit
import Derived.OwnWalkIn
import Derived.TacticsInMore
import Derived.LoopNIn
import Derived.LoopIn
namespace Go.Proofs.Ytopokicdgdjgkaa
set_option linter.unusedVariables false
set_option linter.unusedSimpArgs false
open Go.ChangeShapes Go.WideShapes Go.ChangeAt Go.RowKit Go.Shelf
attribute [local go_sem] Oper.semAt_some

theorem rowsIn_wide {n : Nat} {P : Program} {row : String} {args : Array Value} {w : World} {R : Value → World → Prop} (h : Rows P row args w R) : RowsIn Fence.wide n P row args w R :=
  fun c cs _ => let ⟨v, w', r, s⟩ := h c cs; ⟨v, w', r, stepsIn_wide.2 s⟩
/-- A region's operations, none of which defers, within a round. -/
theorem wpOpsIn_round {P : Program} {ops : Array Oper} {Q : Exit → Act → World → Prop} {l n : Nat} (hd : ∀ (i : Nat) (o : Oper), ops[i]? = some o → ∀ c, o.op ≠ .defer c) (hQ : ¬ LetsOut Q) : ∀ (is : List Nat) (a : Act) (w : World), wpOps P ops Q is a w → wpOpsIn (Fence.wide.inRound l) n P ops Q is a w
  | [], a, w, h => h
  | i :: is, a, w, h => by
    have ih := wpOpsIn_round (P := P) (n := n) (l := l) hd hQ is
    unfold wpOps at h
    unfold wpOpsIn
    cases ho : ops[i]? with
    | none => simp only [ho] at h ⊢; exact ih a w h
    | some o =>
      simp only [ho] at h ⊢
      by_cases hw : Region.wanted o (yielded ops a.tmps) = true
      · rw [if_pos hw] at h ⊢
        rcases h with h | ⟨_, h⟩
        · refine ⟨fun f _ => trivial, ?_⟩
          rw [Oper.semAt_eq _ _ _ (hd i o ho)]
          unfold Oper.wp at h
          revert h
          generalize (execOp a.eval o).run P w = x
          intro h
          unfold Oper.upon at h
          unfold Oper.uponIn
          split at h
          · exact ih _ _ h
          · exact ih _ _ h
          · exact ih _ _ h
          · refine ⟨fun h9 => (by cases h9), CallsIn.inRound l (callsIn_wide.2 (h.mono ?_))⟩
            intro e w'' he
            cases e with
            | returned v => exact ih _ _ he
            | panicked ch => exact he
            | outgrown => exact he
          · refine ⟨fun h9 => (by cases h9), ?_⟩
            exact rowsIn_wide (n := n - 1) (h.mono fun v w'' hv => ih _ _ hv)
          · exact h
          · exact h.elim
        · exact absurd h hQ
      · rw [if_neg hw] at h ⊢
        exact ⟨fun f _ => trivial, ih _ _ h⟩
def noDefer (o : Oper) : Bool := match o.op with | .defer _ => false | _ => true
theorem noDefer_all {ops : Array Oper} (h : ops.all noDefer = true) (i : Nat) (o : Oper) (ho : ops[i]? = some o) (c : Call) : o.op ≠ .defer c := fun e => by
  obtain ⟨hi, e2⟩ := Array.getElem?_eq_some_iff.1 ho
  have := Array.all_eq_true.1 h i hi
  rw [e2] at this
  unfold noDefer at this
  rw [e] at this; cases this
theorem wpIn_region_held_round {P : Program} {ops : Array Oper} {Q : Exit → Act → World → Prop} {S : World → Prop} {id l n : Nat} {a : Act} {w : World} (hm : P.follows .mixedOrders = true) (hd : ops.all noDefer = true) (hQ : ¬ LetsOut Q) (hS : S w.drew)
    (h : S w.drew → wpAnyH P .any ops Q S ops.size (Array.replicate ops.size false) a w.drew) : (Code.region id ops true).wpIn (Fence.wide.inRound l) n P Q a w :=
  wpIn_region_draw fun t => wpOpsIn_round (noDefer_all hd) hQ _ _ _ (by
    simp only [Region.schedule, hm, Bool.true_or, if_true]
    exact wpAny_sound ops.size t _ a _ (wpAny_of_held _ _ _ _ (h hS)))
/-- Marks of loops among the deferred calls, each of a block of its own. -/
def Marks (B : Nat) : List Deferred → World → Prop
  | [], _ => True
  | d :: ds, w => (∃ D, d = { target := .collected D, args := #[] } ∧ B ≤ D ∧ w.heap[D]? = some (.deferred (some [])) ∧ ∀ d' ∈ ds, ∀ D', d'.target = .collected D' → D' < D) ∧ Marks B ds w
theorem Marks.keep {B : Nat} {w w' : World} : ∀ {ds : List Deferred}, (∀ d ∈ ds, ∀ D, d.target = .collected D → w'.heap[D]? = w.heap[D]?) → Marks B ds w → Marks B ds w'
  | [], _, _ => trivial
  | d :: ds, hk, ⟨⟨D, h1, h2, h3, h4⟩, h5⟩ => ⟨⟨D, h1, h2, (hk d (List.mem_cons_self ..) D (by rw [h1])).trans h3, h4⟩, Marks.keep (fun d' hd' => hk d' (List.mem_cons_of_mem _ hd')) h5⟩
theorem Marks.ge {B : Nat} {w : World} : ∀ {ds : List Deferred}, Marks B ds w → ∀ d ∈ ds, ∀ D, d.target = .collected D → B ≤ D ∧ ∃ o, w.heap[D]? = some o ∧ o.isCells = false
  | [], _, d, hd, _, _ => by cases hd
  | e :: ds, ⟨⟨D, h1, h2, h3, h4⟩, h5⟩, d, hd, D', hD' => by
    rcases List.mem_cons.1 hd with rfl | hd
    · rw [h1] at hD'
      injection hD' with hD'
      rw [← hD']; exact ⟨h2, _, h3, rfl⟩
    · exact h5.ge d hd D' hD'
theorem Marks.lt {B : Nat} {w : World} : ∀ {ds : List Deferred}, Marks B ds w → ∀ d ∈ ds, ∀ D, d.target = .collected D → D < w.heap.size
  | [], _, d, hd, _, _ => by cases hd
  | e :: ds, ⟨⟨D, h1, h2, h3, h4⟩, h5⟩, d, hd, D', hD' => by
    rcases List.mem_cons.1 hd with rfl | hd
    · rw [h1] at hD'
      injection hD' with hD'
      rw [← hD']; exact (Array.getElem?_eq_some_iff.1 h3).1
    · exact h5.lt d hd D' hD'
/-- A function leaves through its marks. -/
theorem leaves_marks {P : Program} {fn : Func} {tmps : Array Value} {n B : Nat} {v : Value} (hres : ∀ w, (results fn tmps).run P w = .ok v w) {R : Ending → World → Prop} : ∀ (ds : List Deferred) (w : World), Marks B ds w →
    (∀ w', w'.os = w.os → w'.tape = w.tape → w'.output = w.output → w'.heap.size = w.heap.size → (∀ k, (k < B ∨ ∃ o, w.heap[k]? = some o ∧ o.isCells = true) → w'.heap[k]? = w.heap[k]?) → R (.returned v) w') → LeavesInM Fence.wide n P fn tmps R ds .returning w
  | [], w, _, hR => by
    refine ⟨_, hres w, ?_⟩
    exact hR w rfl rfl rfl rfl (fun _ _ => rfl)
  | d :: ds, w, ⟨⟨D, h1, h2, h3, h4⟩, h5⟩, hR => by
    refine ⟨by simp, .inl ⟨D, _, by rw [h1], run_takeDeferred h3, ?_⟩⟩
    have hsz : (w.putObj D (.deferred none)).heap.size = w.heap.size := by simp [World.putObj]
    refine leaves_marks hres ds _ (Marks.keep (w := w) (fun d' hd' D' hD' => World.putObj_heap_other (Nat.ne_of_lt (h4 d' hd' D' hD'))) h5) fun w' g1 g2 g3 g4 g5 => hR w' g1 g2 g3 (g4.trans hsz) fun k hk => ?_
    have hne : k ≠ D := by
      rcases hk with hk | ⟨o, ho, hc⟩
      · omega
      · rintro rfl
        rw [h3] at ho
        injection ho with ho
        rw [← ho] at hc; cases hc
    refine (g5 k ?_).trans (World.putObj_heap_other hne)
    rcases hk with hk | ⟨o, ho, hc⟩
    · exact Or.inl hk
    · exact Or.inr ⟨o, (World.putObj_heap_other hne).trans ho, hc⟩
/-- Rows of cells stay, but for the blocks E; new ones may come, what is no row may turn. -/
structure Bc (E : Nat → Prop) (w w' : World) : Prop where
  size : w.heap.size ≤ w'.heap.size
  same : ∀ (k : Nat) (o : Obj), ¬ E k → w.heap[k]? = some o → o.isCells = true → w'.heap[k]? = some o
theorem Bc.refl (E : Nat → Prop) (w : World) : Bc E w w := ⟨Nat.le_refl _, fun _ _ _ h _ => h⟩
theorem Bc.trans {E : Nat → Prop} {u v w : World} (h : Bc E u v) (k : Bc E v w) : Bc E u w := ⟨Nat.le_trans h.size k.size, fun i o hi ho hc => k.same i o hi (h.same i o hi ho hc) hc⟩
theorem Bc.ofU {E : Nat → Prop} {b : Nat} {w w' : World} (h : But w.heap.size b w w') (hE : E b) : Bc E w w' := ⟨h.size, fun k o hk ho _ => (h.block k (Array.getElem?_eq_some_iff.1 ho).1 (fun e => hk (e ▸ hE))).trans ho⟩
theorem Bc.ofB {E : Nat → Prop} {w w' : World} (h : Below w.heap.size w w') : Bc E w w' := ⟨h.size, fun k o hk ho _ => (h.block k (Array.getElem?_eq_some_iff.1 ho).1).trans ho⟩
theorem Bc.set {E : Nat → Prop} {w : World} {b o : Nat} (hE : E b) (v : Value) : Bc E w (w.setCell ⟨b, o, none⟩ v) := ⟨by rw [Go.Deep.nblk_setCell]; exact Nat.le_refl _, fun k ob hk ho _ => (Go.Deep.blk_setCell_other w ⟨b, o, none⟩ v k (fun e => hk (by rw [e]; exact hE))).trans ho⟩
theorem Bc.put {E : Nat → Prop} {w : World} {l : Nat} {o o' : Obj} (h : w.heap[l]? = some o) (hc : o.isCells = false) : Bc E w (w.putObj l o') := ⟨by simp, fun k o2 hk ho2 hc2 => by
  have : k ≠ l := by rintro rfl; rw [h] at ho2; injection ho2 with e; rw [← e, hc] at hc2; cases hc2
  exact (World.putObj_heap_other this).trans ho2⟩
theorem Bc.cell {E : Nat → Prop} {w w' : World} (h : Bc E w w') {k o : Nat} {v : Value} (hk : ¬ E k) (hc : w.cell? ⟨k, o, none⟩ = some v) : w'.cell? ⟨k, o, none⟩ = some v := by
  have hlt := block_lt_of_cell hc
  have ho : w.heap[k]? = some w.heap[k] := Array.getElem?_eq_getElem hlt
  have hcc : (w.heap[k]).isCells = true := by
    unfold World.cell? at hc
    simp only [ho] at hc
    cases h9 : w.heap[k] <;> rw [h9] at hc <;> first | rfl | cases hc
  exact (World.cell?_of_block (a := ⟨k, o, none⟩) ((h.same k _ hk ho hcc).trans ho.symm)).trans hc
/-- The law of a range over a function whose body never leaves, in a function that is no round; the loop's variable in a block of its own. -/
theorem range_box {P : Program} {α : Type} {g : Operand} {ps : Array Tmp} {assign body : Code} {Q : Exit → Act → World → Prop} {a : Act} {w : World} {gf : Nat} {lb : Array Value} (hg : a.eval g = .func (.func gf) #[] lb) (eg : ∀ args w, (callFunc gf args).run P w = .ok (.enter gf args) w)
    {encs : α → Array Value} {Kp : World → World → Prop} {S Sp : List α → Prop} {N : Nat} (hseq : SeqStopsK Fence.wide 3 P gf lb encs Kp S Sp N w)
    (hKt : ∀ {A B C : World}, Kp A B → Kp B C → Kp A C) (hKb : ∀ (W : World) (l : Nat) (o o' : Obj), w.heap.size ≤ l → W.heap[l]? = some o → o.isCells = false → o.isWalk = false → Kp W (W.putObj l o')) (hKa : ∀ (W : World) (o : Obj), Kp W (W.alloc o)) (hps : ∀ x, (encs x).size = ps.size)
    (I : List α → World → Prop) (hI : OwnFrom w.heap.size I) (hIs : ∀ pre W, I pre W → w.heap.size ≤ W.heap.size) (h0 : I [] w) (slot : Nat) (cells : α → Array Value) (ty : TypeId)
    (hassign : ∀ (l : Nat) (x : α) (W : World) (K : Act → World → Prop), K { tmps := ((ps.zip (encs x)).foldl (fun t (p, v) => t.setIfInBounds p v) a.tmps).setIfInBounds slot (.pointer (some ⟨W.heap.size, 0, none⟩)), defers := [] } (W.alloc (.cells (cells x) ty)) →
      assign.wpIn (Fence.wide.inRound l) 2 P (Exit.then K (fun _ _ _ => False)) { tmps := (ps.zip (encs x)).foldl (fun t (p, v) => t.setIfInBounds p v) a.tmps, defers := [] } W)
    (hbody : ∀ (l : Nat) (pre : List α) (x : α) (Bx : Nat) (W : World), I pre W → W.heap[Bx]? = some (.cells (cells x) ty) → w.heap.size ≤ Bx → pre.length < N →
      body.wpIn (Fence.wide.inRound l) 2 P (ownPostG w.heap.size Kp I (fun _ _ _ => False) (pre ++ [x]) W) { tmps := ((ps.zip (encs x)).foldl (fun t (p, v) => t.setIfInBounds p v) a.tmps).setIfInBounds slot (.pointer (some ⟨Bx, 0, none⟩)), defers := [] } W)
    (hdone : ∀ (D : Nat) (xs : List α) (W : World), w.heap.size ≤ D → S xs → I xs W → W.heap[D]? = some (.deferred (some [])) → Q .normal { a with defers := { target := .collected D, args := #[] } :: a.defers } W) :
    (Code.rangeFunc g ps assign body).wp P Q a w := by
  refine (wpIn_wide (n := 4)).1 ?_
  refine wpIn_rangeFunc_ownH rfl (by omega) hg trivial eg hseq hKt hKb (Below.refl _ _) hps I (fun _ _ _ => False) hI (fun _ _ _ _ _ h _ _ => h) h0
    (fun x a' W => ∃ Bx, (w.heap.size ≤ Bx ∧ W.heap[Bx]? = some (.cells (cells x) ty)) ∧ a' = { tmps := ((ps.zip (encs x)).foldl (fun t (p, v) => t.setIfInBounds p v) a.tmps).setIfInBounds slot (.pointer (some ⟨Bx, 0, none⟩)), defers := [] })
    (fun x a' s W W' row hs hg hr => ?_) (fun l pre x W K hi hK => ?_) (fun l pre x a' W hl hr hi hax hlen => ?_) (fun D xs W hD hS hi hk => hdone D xs W hD hS hi hk) (fun D c pre W hD _ h _ => h.elim)
  · obtain ⟨Bx, ⟨h1, h2⟩, h3⟩ := hs
    refine ⟨Bx, ⟨h1, ?_⟩, h3⟩
    rw [hg.block Bx (Array.getElem?_eq_some_iff.1 h2).1 (fun e => ?_)]
    · exact h2
    · obtain ⟨_, o, ho, hc⟩ := hr Bx e.symm
      rw [h2] at ho
      injection ho with ho
      rw [← ho] at hc; cases hc
  · refine hassign l x W K (hK _ _ ((KeepsOthers.alloc _ _).from _) (hKa _ _) (hI.alloc _ hi) ⟨W.heap.size, ⟨hIs pre W hi, heap_alloc_new _ _⟩, rfl⟩)
  · obtain ⟨Bx, ⟨h1, h2⟩, rfl⟩ := hax
    exact hbody l pre x Bx W hi h2 h1 hlen
/-- The same; the loop's variable in a slot. -/
theorem range_tmp {P : Program} {α : Type} {g : Operand} {ps : Array Tmp} {assign body : Code} {Q : Exit → Act → World → Prop} {a : Act} {w : World} {gf : Nat} {lb : Array Value} (hg : a.eval g = .func (.func gf) #[] lb) (eg : ∀ args w, (callFunc gf args).run P w = .ok (.enter gf args) w)
    {encs : α → Array Value} {Kp : World → World → Prop} {S Sp : List α → Prop} {N : Nat} (hseq : SeqStopsK Fence.wide 3 P gf lb encs Kp S Sp N w)
    (hKt : ∀ {A B C : World}, Kp A B → Kp B C → Kp A C) (hKr : ∀ W, Kp W W) (hKb : ∀ (W : World) (l : Nat) (o o' : Obj), w.heap.size ≤ l → W.heap[l]? = some o → o.isCells = false → o.isWalk = false → Kp W (W.putObj l o')) (hps : ∀ x, (encs x).size = ps.size)
    (I : List α → World → Prop) (hI : OwnFrom w.heap.size I) (h0 : I [] w) (slot : Nat) (val : α → Value)
    (hassign : ∀ (l : Nat) (x : α) (W : World) (K : Act → World → Prop), K { tmps := ((ps.zip (encs x)).foldl (fun t (p, v) => t.setIfInBounds p v) a.tmps).setIfInBounds slot (val x), defers := [] } W →
      assign.wpIn (Fence.wide.inRound l) 2 P (Exit.then K (fun _ _ _ => False)) { tmps := (ps.zip (encs x)).foldl (fun t (p, v) => t.setIfInBounds p v) a.tmps, defers := [] } W)
    (hbody : ∀ (l : Nat) (pre : List α) (x : α) (W : World), I pre W → pre.length < N →
      body.wpIn (Fence.wide.inRound l) 2 P (ownPostG w.heap.size Kp I (fun _ _ _ => False) (pre ++ [x]) W) { tmps := ((ps.zip (encs x)).foldl (fun t (p, v) => t.setIfInBounds p v) a.tmps).setIfInBounds slot (val x), defers := [] } W)
    (hdone : ∀ (D : Nat) (xs : List α) (W : World), w.heap.size ≤ D → S xs → I xs W → W.heap[D]? = some (.deferred (some [])) → Q .normal { a with defers := { target := .collected D, args := #[] } :: a.defers } W) :
    (Code.rangeFunc g ps assign body).wp P Q a w := by
  refine (wpIn_wide (n := 4)).1 ?_
  refine wpIn_rangeFunc_ownH rfl (by omega) hg trivial eg hseq hKt hKb (Below.refl _ _) hps I (fun _ _ _ => False) hI (fun _ _ _ _ _ h _ _ => h) h0
    (fun x a' W => a' = { tmps := ((ps.zip (encs x)).foldl (fun t (p, v) => t.setIfInBounds p v) a.tmps).setIfInBounds slot (val x), defers := [] })
    (fun x a' s W W' row hs hg hr => hs) (fun l pre x W K hi hK => hassign l x W K (hK _ _ (KeepsFrom.refl _ _) (hKr _) hi rfl)) (fun l pre x a' W hl hr hi hax hlen => by subst hax; exact hbody l pre x W hi hlen) (fun D xs W hD hS hi hk => hdone D xs W hD hS hi hk) (fun D c pre W hD _ h _ => h.elim)
end Go.Proofs.Ytopokicdgdjgkaa
