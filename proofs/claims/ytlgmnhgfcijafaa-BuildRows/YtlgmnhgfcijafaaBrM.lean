/- BuildRows in memory: definitions and rules that grow side by side. -/
import Derived.Test.YtlgmnhgfcijafaaBrT
import Derived.Test.YtlgmnhgfcijafaaGramMem
import Derived.Test.YtlgmnhgfcijafaaNoteMem
namespace Go.Proofs.Ytlgmnhgfcijafaa
set_option linter.unusedVariables false
set_option linter.unusedSimpArgs false
open Go.RowKit

theorem row_noB {w : World} {b : Nat} {v : Value} {base e size n : Nat} {xs : List Value} {arr : Array Value} {t : TypeId} (h : w.ownsRow base e size v n xs) (he : t ≠ e) (hb : w.heap[b]? = some (.cells arr t)) : v.ownBlock ≠ some b := fun e1 => by
  obtain ⟨_, ⟨h2, _⟩ | ⟨g, cap, cur, h1, _, h3, _⟩⟩ := h
  · rw [h2] at e1; cases e1
  · rw [h1] at e1
    injection e1 with e1
    subst e1
    rw [hb] at h3
    injection h3 with h3
    injection h3 with _ h3
    exact he h3
theorem blkB_lt {w : World} {b : Nat} {o : Obj} (h : w.heap[b]? = some o) : b < w.heap.size := (Array.getElem?_eq_some_iff.1 h).1
theorem belB1 (w : World) (o : Obj) : Below w.heap.size w (w.alloc o) := (Below.refl _ _).alloc (Nat.le_refl _) o
theorem newB (w : World) (o : Obj) : (w.alloc o).heap[w.heap.size]? = some o := by
  show (w.heap.push o)[w.heap.size]? = some o
  simp
theorem setB_same {w : World} {b j : Nat} {arr : Array Value} {t : TypeId} {fr : Nat × Nat} (h : w.heap[b]? = some (.cells arr t fr)) (v : Value) : (w.setCell ⟨b, j, none⟩ v).heap[b]? = some (.cells (arr.setIfInBounds j v) t fr) := by
  simp [World.setCell, Array.getElem?_modify, h]
/-- Rules and definitions so far; r's variable is the first block behind W0, the names lie in the second one. -/
structure Bq (W0 : World) (L : List Ru) (wp : Option Addr) (wm wc : Nat) (us : List Value) (D : List Df) (dp : Option Addr) (dm dc : Nat) (ds : List Value) (F : Nat → Prop) (V : World) : Prop where
  bl : Below W0.heap.size W0 V
  rv : V.heap[W0.heap.size]? = some (.cells #[.slice none 0 0, .slice dp dm dc] 27)
  nv : V.heap[W0.heap.size + 1]? = some (.cells #[.string ⟨#[98]⟩, .string ⟨#[97]⟩, .string ⟨#[99]⟩] 9)
  ow : V.ownsRow (W0.heap.size + 2) 45 2 (.slice wp wm wc) wm (rusV L us)
  ri : RusIn V F L us
  od : V.ownsRow (W0.heap.size + 2) 31 2 (.slice dp dm dc) dm (dfsV D ds)
  di : DefsIn V F D ds
  fl : ∀ b, F b → W0.heap.size + 2 ≤ b ∧ b < V.heap.size ∧ (Value.slice wp wm wc).ownBlock ≠ some b ∧ (Value.slice dp dm dc).ownBlock ≠ some b
  l1 : wm = L.length
  l2 : dm = D.length
/-- Within a definition: its variable db, its alternatives so far. -/
structure Aq (W0 : World) (L : List Ru) (wp : Option Addr) (wm wc : Nat) (us : List Value) (D : List Df) (dp : Option Addr) (dm dc : Nat) (ds : List Value) (F : Nat → Prop) (db : Nat) (nm : ByteArray) (AL : List (List Cj)) (ap : Option Addr) (am ac : Nat) (als : List Value) (V : World) : Prop where
  bq : Bq W0 L wp wm wc us D dp dm dc ds F V
  dv : V.heap[db]? = some (.cells #[.string nm, .slice ap am ac] 31)
  oa : V.ownsRow (W0.heap.size + 2) 37 1 (.slice ap am ac) am als
  ai : AltsIn V F AL als
  fa : ∀ b, F b → (Value.slice ap am ac).ownBlock ≠ some b ∧ b ≠ db
  hd : W0.heap.size + 2 ≤ db ∧ (Value.slice dp dm dc).ownBlock ≠ some db
  l3 : am = AL.length
section
variable {W0 V Z w5 : World} {L : List Ru} {wp dp ap : Option Addr} {wm wc dm dc am ac db gg cap : Nat} {us ds als : List Value} {D : List Df} {F : Nat → Prop} {nm : ByteArray} {AL : List (List Cj)}
theorem Bq.keep (q : Bq W0 L wp wm wc us D dp dm dc ds F V) (h : Below V.heap.size V Z) : Bq W0 L wp wm wc us D dp dm dc ds F Z :=
  have st : Stay F V Z := ⟨h.size, fun b hb => h.block b (q.fl b hb).2.1⟩
  ⟨q.bl.trans (h.mono q.bl.size), (h.block _ (blkB_lt q.rv)).trans q.rv, (h.block _ (blkB_lt q.nv)).trans q.nv, row_keep q.ow h, q.ri.keep st (fun _ h => h), row_keep q.od h, q.di.keep st (fun _ h => h), fun b hb => ⟨(q.fl b hb).1, Nat.lt_of_lt_of_le (q.fl b hb).2.1 h.size, (q.fl b hb).2.2⟩, q.l1, q.l2⟩
theorem Aq.keep (q : Aq W0 L wp wm wc us D dp dm dc ds F db nm AL ap am ac als V) (h : Below V.heap.size V Z) : Aq W0 L wp wm wc us D dp dm dc ds F db nm AL ap am ac als Z :=
  have st : Stay F V Z := ⟨h.size, fun b hb => h.block b (q.bq.fl b hb).2.1⟩
  ⟨q.bq.keep h, (h.block _ (blkB_lt q.dv)).trans q.dv, row_keep q.oa h, q.ai.keep st (fun _ h => h), q.fa, q.hd, q.l3⟩
theorem Bq.new (q : Bq W0 L wp wm wc us D dp dm dc ds F V) (nm : ByteArray) : Aq W0 L wp wm wc us D dp dm dc ds F V.heap.size nm [] none 0 0 [] (V.alloc (.cells #[.string nm, .slice none 0 0] 31)) := by
  have h := belB1 V (.cells #[.string nm, .slice none 0 0] 31)
  have hs := blkB_lt q.nv
  exact ⟨q.keep h, newB _ _, World.ownsRow_nil _ _ _ _, ⟨rfl, fun k c u h => by simp at h⟩, fun b hb => ⟨fun e => (by cases e), fun e => by have := (q.fl b hb).2.1; omega⟩, ⟨by omega, fun e => by have := (q.od.lt _ e).2; omega⟩, rfl⟩
/-- An alternative more; it lies behind V, ahead of Z's end. -/
theorem Aq.alt (q : Aq W0 L wp wm wc us D dp dm dc ds F db nm AL ap am ac als V) (hZ : Below V.heap.size V Z) {iv : Value} {a : List Cj} (hi : IsCjs Z (fun b => V.heap.size ≤ b ∧ b < Z.heap.size) iv a) (hg : Z.grownBy w5 (Value.slice ap am ac).ownBlock)
    (hown : w5.ownsRow (W0.heap.size + 2) 37 1 (.slice (some ⟨gg, 0, none⟩) (am + 1) cap) (am + 1) (als ++ [iv])) (hat : (Value.slice ap am ac).ownBlock = some gg ∨ gg = Z.heap.size) :
    Aq W0 L wp wm wc us D dp dm dc ds (fun b => F b ∨ (V.heap.size ≤ b ∧ b < Z.heap.size)) db nm (AL ++ [a]) (some ⟨gg, 0, none⟩) (am + 1) cap (als ++ [iv]) (w5.setCell ⟨db, 1, none⟩ (.slice (some ⟨gg, 0, none⟩) (am + 1) cap)) := by
  have qz := q.keep hZ
  have hs := hg.size
  have hzs := hZ.size
  have hV := blkB_lt q.bq.nv
  have hdl := blkB_lt q.dv
  have n1 : (Value.slice ap am ac).ownBlock ≠ some db := row_noB q.oa (by decide) q.dv
  have n2 : (Value.slice ap am ac).ownBlock ≠ some W0.heap.size := row_noB q.oa (by decide) q.bq.rv
  have n3 : (Value.slice ap am ac).ownBlock ≠ some (W0.heap.size + 1) := row_noB q.oa (by decide) q.bq.nv
  have hd5 : w5.heap[db]? = some (.cells #[.string nm, .slice ap am ac] 31) := (hg.block db (by omega) (Ne.symm n1)).trans qz.dv
  have hz : (w5.setCell ⟨db, 1, none⟩ (.slice (some ⟨gg, 0, none⟩) (am + 1) cap)).heap.size = w5.heap.size := by simp [World.setCell]
  have st : ∀ b, b ≠ db → (w5.setCell ⟨db, 1, none⟩ (.slice (some ⟨gg, 0, none⟩) (am + 1) cap)).heap[b]? = w5.heap[b]? := fun b hb => Go.Deep.blk_setCell_other _ ⟨db, 1, none⟩ _ b hb
  have ow5 := row_grown qz.bq.ow qz.oa (by decide) hg
  have od5 := row_grown qz.bq.od qz.oa (by decide) hg
  have ow6 := ownsRow_setCell_other (a := ⟨db, 1, none⟩) ow5 (row_noB ow5 (by decide) hd5) (.slice (some ⟨gg, 0, none⟩) (am + 1) cap)
  have od6 := ownsRow_setCell_other (a := ⟨db, 1, none⟩) od5 q.hd.2 (.slice (some ⟨gg, 0, none⟩) (am + 1) cap)
  have sF : Stay F Z (w5.setCell ⟨db, 1, none⟩ (.slice (some ⟨gg, 0, none⟩) (am + 1) cap)) := ⟨by omega, fun b hb => (st b (q.fa b hb).2).trans (hg.block b (by have := (qz.bq.fl b hb).2.1; omega) (Ne.symm (q.fa b hb).1))⟩
  have sN : Stay (fun b => V.heap.size ≤ b ∧ b < Z.heap.size) Z (w5.setCell ⟨db, 1, none⟩ (.slice (some ⟨gg, 0, none⟩) (am + 1) cap)) := ⟨by omega, fun b hb => (st b (by omega)).trans (hg.block b hb.2 (fun e => by have := (q.oa.lt b e.symm).2; omega))⟩
  have hgw : gg ≠ db := fun e => row_noB hown (by decide) hd5 (by rw [e]; rfl)
  refine ⟨⟨(qz.bq.bl.grown hg (by omega) (fun b e => by have := (q.oa.lt b e).1; omega)).setCell (p := ⟨db, 1, none⟩) (by show _ ≤ db; have := q.hd.1; omega) _, (st _ (by have := q.hd.1; omega)).trans ((hg.block _ (by omega) (Ne.symm n2)).trans qz.bq.rv), (st _ (by have := q.hd.1; omega)).trans ((hg.block _ (by omega) (Ne.symm n3)).trans qz.bq.nv), ow6, qz.bq.ri.keep sF (fun _ h => Or.inl h), od6, qz.bq.di.keep sF (fun _ h => Or.inl h), fun b hb => ?_, q.bq.l1, q.bq.l2⟩, setB_same hd5 _, ownsRow_setCell_other (a := ⟨db, 1, none⟩) hown (row_noB hown (by decide) hd5) _, ?_, fun b hb => ?_, q.hd, by rw [List.length_append, ← q.l3]; rfl⟩
  · rcases hb with hb | hb
    · exact ⟨(q.bq.fl b hb).1, by have := (q.bq.fl b hb).2.1; omega, (q.bq.fl b hb).2.2⟩
    · exact ⟨by omega, by omega, fun e => by have := (q.bq.ow.lt b e).2; omega, fun e => by have := (q.bq.od.lt b e).2; omega⟩
  · exact in_snoc (P := fun (c : List Cj) (u : Value) => IsCjs (w5.setCell ⟨db, 1, none⟩ (.slice (some ⟨gg, 0, none⟩) (am + 1) cap)) (fun b => F b ∨ (V.heap.size ≤ b ∧ b < Z.heap.size)) u c) q.ai.1 (fun k c u h1 h2 => (qz.ai.2 k c u h1 h2).keep sF (fun _ h => Or.inl h)) (hi.keep sN (fun _ h => Or.inr h))
  · rcases hb with hb | hb
    · refine ⟨fun e => ?_, (q.fa b hb).2⟩
      obtain rfl : gg = b := by injection e
      rcases hat with h | h
      · exact (q.fa gg hb).1 h
      · have := (q.bq.fl gg hb).2.1; omega
    · refine ⟨fun e => ?_, by omega⟩
      obtain rfl : gg = b := by injection e
      rcases hat with h | h
      · have := (q.oa.lt gg h).2; omega
      · omega
/-- A rule more. -/
theorem Aq.rule (q : Aq W0 L wp wm wc us D dp dm dc ds F db nm AL ap am ac als V) (hZ : Below V.heap.size V Z) {h : Int} {cv : Value} {cs : List Cn} (hi : IsCns Z (fun b => V.heap.size ≤ b ∧ b < Z.heap.size) cv cs) (hg : Z.grownBy w5 (Value.slice wp wm wc).ownBlock)
    (hown : w5.ownsRow (W0.heap.size + 2) 45 2 (.slice (some ⟨gg, 0, none⟩) (wm + 1) cap) (wm + 1) (rusV L us ++ [.int .i64 h, cv])) (hat : (Value.slice wp wm wc).ownBlock = some gg ∨ gg = Z.heap.size) :
    Aq W0 (L ++ [⟨h, cs⟩]) (some ⟨gg, 0, none⟩) (wm + 1) cap (us ++ [cv]) D dp dm dc ds (fun b => F b ∨ (V.heap.size ≤ b ∧ b < Z.heap.size)) db nm AL ap am ac als w5 := by
  have qz := q.keep hZ
  have hs := hg.size
  have hzs := hZ.size
  have hV := blkB_lt q.bq.nv
  have hdl := blkB_lt q.dv
  have n1 : (Value.slice wp wm wc).ownBlock ≠ some db := row_noB q.bq.ow (by decide) q.dv
  have n2 : (Value.slice wp wm wc).ownBlock ≠ some W0.heap.size := row_noB q.bq.ow (by decide) q.bq.rv
  have n3 : (Value.slice wp wm wc).ownBlock ≠ some (W0.heap.size + 1) := row_noB q.bq.ow (by decide) q.bq.nv
  have od5 := row_grown qz.bq.od qz.bq.ow (by decide) hg
  have oa5 := row_grown qz.oa qz.bq.ow (by decide) hg
  have sF : Stay F Z w5 := ⟨by omega, fun b hb => hg.block b (by have := (qz.bq.fl b hb).2.1; omega) (Ne.symm (q.bq.fl b hb).2.2.1)⟩
  have sN : Stay (fun b => V.heap.size ≤ b ∧ b < Z.heap.size) Z w5 := ⟨by omega, fun b hb => hg.block b hb.2 (fun e => by have := (q.bq.ow.lt b e.symm).2; omega)⟩
  refine ⟨⟨qz.bq.bl.grown hg (by omega) (fun b e => by have := (q.bq.ow.lt b e).1; omega), (hg.block _ (by omega) (Ne.symm n2)).trans qz.bq.rv, (hg.block _ (by omega) (Ne.symm n3)).trans qz.bq.nv, ?_, ?_, od5, qz.bq.di.keep sF (fun _ h => Or.inl h), fun b hb => ?_, by rw [List.length_append, ← q.bq.l1]; rfl, q.bq.l2⟩, (hg.block db (by omega) (Ne.symm n1)).trans qz.dv, oa5, qz.ai.keep sF (fun _ h => Or.inl h), fun b hb => ?_, q.hd, q.l3⟩
  · rw [rusV_append _ _ _ _ q.bq.ri.1]; exact hown
  · exact (qz.bq.ri.keep sF (fun _ h => Or.inl h)).snoc (c := ⟨h, cs⟩) (hi.keep sN (fun _ h => Or.inr h))
  · rcases hb with hb | hb
    · refine ⟨(q.bq.fl b hb).1, by have := (q.bq.fl b hb).2.1; omega, fun e => ?_, (q.bq.fl b hb).2.2.2⟩
      obtain rfl : gg = b := by injection e
      rcases hat with h | h
      · exact (q.bq.fl gg hb).2.2.1 h
      · have := (q.bq.fl gg hb).2.1; omega
    · refine ⟨by omega, by omega, fun e => ?_, fun e => by have := (q.bq.od.lt b e).2; omega⟩
      obtain rfl : gg = b := by injection e
      rcases hat with h | h
      · have := (q.bq.ow.lt gg h).2; omega
      · omega
  · rcases hb with hb | hb
    · exact q.fa b hb
    · exact ⟨fun e => by have := (q.oa.lt b e).2; omega, by omega⟩
/-- The definition is put behind the others. -/
theorem Aq.fin (q : Aq W0 L wp wm wc us D dp dm dc ds F db nm AL ap am ac als V) (hZ : Below V.heap.size V Z) (hg : Z.grownBy w5 (Value.slice dp dm dc).ownBlock)
    (hown : w5.ownsRow (W0.heap.size + 2) 31 2 (.slice (some ⟨gg, 0, none⟩) (dm + 1) cap) (dm + 1) (dfsV D ds ++ [.string nm, .slice ap am ac])) (hat : (Value.slice dp dm dc).ownBlock = some gg ∨ gg = Z.heap.size) :
    Bq W0 L wp wm wc us (D ++ [⟨nm, AL⟩]) (some ⟨gg, 0, none⟩) (dm + 1) cap (ds ++ [.slice ap am ac]) (fun b => F b ∨ (Value.slice ap am ac).ownBlock = some b) (w5.setCell ⟨W0.heap.size, 1, none⟩ (.slice (some ⟨gg, 0, none⟩) (dm + 1) cap)) := by
  have qz := q.keep hZ
  have hs := hg.size
  have hzs := hZ.size
  have hV := blkB_lt q.bq.nv
  have n2 : (Value.slice dp dm dc).ownBlock ≠ some W0.heap.size := row_noB q.bq.od (by decide) q.bq.rv
  have n3 : (Value.slice dp dm dc).ownBlock ≠ some (W0.heap.size + 1) := row_noB q.bq.od (by decide) q.bq.nv
  have hr5 : w5.heap[W0.heap.size]? = some (.cells #[.slice none 0 0, .slice dp dm dc] 27) := (hg.block _ (by omega) (Ne.symm n2)).trans qz.bq.rv
  have hz : (w5.setCell ⟨W0.heap.size, 1, none⟩ (.slice (some ⟨gg, 0, none⟩) (dm + 1) cap)).heap.size = w5.heap.size := by simp [World.setCell]
  have st : ∀ b, b ≠ W0.heap.size → (w5.setCell ⟨W0.heap.size, 1, none⟩ (.slice (some ⟨gg, 0, none⟩) (dm + 1) cap)).heap[b]? = w5.heap[b]? := fun b hb => Go.Deep.blk_setCell_other _ ⟨W0.heap.size, 1, none⟩ _ b hb
  have ow5 := row_grown qz.bq.ow qz.bq.od (by decide) hg
  have oa5 := row_grown qz.oa qz.bq.od (by decide) hg
  have oa6 := ownsRow_setCell_other (a := ⟨W0.heap.size, 1, none⟩) oa5 (row_noB oa5 (by decide) hr5) (.slice (some ⟨gg, 0, none⟩) (dm + 1) cap)
  have ow6 := ownsRow_setCell_other (a := ⟨W0.heap.size, 1, none⟩) ow5 (row_noB ow5 (by decide) hr5) (.slice (some ⟨gg, 0, none⟩) (dm + 1) cap)
  have sF : Stay F Z (w5.setCell ⟨W0.heap.size, 1, none⟩ (.slice (some ⟨gg, 0, none⟩) (dm + 1) cap)) := ⟨by omega, fun b hb => (st b (by have := (q.bq.fl b hb).1; omega)).trans (hg.block b (by have := (qz.bq.fl b hb).2.1; omega) (Ne.symm (q.bq.fl b hb).2.2.2))⟩
  have hoa : ∀ b, (Value.slice ap am ac).ownBlock = some b → (Value.slice dp dm dc).ownBlock ≠ some b := fun b e => row_apart q.bq.od q.oa (by decide) b |> fun h => fun e2 => h e2 e
  have hoag : ∀ b, (Value.slice ap am ac).ownBlock = some b → gg ≠ b := fun b e e2 => row_apart hown oa5 (by decide) b (by rw [e2]; rfl) e
  refine ⟨(qz.bq.bl.grown hg (by omega) (fun b e => by have := (q.bq.od.lt b e).1; omega)).setCell (p := ⟨W0.heap.size, 1, none⟩) (Nat.le_refl _) _, setB_same hr5 _, (st _ (by omega)).trans ((hg.block _ (by omega) (Ne.symm n3)).trans qz.bq.nv), ow6, qz.bq.ri.keep sF (fun _ h => Or.inl h), ?_, ?_, fun b hb => ?_, q.bq.l1, by rw [List.length_append, ← q.bq.l2]; rfl⟩
  · rw [dfsV_append _ _ _ _ q.bq.di.1]
    exact ownsRow_setCell_other (a := ⟨W0.heap.size, 1, none⟩) hown (row_noB hown (by decide) hr5) _
  · refine in_snoc (P := fun (c : Df) (u : Value) => IsAlts (w5.setCell ⟨W0.heap.size, 1, none⟩ (.slice (some ⟨gg, 0, none⟩) (dm + 1) cap)) (fun b => F b ∨ (Value.slice ap am ac).ownBlock = some b) u c.alts) q.bq.di.1 (fun k c u h1 h2 => (qz.bq.di.2 k c u h1 h2).keep sF (fun _ h => Or.inl h)) ⟨als, ?_, qz.ai.keep sF (fun _ h => Or.inl h)⟩
    show Reads _ _ _ AL.length _
    rw [← q.l3]
    exact Reads.of oa6 (fun b e => Or.inr e)
  · rcases hb with hb | hb
    · refine ⟨(q.bq.fl b hb).1, by have := (q.bq.fl b hb).2.1; omega, (q.bq.fl b hb).2.2.1, fun e => ?_⟩
      obtain rfl : gg = b := by injection e
      rcases hat with h | h
      · exact (q.bq.fl gg hb).2.2.2 h
      · have := (q.bq.fl gg hb).2.1; omega
    · have h1 := q.oa.lt b hb
      exact ⟨h1.1, by omega, fun e => row_apart q.bq.ow q.oa (by decide) b e hb, fun e => hoag b hb (by injection e)⟩
end
end Go.Proofs.Ytlgmnhgfcijafaa
