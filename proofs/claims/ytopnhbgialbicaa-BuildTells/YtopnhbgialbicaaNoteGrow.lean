/- The parser's rows grow; a part that is shut is handed on. No program in sight. -/
import Derived.Test.YtopnhbgialbicaaNoteMem
namespace Go.Proofs.Ytopnhbgialbicaa
open Go.RowKit

structure Cells (B : Nat) (st : Nat) (vs vd : Value) (start name : ByteArray) (va vl : Value) (neg : Bool) (vi : Value) (w : World) : Prop where
  c0 : w.cell? ⟨B, 0, none⟩ = some (.int .i64 (st : Int))
  c1 : w.cell? ⟨B, 1, none⟩ = some vs
  c2 : w.cell? ⟨B, 2, none⟩ = some vd
  c3 : w.cell? ⟨B, 3, none⟩ = some (.string start)
  c4 : w.cell? ⟨B, 4, none⟩ = some (.string name)
  c5 : w.cell? ⟨B, 5, none⟩ = some va
  c6 : w.cell? ⟨B, 6, none⟩ = some vl
  c7 : w.cell? ⟨B, 7, none⟩ = some (.bool neg)
  c8 : w.cell? ⟨B, 8, none⟩ = some vi
section
variable {w w' : World} {B : Nat} {st : Nat} {vs vd : Value} {start name : ByteArray} {va vl : Value} {neg : Bool} {vi : Value}
theorem Cells.same (h : Cells B st vs vd start name va vl neg vi w) (hc : ∀ j, w'.cell? ⟨B, j, none⟩ = w.cell? ⟨B, j, none⟩) : Cells B st vs vd start name va vl neg vi w' :=
  ⟨(hc 0).trans h.c0, (hc 1).trans h.c1, (hc 2).trans h.c2, (hc 3).trans h.c3, (hc 4).trans h.c4, (hc 5).trans h.c5, (hc 6).trans h.c6, (hc 7).trans h.c7, (hc 8).trans h.c8⟩
theorem Cells.set0 (h : Cells B st vs vd start name va vl neg vi w) (st' : Nat) : Cells B st' vs vd start name va vl neg vi (w.setCell ⟨B, 0, none⟩ (.int .i64 (st' : Int))) := by
  have hc : ∀ j, j ≠ 0 → (w.setCell ⟨B, 0, none⟩ (.int .i64 (st' : Int))).cell? ⟨B, j, none⟩ = w.cell? ⟨B, j, none⟩ := fun j hj => World.cell?_setCell_other _ _ _ _ (ne_off (Ne.symm hj))
  exact ⟨World.cell?_setCell_same _ _ _ h.c0, (hc 1 (by decide)).trans h.c1, (hc 2 (by decide)).trans h.c2, (hc 3 (by decide)).trans h.c3, (hc 4 (by decide)).trans h.c4, (hc 5 (by decide)).trans h.c5, (hc 6 (by decide)).trans h.c6, (hc 7 (by decide)).trans h.c7, (hc 8 (by decide)).trans h.c8⟩
theorem Cells.set1 (h : Cells B st vs vd start name va vl neg vi w) (vs' : Value) : Cells B st vs' vd start name va vl neg vi (w.setCell ⟨B, 1, none⟩ vs') := by
  have hc : ∀ j, j ≠ 1 → (w.setCell ⟨B, 1, none⟩ vs').cell? ⟨B, j, none⟩ = w.cell? ⟨B, j, none⟩ := fun j hj => World.cell?_setCell_other _ _ _ _ (ne_off (Ne.symm hj))
  exact ⟨(hc 0 (by decide)).trans h.c0, World.cell?_setCell_same _ _ _ h.c1, (hc 2 (by decide)).trans h.c2, (hc 3 (by decide)).trans h.c3, (hc 4 (by decide)).trans h.c4, (hc 5 (by decide)).trans h.c5, (hc 6 (by decide)).trans h.c6, (hc 7 (by decide)).trans h.c7, (hc 8 (by decide)).trans h.c8⟩
theorem Cells.set2 (h : Cells B st vs vd start name va vl neg vi w) (vd' : Value) : Cells B st vs vd' start name va vl neg vi (w.setCell ⟨B, 2, none⟩ vd') := by
  have hc : ∀ j, j ≠ 2 → (w.setCell ⟨B, 2, none⟩ vd').cell? ⟨B, j, none⟩ = w.cell? ⟨B, j, none⟩ := fun j hj => World.cell?_setCell_other _ _ _ _ (ne_off (Ne.symm hj))
  exact ⟨(hc 0 (by decide)).trans h.c0, (hc 1 (by decide)).trans h.c1, World.cell?_setCell_same _ _ _ h.c2, (hc 3 (by decide)).trans h.c3, (hc 4 (by decide)).trans h.c4, (hc 5 (by decide)).trans h.c5, (hc 6 (by decide)).trans h.c6, (hc 7 (by decide)).trans h.c7, (hc 8 (by decide)).trans h.c8⟩
theorem Cells.set3 (h : Cells B st vs vd start name va vl neg vi w) (start' : ByteArray) : Cells B st vs vd start' name va vl neg vi (w.setCell ⟨B, 3, none⟩ (.string start')) := by
  have hc : ∀ j, j ≠ 3 → (w.setCell ⟨B, 3, none⟩ (.string start')).cell? ⟨B, j, none⟩ = w.cell? ⟨B, j, none⟩ := fun j hj => World.cell?_setCell_other _ _ _ _ (ne_off (Ne.symm hj))
  exact ⟨(hc 0 (by decide)).trans h.c0, (hc 1 (by decide)).trans h.c1, (hc 2 (by decide)).trans h.c2, World.cell?_setCell_same _ _ _ h.c3, (hc 4 (by decide)).trans h.c4, (hc 5 (by decide)).trans h.c5, (hc 6 (by decide)).trans h.c6, (hc 7 (by decide)).trans h.c7, (hc 8 (by decide)).trans h.c8⟩
theorem Cells.set4 (h : Cells B st vs vd start name va vl neg vi w) (name' : ByteArray) : Cells B st vs vd start name' va vl neg vi (w.setCell ⟨B, 4, none⟩ (.string name')) := by
  have hc : ∀ j, j ≠ 4 → (w.setCell ⟨B, 4, none⟩ (.string name')).cell? ⟨B, j, none⟩ = w.cell? ⟨B, j, none⟩ := fun j hj => World.cell?_setCell_other _ _ _ _ (ne_off (Ne.symm hj))
  exact ⟨(hc 0 (by decide)).trans h.c0, (hc 1 (by decide)).trans h.c1, (hc 2 (by decide)).trans h.c2, (hc 3 (by decide)).trans h.c3, World.cell?_setCell_same _ _ _ h.c4, (hc 5 (by decide)).trans h.c5, (hc 6 (by decide)).trans h.c6, (hc 7 (by decide)).trans h.c7, (hc 8 (by decide)).trans h.c8⟩
theorem Cells.set5 (h : Cells B st vs vd start name va vl neg vi w) (va' : Value) : Cells B st vs vd start name va' vl neg vi (w.setCell ⟨B, 5, none⟩ va') := by
  have hc : ∀ j, j ≠ 5 → (w.setCell ⟨B, 5, none⟩ va').cell? ⟨B, j, none⟩ = w.cell? ⟨B, j, none⟩ := fun j hj => World.cell?_setCell_other _ _ _ _ (ne_off (Ne.symm hj))
  exact ⟨(hc 0 (by decide)).trans h.c0, (hc 1 (by decide)).trans h.c1, (hc 2 (by decide)).trans h.c2, (hc 3 (by decide)).trans h.c3, (hc 4 (by decide)).trans h.c4, World.cell?_setCell_same _ _ _ h.c5, (hc 6 (by decide)).trans h.c6, (hc 7 (by decide)).trans h.c7, (hc 8 (by decide)).trans h.c8⟩
theorem Cells.set6 (h : Cells B st vs vd start name va vl neg vi w) (vl' : Value) : Cells B st vs vd start name va vl' neg vi (w.setCell ⟨B, 6, none⟩ vl') := by
  have hc : ∀ j, j ≠ 6 → (w.setCell ⟨B, 6, none⟩ vl').cell? ⟨B, j, none⟩ = w.cell? ⟨B, j, none⟩ := fun j hj => World.cell?_setCell_other _ _ _ _ (ne_off (Ne.symm hj))
  exact ⟨(hc 0 (by decide)).trans h.c0, (hc 1 (by decide)).trans h.c1, (hc 2 (by decide)).trans h.c2, (hc 3 (by decide)).trans h.c3, (hc 4 (by decide)).trans h.c4, (hc 5 (by decide)).trans h.c5, World.cell?_setCell_same _ _ _ h.c6, (hc 7 (by decide)).trans h.c7, (hc 8 (by decide)).trans h.c8⟩
theorem Cells.set7 (h : Cells B st vs vd start name va vl neg vi w) (neg' : Bool) : Cells B st vs vd start name va vl neg' vi (w.setCell ⟨B, 7, none⟩ (.bool neg')) := by
  have hc : ∀ j, j ≠ 7 → (w.setCell ⟨B, 7, none⟩ (.bool neg')).cell? ⟨B, j, none⟩ = w.cell? ⟨B, j, none⟩ := fun j hj => World.cell?_setCell_other _ _ _ _ (ne_off (Ne.symm hj))
  exact ⟨(hc 0 (by decide)).trans h.c0, (hc 1 (by decide)).trans h.c1, (hc 2 (by decide)).trans h.c2, (hc 3 (by decide)).trans h.c3, (hc 4 (by decide)).trans h.c4, (hc 5 (by decide)).trans h.c5, (hc 6 (by decide)).trans h.c6, World.cell?_setCell_same _ _ _ h.c7, (hc 8 (by decide)).trans h.c8⟩
theorem Cells.set8 (h : Cells B st vs vd start name va vl neg vi w) (vi' : Value) : Cells B st vs vd start name va vl neg vi' (w.setCell ⟨B, 8, none⟩ vi') := by
  have hc : ∀ j, j ≠ 8 → (w.setCell ⟨B, 8, none⟩ vi').cell? ⟨B, j, none⟩ = w.cell? ⟨B, j, none⟩ := fun j hj => World.cell?_setCell_other _ _ _ _ (ne_off (Ne.symm hj))
  exact ⟨(hc 0 (by decide)).trans h.c0, (hc 1 (by decide)).trans h.c1, (hc 2 (by decide)).trans h.c2, (hc 3 (by decide)).trans h.c3, (hc 4 (by decide)).trans h.c4, (hc 5 (by decide)).trans h.c5, (hc 6 (by decide)).trans h.c6, (hc 7 (by decide)).trans h.c7, World.cell?_setCell_same _ _ _ h.c8⟩
end

section
variable {W w w1 : World} {B : Nat} {F : Nat → Prop} {p : Pm} {x : Px}
theorem Core.growS (h : Core W B F p x w) {v' : Value} {t : ByteArray} (hg : w.grownBy w1 x.vs.ownBlock) (o : w1.ownsRow (B + 1) 9 1 v' (p.starts.length + 1) (txV p.starts ++ [.string t])) (hn : ∀ b, v'.ownBlock = some b → ¬ F b) :
    Core W B F ⟨p.st, p.starts ++ [t], p.defs, p.start, p.name, p.alts, p.alt, p.neg, p.items⟩ ⟨v', x.vd, x.va, x.vl, x.vi, x.dv, x.av, x.cv⟩ w1 := by
  obtain ⟨hs, -, hz, hb, hl, hf⟩ := h.grow hg (row_out h.os h.ns)
  have hi := fun (b : Nat) (hF : F b) => hF
  exact ⟨hf, by show w1.ownsRow _ _ _ _ (p.starts ++ [t]).length (txV (p.starts ++ [t])); rw [List.length_append, txV, List.map_append]; exact o, row_grown h.od h.os (by decide) hg, row_grown h.oa h.os (by decide) hg, row_grown h.ol h.os (by decide) hg, row_grown h.oi h.os (by decide) hg, hn, h.nd, h.na, h.nl, h.ni, h.id.keep hs hi, h.ia.keep hs hi, h.il.keep hs hi, hz, hb, hl⟩
theorem Core.growI (h : Core W B F p x w) {v' : Value} {t : It} (hg : w.grownBy w1 x.vi.ownBlock) (o : w1.ownsRow (B + 1) 40 4 v' (p.items.length + 1) (itsV p.items ++ itV t)) (hn : ∀ b, v'.ownBlock = some b → ¬ F b) :
    Core W B F ⟨p.st, p.starts, p.defs, p.start, p.name, p.alts, p.alt, p.neg, p.items ++ [t]⟩ ⟨x.vs, x.vd, x.va, x.vl, v', x.dv, x.av, x.cv⟩ w1 := by
  obtain ⟨hs, -, hz, hb, hl, hf⟩ := h.grow hg (row_out h.oi h.ni)
  have hi := fun (b : Nat) (hF : F b) => hF
  exact ⟨hf, row_grown h.os h.oi (by decide) hg, row_grown h.od h.oi (by decide) hg, row_grown h.oa h.oi (by decide) hg, row_grown h.ol h.oi (by decide) hg, by show w1.ownsRow _ _ _ _ (p.items ++ [t]).length (itsV (p.items ++ [t])); rw [List.length_append, itsV_append]; simpa [itsV] using o, h.ns, h.nd, h.na, h.nl, hn, h.id.keep hs hi, h.ia.keep hs hi, h.il.keep hs hi, hz, hb, hl⟩
theorem nil_not (P : Nat → Prop) : ∀ b, (Value.slice none 0 0).ownBlock = some b → ¬ P b := fun b h => by cases h
theorem not_or {v u : Value} {e e' size size' n n' base base' : Nat} {cs cs' : List Value} (hn : ∀ b, v.ownBlock = some b → ¬ F b) (o : w.ownsRow base e size v n cs) (o' : w.ownsRow base' e' size' u n' cs') (he : e ≠ e') : ∀ b, v.ownBlock = some b → ¬ (F b ∨ u.ownBlock = some b) := by
  intro b hb hF
  rcases hF with hF | hF
  · exact hn b hb hF
  · exact row_apart o o' he b hb hF
theorem Core.shutC (h : Core W B F p x w) {v' : Value} (hg : w.grownBy w1 x.vl.ownBlock) (o : w1.ownsRow (B + 1) 43 2 v' (p.alt.length + 1) (cjsV p.alt x.cv ++ [.bool p.neg, x.vi])) (hn : ∀ b, v'.ownBlock = some b → ¬ F b) :
    Core W B (fun b => F b ∨ x.vi.ownBlock = some b) (sConj p) ⟨x.vs, x.vd, x.va, v', .slice none 0 0, x.dv, x.av, x.cv ++ [x.vi]⟩ w1 := by
  obtain ⟨hs, -, hz, hb, hl, hf⟩ := h.grow hg (row_out h.ol h.nl)
  have hi := fun (b : Nat) (hF : F b) => (Or.inl hF : F b ∨ x.vi.ownBlock = some b)
  have o1 := row_grown h.os h.ol (by decide) hg
  have o2 := row_grown h.od h.ol (by decide) hg
  have o3 := row_grown h.oa h.ol (by decide) hg
  have o5 := row_grown h.oi h.ol (by decide) hg
  refine ⟨fun b hF => ?_, o1, o2, o3, ?_, World.ownsRow_nil _ _ _ _, not_or h.ns o1 o5 (by decide), not_or h.nd o2 o5 (by decide), not_or h.na o3 o5 (by decide), not_or hn o o5 (by decide), nil_not _, h.id.keep hs hi, h.ia.keep hs hi, ?_, hz, hb, hl⟩
  · rcases hF with hF | hF
    · exact hf b hF
    · have := o5.lt b hF; omega
  · show w1.ownsRow _ _ _ _ (p.alt ++ [_]).length (cjsV (p.alt ++ [⟨p.neg, p.items⟩]) (x.cv ++ [x.vi]))
    rw [List.length_append, cjsV_append _ _ _ _ h.il.1]; exact o
  · have := h.il.keep hs hi
    exact in_snoc this.1 this.2 (Reads.of o5 (fun b hb => Or.inr hb))
theorem Core.shutA (h : Core W B F p x w) {v' : Value} (hg : w.grownBy w1 x.va.ownBlock) (o : w1.ownsRow (B + 1) 44 1 v' (p.alts.length + 1) (x.av ++ [x.vl])) (hn : ∀ b, v'.ownBlock = some b → ¬ F b) :
    Core W B (fun b => F b ∨ x.vl.ownBlock = some b) ⟨p.st, p.starts, p.defs, p.start, p.name, p.alts ++ [p.alt], [], p.neg, p.items⟩ ⟨x.vs, x.vd, v', .slice none 0 0, x.vi, x.dv, x.av ++ [x.vl], []⟩ w1 := by
  obtain ⟨hs, -, hz, hb, hl, hf⟩ := h.grow hg (row_out h.oa h.na)
  have hi := fun (b : Nat) (hF : F b) => (Or.inl hF : F b ∨ x.vl.ownBlock = some b)
  have o1 := row_grown h.os h.oa (by decide) hg
  have o2 := row_grown h.od h.oa (by decide) hg
  have o4 := row_grown h.ol h.oa (by decide) hg
  have o5 := row_grown h.oi h.oa (by decide) hg
  refine ⟨fun b hF => ?_, o1, o2, ?_, World.ownsRow_nil _ _ _ _, o5, not_or h.ns o1 o4 (by decide), not_or h.nd o2 o4 (by decide), not_or hn o o4 (by decide), nil_not _, not_or h.ni o5 o4 (by decide), h.id.keep hs hi, ?_, ⟨rfl, fun k c u h1 => by simp at h1⟩, hz, hb, hl⟩
  · rcases hF with hF | hF
    · exact hf b hF
    · have := o4.lt b hF; omega
  · show w1.ownsRow _ _ _ _ (p.alts ++ [_]).length (x.av ++ [x.vl])
    rw [List.length_append]; exact o
  · have := h.ia.keep hs hi
    exact in_snoc this.1 this.2 ⟨x.cv, Reads.of o4 (fun b hb => Or.inr hb), h.il.keep hs hi⟩
theorem Core.shutD (h : Core W B F p x w) {v' : Value} (hg : w.grownBy w1 x.vd.ownBlock) (o : w1.ownsRow (B + 1) 35 2 v' (p.defs.length + 1) (dfsV p.defs x.dv ++ [.string p.name, x.va])) (hn : ∀ b, v'.ownBlock = some b → ¬ F b) :
    Core W B (fun b => F b ∨ x.va.ownBlock = some b) ⟨p.st, p.starts, p.defs ++ [⟨p.name, p.alts⟩], p.start, ⟨#[]⟩, [], p.alt, p.neg, p.items⟩ ⟨x.vs, v', .slice none 0 0, x.vl, x.vi, x.dv ++ [x.va], [], x.cv⟩ w1 := by
  obtain ⟨hs, -, hz, hb, hl, hf⟩ := h.grow hg (row_out h.od h.nd)
  have hi := fun (b : Nat) (hF : F b) => (Or.inl hF : F b ∨ x.va.ownBlock = some b)
  have o1 := row_grown h.os h.od (by decide) hg
  have o3 := row_grown h.oa h.od (by decide) hg
  have o4 := row_grown h.ol h.od (by decide) hg
  have o5 := row_grown h.oi h.od (by decide) hg
  refine ⟨fun b hF => ?_, o1, ?_, World.ownsRow_nil _ _ _ _, o4, o5, not_or h.ns o1 o3 (by decide), not_or hn o o3 (by decide), nil_not _, not_or h.nl o4 o3 (by decide), not_or h.ni o5 o3 (by decide), ?_, ⟨rfl, fun k c u h1 => by simp at h1⟩, h.il.keep hs hi, hz, hb, hl⟩
  · rcases hF with hF | hF
    · exact hf b hF
    · have := o3.lt b hF; omega
  · show w1.ownsRow _ _ _ _ (p.defs ++ [_]).length (dfsV (p.defs ++ [⟨p.name, p.alts⟩]) (x.dv ++ [x.va]))
    rw [List.length_append, dfsV_append _ _ _ _ h.id.1]; exact o
  · have := h.id.keep hs hi
    exact in_snoc this.1 this.2 ⟨x.av, Reads.of o3 (fun b hb => Or.inr hb), h.ia.keep hs hi⟩
end
/-- Block B of w is a parser in state p; below B all is as in W. -/
def Pr (W : World) (B : Nat) (p : Pm) (w : World) : Prop := ∃ F x, Core W B F p x w ∧ Cells B p.st x.vs x.vd p.start p.name x.va x.vl p.neg x.vi w
theorem Pr.keep {W w w' : World} {B : Nat} {p : Pm} (h : Pr W B p w) (hb : Below w.heap.size w w') : Pr W B p w' := by
  obtain ⟨F, x, hc, hx⟩ := h
  exact ⟨F, x, hc.keep hb, hx.same fun j => hb.cell (p := ⟨B, j, none⟩) hc.lt⟩
theorem Pr.new (w : World) (t : TypeId) : Pr w w.heap.size pm0 (w.alloc (.cells #[.int .i64 0, .slice none 0 0, .slice none 0 0, .string ⟨#[]⟩, .string ⟨#[]⟩, .slice none 0 0, .slice none 0 0, .bool false, .slice none 0 0] t)) := by
  have hc : ∀ j, (w.alloc (.cells #[.int .i64 0, .slice none 0 0, .slice none 0 0, .string ⟨#[]⟩, .string ⟨#[]⟩, .slice none 0 0, .slice none 0 0, .bool false, .slice none 0 0] t)).cell? ⟨w.heap.size, j, none⟩ = _ := fun j => World.cell?_alloc_at _ _ _ _ rfl
  refine ⟨fun _ => False, ⟨.slice none 0 0, .slice none 0 0, .slice none 0 0, .slice none 0 0, .slice none 0 0, [], [], []⟩, ⟨fun b h => h.elim, World.ownsRow_nil _ _ _ _, World.ownsRow_nil _ _ _ _, World.ownsRow_nil _ _ _ _, World.ownsRow_nil _ _ _ _, World.ownsRow_nil _ _ _ _, nil_not _, nil_not _, nil_not _, nil_not _, nil_not _, ⟨rfl, fun k c u h1 => by simp [pm0] at h1⟩, ⟨rfl, fun k c u h1 => by simp [pm0] at h1⟩, ⟨rfl, fun k c u h1 => by simp [pm0] at h1⟩, fun j => World.frozen?_alloc_at _ _ _ _ rfl, (Below.refl _ _).alloc (Nat.le_refl _) _, by simp⟩,
    ⟨hc 0, hc 1, hc 2, hc 3, hc 4, hc 5, hc 6, hc 7, hc 8⟩⟩
end Go.Proofs.Ytopnhbgialbicaa
