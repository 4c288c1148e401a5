/- A grammar's variable that is being filled beside a row of edges. No program in sight. -/
import Derived.Test.YtfjejnkjlnkkhaaGreatDoorGramVar
import Derived.Test.YtfjejnkjlnkkhaaGreatDoorGj
namespace Go.Proofs.YtfjejnkjlnkkhaaGreatDoor
set_option linter.unusedVariables false
open Go.RowKit

section
variable {W w w' w1 w2 : World} {gb : Nat} {F Fc : Nat → Prop} {st : Int} {ns : List ByteArray} {nv o : Value} {L : List Ru} {us : List Value}
/-- A rule more, whose conjuncts lie in blocks apart. -/
theorem GV.ruleG (m : GV W gb F st ns nv L us o w1) {h : Int} {c : Value} {cs : List Cn} (hc : IsCns w1 Fc c cs) (hFc : ∀ b, Fc b → W.heap.size ≤ b ∧ b < w1.heap.size ∧ b ≠ gb ∧ nv.ownBlock ≠ some b ∧ o.ownBlock ≠ some b) {n g cap : Nat} (hn : L.length = n)
    (hg : (w1.alloc (.cells #[.int .i64 h, c] 53)).grownBy w2 o.ownBlock) (hown : w2.ownsRow W.heap.size 53 2 (.slice (some ⟨g, 0, none⟩) (n + 1) cap) (n + 1) (rusV L us ++ [.int .i64 h, c]))
    (hat : o.ownBlock = some g ∨ g = w1.heap.size + 1) {L' : List Ru} (hL : L' = L ++ [⟨h, cs⟩]) :
    GV W gb (fun b => F b ∨ Fc b) st ns nv L' (us ++ [c]) (.slice (some ⟨g, 0, none⟩) (n + 1) cap) (w2.setCell ⟨gb, 2, none⟩ (.slice (some ⟨g, 0, none⟩) (n + 1) cap)) := by
  subst hn hL
  have m1 := m.keep (bel1 w1 (.cells #[.int .i64 h, c] 53))
  have hc1 := hc.any (bel1 w1 (.cells #[.int .i64 h, c] 53))
  have hz3 : (w1.alloc (.cells #[.int .i64 h, c] 53)).heap.size = w1.heap.size + 1 := by simp
  generalize w1.alloc (.cells #[.int .i64 h, c] 53) = w3 at hg m1 hc1 hz3
  have hgb : o.ownBlock ≠ some gb := row_no m1.m0.oo (by decide) m1.vb
  have hvb : w2.heap[gb]? = some (.cells #[.int .i64 st, nv, o] 25) := (hg.block gb (block_lt m1.vb) (Ne.symm hgb)).trans m1.vb
  have hgl := block_lt m.vb
  have hgs := hg.size
  have hbs := m1.m0.bl.size
  have hS : Stay (fun b => F b ∨ Fc b) w3 (w2.setCell ⟨gb, 2, none⟩ (.slice (some ⟨g, 0, none⟩) (L.length + 1) cap)) := by
    refine ⟨by simpa [World.setCell] using hgs, fun b hF => ?_⟩
    have hne : b ≠ gb := fun e => by
      subst e
      rcases hF with hF | hF
      · exact m.gF hF
      · exact (hFc b hF).2.2.1 rfl
    have hlt : b < w3.heap.size := by
      rcases hF with hF | hF
      · exact (m1.m0.fl b hF).2
      · have := (hFc b hF).2.1; omega
    have hob : some b ≠ o.ownBlock := fun e => by
      rcases hF with hF | hF
      · exact m.m0.no b e.symm hF
      · exact (hFc b hF).2.2.2.2 e.symm
    exact (Go.Deep.blk_setCell_other w2 ⟨gb, 2, none⟩ _ b hne).trans (hg.block b hlt hob)
  have hz : (w2.setCell ⟨gb, 2, none⟩ (.slice (some ⟨g, 0, none⟩) (L.length + 1) cap)).heap.size = w2.heap.size := by simp [World.setCell]
  have hgn : g ≠ gb := fun e => by
    subst e
    rcases hat with e3 | e3
    · exact hgb e3
    · omega
  refine ⟨⟨fun b hF => ?_, ?_, fun b e hF => ?_, ?_, ?_⟩, ?_, fun b e hF => ?_, ?_, fun hF => ?_, m.gg⟩
  · rw [hz]
    rcases hF with hF | hF
    · exact ⟨(m1.m0.fl b hF).1, Nat.lt_of_lt_of_le (m1.m0.fl b hF).2 hgs⟩
    · have := hFc b hF
      exact ⟨this.1, by omega⟩
  · rw [List.length_append, rusV_append _ _ _ _ m.m0.ri.1]
    exact ownsRow_setCell_other (a := ⟨gb, 2, none⟩) hown (fun e => hgn (by injection e)) _
  · obtain rfl : g = b := by injection e
    rcases hF with hF | hF
    · rcases hat with e3 | e3
      · exact m.m0.no g e3 hF
      · have := (m.m0.fl g hF).2; omega
    · rcases hat with e3 | e3
      · exact (hFc g hF).2.2.2.2 e3
      · have := (hFc g hF).2.1; omega
  · have r1 := m1.m0.ri.keep (F' := fun b => F b ∨ Fc b) ⟨hS.size, fun b hF => hS.blk b (Or.inl hF)⟩ (fun b hF => Or.inl hF)
    exact r1.snoc (c := ⟨h, cs⟩) (hc1.keep ⟨hS.size, fun b hF => hS.blk b (Or.inr hF)⟩ (fun b hF => Or.inr hF))
  · exact (m1.m0.bl.grown hg (by omega) (fun k hk => (m1.m0.oo.lt k hk).1)).setCell (p := ⟨gb, 2, none⟩) m.gg _
  · exact ownsRow_setCell_other (a := ⟨gb, 2, none⟩) (row_grown m1.on m1.m0.oo (by decide) hg) (row_no m1.on (by decide) m1.vb) _
  · rcases hF with hF | hF
    · exact m.nn b e hF
    · exact (hFc b hF).2.2.2.1 e
  · exact heap_setCell_same w2 gb 2 _ _ _ hvb
  · rcases hF with hF | hF
    · exact m.gF hF
    · exact (hFc gb hF).2.2.1 rfl
end
end Go.Proofs.YtfjejnkjlnkkhaaGreatDoor
