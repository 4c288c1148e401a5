/- A grammar with a name and two rules more. -/
import Derived.Test.YtfjejnkjlnkkhaaGreatDoorOneW
namespace Go.Proofs.YtfjejnkjlnkkhaaGreatDoor
set_option linter.unusedVariables false
set_option linter.unusedSimpArgs false
open Go.ChangeShapes Go.WideShapes Go.ChangeAt Go.RowKit

section
variable {B W w w' w1 w2 : World} {gb : Nat} {F Fc : Nat → Prop} {st : Int} {ns : List ByteArray} {nv o : Value} {L : List Ru} {us : List Value}
theorem GV.ruleG2 (m : GV W gb F st ns nv L us o w1) {h h2 : Int} {c c2 : Value} {cs cs2 : List Cn} (hc : IsCns w1 Fc c cs) (hc2 : IsCns w1 Fc c2 cs2) (hFc : ∀ b, Fc b → W.heap.size ≤ b ∧ b < w1.heap.size ∧ b ≠ gb ∧ nv.ownBlock ≠ some b ∧ o.ownBlock ≠ some b) {n g cap : Nat} (hn : L.length = n)
    (hg : (w1.alloc (.cells #[.int .i64 h, c, .int .i64 h2, c2] 53)).grownBy w2 o.ownBlock) (hown : w2.ownsRow W.heap.size 53 2 (.slice (some ⟨g, 0, none⟩) (n + 2) cap) (n + 2) (rusV L us ++ [.int .i64 h, c, .int .i64 h2, c2]))
    (hat : o.ownBlock = some g ∨ g = w1.heap.size + 1) {L' : List Ru} (hL : L' = L ++ [⟨h, cs⟩, ⟨h2, cs2⟩]) :
    GV W gb (fun b => F b ∨ Fc b) st ns nv L' (us ++ [c, c2]) (.slice (some ⟨g, 0, none⟩) (n + 2) cap) (w2.setCell ⟨gb, 2, none⟩ (.slice (some ⟨g, 0, none⟩) (n + 2) cap)) := by
  subst hn hL
  have m1 := m.keep (bel1 w1 (.cells #[.int .i64 h, c, .int .i64 h2, c2] 53))
  have hc1 := hc.any (bel1 w1 (.cells #[.int .i64 h, c, .int .i64 h2, c2] 53))
  have hc9 := hc2.any (bel1 w1 (.cells #[.int .i64 h, c, .int .i64 h2, c2] 53))
  have hz3 : (w1.alloc (.cells #[.int .i64 h, c, .int .i64 h2, c2] 53)).heap.size = w1.heap.size + 1 := by simp
  generalize w1.alloc (.cells #[.int .i64 h, c, .int .i64 h2, c2] 53) = w3 at hg m1 hc1 hc9 hz3
  have hgb : o.ownBlock ≠ some gb := row_no m1.m0.oo (by decide) m1.vb
  have hvb : w2.heap[gb]? = some (.cells #[.int .i64 st, nv, o] 25) := (hg.block gb (block_lt m1.vb) (Ne.symm hgb)).trans m1.vb
  have hgl := block_lt m.vb
  have hgs := hg.size
  have hbs := m1.m0.bl.size
  have hS : Stay (fun b => F b ∨ Fc b) w3 (w2.setCell ⟨gb, 2, none⟩ (.slice (some ⟨g, 0, none⟩) (L.length + 2) cap)) := by
    refine ⟨by simpa [World.setCell] using hgs, fun b hF => ?_⟩
    have hne : b ≠ gb := fun e => by
      subst e
      rcases hF with hF | hF
      · exact m.gF hF
      · exact (hFc b hF).2.2.1 rfl
    have hlt : b < w3.heap.size := by
      rcases hF with hF | hF
      · exact (m1.m0.fl b hF).2
      · have := (hFc b hF).2.1; omega
    have hob : some b ≠ o.ownBlock := fun e => by
      rcases hF with hF | hF
      · exact m.m0.no b e.symm hF
      · exact (hFc b hF).2.2.2.2 e.symm
    exact (Go.Deep.blk_setCell_other w2 ⟨gb, 2, none⟩ _ b hne).trans (hg.block b hlt hob)
  have hz : (w2.setCell ⟨gb, 2, none⟩ (.slice (some ⟨g, 0, none⟩) (L.length + 2) cap)).heap.size = w2.heap.size := by simp [World.setCell]
  have hgn : g ≠ gb := fun e => by
    subst e
    rcases hat with e3 | e3
    · exact hgb e3
    · omega
  refine ⟨⟨fun b hF => ?_, ?_, fun b e hF => ?_, ?_, ?_⟩, ?_, fun b e hF => ?_, ?_, fun hF => ?_, m.gg⟩
  · rw [hz]
    rcases hF with hF | hF
    · exact ⟨(m1.m0.fl b hF).1, Nat.lt_of_lt_of_le (m1.m0.fl b hF).2 hgs⟩
    · have := hFc b hF
      exact ⟨this.1, by omega⟩
  · have e9 : rusV (L ++ [⟨h, cs⟩, ⟨h2, cs2⟩]) (us ++ [c, c2]) = rusV L us ++ [.int .i64 h, c, .int .i64 h2, c2] := by
      rw [show L ++ [⟨h, cs⟩, ⟨h2, cs2⟩] = L ++ [⟨h, cs⟩] ++ [⟨h2, cs2⟩] by simp, show us ++ [c, c2] = us ++ [c] ++ [c2] by simp, rusV_append _ _ _ _ (by simp [m.m0.ri.1]), rusV_append _ _ _ _ m.m0.ri.1]
      simp
    rw [List.length_append, e9]
    exact ownsRow_setCell_other (a := ⟨gb, 2, none⟩) hown (fun e => hgn (by injection e)) _
  · obtain rfl : g = b := by injection e
    rcases hF with hF | hF
    · rcases hat with e3 | e3
      · exact m.m0.no g e3 hF
      · have := (m.m0.fl g hF).2; omega
    · rcases hat with e3 | e3
      · exact (hFc g hF).2.2.2.2 e3
      · have := (hFc g hF).2.1; omega
  · have r1 := m1.m0.ri.keep (F' := fun b => F b ∨ Fc b) ⟨hS.size, fun b hF => hS.blk b (Or.inl hF)⟩ (fun b hF => Or.inl hF)
    have r2 := (r1.snoc (c := ⟨h, cs⟩) (hc1.keep ⟨hS.size, fun b hF => hS.blk b (Or.inr hF)⟩ (fun b hF => Or.inr hF))).snoc (c := ⟨h2, cs2⟩) (hc9.keep ⟨hS.size, fun b hF => hS.blk b (Or.inr hF)⟩ (fun b hF => Or.inr hF))
    rw [List.append_assoc, List.append_assoc] at r2
    exact r2
  · exact (m1.m0.bl.grown hg (by omega) (fun k hk => (m1.m0.oo.lt k hk).1)).setCell (p := ⟨gb, 2, none⟩) m.gg _
  · exact ownsRow_setCell_other (a := ⟨gb, 2, none⟩) (row_grown m1.on m1.m0.oo (by decide) hg) (row_no m1.on (by decide) m1.vb) _
  · rcases hF with hF | hF
    · exact m.nn b e hF
    · exact (hFc b hF).2.2.2.1 e
  · exact heap_setCell_same w2 gb 2 _ _ _ hvb
  · rcases hF with hF | hF
    · exact m.gF hF
    · exact (hFc gb hF).2.2.1 rfl
/-- An append onto its rules, of two rules whose conjuncts lie in any blocks apart. -/
theorem GV.appRulesO (m : GV B gb F st ns nv L us o w) {h h2 : Int} {c c2 : Value} {cs cs2 : List Cn} (hc : IsCns w Fc c cs) (hc2 : IsCns w Fc c2 cs2) (hFc : ∀ b, Fc b → B.heap.size ≤ b ∧ b < w.heap.size ∧ b ≠ gb ∧ nv.ownBlock ≠ some b ∧ o.ownBlock ≠ some b) (h1 : c.oneCell' = true) (h12 : c2.oneCell' = true) (hl : L.length ≤ 100000) :
    ∃ g cap w2, (Builtin.append_ #[23, 23] 23 #[o, .slice (some ⟨w.heap.size, 0, none⟩) 2 2]).run Tryz.prog (w.alloc (.cells #[.int .i64 h, c, .int .i64 h2, c2] 53)) = .ok (.slice (some ⟨g, 0, none⟩) (L.length + 2) cap) w2 ∧ GV B gb (fun b => F b ∨ Fc b) st ns nv (L ++ [⟨h, cs⟩, ⟨h2, cs2⟩]) (us ++ [c, c2]) (.slice (some ⟨g, 0, none⟩) (L.length + 2) cap) (w2.setCell ⟨gb, 2, none⟩ (.slice (some ⟨g, 0, none⟩) (L.length + 2) cap)) ∧ w2.cell? ⟨gb, 2, none⟩ = some o ∧ w2.frozen? ⟨gb, 2, none⟩ = false ∧ ∀ C : World, Below C.heap.size C w → C.heap.size ≤ gb → (∀ b, o.ownBlock = some b → C.heap.size ≤ b) → Below C.heap.size C (w2.setCell ⟨gb, 2, none⟩ (.slice (some ⟨g, 0, none⟩) (L.length + 2) cap)) := by
  obtain ⟨i, hi, hz, hs, hb⟩ := info_parts Tryz.infoRuleP
  have hbs := m.m0.bl.size
  obtain ⟨g, cap, w2, hr, hown, hgrow, hat, _⟩ := run_append_lies (P := Tryz.prog) (w.alloc (.cells #[.int .i64 h, c, .int .i64 h2, c2] 53)) 23 23 B.heap.size 53 i _ 2 32 Tryz.underlying23 hi hz hs hb rfl (by omega) o L.length (rusV L us) (m.m0.oo.alloc _) ⟨w.heap.size, 0, none⟩ 2 2 [.int .i64 h, c, .int .i64 h2, c2] rfl
    (World.news_of_block (cs := #[.int .i64 h, c, .int .i64 h2, c2]) (t := 53) (fr := (0, 0)) (heap_alloc_new w _)) (by intro u hu; simp at hu; rcases hu with rfl | rfl | rfl | rfl; rfl; exact h1; rfl; exact h12) (by omega) (by unfold maxLen; omega) (by omega) (by simp; omega) (w.heap.size + 1) (by simp)
  have hvb : w2.heap[gb]? = some (.cells #[.int .i64 st, nv, o] 25) := (hgrow.block gb (by have := block_lt m.vb; simp; omega) (Ne.symm (row_no m.m0.oo (by decide) m.vb))).trans ((heap_alloc_old _ (block_lt m.vb)).trans m.vb)
  exact ⟨g, cap, w2, hr, m.ruleG2 hc hc2 hFc rfl hgrow hown hat rfl, Lib.cell_of_heap hvb 2, by unfold World.frozen?; rw [hvb]; simp, fun C hC h2 h3 => ((hC.alloc hC.size _).grown hgrow (by have := hC.size; simp; omega) h3).setCell (p := ⟨gb, 2, none⟩) h2 _⟩
end
end Go.Proofs.YtfjejnkjlnkkhaaGreatDoor
