/- A grammar's names and a rule's symbols that grow side by side, in memory. No program in sight. -/
import Derived.Test.YtkihbgikdbaelaaNulRowT
import Derived.Test.YtkihbgikdbaelaaNulCop
namespace Go.Proofs.Ytkihbgikdbaelaa
set_option linter.unusedVariables false
open Go.ChangeShapes Go.WideShapes Go.ChangeAt Go.RowKit

structure Q1 (B : World) (gb rb cb a i : Nat) (nv sv : Value) (w : World) : Prop where
  bl : Below B.heap.size B w
  on : w.ownsRow B.heap.size 9 1 nv (a + 1) (txV (nmsE a))
  vb : w.heap[gb]? = some (.cells #[.int .i64 0, nv, .slice none 0 0] 25)
  rv : w.heap[rb]? = some (.cells #[.int .i64 0, .slice (some ⟨cb, 0, none⟩) 1 1] 35)
  cv : w.heap[cb]? = some (.cells #[.bool false, sv] 38)
  so : w.ownsRow B.heap.size 40 3 sv i (sysV (symsE i))
  g1 : B.heap.size ≤ gb
  r1 : B.heap.size ≤ rb
  c1 : B.heap.size ≤ cb
section
variable {B w w1 w2 w' : World} {gb rb cb a i : Nat} {nv sv : Value}
theorem Q1.keep (m : Q1 B gb rb cb a i nv sv w) (hb : Below w.heap.size w w') : Q1 B gb rb cb a i nv sv w' :=
  ⟨m.bl.trans (hb.mono m.bl.size), row_keep m.on hb, (hb.block gb (block_lt m.vb)).trans m.vb, (hb.block rb (block_lt m.rv)).trans m.rv, (hb.block cb (block_lt m.cv)).trans m.cv, row_keep m.so hb, m.g1, m.r1, m.c1⟩
theorem type_ne {w : World} {b c : Nat} {x y : Array Value} {s t : TypeId} (hb : w.heap[b]? = some (.cells x s)) (hc : w.heap[c]? = some (.cells y t)) (h : s ≠ t) : b ≠ c := fun e => by
  subst e
  rw [hb] at hc
  injection hc with hc
  injection hc with _ hc
  exact h hc
theorem Q1.name (m : Q1 B gb rb cb a i nv sv w) (hb : Below w.heap.size w w1) {o : Obj} (hg : (w1.alloc o).grownBy w2 nv.ownBlock) {g cap : Nat} (hown : w2.ownsRow B.heap.size 9 1 (.slice (some ⟨g, 0, none⟩) (a + 1 + 1) cap) (a + 1 + 1) (txV (nmsE a) ++ [.string (nmR a)])) :
    Q1 B gb rb cb (a + 1) i (.slice (some ⟨g, 0, none⟩) (a + 1 + 1) cap) sv (w2.setCell ⟨gb, 1, none⟩ (.slice (some ⟨g, 0, none⟩) (a + 1 + 1) cap)) := by
  have m1 := (m.keep hb).keep (bel1 w1 o)
  generalize w1.alloc o = w3 at hg m1
  have vb2 := (hg.block gb (block_lt m1.vb) (Ne.symm (row_no m1.on (by decide) m1.vb))).trans m1.vb
  have rv2 := (hg.block rb (block_lt m1.rv) (Ne.symm (row_no m1.on (by decide) m1.rv))).trans m1.rv
  have cv2 := (hg.block cb (block_lt m1.cv) (Ne.symm (row_no m1.on (by decide) m1.cv))).trans m1.cv
  have so2 := row_grown m1.so m1.on (by decide) hg
  have hbs := m1.bl.size
  refine ⟨(m1.bl.grown hg (by omega) (fun k hk => (m1.on.lt k hk).1)).setCell (p := ⟨gb, 1, none⟩) m.g1 _, ?_, heap_setCell_same w2 gb 1 _ _ _ vb2, ?_, ?_, ownsRow_setCell_other (a := ⟨gb, 1, none⟩) so2 (row_no so2 (by decide) vb2) _, m.g1, m.r1, m.c1⟩
  · rw [nmsE_succ]
    have : txV (nmsE a ++ [nmR a]) = txV (nmsE a) ++ [.string (nmR a)] := by simp [txV]
    rw [this]
    exact ownsRow_setCell_other (a := ⟨gb, 1, none⟩) hown (row_no hown (by decide) vb2) _
  · exact (Go.Deep.blk_setCell_other w2 ⟨gb, 1, none⟩ _ rb (type_ne rv2 vb2 (by decide))).trans rv2
  · exact (Go.Deep.blk_setCell_other w2 ⟨gb, 1, none⟩ _ cb (type_ne cv2 vb2 (by decide))).trans cv2
theorem Q1.sym (m : Q1 B gb rb cb a i nv sv w) (hb : Below w.heap.size w w1) (hg : w1.grownBy w2 sv.ownBlock) {g cap : Nat} (hown : w2.ownsRow B.heap.size 40 3 (.slice (some ⟨g, 0, none⟩) (i + 1) cap) (i + 1) (sysV (symsE i) ++ [.int .i64 ((i : Int) + 1), .int .i64 0, .int .i64 0])) :
    Q1 B gb rb cb a (i + 1) nv (.slice (some ⟨g, 0, none⟩) (i + 1) cap) (w2.setCell ⟨cb, 1, none⟩ (.slice (some ⟨g, 0, none⟩) (i + 1) cap)) := by
  have m1 := m.keep hb
  have vb2 := (hg.block gb (block_lt m1.vb) (Ne.symm (row_no m1.so (by decide) m1.vb))).trans m1.vb
  have rv2 := (hg.block rb (block_lt m1.rv) (Ne.symm (row_no m1.so (by decide) m1.rv))).trans m1.rv
  have cv2 := (hg.block cb (block_lt m1.cv) (Ne.symm (row_no m1.so (by decide) m1.cv))).trans m1.cv
  have on2 := row_grown m1.on m1.so (by decide) hg
  have hbs := m1.bl.size
  refine ⟨(m1.bl.grown hg (by omega) (fun k hk => (m1.so.lt k hk).1)).setCell (p := ⟨cb, 1, none⟩) m.c1 _, ownsRow_setCell_other (a := ⟨cb, 1, none⟩) on2 (row_no on2 (by decide) cv2) _, ?_, ?_, heap_setCell_same w2 cb 1 _ _ _ cv2, ?_, m.g1, m.r1, m.c1⟩
  · exact (Go.Deep.blk_setCell_other w2 ⟨cb, 1, none⟩ _ gb (type_ne vb2 cv2 (by decide))).trans vb2
  · exact (Go.Deep.blk_setCell_other w2 ⟨cb, 1, none⟩ _ rb (type_ne rv2 cv2 (by decide))).trans rv2
  · rw [symsE_succ, sysV_append]
    exact ownsRow_setCell_other (a := ⟨cb, 1, none⟩) hown (row_no hown (by decide) cv2) _
/-- The first rule is laid into the grammar. -/
theorem Q1.fin (m : Q1 B gb rb cb a i nv sv w) : ∃ F, GV B gb F 0 (nmsE a) nv [ruZ i] [.slice (some ⟨cb, 0, none⟩) 1 1] (.slice (some ⟨w.heap.size, 0, none⟩) 1 1) ((w.alloc (.cells #[.int .i64 0, .slice (some ⟨cb, 0, none⟩) 1 1] 35)).setCell ⟨gb, 2, none⟩ (.slice (some ⟨w.heap.size, 0, none⟩) 1 1)) := by
  have m1 := m.keep (bel1 w (.cells #[.int .i64 0, .slice (some ⟨cb, 0, none⟩) 1 1] 35))
  have hnew : (w.alloc (.cells #[.int .i64 0, .slice (some ⟨cb, 0, none⟩) 1 1] 35)).heap[w.heap.size]? = some (.cells #[.int .i64 0, .slice (some ⟨cb, 0, none⟩) 1 1] 35) := heap_alloc_new _ _
  have hsz : (w.alloc (.cells #[.int .i64 0, .slice (some ⟨cb, 0, none⟩) 1 1] 35)).heap.size = w.heap.size + 1 := by simp
  have hgl := block_lt m.vb
  have hcl := block_lt m.cv
  have hsl : ∀ b, sv.ownBlock = some b → B.heap.size ≤ b ∧ b < w.heap.size := fun b e => m.so.lt b e
  have hbs := m.bl.size
  generalize w.alloc (.cells #[.int .i64 0, .slice (some ⟨cb, 0, none⟩) 1 1] 35) = w3 at m1 hnew hsz
  have hgc : gb ≠ cb := type_ne m1.vb m1.cv (by decide)
  have cv3 : (w3.setCell ⟨gb, 2, none⟩ (.slice (some ⟨w.heap.size, 0, none⟩) 1 1)).heap[cb]? = some (.cells #[.bool false, sv] 38) := (Go.Deep.blk_setCell_other w3 ⟨gb, 2, none⟩ _ cb (Ne.symm hgc)).trans m1.cv
  have so3 := ownsRow_setCell_other (a := ⟨gb, 2, none⟩) m1.so (row_no m1.so (by decide) m1.vb) (.slice (some ⟨w.heap.size, 0, none⟩) 1 1)
  have on3 := ownsRow_setCell_other (a := ⟨gb, 2, none⟩) m1.on (row_no m1.on (by decide) m1.vb) (.slice (some ⟨w.heap.size, 0, none⟩) 1 1)
  have hz3 : (w3.setCell ⟨gb, 2, none⟩ (.slice (some ⟨w.heap.size, 0, none⟩) 1 1)).heap.size = w.heap.size + 1 := by rw [Go.Deep.nblk_setCell, hsz]
  have hn3 : (w3.setCell ⟨gb, 2, none⟩ (.slice (some ⟨w.heap.size, 0, none⟩) 1 1)).heap[w.heap.size]? = some (.cells #[.int .i64 0, .slice (some ⟨cb, 0, none⟩) 1 1] 35) := (Go.Deep.blk_setCell_other w3 ⟨gb, 2, none⟩ _ _ (by show w.heap.size ≠ gb; omega)).trans hnew
  refine ⟨fun b => b = cb ∨ sv.ownBlock = some b, ⟨fun b hF => ?_, ?_, fun b e hF => ?_, ?_, m1.bl.setCell (p := ⟨gb, 2, none⟩) m.g1 _⟩, ?_, fun b e hF => ?_, heap_setCell_same w3 gb 2 _ _ _ m1.vb, fun hF => ?_, m.g1⟩
  · rw [hz3]
    rcases hF with rfl | hF
    · exact ⟨m.c1, by omega⟩
    · have := hsl b hF; omega
  · exact ⟨rfl, Or.inr ⟨w.heap.size, 1, #[.int .i64 0, .slice (some ⟨cb, 0, none⟩) 1 1], rfl, hbs, hn3, Nat.le_refl _, by unfold maxLen; omega, rfl, rfl⟩⟩
  · obtain rfl : w.heap.size = b := by injection e
    rcases hF with e1 | hF
    · omega
    · have := hsl _ hF; omega
  · refine (RusIn.nil _ _).snoc (c := ruZ i) ⟨[sv], reads_at (reads_laid cv3 le11 rfl) (Or.inl rfl), (CnsIn.nil _ _).snoc (c := ⟨false, symsE i⟩) ?_⟩
    have h9 := Reads.of so3 (F := fun b => b = cb ∨ sv.ownBlock = some b) (fun b e => Or.inr e)
    show Reads _ _ _ _ _
    rw [symsE_len]; exact h9
  · rw [nmsE_len]; exact on3
  · rcases hF with rfl | hF
    · exact row_no on3 (by decide) cv3 e
    · exact row_apart on3 so3 (by decide) b e hF
  · rcases hF with e1 | hF
    · exact hgc e1
    · exact row_no m1.so (by decide) m1.vb hF
end
def q1P (n : Nat) : List Obj :=
  [.cells #[.int .i64 0, .slice (some ⟨n + 1, 0, none⟩) 1 1, .slice none 0 0] 25, .cells #[.string ⟨#[83]⟩] 9, .cells #[.bool false, .slice none 0 0] 38, .cells #[.int .i64 0, .slice (some ⟨n + 1 + 1, 0, none⟩) 1 1] 35]
theorem q1_new (w : World) : Q1 w w.heap.size (w.heap.size + 1 + 1 + 1) (w.heap.size + 1 + 1) 0 0 (.slice (some ⟨w.heap.size + 1, 0, none⟩) 1 1) (.slice none 0 0) (blks w (q1P w.heap.size)) := by
  have hb : ∀ k o, (q1P w.heap.size)[k]? = some o → (blks w (q1P w.heap.size)).heap[w.heap.size + k]? = some o := fun k o ho => blks_at _ w k o ho
  exact ⟨blks_below _ _, ⟨rfl, Or.inr ⟨w.heap.size + 1, 1, #[.string ⟨#[83]⟩], rfl, Nat.le_succ _, hb 1 _ rfl, Nat.le_refl _, by unfold maxLen; omega, rfl, rfl⟩⟩, hb 0 _ rfl, hb 3 _ rfl, hb 2 _ rfl, World.ownsRow_nil _ _ _ _, Nat.le_refl _, by omega, by omega⟩
end Go.Proofs.Ytkihbgikdbaelaa
