import Derived.Test.YtgpklcpmabafmaaDoorBinV
import Derived.Test.YtgpklcpmabafmaaDoorBinU
import Derived.Test.YtgpklcpmabafmaaDoorRefDec
import Derived.Test.YtgpklcpmabafmaaDoorCopyGrW
import Derived.Deep.CutRange
import Derived.BigQuiet
import Derived.Deep.QuietTactic
/- A grammar's names and a rule's symbols that grow side by side, in memory, any names and symbols. -/
namespace Go.Proofs.YtgpklcpmabafmaaDoor
set_option linter.unusedVariables false
open Go.ChangeShapes Go.WideShapes Go.ChangeAt Go.RowKit

structure QV (B : World) (gb rb cb : Nat) (ns : List ByteArray) (ss : List Sy) (nv sv : Value) (w : World) : Prop where
  bl : Below B.heap.size B w
  on : w.ownsRow B.heap.size 9 1 nv ns.length (txV ns)
  vb : w.heap[gb]? = some (.cells #[.int .i64 0, nv, .slice none 0 0] 27)
  rv : w.heap[rb]? = some (.cells #[.int .i64 0, .slice (some ⟨cb, 0, none⟩) 1 1] 35)
  cv : w.heap[cb]? = some (.cells #[.bool false, sv] 30)
  so : w.ownsRow B.heap.size 32 3 sv ss.length (sysV ss)
  g1 : B.heap.size ≤ gb
  r1 : B.heap.size ≤ rb
  c1 : B.heap.size ≤ cb
section
variable {B w w1 w2 w' : World} {gb rb cb : Nat} {ns : List ByteArray} {ss : List Sy} {nv sv : Value}
theorem QV.keep (m : QV B gb rb cb ns ss nv sv w) (hb : Below w.heap.size w w') : QV B gb rb cb ns ss nv sv w' :=
  ⟨m.bl.trans (hb.mono m.bl.size), row_keep m.on hb, (hb.block gb (block_lt m.vb)).trans m.vb, (hb.block rb (block_lt m.rv)).trans m.rv, (hb.block cb (block_lt m.cv)).trans m.cv, row_keep m.so hb, m.g1, m.r1, m.c1⟩
theorem type_neV {w : World} {b c : Nat} {x y : Array Value} {s t : TypeId} (hb : w.heap[b]? = some (.cells x s)) (hc : w.heap[c]? = some (.cells y t)) (h : s ≠ t) : b ≠ c := fun e => by
  subst e
  rw [hb] at hc
  injection hc with hc
  injection hc with _ hc
  exact h hc
theorem QV.name (m : QV B gb rb cb ns ss nv sv w) (hb : Below w.heap.size w w1) {o : Obj} {s : ByteArray} {a : Nat} (ha : ns.length = a) (hg : (w1.alloc o).grownBy w2 nv.ownBlock) {g cap : Nat} (hown : w2.ownsRow B.heap.size 9 1 (.slice (some ⟨g, 0, none⟩) (a + 1) cap) (a + 1) (txV ns ++ [.string s])) :
    QV B gb rb cb (ns ++ [s]) ss (.slice (some ⟨g, 0, none⟩) (a + 1) cap) sv (w2.setCell ⟨gb, 1, none⟩ (.slice (some ⟨g, 0, none⟩) (a + 1) cap)) := by
  have m1 := (m.keep hb).keep (bel1 w1 o)
  generalize w1.alloc o = w3 at hg m1
  have vb2 := (hg.block gb (block_lt m1.vb) (Ne.symm (row_no m1.on (by decide) m1.vb))).trans m1.vb
  have rv2 := (hg.block rb (block_lt m1.rv) (Ne.symm (row_no m1.on (by decide) m1.rv))).trans m1.rv
  have cv2 := (hg.block cb (block_lt m1.cv) (Ne.symm (row_no m1.on (by decide) m1.cv))).trans m1.cv
  have so2 := row_grown m1.so m1.on (by decide) hg
  have hbs := m1.bl.size
  refine ⟨(m1.bl.grown hg (by omega) (fun k hk => (m1.on.lt k hk).1)).setCell (p := ⟨gb, 1, none⟩) m.g1 _, ?_, heap_setCell_same w2 gb 1 _ _ _ vb2, ?_, ?_, ownsRow_setCell_other (a := ⟨gb, 1, none⟩) so2 (row_no so2 (by decide) vb2) _, m.g1, m.r1, m.c1⟩
  · have : txV (ns ++ [s]) = txV ns ++ [.string s] := by simp [txV]
    rw [this, List.length_append, ha]
    exact ownsRow_setCell_other (a := ⟨gb, 1, none⟩) hown (row_no hown (by decide) vb2) _
  · exact (Go.Deep.blk_setCell_other w2 ⟨gb, 1, none⟩ _ rb (type_neV rv2 vb2 (by decide))).trans rv2
  · exact (Go.Deep.blk_setCell_other w2 ⟨gb, 1, none⟩ _ cb (type_neV cv2 vb2 (by decide))).trans cv2
theorem QV.sym (m : QV B gb rb cb ns ss nv sv w) (hb : Below w.heap.size w w1) {s : Sy} {i : Nat} (hi : ss.length = i) (hg : w1.grownBy w2 sv.ownBlock) {g cap : Nat} (hown : w2.ownsRow B.heap.size 32 3 (.slice (some ⟨g, 0, none⟩) (i + 1) cap) (i + 1) (sysV ss ++ [.int .i64 s.name, .int .i64 s.lo, .int .i64 s.hi])) :
    QV B gb rb cb ns (ss ++ [s]) nv (.slice (some ⟨g, 0, none⟩) (i + 1) cap) (w2.setCell ⟨cb, 1, none⟩ (.slice (some ⟨g, 0, none⟩) (i + 1) cap)) := by
  have m1 := m.keep hb
  have vb2 := (hg.block gb (block_lt m1.vb) (Ne.symm (row_no m1.so (by decide) m1.vb))).trans m1.vb
  have rv2 := (hg.block rb (block_lt m1.rv) (Ne.symm (row_no m1.so (by decide) m1.rv))).trans m1.rv
  have cv2 := (hg.block cb (block_lt m1.cv) (Ne.symm (row_no m1.so (by decide) m1.cv))).trans m1.cv
  have on2 := row_grown m1.on m1.so (by decide) hg
  have hbs := m1.bl.size
  refine ⟨(m1.bl.grown hg (by omega) (fun k hk => (m1.so.lt k hk).1)).setCell (p := ⟨cb, 1, none⟩) m.c1 _, ownsRow_setCell_other (a := ⟨cb, 1, none⟩) on2 (row_no on2 (by decide) cv2) _, ?_, ?_, heap_setCell_same w2 cb 1 _ _ _ cv2, ?_, m.g1, m.r1, m.c1⟩
  · exact (Go.Deep.blk_setCell_other w2 ⟨cb, 1, none⟩ _ gb (type_neV vb2 cv2 (by decide))).trans vb2
  · exact (Go.Deep.blk_setCell_other w2 ⟨cb, 1, none⟩ _ rb (type_neV rv2 cv2 (by decide))).trans rv2
  · rw [sysV_append, List.length_append, hi]
    exact ownsRow_setCell_other (a := ⟨cb, 1, none⟩) hown (row_no hown (by decide) cv2) _
/-- The first rule is laid into the grammar. -/
theorem QV.fin (m : QV B gb rb cb ns ss nv sv w) : ∃ F, GV B gb F 0 ns nv [⟨0, [⟨false, ss⟩]⟩] [.slice (some ⟨cb, 0, none⟩) 1 1] (.slice (some ⟨w.heap.size, 0, none⟩) 1 1) ((w.alloc (.cells #[.int .i64 0, .slice (some ⟨cb, 0, none⟩) 1 1] 35)).setCell ⟨gb, 2, none⟩ (.slice (some ⟨w.heap.size, 0, none⟩) 1 1)) := by
  have m1 := m.keep (bel1 w (.cells #[.int .i64 0, .slice (some ⟨cb, 0, none⟩) 1 1] 35))
  have hnew : (w.alloc (.cells #[.int .i64 0, .slice (some ⟨cb, 0, none⟩) 1 1] 35)).heap[w.heap.size]? = some (.cells #[.int .i64 0, .slice (some ⟨cb, 0, none⟩) 1 1] 35) := heap_alloc_new _ _
  have hsz : (w.alloc (.cells #[.int .i64 0, .slice (some ⟨cb, 0, none⟩) 1 1] 35)).heap.size = w.heap.size + 1 := by simp
  have hgl := block_lt m.vb
  have hcl := block_lt m.cv
  have hsl : ∀ b, sv.ownBlock = some b → B.heap.size ≤ b ∧ b < w.heap.size := fun b e => m.so.lt b e
  have hbs := m.bl.size
  generalize w.alloc (.cells #[.int .i64 0, .slice (some ⟨cb, 0, none⟩) 1 1] 35) = w3 at m1 hnew hsz
  have hgc : gb ≠ cb := type_neV m1.vb m1.cv (by decide)
  have cv3 : (w3.setCell ⟨gb, 2, none⟩ (.slice (some ⟨w.heap.size, 0, none⟩) 1 1)).heap[cb]? = some (.cells #[.bool false, sv] 30) := (Go.Deep.blk_setCell_other w3 ⟨gb, 2, none⟩ _ cb (Ne.symm hgc)).trans m1.cv
  have so3 := ownsRow_setCell_other (a := ⟨gb, 2, none⟩) m1.so (row_no m1.so (by decide) m1.vb) (.slice (some ⟨w.heap.size, 0, none⟩) 1 1)
  have on3 := ownsRow_setCell_other (a := ⟨gb, 2, none⟩) m1.on (row_no m1.on (by decide) m1.vb) (.slice (some ⟨w.heap.size, 0, none⟩) 1 1)
  have hz3 : (w3.setCell ⟨gb, 2, none⟩ (.slice (some ⟨w.heap.size, 0, none⟩) 1 1)).heap.size = w.heap.size + 1 := by rw [Go.Deep.nblk_setCell, hsz]
  have hn3 : (w3.setCell ⟨gb, 2, none⟩ (.slice (some ⟨w.heap.size, 0, none⟩) 1 1)).heap[w.heap.size]? = some (.cells #[.int .i64 0, .slice (some ⟨cb, 0, none⟩) 1 1] 35) := (Go.Deep.blk_setCell_other w3 ⟨gb, 2, none⟩ _ _ (by show w.heap.size ≠ gb; omega)).trans hnew
  refine ⟨fun b => b = cb ∨ sv.ownBlock = some b, ⟨fun b hF => ?_, ?_, fun b e hF => ?_, ?_, m1.bl.setCell (p := ⟨gb, 2, none⟩) m.g1 _⟩, ?_, fun b e hF => ?_, heap_setCell_same w3 gb 2 _ _ _ m1.vb, fun hF => ?_, m.g1⟩
  · rw [hz3]
    rcases hF with rfl | hF
    · exact ⟨m.c1, by omega⟩
    · have := hsl b hF; omega
  · exact ⟨rfl, Or.inr ⟨w.heap.size, 1, #[.int .i64 0, .slice (some ⟨cb, 0, none⟩) 1 1], rfl, hbs, hn3, Nat.le_refl _, by unfold maxLen; omega, rfl, rfl⟩⟩
  · obtain rfl : w.heap.size = b := by injection e
    rcases hF with e1 | hF
    · omega
    · have := hsl _ hF; omega
  · refine (RusIn.nil _ _).snoc (c := ⟨0, [⟨false, ss⟩]⟩) ⟨[sv], reads_blkV cv3 (Or.inl rfl) (by unfold maxLen; omega) rfl, (CnsIn.nil _ _).snoc (c := ⟨false, ss⟩) ?_⟩
    have h9 := Reads.of so3 (F := fun b => b = cb ∨ sv.ownBlock = some b) (fun b e => Or.inr e)
    exact h9
  · exact on3
  · rcases hF with rfl | hF
    · exact row_no on3 (by decide) cv3 e
    · exact row_apart on3 so3 (by decide) b e hF
  · rcases hF with e1 | hF
    · exact hgc e1
    · exact row_no m1.so (by decide) m1.vb hF
end
section
variable {W w w' w1 w2 : World} {gb : Nat} {F Fc : Nat → Prop} {st : Int} {ns : List ByteArray} {nv o : Value} {L : List Ru} {us : List Value}
/-- A rule more, whose conjuncts lie in blocks apart. -/
theorem GV.ruleV (m : GV W gb F st ns nv L us o w1) {h : Int} {c : Value} {cs : List Cn} (hc : IsCns w1 Fc c cs) (hFc : ∀ b, Fc b → W.heap.size ≤ b ∧ b < w1.heap.size ∧ b ≠ gb ∧ nv.ownBlock ≠ some b ∧ o.ownBlock ≠ some b) {n g cap : Nat} (hn : L.length = n)
    (hg : (w1.alloc (.cells #[.int .i64 h, c] 35)).grownBy w2 o.ownBlock) (hown : w2.ownsRow W.heap.size 35 2 (.slice (some ⟨g, 0, none⟩) (n + 1) cap) (n + 1) (rusV L us ++ [.int .i64 h, c]))
    (hat : o.ownBlock = some g ∨ g = w1.heap.size + 1) {L' : List Ru} (hL : L' = L ++ [⟨h, cs⟩]) :
    GV W gb (fun b => F b ∨ Fc b) st ns nv L' (us ++ [c]) (.slice (some ⟨g, 0, none⟩) (n + 1) cap) (w2.setCell ⟨gb, 2, none⟩ (.slice (some ⟨g, 0, none⟩) (n + 1) cap)) := by
  subst hn hL
  have m1 := m.keep (bel1 w1 (.cells #[.int .i64 h, c] 35))
  have hc1 := hc.any (bel1 w1 (.cells #[.int .i64 h, c] 35))
  have hz3 : (w1.alloc (.cells #[.int .i64 h, c] 35)).heap.size = w1.heap.size + 1 := by simp
  generalize w1.alloc (.cells #[.int .i64 h, c] 35) = w3 at hg m1 hc1 hz3
  have hgb : o.ownBlock ≠ some gb := row_no m1.m0.oo (by decide) m1.vb
  have hvb : w2.heap[gb]? = some (.cells #[.int .i64 st, nv, o] 27) := (hg.block gb (block_lt m1.vb) (Ne.symm hgb)).trans m1.vb
  have hgl := block_lt m.vb
  have hgs := hg.size
  have hbs := m1.m0.bl.size
  have hS : Stay (fun b => F b ∨ Fc b) w3 (w2.setCell ⟨gb, 2, none⟩ (.slice (some ⟨g, 0, none⟩) (L.length + 1) cap)) := by
    refine ⟨by simpa [World.setCell] using hgs, fun b hF => ?_⟩
    have hne : b ≠ gb := fun e => by
      subst e
      rcases hF with hF | hF
      · exact m.gF hF
      · exact (hFc b hF).2.2.1 rfl
    have hlt : b < w3.heap.size := by
      rcases hF with hF | hF
      · exact (m1.m0.fl b hF).2
      · have := (hFc b hF).2.1; omega
    have hob : some b ≠ o.ownBlock := fun e => by
      rcases hF with hF | hF
      · exact m.m0.no b e.symm hF
      · exact (hFc b hF).2.2.2.2 e.symm
    exact (Go.Deep.blk_setCell_other w2 ⟨gb, 2, none⟩ _ b hne).trans (hg.block b hlt hob)
  have hz : (w2.setCell ⟨gb, 2, none⟩ (.slice (some ⟨g, 0, none⟩) (L.length + 1) cap)).heap.size = w2.heap.size := by simp [World.setCell]
  have hgn : g ≠ gb := fun e => by
    subst e
    rcases hat with e3 | e3
    · exact hgb e3
    · omega
  refine ⟨⟨fun b hF => ?_, ?_, fun b e hF => ?_, ?_, ?_⟩, ?_, fun b e hF => ?_, ?_, fun hF => ?_, m.gg⟩
  · rw [hz]
    rcases hF with hF | hF
    · exact ⟨(m1.m0.fl b hF).1, Nat.lt_of_lt_of_le (m1.m0.fl b hF).2 hgs⟩
    · have := hFc b hF
      exact ⟨this.1, by omega⟩
  · rw [List.length_append, rusV_append _ _ _ _ m.m0.ri.1]
    exact ownsRow_setCell_other (a := ⟨gb, 2, none⟩) hown (fun e => hgn (by injection e)) _
  · obtain rfl : g = b := by injection e
    rcases hF with hF | hF
    · rcases hat with e3 | e3
      · exact m.m0.no g e3 hF
      · have := (m.m0.fl g hF).2; omega
    · rcases hat with e3 | e3
      · exact (hFc g hF).2.2.2.2 e3
      · have := (hFc g hF).2.1; omega
  · have r1 := m1.m0.ri.keep (F' := fun b => F b ∨ Fc b) ⟨hS.size, fun b hF => hS.blk b (Or.inl hF)⟩ (fun b hF => Or.inl hF)
    exact r1.snoc (c := ⟨h, cs⟩) (hc1.keep ⟨hS.size, fun b hF => hS.blk b (Or.inr hF)⟩ (fun b hF => Or.inr hF))
  · exact (m1.m0.bl.grown hg (by omega) (fun k hk => (m1.m0.oo.lt k hk).1)).setCell (p := ⟨gb, 2, none⟩) m.gg _
  · exact ownsRow_setCell_other (a := ⟨gb, 2, none⟩) (row_grown m1.on m1.m0.oo (by decide) hg) (row_no m1.on (by decide) m1.vb) _
  · rcases hF with hF | hF
    · exact m.nn b e hF
    · exact (hFc b hF).2.2.2.1 e
  · exact heap_setCell_same w2 gb 2 _ _ _ hvb
  · rcases hF with hF | hF
    · exact m.gF hF
    · exact (hFc gb hF).2.2.1 rfl
/-- A write into a block aside. -/
theorem GV.putV (m : GV W gb F st ns nv L us o w) {ub k : Nat} {arr : Array Value} {t : TypeId} (hu : w.heap[ub]? = some (.cells arr t)) (h1 : t ≠ 9) (h2 : t ≠ 35) (h3 : t ≠ 27) (hF : ¬ F ub) (hW : W.heap.size ≤ ub) (v : Value) : GV W gb F st ns nv L us o (w.setCell ⟨ub, k, none⟩ v) := by
  have hz : (w.setCell ⟨ub, k, none⟩ v).heap.size = w.heap.size := by simp [World.setCell]
  refine ⟨⟨fun b hb => by rw [hz]; exact m.m0.fl b hb, ownsRow_setCell_other (a := ⟨ub, k, none⟩) m.m0.oo (row_no m.m0.oo h2 hu) _, m.m0.no, m.m0.ri.keep ⟨by rw [hz]; exact Nat.le_refl _, fun b hb => Go.Deep.blk_setCell_other w ⟨ub, k, none⟩ _ b (fun e => hF (by have e2 : b = ub := e; rw [← e2]; exact hb))⟩ (fun _ h => h), m.m0.bl.setCell (p := ⟨ub, k, none⟩) hW _⟩, ownsRow_setCell_other (a := ⟨ub, k, none⟩) m.on (row_no m.on h1 hu) _, m.nn, (Go.Deep.blk_setCell_other w ⟨ub, k, none⟩ _ gb (type_neV m.vb hu (Ne.symm h3))).trans m.vb, m.gF, m.gg⟩
end
def qvP (n : Nat) : List Obj :=
  [.cells #[.string ⟨#[83]⟩] 9, .cells #[.int .i64 0, .slice (some ⟨n, 0, none⟩) 1 1, .slice none 0 0] 27, .cells #[.bool false, .slice none 0 0] 30, .cells #[.int .i64 0, .slice (some ⟨n + 1 + 1, 0, none⟩) 1 1] 35]
theorem qv_new (w : World) : QV w (w.heap.size + 1) (w.heap.size + 1 + 1 + 1) (w.heap.size + 1 + 1) [⟨#[83]⟩] [] (.slice (some ⟨w.heap.size, 0, none⟩) 1 1) (.slice none 0 0) (blks w (qvP w.heap.size)) := by
  have hb : ∀ k o, (qvP w.heap.size)[k]? = some o → (blks w (qvP w.heap.size)).heap[w.heap.size + k]? = some o := fun k o ho => blks_at _ w k o ho
  exact ⟨blks_below _ _, ⟨rfl, Or.inr ⟨w.heap.size, 1, #[.string ⟨#[83]⟩], rfl, Nat.le_refl _, hb 0 _ rfl, Nat.le_refl _, by unfold maxLen; omega, rfl, rfl⟩⟩, hb 1 _ rfl, hb 3 _ rfl, hb 2 _ rfl, World.ownsRow_nil _ _ _ _, by omega, by omega, by omega⟩
end Go.Proofs.YtgpklcpmabafmaaDoor
/- BinNames, walked over what its callees do. -/
namespace Go.Proofs.YtgpklcpmabafmaaDoor
set_option linter.unusedVariables false
set_option linter.unusedSimpArgs false
open Go.ChangeShapes Go.WideShapes Go.ChangeAt Go.RowKit

def nmQ (t : Nat) : ByteArray := ⟨#[95]⟩ ++ decT t
def usedB (T : Nat → Nat) : Nat → Nat → Bool
  | 0, _ => false
  | i + 1, t => usedB T i t || decide (t = T i)
def namesB (T : Nat → Nat) : Nat → List ByteArray
  | 0 => [⟨#[83]⟩]
  | i + 1 => if usedB T i (T i) = true then namesB T i else namesB T i ++ [nmQ (T i)]
def rulesB (T : Nat → Nat) (k : Nat) : Nat → List Ru
  | 0 => [⟨0, [⟨false, List.replicate k ⟨0, 0, 0⟩⟩]⟩]
  | i + 1 => if usedB T i (T i) = true then rulesB T k i else rulesB T k i ++ [⟨((namesB T i).length : Int), [⟨false, []⟩]⟩]
def gN (T : Nat → Nat) (k i : Nat) : Gr := ⟨0, namesB T i, rulesB T k i⟩
theorem namesB_len (T : Nat → Nat) : ∀ i, 1 ≤ (namesB T i).length ∧ (namesB T i).length ≤ i + 1
  | 0 => by simp [namesB]
  | i + 1 => by
    have := namesB_len T i
    unfold namesB
    split
    · omega
    · rw [List.length_append]; simp; omega
theorem rulesB_len (T : Nat → Nat) (k : Nat) : ∀ i, (rulesB T k i).length = (namesB T i).length
  | 0 => rfl
  | i + 1 => by
    unfold rulesB namesB
    split
    · exact rulesB_len T k i
    · rw [List.length_append, List.length_append, rulesB_len T k i]; rfl
def uaB (f : Nat → Bool) : Array Value := ((List.range 16).map fun t => Value.bool (f t)).toArray
theorem uaB_at (f : Nat → Bool) {t : Nat} (h : t < 16) : (uaB f)[t]? = some (.bool (f t)) := by
  unfold uaB
  simp [h]
theorem uaB_set (f : Nat → Bool) {t : Nat} (h : t < 16) : (uaB f).setIfInBounds t (.bool true) = uaB (fun x => f x || decide (x = t)) := by
  apply Array.ext_getElem?
  intro i
  have hz : (uaB f).size = 16 := by simp [uaB]
  rw [Array.getElem?_setIfInBounds]
  by_cases hi : i < 16
  · rw [uaB_at (fun x => f x || decide (x = t)) hi]
    by_cases e : t = i
    · subst e; rw [if_pos rfl, if_pos (by omega)]; simp
    · have e2 : ¬ i = t := fun h => e h.symm
      rw [if_neg e, uaB_at f hi]; simp [e2]
  · have h1 : ∀ f : Nat → Bool, (uaB f)[i]? = none := fun f => Array.getElem?_eq_none (by simp [uaB]; omega)
    rw [if_neg (by omega), h1, h1]
theorem dec_sizeV (n : Nat) : (decT n).size ≤ 20 := by
  have hl : ∀ (f n : Nat) (acc : List Int), (decF f n acc).length ≤ f + acc.length := fun f => by
    induction f with
    | zero => intro n acc; rw [decF]; omega
    | succ f ih =>
      intro n acc
      rw [decF]
      split
      · omega
      · have := ih (n / 10) ((48 + ((n % 10 : Nat) : Int)) :: acc)
        rw [List.length_cons] at this
        omega
  have h : (decT n).size = (decF 20 n []).length := by simp [decT, strOf, ByteArray.size]
  have := hl 20 n []
  rw [h]
  simpa using this
theorem set_allocV {X : World} {o : Obj} {p : Addr} {v : Value} (h : p.block < X.heap.size) : (X.alloc o).setCell p v = (X.setCell p v).alloc o := by
  simp only [World.setCell, World.alloc]
  congr 1
  apply Array.ext_getElem?
  intro i
  rw [Array.getElem?_modify, Array.getElem?_push, Array.getElem?_push, Array.getElem?_modify, Array.size_modify]
  by_cases e : i = X.heap.size
  · subst e
    rw [if_neg (by omega), if_pos rfl, if_pos rfl]
  · rw [if_neg e, if_neg e]
/-- Far cells behind an append onto the block r. -/
theorem region_classV {P : Program} {id : Nat} {Q : Exit → Act → World → Prop} {a : Act} {w : World} {l : List Oper} {ι : Type} (f : ι → World) (hm : P.follows .mixedOrders = true) (hB : Region.lexB .any l.toArray = true) (h0 : ∃ n, w.drew = f n)
    (h : wpQuiet P l.toArray (fun w' => ∃ n, w' = f n) (fun a' => ∀ w', (∃ n, w' = f n) → Q .normal a' w') l a) : (Code.region id l.toArray true).wp P Q a w :=
  wp_region_quiet (C := fun w' => ∃ n, w' = f n) hm hB h0 (by simpa using h)
theorem family2V (I : World → Prop) (w : World) (h : I w) : ∃ (ι : Type) (f : ι → World) (n0 : ι), w = f n0 ∧ (∀ n, I (f n)) ∧ ∀ w', I w' → ∃ m, w' = f m :=
  ⟨{x // I x}, Subtype.val, ⟨w, h⟩, rfl, Subtype.property, fun w' h => ⟨⟨w', h⟩, rfl⟩⟩
theorem others {W w w1 w2 : World} {ub gb : Nat} {arr arr2 : Array Value} {t t2 e : TypeId} {nv : Value} {n size : Nat} {xs : List Value} {k : Nat} {v : Value} {o : Obj} (hu : w.heap[ub]? = some (.cells arr t)) (hb : Below w.heap.size w w1) (on : w.ownsRow W.heap.size e size nv n xs) (he : t ≠ e) (hg : (w1.alloc o).grownBy w2 nv.ownBlock) (hgb : w.heap[gb]? = some (.cells arr2 t2)) (ht : t ≠ t2) : (w2.setCell ⟨gb, k, none⟩ v).heap[ub]? = some (.cells arr t) := by
  have h1 : (w1.alloc o).heap[ub]? = some (.cells arr t) := ((bel1 w1 o).block _ (Nat.lt_of_lt_of_le (block_lt hu) hb.size)).trans ((hb.block _ (block_lt hu)).trans hu)
  have h2 : w2.heap[ub]? = some (.cells arr t) := (hg.block ub (block_lt h1) (Ne.symm (row_no on he hu))).trans h1
  exact (Go.Deep.blk_setCell_other w2 ⟨gb, k, none⟩ _ ub (type_neV hu hgb ht)).trans h2
set_option maxHeartbeats 4000000 in
set_option maxRecDepth 100000 in
theorem binNames_core (W : World) (pv : Option Addr) (zn cv : Nat) (a : Int) (r : Nat) (hr : r ≤ 7) (ea : bits .and .i64 a 7 = (r : Int)) (T : Nat → Nat) (hT : ∀ i, T i < 16) (hz8 : zn * 8 ≤ 140737488351232)
    (HNG : ∀ i, i < zn → ∀ w', Below W.heap.size W w' → ∃ g o z, pv = some ⟨g, o, none⟩ ∧ w'.cell? ⟨g, o + i, none⟩ = some (.int .i64 z) ∧ g < w'.heap.size ∧ bits .and .i64 z 15 = (T i : Int))
    (X : Gr) (l : List ByteArray) (hl : l.length = r + 1) (m : Nat) (hm : m = min zn 8) (hX : X.names = namesB T m ++ l) (hX0 : X.start = 0)
    (J : Nat → Nat → Prop) (hJ0 : J 0 0) (hJ1 : ∀ j n, J j n → n < 16 → usedB T m n = true → J j (n + 1)) (hJ2 : ∀ j n, J j n → j < r + 1 → ¬ (n < 16 ∧ usedB T m n = true) → l[j]? = some (nmQ n) ∧ J (j + 1) (n + 1))
    (KA : ∀ w, Calls Tryd.prog 6 #[] w fun e w' => e = .returned (.bool true) ∧ Hid (Below w.heap.size w w'))
    (KN : ∀ (n : Int) w, Calls Tryd.prog 8 #[.int .i64 n] w fun e w' => e = .returned (.int .i64 n) ∧ w = w')
    (KM : ∀ v1 v2 w, GrIs w Any v1 v2 X → Calls Tryd.prog 11 #[.agg #[.int .i64 0, v1, v2]] w fun e w' => e = .returned (.bool true) ∧ Below w.heap.size w w')
    (KB : ∀ v1 v2 w, GrIs w Any v1 v2 (gN T (3 + r) m) → Calls Tryd.prog 7 #[.agg #[.int .i64 0, v1, v2]] w fun e w' => ∃ p c p2 n2 c2, e = .returned (.tuple #[.agg #[.int .i64 0, .slice p ((namesB T m).length + (r + 1)) c, .slice p2 n2 c2], .int .i64 0]) ∧ Hid (GrIs w' Any (.slice p ((namesB T m).length + (r + 1)) c) (.slice p2 n2 c2) X) ∧ Hid (Below w.heap.size w w')) :
    Calls Tryd.prog 4 #[.slice pv zn cv, .int .i64 a] W fun e W' => e = .returned (.bool true) ∧ Below W.heap.size W W' := by
  have HKB := (show Hid _ from KB)
  have HKM := (show Hid _ from KM)
  have HN := (show Hid _ from HNG)
  have HJ1 := (show Hid _ from hJ1)
  have HJ2 := (show Hid _ from hJ2)
  have HJ0 : Hid (J 0 0) := hJ0
  have HX : Hid (X.names = namesB T m ++ l ∧ X.start = 0 ∧ l.length = r + 1) := ⟨hX, hX0, hl⟩
  have HTT := (show Hid _ from hT)
  have HM : Hid (m = min zn 8) := hm
  have hm8 : m ≤ 8 := by omega
  have hmz : m ≤ zn := by omega
  clear KB KM HNG hJ0 hJ1 hJ2 hX hX0 hl hT hm
  go_enter Tryd.func4, Tryd.ntmps4
  go_upto_region 7 with (go_at_call 6; refine (KA _).mono ?_; rintro e w1 ⟨rfl, b1⟩; have HB1 : Hid (Below W.heap.size W w1) := b1; clear b1)
  obtain ⟨X0, hX0⟩ : ∃ X, X = blks w1 (qvP w1.heap.size) := ⟨_, rfl⟩
  have hXX : ((((w1.alloc (.cells #[.string ⟨#[83]⟩] 9)).alloc (.cells #[.int .i64 0, .slice (some ⟨w1.heap.size, 0, none⟩) 1 1, .slice none 0 0] 27)).alloc (.cells #[.bool false, .slice none 0 0] 30)).alloc (.cells #[.int .i64 0, .slice (some ⟨w1.heap.size + 1 + 1, 0, none⟩) 1 1] 35)) = X0 := hX0.symm
  have HQ0 : Hid (QV w1 (w1.heap.size + 1) (w1.heap.size + 1 + 1 + 1) (w1.heap.size + 1 + 1) [⟨#[83]⟩] [] (.slice (some ⟨w1.heap.size, 0, none⟩) 1 1) (.slice none 0 0) X0) := by rw [hX0]; exact qv_new w1
  rw [hXX]
  clear hX0 hXX
  obtain ⟨rb, hrb⟩ : ∃ rb, rb = w1.heap.size + 1 + 1 + 1 := ⟨_, rfl⟩
  obtain ⟨cb, hcb⟩ : ∃ cb, cb = w1.heap.size + 1 + 1 := ⟨_, rfl⟩
  obtain ⟨gb, hgb⟩ : ∃ gb, gb = w1.heap.size + 1 := ⟨_, rfl⟩
  obtain ⟨nv0, hnv0⟩ : ∃ nv, nv = Value.slice (some ⟨w1.heap.size, 0, none⟩) 1 1 := ⟨_, rfl⟩
  rw [← hrb, ← hcb, ← hgb, ← hnv0] at HQ0
  rw [← hrb, ← hcb, ← hgb, ← hnv0]
  clear hgb hrb hcb
  have HNV : Hid (nv0 = Value.slice (some ⟨w1.heap.size, 0, none⟩) 1 1) := hnv0
  clear hnv0 ea
  go_loopw [8] (fun x wr => ∃ (i : Nat) (sv : Value), i ≤ 3 + r ∧ x = .int .i64 i ∧ Hid (QV w1 gb rb cb [⟨#[83]⟩] (List.replicate i ⟨0, 0, 0⟩) nv0 sv wr)) (fun x _ => 3 + r - (intOf x).toNat)
  case atStart => exact ⟨0, _, Nat.zero_le _, rfl, HQ0⟩
  case round =>
    obtain ⟨i, sv, hi, rfl, HQ⟩ := hrel
    obtain ⟨Y, hY⟩ : ∃ Y, Y = wr := ⟨_, rfl⟩
    subst hY
    by_cases hlt : i < 3 + r
    · skip
      have hltI : (i : Int) < 3 + (r : Int) := by omega
      have so := HQ.out.so
      rw [List.length_replicate] at so
      obtain ⟨ps, cs, hvs⟩ := row_slice so
      subst hvs
      have OC : Hid (Y.ownsRow w1.heap.size 32 3 (.slice ps i cs) i (sysV (List.replicate i ⟨0, 0, 0⟩))) := so
      have hrl : rb < Y.heap.size := block_lt HQ.out.rv
      have hcl : cb < Y.heap.size := block_lt HQ.out.cv
      have hwz : w1.heap.size ≤ Y.heap.size := HQ.out.bl.size
      have c1 : Y.cell? ⟨rb, 1, none⟩ = some (.slice (some ⟨cb, 0, none⟩) 1 1) := cellV HQ.out.rv 1
      have c2 : Y.cell? ⟨cb, 1, none⟩ = some (.slice ps i cs) := cellV HQ.out.cv 1
      have d1 : (Y.alloc (.cells #[.int .i64 0, .int .i64 0, .int .i64 0] 32)).cell? ⟨rb, 1, none⟩ = some (.slice (some ⟨cb, 0, none⟩) 1 1) := (World.cell?_alloc_past _ _ _ hrl).trans c1
      have d2 : (Y.alloc (.cells #[.int .i64 0, .int .i64 0, .int .i64 0] 32)).cell? ⟨cb, 1, none⟩ = some (.slice ps i cs) := (World.cell?_alloc_past _ _ _ hcl).trans c2
      have F2 : Hid ((Y.alloc (.cells #[.int .i64 0, .int .i64 0, .int .i64 0] 32)).frozen? ⟨cb, 1, none⟩ = false) := (World.frozen?_alloc_past _ _ _ hcl).trans (frzV HQ.out.cv 1)
      have RNr : Hid ((Value.slice ps i cs).ownBlock ≠ some rb) := row_no so (by decide) HQ.out.rv
      have RNc : Hid ((Value.slice ps i cs).ownBlock ≠ some cb) := row_no so (by decide) HQ.out.cv
      obtain ⟨iy, hy0, hy1, hy2, hy3⟩ := info_parts Tryd.infoSymV
      have HI : Hid (Tryd.prog.info? 32 = some iy ∧ iy.zero = some (.agg #[.int .i64 0, .int .i64 0, .int .i64 0]) ∧ iy.size = 3 ∧ iy.bytes = 24) := ⟨hy0, hy1, hy2, hy3⟩
      have MX : Hid (i + 1 ≤ maxLen) := by show _ ≤ _; unfold maxLen; omega
      have BY : Hid ((i + 1) * 24 ≤ 140737488355328) := by show _ ≤ _; omega
      clear so hy0 hy1 hy2 hy3
      go_upto_region 9 with fail
      go_region_law (first | (refine step_append_lies _ (by rfl) _ _ _ (by rfl) w1.heap.size 32 iy _ 3 24 Tryd.underlying28 HI.out.1 HI.out.2.1 HI.out.2.2.1 HI.out.2.2.2 rfl (by omega) (.slice ps i cs) i (sysV (List.replicate i ⟨0, 0, 0⟩)) (by rfl) (OC.out.alloc _) ⟨Y.heap.size, 0, none⟩ 1 1 [.int .i64 0, .int .i64 0, .int .i64 0] (by rfl) (by rfl) (World.news_of_block (cs := #[.int .i64 0, .int .i64 0, .int .i64 0]) (t := 32) (fr := (0, 0)) (heap_alloc_new Y _)) (by simp [Value.oneCell']) (by omega) MX.out BY.out (Nat.le_trans hwz (le_alloc _ _)) (Y.heap.size + 1) (by simp) ?_; intro gg cap1 w2 hown1 hgrow hat hltg; have x1 : w2.cell? ⟨rb, 1, none⟩ = some (.slice (some ⟨cb, 0, none⟩) 1 1) := (hgrow.cell_far ⟨rb, 1, none⟩ (by simp; omega) (Ne.symm RNr.out)).trans d1; have y1 : w2.frozen? ⟨cb, 1, none⟩ = false := (hgrow.frozen_far ⟨cb, 1, none⟩ (by simp; omega) (Ne.symm RNc.out)).trans F2.out; have x2 : w2.cell? ⟨cb, 1, none⟩ = some (.slice ps i cs) := (hgrow.cell_far ⟨cb, 1, none⟩ (by simp; omega) (Ne.symm RNc.out)).trans d2))
      all_goals
        have FIN : Hid (QV w1 gb rb cb [⟨#[83]⟩] (List.replicate (i + 1) ⟨0, 0, 0⟩) nv0 (.slice (some ⟨gg, 0, none⟩) (i + 1) cap1) (w2.setCell ⟨cb, 1, none⟩ (.slice (some ⟨gg, 0, none⟩) (i + 1) cap1))) := by
          show QV _ _ _ _ _ _ _ _ _
          rw [List.replicate_succ']
          exact HQ.out.sym (s := ⟨0, 0, 0⟩) (bel1 _ _) (by simp) ⟨hgrow.os, hgrow.tape, hgrow.output, hgrow.size, hgrow.block⟩ hown1
        clear hgrow hown1 hat x1 y1 x2 c1 c2 d1 d2
        go_wp2
        go_roundw
        case rel => exact ⟨i + 1, _, by omega, by go_num, FIN⟩
        case measure => simp [intOf]; omega
    · have hi3 : i = 3 + r := by omega
      have hltI : ¬ (i : Int) < 3 + (r : Int) := by omega
      have hk10 : i ≤ 10 := by omega
      have HK : Hid (i = 3 + r) := hi3
      have e0 : Y.cell? ⟨rb, 0, none⟩ = some (.int .i64 0) := cellV HQ.out.rv 0
      have e1 : Y.cell? ⟨rb, 1, none⟩ = some (.slice (some ⟨cb, 0, none⟩) 1 1) := cellV HQ.out.rv 1
      have hgl : gb < Y.heap.size := block_lt HQ.out.vb
      have e2 : (Y.alloc (.cells #[.int .i64 0, .slice (some ⟨cb, 0, none⟩) 1 1] 35)).cell? ⟨gb, 2, none⟩ = some (.slice none 0 0) := (World.cell?_alloc_past _ _ _ hgl).trans (cellV HQ.out.vb 2)
      have e3 : (Y.alloc (.cells #[.int .i64 0, .slice (some ⟨cb, 0, none⟩) 1 1] 35)).frozen? ⟨gb, 2, none⟩ = false := (World.frozen?_alloc_past _ _ _ hgl).trans (frzV HQ.out.vb 2)
      have GV0 : Hid (∃ F o us, GV w1 gb F 0 (namesB T 0) nv0 (rulesB T i 0) us o ((Y.alloc (.cells #[.int .i64 0, .slice (some ⟨cb, 0, none⟩) 1 1] 35)).setCell ⟨gb, 2, none⟩ (.slice (some ⟨Y.heap.size, 0, none⟩) 1 1))) := by
        obtain ⟨F, h⟩ := HQ.out.fin
        exact ⟨F, _, _, h⟩
      have WYY : Hid (w1.heap.size ≤ Y.heap.size) := HQ.out.bl.size
      clear hlt hi3 hi HQ
      go_upto_region 13 with fail
      clear hltI
      obtain ⟨V0, hV0⟩ : ∃ V, V = ((Y.setCell ⟨gb, 2, none⟩ (.slice (some ⟨Y.heap.size, 0, none⟩) 1 1)).alloc (.cells #[.int .i64 0, .slice (some ⟨cb, 0, none⟩) 1 1] 35)).alloc (.cells (uaB (usedB T 0)) 43) := ⟨_, rfl⟩
      have hs0 : (Y.setCell ⟨gb, 2, none⟩ (.slice (some ⟨Y.heap.size, 0, none⟩) 1 1)).heap.size = Y.heap.size := by simp [World.setCell]
      have GV1 : Hid (∃ F o us, GV w1 gb F 0 (namesB T 0) nv0 (rulesB T i 0) us o V0 ∧ ¬ F (Y.heap.size + 1)) := by
        obtain ⟨F, o, us, h⟩ := GV0.out
        rw [set_allocV hgl] at h
        have h2 := h.keep (bel1 _ (.cells (uaB (usedB T 0)) 43))
        rw [← hV0] at h2
        exact ⟨F, o, us, h2, fun hF => by have := (h.m0.fl _ hF).2; simp [hs0] at this⟩
      obtain ⟨ub, hub⟩ : ∃ ub, ub = Y.heap.size + 1 := ⟨_, rfl⟩
      have UB0 : Hid (V0.heap[ub]? = some (.cells (uaB (usedB T 0)) 43)) := by
        have h := heap_alloc_new ((Y.setCell ⟨gb, 2, none⟩ (.slice (some ⟨Y.heap.size, 0, none⟩) 1 1)).alloc (.cells #[.int .i64 0, .slice (some ⟨cb, 0, none⟩) 1 1] 35)) (.cells (uaB (usedB T 0)) 43)
        rw [← hV0] at h
        have h2 : ((Y.setCell ⟨gb, 2, none⟩ (.slice (some ⟨Y.heap.size, 0, none⟩) 1 1)).alloc (.cells #[.int .i64 0, .slice (some ⟨cb, 0, none⟩) 1 1] 35)).heap.size = ub := by rw [hub]; simp [World.setCell]
        rw [h2] at h
        exact h
      have hV1 : ((Y.setCell ⟨gb, 2, none⟩ (.slice (some ⟨Y.heap.size, 0, none⟩) 1 1)).alloc (.cells #[.int .i64 0, .slice (some ⟨cb, 0, none⟩) 1 1] 35)).alloc (.cells #[.bool false, .bool false, .bool false, .bool false, .bool false, .bool false, .bool false, .bool false, .bool false, .bool false, .bool false, .bool false, .bool false, .bool false, .bool false, .bool false] 43) = V0 := by rw [hV0]; rfl
      rw [← hub] at GV1
      have HUW : Hid (w1.heap.size ≤ ub) := by show _ ≤ _; rw [hub]; have := WYY.out; omega
      rw [hV1, ← hub]
      clear hV0 hV1 hs0 hub e0 e1 e2 e3 hgl GV0
      go_loopw [10, 11] (fun x y wr => ∃ (j : Nat), j ≤ m ∧ x = .int .i64 j ∧ (j = 0 ∧ y = undef ∨ ∃ z, y = .int .i64 z) ∧ ∃ F nv o us, Hid (GV w1 gb F 0 (namesB T j) nv (rulesB T i j) us o wr) ∧ Hid (¬ F ub) ∧ Hid (wr.heap[ub]? = some (.cells (uaB (usedB T j)) 43))) (fun x _ _ => m - (intOf x).toNat)
      case atStart =>
        obtain ⟨F, o, us, h, hf⟩ := GV1.out
        exact ⟨0, Nat.zero_le _, rfl, Or.inl ⟨rfl, rfl⟩, F, _, o, us, h, hf, UB0⟩
      case round =>
        obtain ⟨j, hj, rfl, hy, F, nv, o, us, GVj, NFj, UBj⟩ := hrel
        obtain ⟨V, hV⟩ : ∃ V, V = wr := ⟨_, rfl⟩
        subst hV
        have HBV : Hid (Below W.heap.size W V) := HB1.out.trans (GVj.out.m0.bl.mono HB1.out.size)
        by_cases hlt : j < m
        · have hjz : (j : Int) < (zn : Int) := by omega
          have hj8 : (j : Int) < 8 := by omega
          have hd8 : decide ((j : Int) < 8) = true := decide_eq_true hj8
          obtain ⟨g, og, z, hp, cz, hgl2, hbz⟩ := HN.out j (by omega) V HBV.out
          subst hp
          have hT16 := HTT.out j
          obtain ⟨t, ht⟩ : ∃ t, t = T j := ⟨_, rfl⟩
          have HTJ : Hid (t = T j) := ht
          rw [← ht] at hbz hT16
          have ht0 : (t : Int) < 16 := by omega
          have cu : V.cell? ⟨ub, t, none⟩ = some (.bool (usedB T j t)) := (cellV UBj.out t).trans (uaB_at _ hT16)
          have fu : V.frozen? ⟨ub, t, none⟩ = false := frzV UBj.out t
          clear ht
          cases hu : usedB T j t with
          | true =>
            rw [hu] at cu
            have e1 : namesB T (j + 1) = namesB T j := by rw [namesB, if_pos (by rw [← HTJ.out]; exact hu)]
            have e2 : rulesB T i (j + 1) = rulesB T i j := by rw [rulesB, if_pos (by rw [← HTJ.out]; exact hu)]
            have e3 : uaB (usedB T (j + 1)) = uaB (usedB T j) := by
              congr 1
              funext x
              show (usedB T j x || decide (x = T j)) = _
              by_cases hx : x = T j
              · rw [hx, ← HTJ.out, hu]; rfl
              · simp [hx]
            have GVn : Hid (GV w1 gb F 0 (namesB T (j + 1)) nv (rulesB T i (j + 1)) us o V) := by rw [e1, e2]; exact GVj
            have UBn : Hid (V.heap[ub]? = some (.cells (uaB (usedB T (j + 1))) 43)) := by rw [e3]; exact UBj
            clear e1 e2 e3 hu
            go_wp2_with (fail)
            go_roundw
            case rel => exact ⟨j + 1, by omega, by go_num, Or.inr ⟨_, rfl⟩, F, nv, o, us, GVn, NFj, UBn⟩
            case measure => simp [intOf]; omega
          | false =>
            rw [hu] at cu
            have htj := HTJ.out
            have LN := namesB_len T j
            have LR := rulesB_len T i j
            obtain ⟨L, hL⟩ : ∃ L, L = (namesB T j).length := ⟨_, rfl⟩
            rw [← hL] at LN LR
            have HLN : Hid ((namesB T j).length = L) := hL.symm
            have HLR : Hid ((rulesB T i j).length = L) := LR
            have hL9 : L ≤ 9 := by omega
            have HL1 : Hid (1 ≤ L) := LN.1
            have e1 : Hid (namesB T (j + 1) = namesB T j ++ [nmQ t]) := by show _ = _; rw [namesB, if_neg (by rw [← htj, hu]; decide), htj]
            have e2 : Hid (rulesB T i (j + 1) = rulesB T i j ++ [⟨(L : Int), [⟨false, []⟩]⟩]) := by show _ = _; rw [rulesB, if_neg (by rw [← htj, hu]; decide), hL]
            have e3 : uaB (usedB T (j + 1)) = (uaB (usedB T j)).setIfInBounds t (.bool true) := by rw [uaB_set _ hT16, htj]; rfl
            obtain ⟨Vs, hVs⟩ : ∃ w, w = V.setCell ⟨ub, t, none⟩ (.bool true) := ⟨_, rfl⟩
            have GVs : Hid (GV w1 gb F 0 (namesB T j) nv (rulesB T i j) us o Vs) := by rw [hVs]; exact GVj.out.putV UBj.out (by decide) (by decide) (by decide) NFj.out HUW.out _
            have UBs : Hid (Vs.heap[ub]? = some (.cells (uaB (usedB T (j + 1))) 43)) := by rw [hVs, e3]; exact heap_setCell_same V ub t _ _ _ UBj.out
            have on := GVs.out.on
            rw [HLN.out] at on
            obtain ⟨pn, cn, hvn⟩ := row_slice on
            subst hvn
            have NR : Hid (Vs.ownsRow w1.heap.size 9 1 (.slice pn L cn) L (txV (namesB T j))) := on
            have hgl : gb < Vs.heap.size := block_lt GVs.out.vb
            have hwV : w1.heap.size ≤ Vs.heap.size := GVs.out.m0.bl.size
            have g1 : Vs.cell? ⟨gb, 1, none⟩ = some (.slice pn L cn) := cellV GVs.out.vb 1
            have RN1 : Hid ((Value.slice pn L cn).ownBlock ≠ some gb) := row_no on (by decide) GVs.out.vb
            have MR : Calls Tryd.prog 9 #[.int .i64 (t : Int)] Vs.drew fun e w2 => e = .returned (.string (decT t)) ∧ Hid (Below Vs.heap.size Vs w2) ∧ w2.cell? ⟨gb, 1, none⟩ = some (.slice pn L cn) ∧ w2.frozen? ⟨gb, 1, none⟩ = false ∧ w1.heap.size ≤ w2.heap.size ∧ gb < w2.heap.size ∧ Hid (w2.ownsRow w1.heap.size 9 1 (.slice pn L cn) L (txV (namesB T j))) := by
              refine (decimal_any t (by omega) _).mono ?_
              rintro e w2 ⟨rfl, hb⟩
              have hb0 : Below Vs.heap.size Vs Vs.drew := (Below.refl _ _).drew
              have hb1 := hb0.trans hb
              exact ⟨rfl, hb1, (hb1.cell (p := ⟨_, _, none⟩) hgl).trans g1, (hb1.frozen (p := ⟨_, _, none⟩) hgl).trans (frzV GVs.out.vb 1), Nat.le_trans hwV hb1.size, Nat.lt_of_lt_of_le hgl hb1.size, row_keep NR.out hb1⟩
            have hds : ¬ 9223372036854775807 < 1 + (decT t).size := by have := dec_sizeV t; omega
            obtain ⟨is, hs0, hs1, hs2, hs3⟩ := info_parts Tryd.infoStrV
            have HS : Hid (Tryd.prog.info? 9 = some is ∧ is.zero = some (.string ⟨#[]⟩) ∧ is.size = 1 ∧ is.bytes = 16) := ⟨hs0, hs1, hs2, hs3⟩
            have MX : Hid (L + 1 ≤ maxLen) := by show _ ≤ _; unfold maxLen; omega
            have BY : Hid ((L + 1) * 16 ≤ 140737488355328) := by show _ ≤ _; omega
            have hVs2 : V.setCell ⟨ub, t, none⟩ (.bool true) = Vs := hVs.symm
            clear hs0 hs1 hs2 hs3 on e3 hu LN LR hL htj hVs
            go_wp2_with (fail)
            clear hVs2 cu fu cz
            go_cut [] from 46 to 85 (fun wc => ∃ nv2, Hid (GV w1 gb F 0 (namesB T (j + 1)) nv2 (rulesB T i j) us o wc) ∧ Hid (wc.heap[ub]? = some (.cells (uaB (usedB T (j + 1))) 43)))
            case first =>
              go_region_law (first | (refine step_append_lies _ (by rfl) _ _ _ (by rfl) w1.heap.size 9 is _ 1 16 Tryd.underlying24 HS.out.1 HS.out.2.1 HS.out.2.2.1 HS.out.2.2.2 rfl (by omega) (.slice pn L cn) L (txV (namesB T j)) (by rfl) (o1.out.alloc _) ⟨w2.heap.size, 0, none⟩ 1 1 [.string (nmQ t)] (by rfl) (by rfl) (World.news_of_block (cs := #[.string (nmQ t)]) (t := 9) (fr := (0, 0)) (heap_alloc_new w2 _)) (by simp [Value.oneCell']) (by omega) MX.out BY.out (Nat.le_trans hW1 (le_alloc _ _)) (w2.heap.size + 1) (by simp) ?_; intro gg cap1 w3 hown1 hgrow hat hltg; have x1 : w3.cell? ⟨gb, 1, none⟩ = some (.slice pn L cn) := (hgrow.cell_far ⟨gb, 1, none⟩ (by simp; omega) (Ne.symm RN1.out)).trans ((World.cell?_alloc_past _ _ _ hR1).trans r1'); have y1 : w3.frozen? ⟨gb, 1, none⟩ = false := (hgrow.frozen_far ⟨gb, 1, none⟩ (by simp; omega) (Ne.symm RN1.out)).trans ((World.frozen?_alloc_past _ _ _ hR1).trans f1')) | (go_simp; refine MR.mono ?_; rintro e w2 ⟨rfl, b1, r1', f1', hW1, hR1, o1⟩))
              all_goals
                have FIN1 : Hid (GV w1 gb F 0 (namesB T (j + 1)) (.slice (some ⟨gg, 0, none⟩) (L + 1) cap1) (rulesB T i j) us o (w3.setCell ⟨gb, 1, none⟩ (.slice (some ⟨gg, 0, none⟩) (L + 1) cap1))) := by
                  show GV _ _ _ _ _ _ _ _ _ _
                  rw [e1.out]
                  exact GVs.out.name b1.out HLN.out hgrow hown1 hat
                have FINu : Hid ((w3.setCell ⟨gb, 1, none⟩ (.slice (some ⟨gg, 0, none⟩) (L + 1) cap1)).heap[ub]? = some (.cells (uaB (usedB T (j + 1))) 43)) := others UBs.out b1.out NR.out (by decide) hgrow GVs.out.vb (by decide)
                clear hgrow hown1 hat x1 y1
                go_wp2
                go_meet
                case rel => exact ⟨_, FIN1, FINu⟩
            case rest =>
              obtain ⟨nv2, GVx, UBx⟩ := hcut
              clear GVs GVj NR RN1 MR g1 MX BY HS hds hgl hwV
              obtain ⟨Z, hZ⟩ : ∃ Z, Z = wc := ⟨_, rfl⟩
              subst hZ
              have oo := GVx.out.m0.oo
              rw [HLR.out] at oo
              obtain ⟨po, co, hvo⟩ := row_slice oo
              subst hvo
              have on := GVx.out.on
              rw [e1.out, List.length_append, HLN.out] at on
              obtain ⟨pn2, cn2, hvn⟩ := row_slice on
              subst hvn
              have OR5 : Hid (Z.ownsRow w1.heap.size 35 2 (.slice po L co) L (rusV (rulesB T i j) us)) := oo
              obtain ⟨i3, hj0, hj1, hj2, hj3⟩ := info_parts Tryd.infoRuleV
              have HI3 : Hid (Tryd.prog.info? 35 = some i3 ∧ i3.zero = some (.agg #[.int .i64 0, .slice none 0 0]) ∧ i3.size = 2 ∧ i3.bytes = 32) := ⟨hj0, hj1, hj2, hj3⟩
              have MX3 : Hid (L + 1 ≤ maxLen) := by show _ ≤ _; unfold maxLen; omega
              have BY3 : Hid ((L + 1) * 32 ≤ 140737488355328) := by show _ ≤ _; omega
              have e4 : Z.cell? ⟨gb, 1, none⟩ = some (.slice pn2 (L + [nmQ t].length) cn2) := cellV GVx.out.vb 1
              rw [show L + [nmQ t].length = L + 1 from rfl] at e4
              have e5 : Z.cell? ⟨gb, 2, none⟩ = some (.slice po L co) := cellV GVx.out.vb 2
              have f5 : Z.frozen? ⟨gb, 2, none⟩ = false := frzV GVx.out.vb 2
              have RN5 : Hid ((Value.slice po L co).ownBlock ≠ some gb) := row_no oo (by decide) GVx.out.vb
              have gl5 : gb < Z.heap.size := block_lt GVx.out.vb
              have hw5 : w1.heap.size ≤ Z.heap.size := GVx.out.m0.bl.size
              have ul5 : ub < Z.heap.size := block_lt UBx.out
              have UR5 : Hid ((Value.slice po L co).ownBlock ≠ some ub) := row_no oo (by decide) UBx.out
              have nl5 : ∀ b, (Value.slice pn2 (L + [nmQ t].length) cn2).ownBlock = some b → b < Z.heap.size := fun b e => (on.lt b e).2
              have ol5 : ∀ b, (Value.slice po L co).ownBlock = some b → b < Z.heap.size := fun b e => (oo.lt b e).2
              have HLL : Hid ([nmQ t].length = 1) := rfl
              have IC : Hid (IsCns (Z.alloc (.cells #[.bool false, .slice none 0 0] 30)) (fun b => b = Z.heap.size) (.slice (some ⟨Z.heap.size, 0, none⟩) 1 1) [⟨false, []⟩]) := ⟨[.slice none 0 0], reads_blkV (heap_alloc_new _ _) rfl (by unfold maxLen; omega) rfl, (CnsIn.nil _ _).snoc (c := ⟨false, []⟩) ⟨none, 0, rfl, ⟨Nat.zero_le _, Nat.zero_le _⟩, fun h => absurd h (Nat.lt_irrefl _)⟩⟩
              have FCL : Hid (∀ b, b = Z.heap.size → w1.heap.size ≤ b ∧ b < (Z.alloc (.cells #[.bool false, .slice none 0 0] 30)).heap.size ∧ b ≠ gb ∧ (Value.slice pn2 (L + [nmQ t].length) cn2).ownBlock ≠ some b ∧ (Value.slice po L co).ownBlock ≠ some b) := fun b e => by
                subst e
                refine ⟨hw5, by simp, by omega, fun e => ?_, fun e => ?_⟩
                · have := nl5 _ e; omega
                · have := ol5 _ e; omega
              have NFx : Hid (¬ (F ub ∨ ub = Z.heap.size)) := fun h => by
                rcases h with h | h
                · exact NFj.out h
                · omega
              have hw1 : wrap64 ((L : Int) + 1 - 1) = (L : Int) := by unfold wrap64; omega
              have hw2 : IntKind.i64.wrap ((L : Int) + 1 - 1) = (L : Int) := by rw [IntKind.wrap_i64]; omega
              clear oo on hj0 hj1 hj2 hj3 nl5 ol5
              go_wp2_with (at_builtin; refine wpList_append_lies _ rfl _ _ 25 rfl w1.heap.size 35 i3 (.agg #[.int .i64 0, .slice none 0 0]) 2 32 Tryd.underlying25 HI3.out.1 HI3.out.2.1 HI3.out.2.2.1 HI3.out.2.2.2 rfl (by decide) _ _ _ rfl ((OR5.out.alloc _).alloc _) ⟨Z.heap.size + 1, 0, none⟩ 1 1 [.int .i64 (L : Int), .slice (some ⟨Z.heap.size, 0, none⟩) 1 1] rfl rfl (World.news_of_block (cs := #[.int .i64 (L : Int), .slice (some ⟨Z.heap.size, 0, none⟩) 1 1]) (t := 35) (fr := (0, 0)) (new2V Z _ _)) (fun x hx => by simp at hx; rcases hx with rfl | rfl <;> rfl) (by decide) MX3.out BY3.out (Nat.le_trans hw5 (Nat.le_trans (le_alloc _ _) (le_alloc _ _))) (Z.heap.size + 1 + 1) (by simp) ?_; intro gg3 cap3 w6 hown3 hgrow3 hat3 hl3; have e6 : w6.cell? ⟨gb, 2, none⟩ = some (.slice po L co) := (hgrow3.cell_far ⟨gb, 2, none⟩ (by simp; omega) (Ne.symm RN5.out)).trans ((World.cell?_alloc_past _ _ _ (by simp; omega)).trans ((World.cell?_alloc_past _ _ _ gl5).trans e5)); have f6 : w6.frozen? ⟨gb, 2, none⟩ = false := (hgrow3.frozen_far ⟨gb, 2, none⟩ (by simp; omega) (Ne.symm RN5.out)).trans ((World.frozen?_alloc_past _ _ _ (by simp; omega)).trans ((World.frozen?_alloc_past _ _ _ gl5).trans f5)))
              have GVn : Hid (GV w1 gb (fun b => F b ∨ b = Z.heap.size) 0 (namesB T (j + 1)) (.slice pn2 (L + [nmQ t].length) cn2) (rulesB T i (j + 1)) (us ++ [.slice (some ⟨Z.heap.size, 0, none⟩) 1 1]) (.slice (some ⟨gg3, 0, none⟩) (L + 1) cap3) (w6.setCell ⟨gb, 2, none⟩ (.slice (some ⟨gg3, 0, none⟩) (L + 1) cap3))) :=
                (GVx.out.keep (bel1 Z _)).ruleV IC.out FCL.out HLR.out hgrow3 hown3 (by rcases hat3 with h | h; exact Or.inl h; exact Or.inr (by simpa using h)) e2.out
              have UBn : Hid ((w6.setCell ⟨gb, 2, none⟩ (.slice (some ⟨gg3, 0, none⟩) (L + 1) cap3)).heap[ub]? = some (.cells (uaB (usedB T (j + 1))) 43)) := others UBx.out (bel1 Z _) OR5.out (by decide) hgrow3 GVx.out.vb (by decide)
              go_roundw
              case rel => exact ⟨j + 1, by omega, by go_num, Or.inr ⟨_, rfl⟩, _, _, _, _, GVn, NFx, UBn⟩
              case measure => simp [intOf]; omega
        · obtain rfl : j = m := by omega
          have hd8 : (decide ((j : Int) < (zn : Int)) && decide ((j : Int) < 8)) = false := by
            have := HM.out
            by_cases h1 : (j : Int) < 8
            · have : ¬ (j : Int) < (zn : Int) := by omega
              simp [this]
            · simp [h1]
          obtain ⟨L, hL⟩ : ∃ L, L = (namesB T j).length := ⟨_, rfl⟩
          have HLN : Hid ((namesB T j).length = L) := hL.symm
          have hLm : 1 ≤ L ∧ L ≤ j + 1 := by rw [hL]; exact namesB_len T j
          have HLR : Hid ((rulesB T i j).length = L) := by show _ = _; rw [rulesB_len, hL]
          have oo := GVj.out.m0.oo
          rw [HLR.out] at oo
          obtain ⟨po, co, hvo⟩ := row_slice oo
          subst hvo
          have on := GVj.out.on
          rw [HLN.out] at on
          obtain ⟨pn, cn, hvn⟩ := row_slice on
          subst hvn
          rw [HLN.out, ← HK.out] at HKB
          have HGR : Hid (GrIs V Any (.slice pn L cn) (.slice po L co) (gN T i j)) := GVj.out.gr
          have c0 : V.cell? ⟨gb, 0, none⟩ = some (.int .i64 0) := cellV GVj.out.vb 0
          have c1 : V.cell? ⟨gb, 1, none⟩ = some (.slice pn L cn) := cellV GVj.out.vb 1
          have c2 : V.cell? ⟨gb, 2, none⟩ = some (.slice po L co) := cellV GVj.out.vb 2
          have hgl : gb < V.heap.size := block_lt GVj.out.vb
          have hul : ub < V.heap.size := block_lt UBj.out
          have HJJ : Hid (j ≤ 8) := by show _ ≤ _; omega
          have hcs : ¬ (j : Int) < (zn : Int) ∧ decide ((j : Int) < (zn : Int)) = false ∨ (j : Int) < (zn : Int) ∧ decide ((j : Int) < (zn : Int)) = true ∧ ¬ (j : Int) < 8 ∧ decide ((j : Int) < 8) = false := by
            have := HM.out
            by_cases h1 : (j : Int) < (zn : Int)
            · exact Or.inr ⟨h1, decide_eq_true h1, by omega, decide_eq_false (by omega)⟩
            · exact Or.inl ⟨h1, decide_eq_false h1⟩
          clear oo on hL HNV GV1 UB0 hmz hz8 hd8 hj hlt hm8
          rcases hcs with ⟨q1, q2⟩ | ⟨q1, q2, q3, q4⟩
          all_goals
            go_upto_region 21 with (go_at_call 7; refine (HKB.out _ _ _ HGR.out).mono ?_; rintro e w2 ⟨p, c, p2, n2, cc2, rfl, IX, b2⟩)
            obtain ⟨V2, hV2⟩ : ∃ w, w = w2.alloc (.cells #[.int .i64 0, .slice p (L + (r + 1)) c, .slice p2 n2 cc2] 27) := ⟨_, rfl⟩
            obtain ⟨xb, hxb⟩ : ∃ b, b = w2.heap.size := ⟨_, rfl⟩
            have bv : Below V.heap.size V V2 := by rw [hV2]; exact b2.out.alloc b2.out.size _
            have xv : V2.heap[xb]? = some (.cells #[.int .i64 0, .slice p (L + (r + 1)) c, .slice p2 n2 cc2] 27) := by rw [hxb, hV2]; exact heap_alloc_new _ _
            have b3 : Below w2.heap.size w2 V2 := by rw [hV2]; exact bel1 _ _
            rw [← hV2, ← hxb]
            clear hV2 hxb
            have BW2 : Hid (Below W.heap.size W V2) := HBV.out.trans (bv.mono HBV.out.size)
            have IX2 : Hid (GrIs V2 Any (.slice p (L + (r + 1)) c) (.slice p2 n2 cc2) X) := IX.out.any b3
            have x1 : V2.cell? ⟨xb, 1, none⟩ = some (.slice p (L + (r + 1)) c) := cellV xv 1
            have HXB : Hid (xb < V2.heap.size) := block_lt xv
            have HXC : Hid (∀ w', Below V2.heap.size V2 w' → w'.cell? ⟨xb, 0, none⟩ = some (.int .i64 0) ∧ w'.cell? ⟨xb, 1, none⟩ = some (.slice p (L + (r + 1)) c) ∧ w'.cell? ⟨xb, 2, none⟩ = some (.slice p2 n2 cc2)) := fun w' hb => ⟨(hb.cell (p := ⟨_, _, none⟩) (block_lt xv)).trans (cellV xv 0), (hb.cell (p := ⟨_, _, none⟩) (block_lt xv)).trans (cellV xv 1), (hb.cell (p := ⟨_, _, none⟩) (block_lt xv)).trans (cellV xv 2)⟩
            have g1 : V2.cell? ⟨gb, 1, none⟩ = some (.slice pn L cn) := (bv.cell (p := ⟨_, _, none⟩) hgl).trans c1
            have HU : Hid (∀ n, n < 16 → ∀ w', Below V2.heap.size V2 w' → w'.cell? ⟨ub, n, none⟩ = some (.bool (usedB T j n))) := fun n hn w' hb => (hb.cell (p := ⟨_, _, none⟩) (Nat.lt_of_lt_of_le hul bv.size)).trans ((bv.cell (p := ⟨_, _, none⟩) hul).trans ((cellV UBj.out n).trans (uaB_at _ hn)))
            obtain ⟨gx, ox, hp, HXN⟩ : ∃ g o, p = some ⟨g, o, none⟩ ∧ Hid (g < V2.heap.size ∧ ∀ k t, L ≤ k → l[k - L]? = some t → ∀ w', Below V2.heap.size V2 w' → w'.cell? ⟨g, o + k, none⟩ = some (.string t)) := by
              obtain ⟨p', c', e1, hm, hx⟩ := IX2.out.1
              injection e1 with e1 _ _
              have hlen : X.names.length = L + l.length := by rw [HX.out.1, List.length_append, HLN.out]
              obtain ⟨g, o, e2, -, hg, hc, -⟩ := hx (by omega)
              refine ⟨g, o, by rw [e1]; exact e2, hg, fun k t hk hq w' hb => (hb.cell (p := ⟨_, _, none⟩) hg).trans (hc k _ ?_)⟩
              rw [HX.out.1]
              simp only [txV, List.map_append]
              rw [List.getElem?_append_right (by rw [List.length_map, HLN.out]; exact hk), List.length_map, HLN.out]
              simp [hq]
            subst hp
            have hne : ((L : Int) + ((r : Int) + 1) != (L : Int) + (3 + (r : Int)) - 2) = false := by
              have : (L : Int) + ((r : Int) + 1) = (L : Int) + (3 + (r : Int)) - 2 := by omega
              rw [this]; simp
            have hwa : wrap64 ((L : Int) + (3 + (r : Int)) - 2) = (L : Int) + (3 + (r : Int)) - 2 := by have := HJJ.out; unfold wrap64; omega
            have hwb : wrap64 ((L : Int) + (3 + (r : Int))) = (L : Int) + (3 + (r : Int)) := by have := HJJ.out; unfold wrap64; omega
            clear bv xv b3 IX b2 c0 c1 c2 hgl hul GVj UBj HGR NFj
            go_upto_region 25 with (go_at_call 8; refine (KN _ _).mono ?_; rintro e wn ⟨rfl, rfl⟩)
            have HJb := HJJ.out
            have HLb : Hid (L ≤ 9) := by show _ ≤ _; omega
            clear hne hwa hwb g1 x1 hLm HJb
            go_loopw [14, 15] (fun x y wr => ∃ k n : Nat, L ≤ k ∧ k ≤ L + (r + 1) ∧ x = .int .i64 n ∧ y = .int .i64 (k : Int) ∧ Hid (n ≤ 16 + (k - L)) ∧ Hid (J (k - L) n) ∧ Hid (Below V2.heap.size V2 wr)) (fun _ y _ => L + (r + 1) - (intOf y).toNat)
            case atStart => exact ⟨L, 0, Nat.le_refl _, by omega, rfl, rfl, by show _ ≤ _; omega, by show J _ _; rw [Nat.sub_self]; exact HJ0, Below.refl _ _⟩
            case round =>
              obtain ⟨k, n, hkL, hk, rfl, rfl, HNB, HJq, BV⟩ := hrel
              obtain ⟨U, hU⟩ : ∃ U, U = wr := ⟨_, rfl⟩
              subst hU
              obtain ⟨x0, x1, x2⟩ := HXC.out U BV.out
              by_cases hlt : k < L + (r + 1)
              · have hltI : (k : Int) < (L : Int) + ((r : Int) + 1) := by omega
                have hltD : decide ((k : Int) < (L : Int) + ((r : Int) + 1)) = true := decide_eq_true hltI
                clear x0 x2
                go_upto_region 27 with fail
                go_loopw [14] (fun x wr => ∃ n : Nat, x = .int .i64 n ∧ Hid (n ≤ 16 + (k - L)) ∧ Hid (J (k - L) n) ∧ Hid (wr = U)) (fun x _ => 40 - (intOf x).toNat)
                case atStart => exact ⟨n, rfl, HNB, HJq, rfl⟩
                case round =>
                  obtain ⟨n, rfl, HNB, HJq, HW⟩ := hrel
                  have hW : wr = U := HW
                  subst hW
                  obtain ⟨U, hU⟩ : ∃ U, U = wr := ⟨_, rfl⟩
                  subst hU
                  have hn24 : n ≤ 24 := by have := HNB.out; omega
                  by_cases hn : n < 16 ∧ usedB T j n = true
                  · have hnI : (n : Int) < 16 := by omega
                    have hnD : decide ((n : Int) < 16) = true := decide_eq_true hnI
                    have cu := HU.out n hn.1 U BV.out
                    rw [hn.2] at cu
                    have HJn : Hid (J (k - L) (n + 1)) := HJ1.out _ n HJq.out hn.1 hn.2
                    have HNn : Hid (n + 1 ≤ 16 + (k - L)) := by show _ ≤ _; omega
                    clear hn
                    go_wp2
                    go_roundw
                    case rel => exact ⟨n + 1, by go_num, HNn, HJn, trivial⟩
                    case measure => simp [intOf]; omega
                  · obtain ⟨HS, HJn⟩ := HJ2.out _ n HJq.out (by omega) hn
                    have HJN : Hid (J (k + 1 - L) (n + 1)) := by show J _ _; rw [show k + 1 - L = k - L + 1 by omega]; exact HJn
                    have HNN : Hid (n + 1 ≤ 16 + (k + 1 - L)) := by show _ ≤ _; have := HNB.out; omega
                    have cx : U.cell? ⟨gx, ox + k, none⟩ = some (.string (⟨#[95]⟩ ++ decT n)) := HXN.out.2 k _ hkL HS U BV.out
                    have hgx : gx < U.heap.size := Nat.lt_of_lt_of_le HXN.out.1 BV.out.size
                    have hds : ¬ 9223372036854775807 < 1 + (decT n).size := by have := dec_sizeV n; omega
                    have hstop : ((n : Int) < 16 ∧ decide ((n : Int) < 16) = true ∧ U.cell? ⟨ub, n, none⟩ = some (.bool false)) ∨ (¬ (n : Int) < 16 ∧ decide ((n : Int) < 16) = false) := by
                      by_cases h1 : n < 16
                      · have hu : usedB T j n = false := by
                          cases h2 : usedB T j n with
                          | false => rfl
                          | true => exact absurd ⟨h1, h2⟩ hn
                        have cu := HU.out n h1 U BV.out
                        rw [hu] at cu
                        exact Or.inl ⟨by omega, decide_eq_true (by omega), cu⟩
                      · exact Or.inr ⟨by omega, decide_eq_false (by omega)⟩
                    have hkn : k < L + (r + 1) := hlt
                    have hk17 : k ≤ 17 := by have := HLb.out; omega
                    clear hn HS HJn HJq HNB
                    rcases hstop with ⟨s1, s2, s3⟩ | ⟨s1, s2⟩
                    all_goals
                      go_upto_region 29 with fail
                      have KD : ∀ w', Below U.heap.size U w' → Calls Tryd.prog 9 #[.int .i64 (n : Int)] w' fun e w'' => e = .returned (.string (decT n)) ∧ Below U.heap.size U w'' := fun w' hb => (decimal_any n (by omega) w').mono fun e w'' ⟨h1, h2⟩ => ⟨h1, hb.trans (h2.mono hb.size)⟩
                      have HUB : Hid (Below V2.heap.size V2 U) := BV
                      obtain ⟨ι, f, n0, hf0, hf, hcl⟩ := family2V (fun w' => Below U.heap.size U w') U.drew (Below.refl _ _).drew
                      have hne0 : Nonempty ι := ⟨n0⟩
                      have z1 := fun n => (hf n).cell (p := ⟨gx, ox + k, none⟩) hgx |>.trans cx
                      have z2 := fun n => (HXC.out (f n) (HUB.out.trans ((hf n).mono HUB.out.size))).2.1
                      refine region_classV f (by kernel_rfl) (by kernel_rfl) ⟨n0, hf0⟩ ?_
                      clear hf0 cx x1
                      repeat (go_big_quiet_step ((go_at_call 9; (with_reducible refine (KD _ (hf _)).mono ?_; rintro e w' ⟨rfl, hb⟩; exact ⟨rfl, hcl _ hb⟩))))
                      refine wpQuiet_nil ?_
                      intro w9 hw9
                      obtain ⟨mm, rfl⟩ := hw9
                      have H9 : Hid (Below V2.heap.size V2 (f mm)) := HUB.out.trans ((hf mm).mono HUB.out.size)
                      generalize f mm = w9 at H9
                      clear hcl hf hne0 n0 z1 z2
                      clear f
                      go_wp2
                      go_roundw
                      case rel => exact ⟨k + 1, n + 1, by omega, by omega, by go_num, by go_num, HNN, HJN, H9⟩
                      case measure => simp [intOf]; omega
              · have hltI : ¬ (k : Int) < (L : Int) + ((r : Int) + 1) := by omega
                have hltD : decide ((k : Int) < (L : Int) + ((r : Int) + 1)) = false := decide_eq_false hltI
                have IU : Hid (GrIs U Any (.slice (some ⟨gx, ox, none⟩) (L + (r + 1)) c) (.slice p2 n2 cc2) X) := IX2.out.any BV.out
                have BWU : Hid (Below W.heap.size W U) := BW2.out.trans (BV.out.mono BW2.out.size)
                go_wp2_with (go_at_call 11; refine (HKM.out _ _ _ IU.out).mono ?_; rintro e wm ⟨rfl, bm⟩)
                go_ret
                exact ⟨rfl, BWU.out.trans (bm.mono BWU.out.size)⟩
end Go.Proofs.YtgpklcpmabafmaaDoor
