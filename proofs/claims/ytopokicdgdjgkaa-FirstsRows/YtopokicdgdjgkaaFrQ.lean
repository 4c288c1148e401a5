/- A grammar's names and a rule's symbols that grow side by side, in memory, any names and symbols. -/
import Derived.Test.YtopokicdgdjgkaaBinV
import Derived.Test.YtopokicdgdjgkaaRefDec
import Derived.Deep.CutRange
import Derived.BigQuiet
import Derived.Deep.QuietTactic
namespace Go.Proofs.Ytopokicdgdjgkaa
set_option linter.unusedVariables false
open Go.ChangeShapes Go.WideShapes Go.ChangeAt Go.RowKit

structure QV (B : World) (gb rb cb : Nat) (ns : List ByteArray) (ss : List Sy) (nv sv : Value) (w : World) : Prop where
  bl : Below B.heap.size B w
  on : w.ownsRow B.heap.size 9 1 nv ns.length (txV ns)
  vb : w.heap[gb]? = some (.cells #[.int .i64 0, nv, .slice none 0 0] 27)
  rv : w.heap[rb]? = some (.cells #[.int .i64 0, .slice (some ⟨cb, 0, none⟩) 1 1] 33)
  cv : w.heap[cb]? = some (.cells #[.bool false, sv] 30)
  so : w.ownsRow B.heap.size 36 3 sv ss.length (sysV ss)
  g1 : B.heap.size ≤ gb
  r1 : B.heap.size ≤ rb
  c1 : B.heap.size ≤ cb
section
variable {B w w1 w2 w' : World} {gb rb cb : Nat} {ns : List ByteArray} {ss : List Sy} {nv sv : Value}
theorem QV.keep (m : QV B gb rb cb ns ss nv sv w) (hb : Below w.heap.size w w') : QV B gb rb cb ns ss nv sv w' :=
  ⟨m.bl.trans (hb.mono m.bl.size), row_keep m.on hb, (hb.block gb (block_lt m.vb)).trans m.vb, (hb.block rb (block_lt m.rv)).trans m.rv, (hb.block cb (block_lt m.cv)).trans m.cv, row_keep m.so hb, m.g1, m.r1, m.c1⟩
theorem type_neV {w : World} {b c : Nat} {x y : Array Value} {s t : TypeId} (hb : w.heap[b]? = some (.cells x s)) (hc : w.heap[c]? = some (.cells y t)) (h : s ≠ t) : b ≠ c := fun e => by
  subst e
  rw [hb] at hc
  injection hc with hc
  injection hc with _ hc
  exact h hc
theorem QV.name (m : QV B gb rb cb ns ss nv sv w) (hb : Below w.heap.size w w1) {o : Obj} {s : ByteArray} {a : Nat} (ha : ns.length = a) (hg : (w1.alloc o).grownBy w2 nv.ownBlock) {g cap : Nat} (hown : w2.ownsRow B.heap.size 9 1 (.slice (some ⟨g, 0, none⟩) (a + 1) cap) (a + 1) (txV ns ++ [.string s])) :
    QV B gb rb cb (ns ++ [s]) ss (.slice (some ⟨g, 0, none⟩) (a + 1) cap) sv (w2.setCell ⟨gb, 1, none⟩ (.slice (some ⟨g, 0, none⟩) (a + 1) cap)) := by
  have m1 := (m.keep hb).keep (bel1 w1 o)
  generalize w1.alloc o = w3 at hg m1
  have vb2 := (hg.block gb (block_lt m1.vb) (Ne.symm (row_no m1.on (by decide) m1.vb))).trans m1.vb
  have rv2 := (hg.block rb (block_lt m1.rv) (Ne.symm (row_no m1.on (by decide) m1.rv))).trans m1.rv
  have cv2 := (hg.block cb (block_lt m1.cv) (Ne.symm (row_no m1.on (by decide) m1.cv))).trans m1.cv
  have so2 := row_grown m1.so m1.on (by decide) hg
  have hbs := m1.bl.size
  refine ⟨(m1.bl.grown hg (by omega) (fun k hk => (m1.on.lt k hk).1)).setCell (p := ⟨gb, 1, none⟩) m.g1 _, ?_, heap_setCell_same w2 gb 1 _ _ _ vb2, ?_, ?_, ownsRow_setCell_other (a := ⟨gb, 1, none⟩) so2 (row_no so2 (by decide) vb2) _, m.g1, m.r1, m.c1⟩
  · have : txV (ns ++ [s]) = txV ns ++ [.string s] := by simp [txV]
    rw [this, List.length_append, ha]
    exact ownsRow_setCell_other (a := ⟨gb, 1, none⟩) hown (row_no hown (by decide) vb2) _
  · exact (Go.Deep.blk_setCell_other w2 ⟨gb, 1, none⟩ _ rb (type_neV rv2 vb2 (by decide))).trans rv2
  · exact (Go.Deep.blk_setCell_other w2 ⟨gb, 1, none⟩ _ cb (type_neV cv2 vb2 (by decide))).trans cv2
theorem QV.sym (m : QV B gb rb cb ns ss nv sv w) (hb : Below w.heap.size w w1) {s : Sy} {i : Nat} (hi : ss.length = i) (hg : w1.grownBy w2 sv.ownBlock) {g cap : Nat} (hown : w2.ownsRow B.heap.size 36 3 (.slice (some ⟨g, 0, none⟩) (i + 1) cap) (i + 1) (sysV ss ++ [.int .i64 s.name, .int .i64 s.lo, .int .i64 s.hi])) :
    QV B gb rb cb ns (ss ++ [s]) nv (.slice (some ⟨g, 0, none⟩) (i + 1) cap) (w2.setCell ⟨cb, 1, none⟩ (.slice (some ⟨g, 0, none⟩) (i + 1) cap)) := by
  have m1 := m.keep hb
  have vb2 := (hg.block gb (block_lt m1.vb) (Ne.symm (row_no m1.so (by decide) m1.vb))).trans m1.vb
  have rv2 := (hg.block rb (block_lt m1.rv) (Ne.symm (row_no m1.so (by decide) m1.rv))).trans m1.rv
  have cv2 := (hg.block cb (block_lt m1.cv) (Ne.symm (row_no m1.so (by decide) m1.cv))).trans m1.cv
  have on2 := row_grown m1.on m1.so (by decide) hg
  have hbs := m1.bl.size
  refine ⟨(m1.bl.grown hg (by omega) (fun k hk => (m1.so.lt k hk).1)).setCell (p := ⟨cb, 1, none⟩) m.c1 _, ownsRow_setCell_other (a := ⟨cb, 1, none⟩) on2 (row_no on2 (by decide) cv2) _, ?_, ?_, heap_setCell_same w2 cb 1 _ _ _ cv2, ?_, m.g1, m.r1, m.c1⟩
  · exact (Go.Deep.blk_setCell_other w2 ⟨cb, 1, none⟩ _ gb (type_neV vb2 cv2 (by decide))).trans vb2
  · exact (Go.Deep.blk_setCell_other w2 ⟨cb, 1, none⟩ _ rb (type_neV rv2 cv2 (by decide))).trans rv2
  · rw [sysV_append, List.length_append, hi]
    exact ownsRow_setCell_other (a := ⟨cb, 1, none⟩) hown (row_no hown (by decide) cv2) _
/-- The first rule is laid into the grammar. -/
theorem QV.fin (m : QV B gb rb cb ns ss nv sv w) : ∃ F, GV B gb F 0 ns nv [⟨0, [⟨false, ss⟩]⟩] [.slice (some ⟨cb, 0, none⟩) 1 1] (.slice (some ⟨w.heap.size, 0, none⟩) 1 1) ((w.alloc (.cells #[.int .i64 0, .slice (some ⟨cb, 0, none⟩) 1 1] 33)).setCell ⟨gb, 2, none⟩ (.slice (some ⟨w.heap.size, 0, none⟩) 1 1)) := by
  have m1 := m.keep (bel1 w (.cells #[.int .i64 0, .slice (some ⟨cb, 0, none⟩) 1 1] 33))
  have hnew : (w.alloc (.cells #[.int .i64 0, .slice (some ⟨cb, 0, none⟩) 1 1] 33)).heap[w.heap.size]? = some (.cells #[.int .i64 0, .slice (some ⟨cb, 0, none⟩) 1 1] 33) := heap_alloc_new _ _
  have hsz : (w.alloc (.cells #[.int .i64 0, .slice (some ⟨cb, 0, none⟩) 1 1] 33)).heap.size = w.heap.size + 1 := by simp
  have hgl := block_lt m.vb
  have hcl := block_lt m.cv
  have hsl : ∀ b, sv.ownBlock = some b → B.heap.size ≤ b ∧ b < w.heap.size := fun b e => m.so.lt b e
  have hbs := m.bl.size
  generalize w.alloc (.cells #[.int .i64 0, .slice (some ⟨cb, 0, none⟩) 1 1] 33) = w3 at m1 hnew hsz
  have hgc : gb ≠ cb := type_neV m1.vb m1.cv (by decide)
  have cv3 : (w3.setCell ⟨gb, 2, none⟩ (.slice (some ⟨w.heap.size, 0, none⟩) 1 1)).heap[cb]? = some (.cells #[.bool false, sv] 30) := (Go.Deep.blk_setCell_other w3 ⟨gb, 2, none⟩ _ cb (Ne.symm hgc)).trans m1.cv
  have so3 := ownsRow_setCell_other (a := ⟨gb, 2, none⟩) m1.so (row_no m1.so (by decide) m1.vb) (.slice (some ⟨w.heap.size, 0, none⟩) 1 1)
  have on3 := ownsRow_setCell_other (a := ⟨gb, 2, none⟩) m1.on (row_no m1.on (by decide) m1.vb) (.slice (some ⟨w.heap.size, 0, none⟩) 1 1)
  have hz3 : (w3.setCell ⟨gb, 2, none⟩ (.slice (some ⟨w.heap.size, 0, none⟩) 1 1)).heap.size = w.heap.size + 1 := by rw [Go.Deep.nblk_setCell, hsz]
  have hn3 : (w3.setCell ⟨gb, 2, none⟩ (.slice (some ⟨w.heap.size, 0, none⟩) 1 1)).heap[w.heap.size]? = some (.cells #[.int .i64 0, .slice (some ⟨cb, 0, none⟩) 1 1] 33) := (Go.Deep.blk_setCell_other w3 ⟨gb, 2, none⟩ _ _ (by show w.heap.size ≠ gb; omega)).trans hnew
  refine ⟨fun b => b = cb ∨ sv.ownBlock = some b, ⟨fun b hF => ?_, ?_, fun b e hF => ?_, ?_, m1.bl.setCell (p := ⟨gb, 2, none⟩) m.g1 _⟩, ?_, fun b e hF => ?_, heap_setCell_same w3 gb 2 _ _ _ m1.vb, fun hF => ?_, m.g1⟩
  · rw [hz3]
    rcases hF with rfl | hF
    · exact ⟨m.c1, by omega⟩
    · have := hsl b hF; omega
  · exact ⟨rfl, Or.inr ⟨w.heap.size, 1, #[.int .i64 0, .slice (some ⟨cb, 0, none⟩) 1 1], rfl, hbs, hn3, Nat.le_refl _, by unfold maxLen; omega, rfl, rfl⟩⟩
  · obtain rfl : w.heap.size = b := by injection e
    rcases hF with e1 | hF
    · omega
    · have := hsl _ hF; omega
  · refine (RusIn.nil _ _).snoc (c := ⟨0, [⟨false, ss⟩]⟩) ⟨[sv], reads_blkV cv3 (Or.inl rfl) (by unfold maxLen; omega) rfl, (CnsIn.nil _ _).snoc (c := ⟨false, ss⟩) ?_⟩
    have h9 := Reads.of so3 (F := fun b => b = cb ∨ sv.ownBlock = some b) (fun b e => Or.inr e)
    exact h9
  · exact on3
  · rcases hF with rfl | hF
    · exact row_no on3 (by decide) cv3 e
    · exact row_apart on3 so3 (by decide) b e hF
  · rcases hF with e1 | hF
    · exact hgc e1
    · exact row_no m1.so (by decide) m1.vb hF
end
section
variable {W w w' w1 w2 : World} {gb : Nat} {F Fc : Nat → Prop} {st : Int} {ns : List ByteArray} {nv o : Value} {L : List Ru} {us : List Value}
/-- A rule more, whose conjuncts lie in blocks apart. -/
theorem GV.ruleV (m : GV W gb F st ns nv L us o w1) {h : Int} {c : Value} {cs : List Cn} (hc : IsCns w1 Fc c cs) (hFc : ∀ b, Fc b → W.heap.size ≤ b ∧ b < w1.heap.size ∧ b ≠ gb ∧ nv.ownBlock ≠ some b ∧ o.ownBlock ≠ some b) {n g cap : Nat} (hn : L.length = n)
    (hg : (w1.alloc (.cells #[.int .i64 h, c] 33)).grownBy w2 o.ownBlock) (hown : w2.ownsRow W.heap.size 33 2 (.slice (some ⟨g, 0, none⟩) (n + 1) cap) (n + 1) (rusV L us ++ [.int .i64 h, c]))
    (hat : o.ownBlock = some g ∨ g = w1.heap.size + 1) {L' : List Ru} (hL : L' = L ++ [⟨h, cs⟩]) :
    GV W gb (fun b => F b ∨ Fc b) st ns nv L' (us ++ [c]) (.slice (some ⟨g, 0, none⟩) (n + 1) cap) (w2.setCell ⟨gb, 2, none⟩ (.slice (some ⟨g, 0, none⟩) (n + 1) cap)) := by
  subst hn hL
  have m1 := m.keep (bel1 w1 (.cells #[.int .i64 h, c] 33))
  have hc1 := hc.any (bel1 w1 (.cells #[.int .i64 h, c] 33))
  have hz3 : (w1.alloc (.cells #[.int .i64 h, c] 33)).heap.size = w1.heap.size + 1 := by simp
  generalize w1.alloc (.cells #[.int .i64 h, c] 33) = w3 at hg m1 hc1 hz3
  have hgb : o.ownBlock ≠ some gb := row_no m1.m0.oo (by decide) m1.vb
  have hvb : w2.heap[gb]? = some (.cells #[.int .i64 st, nv, o] 27) := (hg.block gb (block_lt m1.vb) (Ne.symm hgb)).trans m1.vb
  have hgl := block_lt m.vb
  have hgs := hg.size
  have hbs := m1.m0.bl.size
  have hS : Stay (fun b => F b ∨ Fc b) w3 (w2.setCell ⟨gb, 2, none⟩ (.slice (some ⟨g, 0, none⟩) (L.length + 1) cap)) := by
    refine ⟨by simpa [World.setCell] using hgs, fun b hF => ?_⟩
    have hne : b ≠ gb := fun e => by
      subst e
      rcases hF with hF | hF
      · exact m.gF hF
      · exact (hFc b hF).2.2.1 rfl
    have hlt : b < w3.heap.size := by
      rcases hF with hF | hF
      · exact (m1.m0.fl b hF).2
      · have := (hFc b hF).2.1; omega
    have hob : some b ≠ o.ownBlock := fun e => by
      rcases hF with hF | hF
      · exact m.m0.no b e.symm hF
      · exact (hFc b hF).2.2.2.2 e.symm
    exact (Go.Deep.blk_setCell_other w2 ⟨gb, 2, none⟩ _ b hne).trans (hg.block b hlt hob)
  have hz : (w2.setCell ⟨gb, 2, none⟩ (.slice (some ⟨g, 0, none⟩) (L.length + 1) cap)).heap.size = w2.heap.size := by simp [World.setCell]
  have hgn : g ≠ gb := fun e => by
    subst e
    rcases hat with e3 | e3
    · exact hgb e3
    · omega
  refine ⟨⟨fun b hF => ?_, ?_, fun b e hF => ?_, ?_, ?_⟩, ?_, fun b e hF => ?_, ?_, fun hF => ?_, m.gg⟩
  · rw [hz]
    rcases hF with hF | hF
    · exact ⟨(m1.m0.fl b hF).1, Nat.lt_of_lt_of_le (m1.m0.fl b hF).2 hgs⟩
    · have := hFc b hF
      exact ⟨this.1, by omega⟩
  · rw [List.length_append, rusV_append _ _ _ _ m.m0.ri.1]
    exact ownsRow_setCell_other (a := ⟨gb, 2, none⟩) hown (fun e => hgn (by injection e)) _
  · obtain rfl : g = b := by injection e
    rcases hF with hF | hF
    · rcases hat with e3 | e3
      · exact m.m0.no g e3 hF
      · have := (m.m0.fl g hF).2; omega
    · rcases hat with e3 | e3
      · exact (hFc g hF).2.2.2.2 e3
      · have := (hFc g hF).2.1; omega
  · have r1 := m1.m0.ri.keep (F' := fun b => F b ∨ Fc b) ⟨hS.size, fun b hF => hS.blk b (Or.inl hF)⟩ (fun b hF => Or.inl hF)
    exact r1.snoc (c := ⟨h, cs⟩) (hc1.keep ⟨hS.size, fun b hF => hS.blk b (Or.inr hF)⟩ (fun b hF => Or.inr hF))
  · exact (m1.m0.bl.grown hg (by omega) (fun k hk => (m1.m0.oo.lt k hk).1)).setCell (p := ⟨gb, 2, none⟩) m.gg _
  · exact ownsRow_setCell_other (a := ⟨gb, 2, none⟩) (row_grown m1.on m1.m0.oo (by decide) hg) (row_no m1.on (by decide) m1.vb) _
  · rcases hF with hF | hF
    · exact m.nn b e hF
    · exact (hFc b hF).2.2.2.1 e
  · exact heap_setCell_same w2 gb 2 _ _ _ hvb
  · rcases hF with hF | hF
    · exact m.gF hF
    · exact (hFc gb hF).2.2.1 rfl
/-- A write into a block aside. -/
theorem GV.putV (m : GV W gb F st ns nv L us o w) {ub k : Nat} {arr : Array Value} {t : TypeId} (hu : w.heap[ub]? = some (.cells arr t)) (h1 : t ≠ 9) (h2 : t ≠ 33) (h3 : t ≠ 27) (hF : ¬ F ub) (hW : W.heap.size ≤ ub) (v : Value) : GV W gb F st ns nv L us o (w.setCell ⟨ub, k, none⟩ v) := by
  have hz : (w.setCell ⟨ub, k, none⟩ v).heap.size = w.heap.size := by simp [World.setCell]
  refine ⟨⟨fun b hb => by rw [hz]; exact m.m0.fl b hb, ownsRow_setCell_other (a := ⟨ub, k, none⟩) m.m0.oo (row_no m.m0.oo h2 hu) _, m.m0.no, m.m0.ri.keep ⟨by rw [hz]; exact Nat.le_refl _, fun b hb => Go.Deep.blk_setCell_other w ⟨ub, k, none⟩ _ b (fun e => hF (by have e2 : b = ub := e; rw [← e2]; exact hb))⟩ (fun _ h => h), m.m0.bl.setCell (p := ⟨ub, k, none⟩) hW _⟩, ownsRow_setCell_other (a := ⟨ub, k, none⟩) m.on (row_no m.on h1 hu) _, m.nn, (Go.Deep.blk_setCell_other w ⟨ub, k, none⟩ _ gb (type_neV m.vb hu (Ne.symm h3))).trans m.vb, m.gF, m.gg⟩
end
def qvP (n : Nat) : List Obj :=
  [.cells #[.string ⟨#[83]⟩] 9, .cells #[.int .i64 0, .slice (some ⟨n, 0, none⟩) 1 1, .slice none 0 0] 27, .cells #[.bool false, .slice none 0 0] 30, .cells #[.int .i64 0, .slice (some ⟨n + 1 + 1, 0, none⟩) 1 1] 33]
theorem qv_new (w : World) : QV w (w.heap.size + 1) (w.heap.size + 1 + 1 + 1) (w.heap.size + 1 + 1) [⟨#[83]⟩] [] (.slice (some ⟨w.heap.size, 0, none⟩) 1 1) (.slice none 0 0) (blks w (qvP w.heap.size)) := by
  have hb : ∀ k o, (qvP w.heap.size)[k]? = some o → (blks w (qvP w.heap.size)).heap[w.heap.size + k]? = some o := fun k o ho => blks_at _ w k o ho
  exact ⟨blks_below _ _, ⟨rfl, Or.inr ⟨w.heap.size, 1, #[.string ⟨#[83]⟩], rfl, Nat.le_refl _, hb 0 _ rfl, Nat.le_refl _, by unfold maxLen; omega, rfl, rfl⟩⟩, hb 1 _ rfl, hb 3 _ rfl, hb 2 _ rfl, World.ownsRow_nil _ _ _ _, by omega, by omega, by omega⟩
theorem others {W w w1 w2 : World} {ub gb : Nat} {arr arr2 : Array Value} {t t2 e : TypeId} {nv : Value} {n size : Nat} {xs : List Value} {k : Nat} {v : Value} {o : Obj} (hu : w.heap[ub]? = some (.cells arr t)) (hb : Below w.heap.size w w1) (on : w.ownsRow W.heap.size e size nv n xs) (he : t ≠ e) (hg : (w1.alloc o).grownBy w2 nv.ownBlock) (hgb : w.heap[gb]? = some (.cells arr2 t2)) (ht : t ≠ t2) : (w2.setCell ⟨gb, k, none⟩ v).heap[ub]? = some (.cells arr t) := by
  have h1 : (w1.alloc o).heap[ub]? = some (.cells arr t) := ((bel1 w1 o).block _ (Nat.lt_of_lt_of_le (block_lt hu) hb.size)).trans ((hb.block _ (block_lt hu)).trans hu)
  have h2 : w2.heap[ub]? = some (.cells arr t) := (hg.block ub (block_lt h1) (Ne.symm (row_no on he hu))).trans h1
  exact (Go.Deep.blk_setCell_other w2 ⟨gb, k, none⟩ _ ub (type_neV hu hgb ht)).trans h2
theorem dec_sizeV (n : Nat) : (decT n).size ≤ 20 := by
  have hl : ∀ (f n : Nat) (acc : List Int), (decF f n acc).length ≤ f + acc.length := fun f => by
    induction f with
    | zero => intro n acc; rw [decF]; omega
    | succ f ih =>
      intro n acc
      rw [decF]
      split
      · omega
      · have := ih (n / 10) ((48 + ((n % 10 : Nat) : Int)) :: acc)
        rw [List.length_cons] at this
        omega
  have h : (decT n).size = (decF 20 n []).length := by simp [decT, strOf, ByteArray.size]
  have := hl 20 n []
  rw [h]
  simpa using this
theorem set_allocV {X : World} {o : Obj} {p : Addr} {v : Value} (h : p.block < X.heap.size) : (X.alloc o).setCell p v = (X.setCell p v).alloc o := by
  simp only [World.setCell, World.alloc]
  congr 1
  apply Array.ext_getElem?
  intro i
  rw [Array.getElem?_modify, Array.getElem?_push, Array.getElem?_push, Array.getElem?_modify, Array.size_modify]
  by_cases e : i = X.heap.size
  · subst e
    rw [if_neg (by omega), if_pos rfl, if_pos rfl]
  · rw [if_neg e, if_neg e]
end Go.Proofs.Ytopokicdgdjgkaa
