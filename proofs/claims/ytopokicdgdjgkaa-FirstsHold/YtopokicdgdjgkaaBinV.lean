/- A rule's variable whose conjuncts are appended one by one; rows of zero symbols that are made. -/
import Derived.Test.YtopokicdgdjgkaaGramVar
import Derived.Laws.MakeOwn
namespace Go.Proofs.Ytopokicdgdjgkaa
set_option linter.unusedVariables false
open Go.ChangeShapes Go.WideShapes Go.ChangeAt Go.RowKit

theorem cellV {w : World} {b : Nat} {arr : Array Value} {t : TypeId} (h : w.heap[b]? = some (.cells arr t)) (j : Nat) : w.cell? ⟨b, j, none⟩ = arr[j]? := Lib.cell_of_heap h j
theorem frzV {w : World} {b : Nat} {arr : Array Value} {t : TypeId} (h : w.heap[b]? = some (.cells arr t)) (j : Nat) : w.frozen? ⟨b, j, none⟩ = false := by unfold World.frozen?; rw [h]; simp
theorem Try.infoSymV : (Try.prog.info? 36).map (fun i => (i.zero, i.size, i.bytes)) = some (some (.agg #[.int .i64 0, .int .i64 0, .int .i64 0]), 3, 24) := by kernel_rfl
theorem Try.infoConV : (Try.prog.info? 30).map (fun i => (i.zero, i.size, i.bytes)) = some (some (.agg #[.bool false, .slice none 0 0]), 2, 32) := by kernel_rfl
theorem Try.infoRuleV : (Try.prog.info? 33).map (fun i => (i.zero, i.size, i.bytes)) = some (some (.agg #[.int .i64 0, .slice none 0 0]), 2, 32) := by kernel_rfl
theorem Try.infoStrV : (Try.prog.info? 9).map (fun i => (i.zero, i.size, i.bytes)) = some (some (.string ⟨#[]⟩), 1, 16) := by kernel_rfl
structure RV (V : World) (nr : Nat) (Fc : Nat → Prop) (h : Int) (cs : List Cn) (us : List Value) (c : Value) (w : World) : Prop where
  bl : Below V.heap.size V w
  ng : V.heap.size ≤ nr
  vb : w.heap[nr]? = some (.cells #[.int .i64 h, c] 33)
  oc : w.ownsRow V.heap.size 30 2 c cs.length (cnsV cs us)
  ci : CnsIn w Fc cs us
  fl : ∀ b, Fc b → V.heap.size ≤ b ∧ b < w.heap.size ∧ b ≠ nr
  no : ∀ b, c.ownBlock = some b → ¬ Fc b
section
variable {V w w' w2 : World} {nr : Nat} {Fc : Nat → Prop} {h : Int} {cs : List Cn} {us : List Value} {c : Value}
theorem RV.keep (m : RV V nr Fc h cs us c w) (hb : Below w.heap.size w w') : RV V nr Fc h cs us c w' :=
  ⟨m.bl.trans (hb.mono m.bl.size), m.ng, (hb.block nr (block_lt m.vb)).trans m.vb, row_keep m.oc hb, m.ci.keep ⟨hb.size, fun b hF => hb.block b (m.fl b hF).2.1⟩ (fun _ h => h), fun b hF => ⟨(m.fl b hF).1, Nat.lt_of_lt_of_le (m.fl b hF).2.1 hb.size, (m.fl b hF).2.2⟩, m.no⟩
theorem RV.new (V : World) (h : Int) : RV V V.heap.size (fun _ => False) h [] [] (.slice none 0 0) (V.alloc (.cells #[.int .i64 h, .slice none 0 0] 33)) :=
  ⟨bel1 V _, Nat.le_refl _, heap_alloc_new _ _, World.ownsRow_nil _ _ _ _, CnsIn.nil _ _, fun b h => h.elim, nil_not _⟩
theorem RV.cns (m : RV V nr Fc h cs us c w) : IsCns w (fun b => V.heap.size ≤ b) c cs :=
  ⟨us, Reads.of m.oc (fun b e => (m.oc.lt b e).1), m.ci.keep ⟨Nat.le_refl _, fun _ _ => rfl⟩ (fun b h => (m.fl b h).1)⟩
theorem RV.moreG {w1 : World} {Fs : Nat → Prop} {u : Value} (m : RV V nr Fc h cs us c w) (hb : Below w.heap.size w w1) {neg : Bool} {sq : List Sy} {n g cap : Nat} (hu : IsSys w1 Fs u sq) (hF : ∀ b, Fs b → w.heap.size ≤ b ∧ b < w1.heap.size) (hn : cs.length = n)
    (hg : (w1.alloc (.cells #[.bool neg, u] 30)).grownBy w2 c.ownBlock)
    (hown : w2.ownsRow V.heap.size 30 2 (.slice (some ⟨g, 0, none⟩) (n + 1) cap) (n + 1) (cnsV cs us ++ [.bool neg, u]))
    (hat : c.ownBlock = some g ∨ g = w1.heap.size + 1) :
    RV V nr (fun b => Fc b ∨ Fs b) h (cs ++ [⟨neg, sq⟩]) (us ++ [u]) (.slice (some ⟨g, 0, none⟩) (n + 1) cap) (w2.setCell ⟨nr, 1, none⟩ (.slice (some ⟨g, 0, none⟩) (n + 1) cap)) := by
  subst hn
  have m1 := (m.keep hb).keep (bel1 w1 (.cells #[.bool neg, u] 30))
  have hw1 := hb.size
  have hz3 : (w1.alloc (.cells #[.bool neg, u] 30)).heap.size = w1.heap.size + 1 := by simp
  have s3 : IsSys (w1.alloc (.cells #[.bool neg, u] 30)) Fs u sq := hu.any (bel1 _ _)
  generalize w1.alloc (.cells #[.bool neg, u] 30) = w3 at hg m1 hz3 s3
  have gs := hg.size
  have hgb : c.ownBlock ≠ some nr := row_no m1.oc (by decide) m1.vb
  have hvb : w2.heap[nr]? = some (.cells #[.int .i64 h, c] 33) := (hg.block nr (block_lt m1.vb) (Ne.symm hgb)).trans m1.vb
  have hnr := block_lt m.vb
  have hV := m.bl.size
  have hcl : ∀ b, c.ownBlock = some b → b < w.heap.size := fun b e => (m.oc.lt b e).2
  have hz : (w2.setCell ⟨nr, 1, none⟩ (.slice (some ⟨g, 0, none⟩) (cs.length + 1) cap)).heap.size = w2.heap.size := by simp [World.setCell]
  have hblk : ∀ b, (Fc b ∨ Fs b) → (w2.setCell ⟨nr, 1, none⟩ (.slice (some ⟨g, 0, none⟩) (cs.length + 1) cap)).heap[b]? = w3.heap[b]? := fun b hF' => by
    have hne : b ≠ nr := by
      rcases hF' with hF' | hF'
      · exact (m.fl b hF').2.2
      · have := hF b hF'; omega
    have hlt : b < w3.heap.size := by
      rcases hF' with hF' | hF'
      · have := (m.fl b hF').2.1; omega
      · have := hF b hF'; omega
    have hob : some b ≠ c.ownBlock := fun e => by
      rcases hF' with hF' | hF'
      · exact m.no b e.symm hF'
      · have := hcl b e.symm; have := hF b hF'; omega
    exact (Go.Deep.blk_setCell_other w2 ⟨nr, 1, none⟩ _ b hne).trans (hg.block b hlt hob)
  have hgn : g ≠ nr := fun e => by
    subst e
    rcases hat with e3 | e3
    · exact hgb e3
    · omega
  refine ⟨?_, m.ng, ?_, ?_, ?_, fun b hF' => ?_, fun b e hF' => ?_⟩
  · exact (m1.bl.grown hg (by omega) (fun k hk => (m1.oc.lt k hk).1)).setCell (p := ⟨nr, 1, none⟩) m.ng _
  · exact heap_setCell_same w2 nr 1 _ _ _ hvb
  · rw [List.length_append, cnsV_append _ _ _ _ m.ci.1]
    exact ownsRow_setCell_other (a := ⟨nr, 1, none⟩) hown (fun e => hgn (by injection e)) _
  · have r1 := m1.ci.keep (w' := w2.setCell ⟨nr, 1, none⟩ (.slice (some ⟨g, 0, none⟩) (cs.length + 1) cap)) (F' := fun b => Fc b ∨ Fs b) ⟨by rw [hz]; exact gs, fun b hF => hblk b (Or.inl hF)⟩ (fun b hF => Or.inl hF)
    exact r1.snoc (c := ⟨neg, sq⟩) (s3.keep ⟨by rw [hz]; exact gs, fun b hF => hblk b (Or.inr hF)⟩ (fun b hF => Or.inr hF))
  · rw [hz]
    rcases hF' with hF' | hF'
    · have := m.fl b hF'
      exact ⟨this.1, by omega, this.2.2⟩
    · have := hF b hF'
      exact ⟨by omega, by omega, by omega⟩
  · obtain rfl : g = b := by injection e
    rcases hF' with hF' | hF'
    · rcases hat with e3 | e3
      · exact m.no g e3 hF'
      · have := (m.fl g hF').2.1; omega
    · rcases hat with e3 | e3
      · have := hcl g e3; have := hF g hF'; omega
      · have := hF g hF'; omega
end
theorem new3V (w : World) (x y z : Obj) : (((w.alloc x).alloc y).alloc z).heap[w.heap.size + 1 + 1]? = some z := by simpa using heap_alloc_new ((w.alloc x).alloc y) z
theorem new2V (w : World) (o o2 : Obj) : ((w.alloc o).alloc o2).heap[w.heap.size + 1]? = some o2 := by simpa using heap_alloc_new (w.alloc o) o2
set_option maxRecDepth 100000 in
theorem make_qV (q : Nat) (hq : q ≤ 64) (w : World) : (Instr.makeSlice 28 (.int .i64 (q : Int)) (.int .i64 (q : Int))).run Try.prog w = .ok (.slice (some ⟨w.heap.size, 0, none⟩) q q) (w.alloc (.cells (madeCells #[.int .i64 0, .int .i64 0, .int .i64 0] (q * 3)) 36)) := by
  obtain ⟨i, hi, hz, hs, hb⟩ := info_parts Try.infoSymV
  have h := run_make (P := Try.prog) w 28 36 i _ Try.underlying28 hi hz .i64 .i64 (q : Int) (q : Int) (by omega) (Int.le_refl _) (by rw [hb]; omega) (by omega)
  simp only [Int.toNat_natCast, hs] at h
  exact h
theorem sysV_repV : ∀ k j, (sysV (List.replicate k ⟨0, 0, 0⟩))[j]? = if j < k * 3 then some (.int .i64 0) else none
  | 0, j => by simp [sysV]
  | k + 1, j => by
    have e : sysV (List.replicate (k + 1) ⟨0, 0, 0⟩) = [.int .i64 0, .int .i64 0, .int .i64 0] ++ sysV (List.replicate k ⟨0, 0, 0⟩) := rfl
    rw [e]
    by_cases h : j < 3
    · rw [List.getElem?_append_left (by simpa using h), if_pos (by omega)]
      rcases (by omega : j = 0 ∨ j = 1 ∨ j = 2) with e | e | e <;> subst e <;> rfl
    · rw [List.getElem?_append_right (by simp; omega), sysV_repV k]
      simp only [List.length_cons, List.length_nil]
      by_cases h2 : j < (k + 1) * 3
      · rw [if_pos h2, if_pos (by omega)]
      · rw [if_neg h2, if_neg (by omega)]
theorem reads_blkV {w : World} {F : Nat → Prop} {g n : Nat} {arr : Array Value} {t : TypeId} {cs : List Value} (h : w.heap[g]? = some (.cells arr t)) (hF : F g) (hn : n ≤ maxLen) (hc : arr.toList = cs) : Reads w F (.slice (some ⟨g, 0, none⟩) n n) n cs := by
  subst hc
  refine ⟨some ⟨g, 0, none⟩, n, rfl, ⟨hn, Nat.le_refl _⟩, fun _ => ⟨g, 0, rfl, hF, block_lt h, fun j c hj => ?_, fun j _ => by rw [Nat.zero_add]; exact frzV h j⟩⟩
  rw [Nat.zero_add, cellV h j]
  simpa using hj
theorem made_symV {X : World} {B k : Nat} {F : Nat → Prop} (hF : F B) (h : X.heap[B]? = some (.cells (madeCells #[.int .i64 0, .int .i64 0, .int .i64 0] (k * 3)) 36)) (hk : k ≤ 1000) : IsSys X F (.slice (some ⟨B, 0, none⟩) k k) (List.replicate k ⟨0, 0, 0⟩) := by
  unfold IsSys
  rw [List.length_replicate]
  refine reads_blkV h hF (by unfold maxLen; omega) ?_
  refine List.ext_getElem? fun j => ?_
  rw [sysV_repV, Array.getElem?_toList]
  by_cases hlt : j < k * 3
  · rw [if_pos hlt]
    simp only [madeCells, Array.getElem?_map, Array.getElem?_range, hlt, if_true, Option.map_some]
    rcases (by omega : j % 3 = 0 ∨ j % 3 = 1 ∨ j % 3 = 2) with e | e | e
    · simp [e]
    · simp [e]
    · simp [e]
  · rw [if_neg hlt]
    simp only [madeCells, Array.getElem?_map, Array.getElem?_range, hlt, if_false, Option.map_none]
theorem RV.one {V w : World} {nr : Nat} {Fc : Nat → Prop} {h : Int} {cs : List Cn} {us : List Value} {c : Value} (m : RV V nr Fc h cs us c w) (s : ByteArray) : GrIs ((w.alloc (.cells #[.string s] 9)).alloc (.cells #[.int .i64 h, c] 33)) Any (.slice (some ⟨w.heap.size, 0, none⟩) 1 1) (.slice (some ⟨w.heap.size + 1, 0, none⟩) 1 1) ⟨0, [s], [⟨h, cs⟩]⟩ := by
  have hb := (bel1 w (.cells #[.string s] 9)).trans ((bel1 (w.alloc (.cells #[.string s] 9)) (.cells #[.int .i64 h, c] 33)).mono (by simp))
  refine ⟨reads_blkV ((heap_alloc_old _ (by simp)).trans (heap_alloc_new _ _)) trivial (by unfold maxLen; omega) rfl, [c], reads_blkV (new2V _ _ _) trivial (by unfold maxLen; omega) rfl, (RusIn.nil _ _).snoc (c := ⟨h, cs⟩) ?_⟩
  exact (m.cns.any hb).monoV (fun _ _ _ => trivial)
/-- The numbers that a law draws from its arguments. -/
theorem and3V (x : Int) : ∃ n : Nat, n < 4 ∧ bits .and .i64 x 3 = (n : Int) := by
  have h : (BitVec.ofInt 64 x &&& BitVec.ofInt 64 3).toNat < 4 := by
    rw [BitVec.toNat_and]
    exact Nat.lt_of_le_of_lt Nat.and_le_right (by decide)
  refine ⟨_, h, ?_⟩
  show IntKind.i64.wrap ((BitVec.ofInt 64 x &&& BitVec.ofInt 64 3).toNat : Int) = _
  generalize (BitVec.ofInt 64 x &&& BitVec.ofInt 64 3).toNat = n at h
  rw [IntKind.wrap_i64]; omega
theorem and7V (x : Int) : ∃ n : Nat, n < 8 ∧ bits .and .i64 x 7 = (n : Int) := by
  have h : (BitVec.ofInt 64 x &&& BitVec.ofInt 64 7).toNat < 8 := by
    rw [BitVec.toNat_and]
    exact Nat.lt_of_le_of_lt Nat.and_le_right (by decide)
  refine ⟨_, h, ?_⟩
  show IntKind.i64.wrap ((BitVec.ofInt 64 x &&& BitVec.ofInt 64 7).toNat : Int) = _
  generalize (BitVec.ofInt 64 x &&& BitVec.ofInt 64 7).toNat = n at h
  rw [IntKind.wrap_i64]; omega
theorem and15V (x : Int) : ∃ n : Nat, n < 16 ∧ bits .and .i64 x 15 = (n : Int) := by
  have h : (BitVec.ofInt 64 x &&& BitVec.ofInt 64 15).toNat < 16 := by
    rw [BitVec.toNat_and]
    exact Nat.lt_of_le_of_lt Nat.and_le_right (by decide)
  refine ⟨_, h, ?_⟩
  show IntKind.i64.wrap ((BitVec.ofInt 64 x &&& BitVec.ofInt 64 15).toNat : Int) = _
  generalize (BitVec.ofInt 64 x &&& BitVec.ofInt 64 15).toNat = n at h
  rw [IntKind.wrap_i64]; omega
end Go.Proofs.Ytopokicdgdjgkaa
