/- A rule's variable whose conjuncts are appended one by one, all in new blocks. -/
import Derived.Test.YteafdfalgeeheaaGramVar
import Derived.Test.YteafdfalgeeheaaShowRowsT
namespace Go.Proofs.Yteafdfalgeeheaa
set_option linter.unusedVariables false
open Go.ChangeShapes Go.WideShapes Go.ChangeAt Go.RowKit

theorem cellS {w : World} {b : Nat} {arr : Array Value} {t : TypeId} (h : w.heap[b]? = some (.cells arr t)) (j : Nat) : w.cell? ⟨b, j, none⟩ = arr[j]? := Lib.cell_of_heap h j
theorem frzS {w : World} {b : Nat} {arr : Array Value} {t : TypeId} (h : w.heap[b]? = some (.cells arr t)) (j : Nat) : w.frozen? ⟨b, j, none⟩ = false := by unfold World.frozen?; rw [h]; simp
theorem reads_blkS {w : World} {F : Nat → Prop} {g n : Nat} {arr : Array Value} {t : TypeId} {cs : List Value} (h : w.heap[g]? = some (.cells arr t)) (hF : F g) (hn : n ≤ maxLen) (hc : arr.toList = cs) : Reads w F (.slice (some ⟨g, 0, none⟩) n n) n cs := by
  subst hc
  refine ⟨some ⟨g, 0, none⟩, n, rfl, ⟨hn, Nat.le_refl _⟩, fun _ => ⟨g, 0, rfl, hF, block_lt h, fun j c hj => ?_, fun j _ => by rw [Nat.zero_add]; exact frzS h j⟩⟩
  rw [Nat.zero_add, cellS h j]
  simpa using hj
structure RV (V : World) (nr : Nat) (Fc : Nat → Prop) (h : Int) (cs : List Cn) (us : List Value) (c : Value) (w : World) : Prop where
  bl : Below V.heap.size V w
  ng : V.heap.size ≤ nr
  vb : w.heap[nr]? = some (.cells #[.int .i64 h, c] 45)
  oc : w.ownsRow V.heap.size 40 2 c cs.length (cnsV cs us)
  ci : CnsIn w Fc cs us
  fl : ∀ b, Fc b → V.heap.size ≤ b ∧ b < w.heap.size ∧ b ≠ nr
  no : ∀ b, c.ownBlock = some b → ¬ Fc b
section
variable {V w w' w2 : World} {nr : Nat} {Fc : Nat → Prop} {h : Int} {cs : List Cn} {us : List Value} {c : Value}
theorem RV.keep (m : RV V nr Fc h cs us c w) (hb : Below w.heap.size w w') : RV V nr Fc h cs us c w' :=
  ⟨m.bl.trans (hb.mono m.bl.size), m.ng, (hb.block nr (block_lt m.vb)).trans m.vb, row_keep m.oc hb, m.ci.keep ⟨hb.size, fun b hF => hb.block b (m.fl b hF).2.1⟩ (fun _ h => h), fun b hF => ⟨(m.fl b hF).1, Nat.lt_of_lt_of_le (m.fl b hF).2.1 hb.size, (m.fl b hF).2.2⟩, m.no⟩
theorem RV.new (V : World) (h : Int) : RV V V.heap.size (fun _ => False) h [] [] (.slice none 0 0) (V.alloc (.cells #[.int .i64 h, .slice none 0 0] 45)) :=
  ⟨bel1 V _, Nat.le_refl _, heap_alloc_new _ _, World.ownsRow_nil _ _ _ _, CnsIn.nil _ _, fun b h => h.elim, nil_not _⟩
theorem RV.cns (m : RV V nr Fc h cs us c w) : IsCns w (fun b => V.heap.size ≤ b) c cs :=
  ⟨us, Reads.of m.oc (fun b e => (m.oc.lt b e).1), m.ci.keep ⟨Nat.le_refl _, fun _ _ => rfl⟩ (fun b h => (m.fl b h).1)⟩
theorem RV.more (m : RV V nr Fc h cs us c w) {S : Array Value} {neg : Bool} {sq : List Sy} {n g cap : Nat} (hS : S.toList = sysV sq) (hq : sq.length = 3) (hn : cs.length = n)
    (hg : ((w.alloc (.cells S 42)).alloc (.cells #[.bool neg, .slice (some ⟨w.heap.size, 0, none⟩) 3 3] 40)).grownBy w2 c.ownBlock)
    (hown : w2.ownsRow V.heap.size 40 2 (.slice (some ⟨g, 0, none⟩) (n + 1) cap) (n + 1) (cnsV cs us ++ [.bool neg, .slice (some ⟨w.heap.size, 0, none⟩) 3 3]))
    (hat : c.ownBlock = some g ∨ g = w.heap.size + 1 + 1) :
    RV V nr (fun b => Fc b ∨ b = w.heap.size) h (cs ++ [⟨neg, sq⟩]) (us ++ [.slice (some ⟨w.heap.size, 0, none⟩) 3 3]) (.slice (some ⟨g, 0, none⟩) (n + 1) cap) (w2.setCell ⟨nr, 1, none⟩ (.slice (some ⟨g, 0, none⟩) (n + 1) cap)) := by
  subst hn
  have m1 := (m.keep (bel1 w (.cells S 42))).keep (bel1 _ (.cells #[.bool neg, .slice (some ⟨w.heap.size, 0, none⟩) 3 3] 40))
  have hz3 : ((w.alloc (.cells S 42)).alloc (.cells #[.bool neg, .slice (some ⟨w.heap.size, 0, none⟩) 3 3] 40)).heap.size = w.heap.size + 2 := by simp
  have s3 : ((w.alloc (.cells S 42)).alloc (.cells #[.bool neg, .slice (some ⟨w.heap.size, 0, none⟩) 3 3] 40)).heap[w.heap.size]? = some (.cells S 42) := (heap_alloc_old _ (by simp)).trans (heap_alloc_new _ _)
  generalize (w.alloc (.cells S 42)).alloc (.cells #[.bool neg, .slice (some ⟨w.heap.size, 0, none⟩) 3 3] 40) = w3 at hg m1 hz3 s3
  have gs := hg.size
  have hgb : c.ownBlock ≠ some nr := row_no m1.oc (by decide) m1.vb
  have hvb : w2.heap[nr]? = some (.cells #[.int .i64 h, c] 45) := (hg.block nr (block_lt m1.vb) (Ne.symm hgb)).trans m1.vb
  have hnr := block_lt m.vb
  have hV := m.bl.size
  have hcl : ∀ b, c.ownBlock = some b → b < w.heap.size := fun b e => (m.oc.lt b e).2
  have hz : (w2.setCell ⟨nr, 1, none⟩ (.slice (some ⟨g, 0, none⟩) (cs.length + 1) cap)).heap.size = w2.heap.size := by simp [World.setCell]
  have hblk : ∀ b, (Fc b ∨ b = w.heap.size) → (w2.setCell ⟨nr, 1, none⟩ (.slice (some ⟨g, 0, none⟩) (cs.length + 1) cap)).heap[b]? = w3.heap[b]? := fun b hF => by
    have hne : b ≠ nr := by
      rcases hF with hF | hF
      · exact (m.fl b hF).2.2
      · omega
    have hlt : b < w3.heap.size := by
      rcases hF with hF | hF
      · have := (m.fl b hF).2.1; omega
      · omega
    have hob : some b ≠ c.ownBlock := fun e => by
      rcases hF with hF | hF
      · exact m.no b e.symm hF
      · have := hcl b e.symm; omega
    exact (Go.Deep.blk_setCell_other w2 ⟨nr, 1, none⟩ _ b hne).trans (hg.block b hlt hob)
  have hgn : g ≠ nr := fun e => by
    subst e
    rcases hat with e3 | e3
    · exact hgb e3
    · omega
  refine ⟨?_, m.ng, ?_, ?_, ?_, fun b hF => ?_, fun b e hF => ?_⟩
  · exact (m1.bl.grown hg (by omega) (fun k hk => (m1.oc.lt k hk).1)).setCell (p := ⟨nr, 1, none⟩) m.ng _
  · exact heap_setCell_same w2 nr 1 _ _ _ hvb
  · rw [List.length_append, cnsV_append _ _ _ _ m.ci.1]
    exact ownsRow_setCell_other (a := ⟨nr, 1, none⟩) hown (fun e => hgn (by injection e)) _
  · have r1 := m1.ci.keep (w' := w2.setCell ⟨nr, 1, none⟩ (.slice (some ⟨g, 0, none⟩) (cs.length + 1) cap)) (F' := fun b => Fc b ∨ b = w.heap.size) ⟨by rw [hz]; exact gs, fun b hF => hblk b (Or.inl hF)⟩ (fun b hF => Or.inl hF)
    refine r1.snoc (c := ⟨neg, sq⟩) ?_
    show Reads _ _ _ sq.length _
    rw [hq]
    exact reads_blkS ((hblk _ (Or.inr rfl)).trans s3) (Or.inr rfl) (by unfold maxLen; omega) hS
  · rw [hz]
    rcases hF with hF | hF
    · have := m.fl b hF
      exact ⟨this.1, by omega, this.2.2⟩
    · exact ⟨by omega, by omega, by omega⟩
  · obtain rfl : g = b := by injection e
    rcases hF with hF | hF
    · rcases hat with e3 | e3
      · exact m.no g e3 hF
      · have := (m.fl g hF).2.1; omega
    · rcases hat with e3 | e3
      · have := hcl g e3; omega
      · omega
end
/-- The numbers that the law draws from its arguments. -/
theorem and3 (x : Int) : ∃ n : Nat, n < 4 ∧ bits .and .i64 x 3 = (n : Int) := by
  have h : (BitVec.ofInt 64 x &&& BitVec.ofInt 64 3).toNat < 4 := by
    rw [BitVec.toNat_and]
    exact Nat.lt_of_le_of_lt Nat.and_le_right (by decide)
  refine ⟨_, h, ?_⟩
  show IntKind.i64.wrap ((BitVec.ofInt 64 x &&& BitVec.ofInt 64 3).toNat : Int) = _
  generalize (BitVec.ofInt 64 x &&& BitVec.ofInt 64 3).toNat = n at h
  rw [IntKind.wrap_i64]; omega
theorem neg_tab : ∀ c, c < 5 → ∀ j, j < 5 → (bits .and .i64 (((c + j : Nat)) : Int) 1 == 1) = negS j c := by decide +kernel
theorem decF_lenS : ∀ (f n : Nat) (acc : List Int), (decF f n acc).length ≤ f + acc.length
  | 0, _, acc => by rw [decF]; omega
  | f + 1, n, acc => by
    rw [decF]
    split
    · omega
    · have := decF_lenS f (n / 10) ((48 + ((n % 10 : Nat) : Int)) :: acc)
      rw [List.length_cons] at this
      omega
theorem dec_sizeS (n : Nat) : (decT n).size ≤ 20 := by
  have h : (decT n).size = (decF 20 n []).length := by simp [decT, strOf, ByteArray.size]
  have := decF_lenS 20 n []
  rw [h]
  simpa using this
theorem nm_sizeS {s : ByteArray} {m : Nat} (h : s ∈ nmsS m) : s.size ≤ 21 := by
  obtain ⟨i, _, rfl⟩ := List.mem_map.1 h
  have := dec_sizeS i
  show ((⟨#[110]⟩ : ByteArray) ++ decT i).size ≤ 21
  rw [ByteArray.size_append]
  show 1 + _ ≤ _
  omega
theorem app_list (a b : ByteArray) : (a ++ b).data.toList = a.data.toList ++ b.data.toList := by simp
theorem nmsS_succ (i : Nat) : nmsS (i + 1) = nmsS i ++ [nmS i] := by simp [nmsS, List.range_succ]
theorem cnsS_succ (i j c : Nat) : cnsS i j (c + 1) = cnsS i j c ++ [cnS i j c] := by simp [cnsS, List.range_succ]
theorem cnsS_len (i j c : Nat) : (cnsS i j c).length = c := by simp [cnsS]
theorem rowS_succ (cn : Nat → Nat) (i n : Nat) : rowS cn i (n + 1) = rowS cn i n ++ [ruS cn i n] := by simp [rowS, List.range_succ]
theorem rowS_len (cn : Nat → Nat) (i n : Nat) : (rowS cn i n).length = n := by simp [rowS]
def S0 (st : Nat) : List UInt8 := [115, 116, 97, 114, 116, 32] ++ (nmS st).data.toList ++ [59, 10]
theorem tx_0 (m cn : Nat → Nat) (st : Nat) : ((⟨#[115, 116, 97, 114, 116, 32, 110]⟩ : ByteArray) ++ decT st ++ ⟨#[59, 10]⟩).data.toList = S0 st ++ dfsS m cn 0 := by
  simp only [app_list, S0, nmS, dfsS]
  simp
theorem tx_1 {u : ByteArray} {T : List UInt8} (i : Nat) (h : u.data.toList = T) : (u ++ ⟨#[110]⟩ ++ decT i ++ ⟨#[32, 61, 32]⟩).data.toList = T ++ ((nmS i).data.toList ++ [32, 61, 32]) := by
  simp only [app_list, nmS, h]
  simp
theorem tx_c {u : ByteArray} {T : List UInt8} (i j c : Nat) (h : u.data.toList = T ++ conjsS i j c) (l1 l2 : ByteArray) (h1 : l1.data.toList = if 0 < c then [32, 38, 32] else []) (h2 : l2.data.toList = if negS j c then [126] else []) : (u ++ l1 ++ l2 ++ ⟨#[110]⟩ ++ decT i ++ ⟨#[32, 34, 120, 121, 34]⟩).data.toList = T ++ conjsS i j (c + 1) := by
  have e : conjsS i j (c + 1) = conjsS i j c ++ (if 0 < c then [32, 38, 32] else []) ++ cT i j c := rfl
  rw [e]
  simp only [app_list, h, h1, h2, cT, nmS]
  simp
theorem altsS_succ (cn : Nat → Nat) (i n : Nat) : altsS cn i (n + 1) = altsS cn i n ++ (if 0 < n then [32, 124, 32] else []) ++ conjsS i n (cn i) := rfl
theorem tx_end (m cn : Nat → Nat) (i st : Nat) {u : ByteArray} (h : u.data.toList = S0 st ++ dfsS m cn i ++ ((nmS i).data.toList ++ [32, 61, 32]) ++ altsS cn i (m i)) : (u ++ ⟨#[59, 10]⟩).data.toList = S0 st ++ dfsS m cn (i + 1) := by
  have e : dfsS m cn (i + 1) = dfsS m cn i ++ dfS m cn i := rfl
  rw [app_list, h, e]
  simp [dfS]
theorem rus_short (m cn : Nat → Nat) : ∀ k, ∀ r, r ∈ rusS m cn k → ∀ c, c ∈ r.conj → c.seq.length ≤ 140737488355328
  | 0, r, hr, c, hc => by cases hr
  | k + 1, r, hr, c, hc => by
    rcases List.mem_append.1 hr with h | h
    · exact rus_short m cn k r h c hc
    · obtain ⟨j, _, rfl⟩ := List.mem_map.1 h
      obtain ⟨d, _, rfl⟩ := List.mem_map.1 hc
      show 3 ≤ _
      omega
end Go.Proofs.Yteafdfalgeeheaa
