import Derived.Test.YtdoibpgkfdpbdaaNoteMem
import Derived.Deep.AppendLies
import Derived.Laws.OwnMore
import Derived.Test.YtdoibpgkfdpbdaaGramVar
import Derived.Test.YtdoibpgkfdpbdaaGramLow
import Derived.Test.YtdoibpgkfdpbdaaGramMayG
import Derived.Deep.CutRange
/- What reads as a row is appended to a row of one's own. No program in sight. -/
namespace Go.Proofs.Ytdoibpgkfdpbdaa
set_option linter.unusedVariables false
open Go.RowKit

theorem run_append_none {P : Program} {w : World} (base : Nat) (t ty e : TypeId) (i : TypeInfo) (size : Nat) (ht : P.underlying t = some (.slice e)) (hi : P.info? e = some i)
    (v : Value) (n : Nat) (xs : List Value) (hown : w.ownsRow base e size v n xs) (c : Nat) : (Builtin.append_ #[t, t] ty #[v, .slice none 0 c]).run P w = .ok v w := by
  rcases hown.2 with ⟨rfl, rfl⟩ | ⟨g, cap, cur, rfl, _, _, hnc, _⟩
  · simp [Builtin.append_, run_underlying ht, sizeOf, typeInfo, hi, Builtin.lenOf, Builtin.firstCells]
  · simp [Builtin.append_, run_underlying ht, sizeOf, typeInfo, hi, Builtin.lenOf, Builtin.firstCells, hnc, storeCells]
theorem run_append_reads {P : Program} {w : World} {F : Nat → Prop} (base : Nat) (t ty e : TypeId) (i : TypeInfo) (z : Value) (size bytes : Nat) (ht : P.underlying t = some (.slice e)) (hi : P.info? e = some i) (hz : i.zero = some z)
    (hsize : i.size = size) (hby : i.bytes = bytes) (hzs : z.cells.size = size) (hsz : 0 < size) (v : Value) (n : Nat) (xs : List Value) (hown : w.ownsRow base e size v n xs)
    (u : Value) (m : Nat) (cs : List Value) (hu : Reads w F u m cs) (hl : cs.length = m * size) (h1 : ∀ x ∈ cs, x.oneCell' = true) (h63 : n + m ≤ maxLen) (hbytes : (n + m) * bytes ≤ 140737488355328) (hbase : base ≤ w.heap.size) :
    ∃ v' w', (Builtin.append_ #[t, t] ty #[v, u]).run P w = .ok v' w' ∧ w'.ownsRow base e size v' (n + m) (xs ++ cs) ∧ w.grownBy w' v.ownBlock := by
  obtain ⟨p, c, rfl, _, hc⟩ := hu
  cases p with
  | none =>
    have hm : m = 0 := by
      rcases Nat.eq_zero_or_pos m with h | h
      · exact h
      · obtain ⟨g, o, e1, _⟩ := hc h; cases e1
    subst hm
    have hcs : cs = [] := List.length_eq_zero_iff.1 (by rw [hl]; simp)
    subst hcs
    exact ⟨v, w, run_append_none base t ty e i size ht hi v n xs hown c, by simpa using hown, World.grownBy.refl w _⟩
  | some a =>
    have hnews : ∀ j x, cs[j]? = some x → w.cell? (a.add j) = some x := fun j x hx => by
      have hm : 0 < m := by
        rcases Nat.eq_zero_or_pos m with h | h
        · subst h
          have hj := (List.getElem?_eq_some_iff.1 hx).1
          rw [hl] at hj; simp at hj
        · exact h
      obtain ⟨g, o, e1, _, _, cc, _⟩ := hc hm
      injection e1 with e1
      subst e1
      have hadd : (⟨g, o, none⟩ : Addr).add j = ⟨g, o + j, none⟩ := by unfold Addr.add; split <;> simp_all
      rw [hadd]; exact cc j x hx
    obtain ⟨v', w', h2, h3, h4, _⟩ := run_append_own (P := P) (w := w) base t ty e i z size bytes ht hi hz hsize hby hzs hsz v n xs hown a m c cs hl hnews h1 h63 hbytes hbase
    exact ⟨v', w', h2, h3, h4⟩
/-- An append that is known, at a step of a region that draws its order. -/
theorem step_run_append {P : Program} {w : World} {ops : Array Oper} {o : Oper} {a : Act} {K : Act → World → Prop} {Q : Exit → Act → World → Prop} {E : Prop} (hgd : o.guard = none) (s x : Operand) (t : TypeId)
    (ho : o.op = .call { callee := .builtin .append, args := #[s, x], argTypes := #[t, t] }) (v u : Value) (hs : a.eval s = v) (hx : a.eval x = u) {v' : Value} {w' : World} (hr : (Builtin.append_ #[t, t] o.type #[v, u]).run P w = .ok v' w') (h : K (a.put o.dst v') w') :
    if Region.wanted o (yielded ops a.tmps) = true then Oper.wp P o a w K Q else E := by
  have hw : Region.wanted o (yielded ops a.tmps) = true := by simp [Region.wanted, hgd]
  rw [if_pos hw]
  unfold Oper.wp execOp
  simp only [ho, resolve, invoke, builtin, Sem.run_bind, Sem.run_pure, Result.andThen_ok, List.map_toArray, List.map_cons, List.map_nil, hs, hx, hr]
  exact h
/-- The same as a hypothesis of one world. -/
def StepApp (P : Program) (t ty : TypeId) (v u : Value) (w : World) (v' : Value) (w' : World) : Prop :=
  ∀ (ops : Array Oper) (o : Oper) (a : Act) (K : Act → World → Prop) (Q : Exit → Act → World → Prop) (E : Prop), o.guard = none → (∃ s x, o.op = .call { callee := .builtin .append, args := #[s, x], argTypes := #[t, t] } ∧ a.eval s = v ∧ a.eval x = u) → o.type = ty → K (a.put o.dst v') w' → if Region.wanted o (yielded ops a.tmps) = true then Oper.wp P o a w K Q else E
theorem stepApp {P : Program} {t ty : TypeId} {v u : Value} {w : World} {v' : Value} {w' : World} (hr : (Builtin.append_ #[t, t] ty #[v, u]).run P w = .ok v' w') : StepApp P t ty v u w v' w' := fun ops o a K Q E hgd ho hty h => by
  obtain ⟨s, x, ho, hs, hx⟩ := ho
  subst hty
  exact step_run_append hgd s x t ho v u hs hx hr h
/-- A row of none that is not nil. -/
theorem ownsRow_none (w : World) (e : TypeId) (size base : Nat) (hb : base ≤ w.heap.size) : (w.alloc (.cells #[] e)).ownsRow base e size (.slice (some ⟨w.heap.size, 0, none⟩) 0 0) 0 [] :=
  World.ownsRow_lit w #[] 0 hb (Nat.zero_le _) (by simp)
end Go.Proofs.Ytdoibpgkfdpbdaa
/- CopyGrammar of templelaw0: another one, in new blocks, each row in one of its own. -/
namespace Go.Proofs.Ytdoibpgkfdpbdaa
set_option linter.unusedVariables false
open Go.ChangeShapes Go.WideShapes Go.ChangeAt Go.RowKit

/-- What a machine's memory bears of a grammar. -/
def GSz (R : Nat) (g : Gr) : Prop := g.names.length * 16 ≤ R ∧ g.rules.length * 32 ≤ R ∧ ∀ r, r ∈ g.rules → r.conj.length * 32 ≤ R ∧ ∀ c, c ∈ r.conj → c.seq.length * 24 ≤ R
theorem Try.infoStrC : (Try.prog.info? 9).map (fun i => (i.zero, i.size, i.bytes)) = some (some (.string ⟨#[]⟩), 1, 16) := by kernel_rfl
theorem Try.infoSymC : (Try.prog.info? 44).map (fun i => (i.zero, i.size, i.bytes)) = some (some (.agg #[.int .i64 0, .int .i64 0, .int .i64 0]), 3, 24) := by kernel_rfl
theorem Try.infoConC : (Try.prog.info? 40).map (fun i => (i.zero, i.size, i.bytes)) = some (some (.agg #[.bool false, .slice none 0 0]), 2, 32) := by kernel_rfl
theorem Try.infoRuleC : (Try.prog.info? 36).map (fun i => (i.zero, i.size, i.bytes)) = some (some (.agg #[.int .i64 0, .slice none 0 0]), 2, 32) := by kernel_rfl
theorem belC_alloc {W w' : World} {o : Obj} (h : Below W.heap.size W w') : Below W.heap.size W (w'.alloc o) := h.alloc h.size o
theorem belC_set {W w' : World} {b j : Nat} (h : Below W.heap.size W w') (hb : W.heap.size ≤ b) (v : Value) : Below W.heap.size W (w'.setCell ⟨b, j, none⟩ v) := h.trans ⟨rfl, rfl, rfl, by simp [World.setCell], fun i hi => Below.heap_setCell _ _ _ _ (by simp; omega)⟩
theorem set3 {w : World} {b : Nat} {x0 x1 x2 : Value} {t : TypeId} (h : w.heap[b]? = some (.cells #[x0, x1, x2] t)) (a b' c : Value) : (((w.setCell ⟨b, 0, none⟩ a).setCell ⟨b, 1, none⟩ b').setCell ⟨b, 2, none⟩ c).heap[b]? = some (.cells #[a, b', c] t) := by
  simp [World.setCell, Array.getElem?_modify, h]
theorem own3 {w : World} {b base e size n : Nat} {v : Value} {xs : List Value} {cs : Array Value} {t : TypeId} (h : w.ownsRow base e size v n xs) (hb : w.heap[b]? = some (.cells cs t)) (hne : e ≠ t) (a b' c : Value) : (((w.setCell ⟨b, 0, none⟩ a).setCell ⟨b, 1, none⟩ b').setCell ⟨b, 2, none⟩ c).ownsRow base e size v n xs := by
  have hn : v.ownBlock ≠ some b := own_neL h hb hne
  exact ownsRow_setCell_other (a := ⟨b, 2, none⟩) (ownsRow_setCell_other (a := ⟨b, 1, none⟩) (ownsRow_setCell_other (a := ⟨b, 0, none⟩) h hn _) hn _) hn _
theorem cellC_lt {w : World} {b j : Nat} {v : Value} (h : w.cell? ⟨b, j, none⟩ = some v) : b < w.heap.size := by
  by_cases hh : b < w.heap.size
  · exact hh
  · unfold World.cell? at h
    rw [Array.getElem?_eq_none (by simpa using hh)] at h; cases h
theorem txV_len (l : List ByteArray) : (txV l).length = l.length * 1 := by simp [txV]
theorem txV_one (l : List ByteArray) : ∀ x ∈ txV l, x.oneCell' = true := fun x hx => by
  obtain ⟨s, _, rfl⟩ := List.mem_map.1 hx
  rfl
theorem sysV_one : ∀ (l : List Sy), ∀ x ∈ sysV l, x.oneCell' = true
  | [], x, hx => by simp [sysV] at hx
  | s :: l, x, hx => by
    simp only [sysV, syV, List.mem_append, List.mem_cons, List.not_mem_nil, or_false] at hx
    rcases hx with (rfl | rfl | rfl) | hx
    · rfl
    · rfl
    · rfl
    · exact sysV_one l x hx
section
variable {W w w' w1 w2 : World} {gb : Nat} {F : Nat → Prop} {st : Int} {ns : List ByteArray} {nv o : Value} {L : List Ru} {us : List Value}
/-- One rule more: its conjuncts c lie in blocks that are new. -/
theorem GV.ruleE (m : GV W gb F st ns nv L us o w) (hb : Below w.heap.size w w1) {h : Int} {c : Value} {cs : List Cn} {Fc : Nat → Prop} (hc : IsCns w1 Fc c cs) (hFc : ∀ b, Fc b → w.heap.size ≤ b) {n g cap : Nat} (hn : L.length = n)
    (hg : (w1.alloc (.cells #[.int .i64 h, c] 36)).grownBy w2 o.ownBlock) (hown : w2.ownsRow W.heap.size 36 2 (.slice (some ⟨g, 0, none⟩) (n + 1) cap) (n + 1) (rusV L us ++ [.int .i64 h, c]))
    (hat : o.ownBlock = some g ∨ g = w1.heap.size + 1) {L' : List Ru} (hL : L' = L ++ [⟨h, cs⟩]) :
    GV W gb (fun b => F b ∨ (w.heap.size ≤ b ∧ b < (w1.alloc (.cells #[.int .i64 h, c] 36)).heap.size)) st ns nv L' (us ++ [c]) (.slice (some ⟨g, 0, none⟩) (n + 1) cap) (w2.setCell ⟨gb, 2, none⟩ (.slice (some ⟨g, 0, none⟩) (n + 1) cap)) ∧ Stay (fun b => F b ∨ (w.heap.size ≤ b ∧ b < (w1.alloc (.cells #[.int .i64 h, c] 36)).heap.size)) (w1.alloc (.cells #[.int .i64 h, c] 36)) (w2.setCell ⟨gb, 2, none⟩ (.slice (some ⟨g, 0, none⟩) (n + 1) cap)) := by
  subst hn hL
  have m1 := (m.keep hb).keep (bel1 w1 (.cells #[.int .i64 h, c] 36))
  have hc1 := hc.any (bel1 w1 (.cells #[.int .i64 h, c] 36))
  have hz3 : (w1.alloc (.cells #[.int .i64 h, c] 36)).heap.size = w1.heap.size + 1 := by simp
  generalize w1.alloc (.cells #[.int .i64 h, c] 36) = w3 at hg m1 hc1 hz3
  have hgb : o.ownBlock ≠ some gb := row_no m1.m0.oo (by decide) m1.vb
  have hvb : w2.heap[gb]? = some (.cells #[.int .i64 st, nv, o] 25) := (hg.block gb (block_lt m1.vb) (Ne.symm hgb)).trans m1.vb
  have hc2 : IsCns w3 (fun b => w.heap.size ≤ b ∧ b < w3.heap.size) c cs := hc1.monoV fun b h1 h2 => ⟨hFc b h1, h2⟩
  have hs0 := hb.size
  have hgl := block_lt m.vb
  have hgs := hg.size
  have hbs := m1.m0.bl.size
  have hwb := m.m0.bl.size
  have hol : ∀ b, o.ownBlock = some b → b < w.heap.size := fun b e => (m.m0.oo.lt b e).2
  have hS : Stay (fun b => F b ∨ (w.heap.size ≤ b ∧ b < w3.heap.size)) w3 (w2.setCell ⟨gb, 2, none⟩ (.slice (some ⟨g, 0, none⟩) (L.length + 1) cap)) := by
    refine ⟨by simpa [World.setCell] using hgs, fun b hF => ?_⟩
    have hne : b ≠ gb := fun e => by
      subst e
      rcases hF with hF | hF
      · exact m.gF hF
      · omega
    have hlt : b < w3.heap.size := by
      rcases hF with hF | hF
      · exact (m1.m0.fl b hF).2
      · exact hF.2
    have hob : some b ≠ o.ownBlock := fun e => by
      rcases hF with hF | hF
      · exact m.m0.no b e.symm hF
      · have := hol b e.symm; omega
    exact (Go.Deep.blk_setCell_other w2 ⟨gb, 2, none⟩ _ b hne).trans (hg.block b hlt hob)
  have hz : (w2.setCell ⟨gb, 2, none⟩ (.slice (some ⟨g, 0, none⟩) (L.length + 1) cap)).heap.size = w2.heap.size := by simp [World.setCell]
  have hgn : g ≠ gb := fun e => by
    subst e
    rcases hat with e3 | e3
    · exact hgb e3
    · omega
  refine ⟨?_, hS⟩
  refine ⟨⟨fun b hF => ?_, ?_, fun b e hF => ?_, ?_, ?_⟩, ?_, fun b e hF => ?_, ?_, fun hF => ?_, m.gg⟩
  · rw [hz]
    rcases hF with hF | hF
    · exact ⟨(m1.m0.fl b hF).1, Nat.lt_of_lt_of_le (m1.m0.fl b hF).2 hgs⟩
    · exact ⟨by omega, by omega⟩
  · rw [List.length_append, rusV_append _ _ _ _ m.m0.ri.1]
    exact ownsRow_setCell_other (a := ⟨gb, 2, none⟩) hown (fun e => hgn (by injection e)) _
  · obtain rfl : g = b := by injection e
    rcases hF with hF | hF
    · rcases hat with e3 | e3
      · exact m.m0.no g e3 hF
      · have := (m.m0.fl g hF).2; omega
    · rcases hat with e3 | e3
      · have := hol g e3; omega
      · omega
  · have r1 := m1.m0.ri.keep (F' := fun b => F b ∨ (w.heap.size ≤ b ∧ b < w3.heap.size)) ⟨hS.size, fun b hF => hS.blk b (Or.inl hF)⟩ (fun b hF => Or.inl hF)
    exact r1.snoc (c := ⟨h, cs⟩) (hc2.keep ⟨hS.size, fun b hF => hS.blk b (Or.inr hF)⟩ (fun b hF => Or.inr hF))
  · exact (m1.m0.bl.grown hg (by omega) (fun k hk => (m1.m0.oo.lt k hk).1)).setCell (p := ⟨gb, 2, none⟩) m.gg _
  · exact ownsRow_setCell_other (a := ⟨gb, 2, none⟩) (row_grown m1.on m1.m0.oo (by decide) hg) (row_no m1.on (by decide) m1.vb) _
  · rcases hF with hF | hF
    · exact m.nn b e hF
    · have := (m.on.lt b e).2; omega
  · exact heap_setCell_same w2 gb 2 _ _ _ hvb
  · rcases hF with hF | hF
    · exact m.gF hF
    · omega
end
theorem row_stay {w w' : World} {base e size n : Nat} {v : Value} {xs : List Value} (h : w.ownsRow base e size v n xs) (hb : ∀ g, v.ownBlock = some g → w'.heap[g]? = w.heap[g]?) : w'.ownsRow base e size v n xs := by
  obtain ⟨h0, h1 | ⟨g, cap, cur, h1, h2, h3, h4⟩⟩ := h
  · exact ⟨h0, .inl h1⟩
  · exact ⟨h0, .inr ⟨g, cap, cur, h1, h2, by rw [hb g (by rw [h1]; rfl)]; exact h3, h4⟩⟩
/-- No two of these values own the same block. -/
def ApartL (vs : List Value) : Prop := ∀ (i j : Nat) (u v : Value) (b : Nat), i ≠ j → vs[i]? = some u → vs[j]? = some v → u.ownBlock = some b → v.ownBlock ≠ some b
/-- Each conjunct's symbols lie in a row of their own. -/
structure SqD (w : World) (B : Nat) (cs : List Cn) (vs : List Value) : Prop where
  len : vs.length = cs.length
  row : ∀ (j : Nat) (c : Cn) (u : Value), cs[j]? = some c → vs[j]? = some u → w.ownsRow B 44 3 u c.seq.length (sysV c.seq)
  ap : ApartL vs
/-- Each rule's conjuncts lie in a row of their own, and so do each conjunct's symbols. -/
structure Dp (w : World) (B : Nat) (L : List Ru) (us : List Value) (vss : List (List Value)) : Prop where
  l1 : us.length = L.length
  l2 : vss.length = L.length
  row : ∀ (i : Nat) (r : Ru) (c : Value) (vs : List Value), L[i]? = some r → us[i]? = some c → vss[i]? = some vs → w.ownsRow B 40 2 c r.conj.length (cnsV r.conj vs) ∧ SqD w B r.conj vs
  ap : ApartL us
  apS : ∀ (i i' j j' : Nat) (vs vs' : List Value) (u u' : Value) (b : Nat), i ≠ i' → vss[i]? = some vs → vss[i']? = some vs' → vs[j]? = some u → vs'[j']? = some u' → u.ownBlock = some b → u'.ownBlock ≠ some b
theorem ApartL.nil : ApartL [] := fun i j u v b _ h => by simp at h
theorem ApartL.snoc {vs : List Value} {x : Value} {k : Nat} (h : ApartL vs) (h1 : ∀ (i : Nat) (u : Value) (b : Nat), vs[i]? = some u → u.ownBlock = some b → b < k) (h2 : ∀ b, x.ownBlock = some b → k ≤ b) : ApartL (vs ++ [x]) := fun i j u v b hij hi hj hb => by
  have key : ∀ (n : Nat) (z : Value), (vs ++ [x])[n]? = some z → (n < vs.length ∧ vs[n]? = some z) ∨ (n = vs.length ∧ z = x) := fun n z hn => by
    by_cases hl : n < vs.length
    · rw [List.getElem?_append_left hl] at hn; exact Or.inl ⟨hl, hn⟩
    · rw [List.getElem?_append_right (by omega)] at hn
      have := (List.getElem?_eq_some_iff.1 hn).1
      simp at this
      have e : n = vs.length := by omega
      subst e
      simp at hn
      exact Or.inr ⟨rfl, hn.symm⟩
  intro hv
  rcases key i u hi with ⟨_, e1⟩ | ⟨e0, e1⟩ <;> rcases key j v hj with ⟨_, e2⟩ | ⟨e3, e2⟩
  · exact h i j u v b hij e1 e2 hb hv
  · subst e2
    have := h1 i u b e1 hb
    have := h2 b hv
    omega
  · subst e1
    have := h1 j v b e2 hv
    have := h2 b hb
    omega
  · omega
theorem SqD.nil (w : World) (B : Nat) : SqD w B [] [] := ⟨rfl, fun j c u h => by simp at h, ApartL.nil⟩
theorem SqD.imp {w w' : World} {B B' : Nat} {cs : List Cn} {vs : List Value} (h : SqD w B cs vs) (k : ∀ (n : Nat) (u : Value) (xs : List Value), w.ownsRow B 44 3 u n xs → w'.ownsRow B' 44 3 u n xs) : SqD w' B' cs vs := ⟨h.len, fun j c u h1 h2 => k _ _ _ (h.row j c u h1 h2), h.ap⟩
theorem SqD.snoc {w : World} {B k : Nat} {cs : List Cn} {vs : List Value} {c : Cn} {u : Value} (h : SqD w B cs vs) (ho : w.ownsRow B 44 3 u c.seq.length (sysV c.seq)) (h1 : ∀ (i : Nat) (x : Value) (b : Nat), vs[i]? = some x → x.ownBlock = some b → b < k) (h2 : ∀ b, u.ownBlock = some b → k ≤ b) : SqD w B (cs ++ [c]) (vs ++ [u]) :=
  ⟨by simp [h.len], (in_snoc (P := fun (c : Cn) (u : Value) => w.ownsRow B 44 3 u c.seq.length (sysV c.seq)) h.len h.row ho).2, h.ap.snoc h1 h2⟩
theorem SqD.lt {w : World} {B : Nat} {cs : List Cn} {vs : List Value} (h : SqD w B cs vs) (i : Nat) (x : Value) (b : Nat) (hi : vs[i]? = some x) (hb : x.ownBlock = some b) : B ≤ b ∧ b < w.heap.size := by
  have hl := (List.getElem?_eq_some_iff.1 hi).1
  obtain ⟨c, hc⟩ : ∃ c, cs[i]? = some c := ⟨_, List.getElem?_eq_getElem (by rw [← h.len]; exact hl)⟩
  exact (h.row i c x hc hi).lt b hb
theorem Dp.nil (w : World) (B : Nat) : Dp w B [] [] [] := ⟨rfl, rfl, fun i r c vs h => by simp at h, ApartL.nil, fun i i' j j' vs vs' u u' b _ h => by simp at h⟩
theorem Dp.imp {w w' : World} {B B' : Nat} {L : List Ru} {us : List Value} {vss : List (List Value)} (h : Dp w B L us vss) (k : ∀ (n : Nat) (u : Value) (xs : List Value), w.ownsRow B 44 3 u n xs → w'.ownsRow B' 44 3 u n xs) (k2 : ∀ (n : Nat) (u : Value) (xs : List Value), w.ownsRow B 40 2 u n xs → w'.ownsRow B' 40 2 u n xs) : Dp w' B' L us vss :=
  ⟨h.l1, h.l2, fun i r c vs h1 h2 h3 => ⟨k2 _ _ _ (h.row i r c vs h1 h2 h3).1, (h.row i r c vs h1 h2 h3).2.imp k⟩, h.ap, h.apS⟩
theorem Dp.keep {w w' : World} {B : Nat} {L : List Ru} {us : List Value} {vss : List (List Value)} (h : Dp w B L us vss) (hb : Below w.heap.size w w') : Dp w' B L us vss := h.imp (fun _ _ _ h => row_keep h hb) (fun _ _ _ h => row_keep h hb)
theorem snoc_cases {α : Type} {l : List α} {x z : α} {n : Nat} (hn : (l ++ [x])[n]? = some z) : (n < l.length ∧ l[n]? = some z) ∨ (n = l.length ∧ z = x) := by
  by_cases hl : n < l.length
  · rw [List.getElem?_append_left hl] at hn; exact Or.inl ⟨hl, hn⟩
  · rw [List.getElem?_append_right (by omega)] at hn
    have := (List.getElem?_eq_some_iff.1 hn).1
    simp at this
    have e : n = l.length := by omega
    subst e
    simp at hn
    exact Or.inr ⟨rfl, hn.symm⟩
/-- A rule more, whose rows are all new. -/
theorem Dp.snoc {w : World} {B k : Nat} {L : List Ru} {us : List Value} {vss : List (List Value)} {r : Ru} {c : Value} {vs : List Value} (h : Dp w B L us vss) (h1 : ∀ (i : Nat) (u : Value) (b : Nat), us[i]? = some u → u.ownBlock = some b → b < k) (h2 : ∀ (i : Nat) (ws : List Value) (j : Nat) (u : Value) (b : Nat), vss[i]? = some ws → ws[j]? = some u → u.ownBlock = some b → b < k)
    (hB : B ≤ k) (hc : w.ownsRow k 40 2 c r.conj.length (cnsV r.conj vs)) (hs : SqD w k r.conj vs) : Dp w B (L ++ [r]) (us ++ [c]) (vss ++ [vs]) := by
  refine ⟨by simp [h.l1], by simp [h.l2], fun i q d ws e1 e2 e3 => ?_, h.ap.snoc h1 (fun b e => (hc.lt b e).1), fun i i' j j' ws ws' u u' b hii e1 e2 e3 e4 e5 e6 => ?_⟩
  · rcases snoc_cases e1 with ⟨f0, f1⟩ | ⟨f0, f1⟩ <;> rcases snoc_cases e2 with ⟨g0, g1⟩ | ⟨g0, g1⟩ <;> rcases snoc_cases e3 with ⟨k0, k1⟩ | ⟨k0, k1⟩
    · exact h.row i q d ws f1 g1 k1
    all_goals first | (have := h.l1; have := h.l2; omega) | skip
    subst f1 g1 k1
    exact ⟨row_mono hc hB, hs.imp fun _ _ _ hh => row_mono hh hB⟩
  · rcases snoc_cases e1 with ⟨f0, f1⟩ | ⟨f0, f1⟩ <;> rcases snoc_cases e2 with ⟨g0, g1⟩ | ⟨g0, g1⟩
    · exact h.apS i i' j j' ws ws' u u' b hii f1 g1 e3 e4 e5 e6
    · subst g1
      have := h2 i ws j u b f1 e3 e5
      have := (hs.lt j' u' b e4 e6).1
      omega
    · subst f1
      have := h2 i' ws' j' u' b g1 e4 e6
      have := (hs.lt j u b e3 e5).1
      omega
    · omega
theorem Dp.lts {w : World} {B : Nat} {L : List Ru} {us : List Value} {vss : List (List Value)} (h : Dp w B L us vss) : (∀ (i : Nat) (u : Value) (b : Nat), us[i]? = some u → u.ownBlock = some b → B ≤ b ∧ b < w.heap.size) ∧ ∀ (i : Nat) (ws : List Value) (j : Nat) (u : Value) (b : Nat), vss[i]? = some ws → ws[j]? = some u → u.ownBlock = some b → B ≤ b ∧ b < w.heap.size := by
  constructor
  · intro i u b h1 h2
    have hl := (List.getElem?_eq_some_iff.1 h1).1
    obtain ⟨r, hr⟩ : ∃ r, L[i]? = some r := ⟨_, List.getElem?_eq_getElem (by rw [← h.l1]; exact hl)⟩
    obtain ⟨vs, hv⟩ : ∃ r, vss[i]? = some r := ⟨_, List.getElem?_eq_getElem (by rw [h.l2, ← h.l1]; exact hl)⟩
    exact (h.row i r u vs hr h1 hv).1.lt b h2
  · intro i ws j u b h1 h2 h3
    have hl := (List.getElem?_eq_some_iff.1 h1).1
    obtain ⟨r, hr⟩ : ∃ r, L[i]? = some r := ⟨_, List.getElem?_eq_getElem (by rw [← h.l2]; exact hl)⟩
    obtain ⟨c, hc⟩ : ∃ r, us[i]? = some r := ⟨_, List.getElem?_eq_getElem (by rw [h.l1, ← h.l2]; exact hl)⟩
    exact (h.row i r c ws hr hc h1).2.lt j u b h2 h3
/-- A copy's rows are its own: its names, its rules; what its rules hold lies in blocks aside. -/
def CpD (w : World) (g : Gr) (u1 u2 : Value) (w' : World) : Prop := ∃ (B : World) (F : Nat → Prop) (us : List Value), Below w.heap.size w B ∧ Mk0 B F g.rules us u2 w' ∧ w'.ownsRow B.heap.size 9 1 u1 g.names.length (txV g.names) ∧ (∀ b, u1.ownBlock = some b → ¬ F b) ∧ ∃ vss, Dp w' B.heap.size g.rules us vss
end Go.Proofs.Ytdoibpgkfdpbdaa
