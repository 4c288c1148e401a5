import Derived.Test.YtgpklcpmabafmaaDoorNoteMem
import Derived.Deep.AppendLies
import Derived.Laws.OwnMore
import Derived.Test.YtgpklcpmabafmaaDoorGramVar
import Derived.Test.YtgpklcpmabafmaaDoorGramLow
import Derived.Test.YtgpklcpmabafmaaDoorGramMayG
import Derived.Deep.CutRange
/- What reads as a row is appended to a row of one's own. No program in sight. -/
namespace Go.Proofs.YtgpklcpmabafmaaDoor
set_option linter.unusedVariables false
open Go.RowKit

theorem run_append_none {P : Program} {w : World} (base : Nat) (t ty e : TypeId) (i : TypeInfo) (size : Nat) (ht : P.underlying t = some (.slice e)) (hi : P.info? e = some i)
    (v : Value) (n : Nat) (xs : List Value) (hown : w.ownsRow base e size v n xs) (c : Nat) : (Builtin.append_ #[t, t] ty #[v, .slice none 0 c]).run P w = .ok v w := by
  rcases hown.2 with ⟨rfl, rfl⟩ | ⟨g, cap, cur, rfl, _, _, hnc, _⟩
  · simp [Builtin.append_, run_underlying ht, sizeOf, typeInfo, hi, Builtin.lenOf, Builtin.firstCells]
  · simp [Builtin.append_, run_underlying ht, sizeOf, typeInfo, hi, Builtin.lenOf, Builtin.firstCells, hnc, storeCells]
theorem run_append_reads {P : Program} {w : World} {F : Nat → Prop} (base : Nat) (t ty e : TypeId) (i : TypeInfo) (z : Value) (size bytes : Nat) (ht : P.underlying t = some (.slice e)) (hi : P.info? e = some i) (hz : i.zero = some z)
    (hsize : i.size = size) (hby : i.bytes = bytes) (hzs : z.cells.size = size) (hsz : 0 < size) (v : Value) (n : Nat) (xs : List Value) (hown : w.ownsRow base e size v n xs)
    (u : Value) (m : Nat) (cs : List Value) (hu : Reads w F u m cs) (hl : cs.length = m * size) (h1 : ∀ x ∈ cs, x.oneCell' = true) (h63 : n + m ≤ maxLen) (hbytes : (n + m) * bytes ≤ 140737488355328) (hbase : base ≤ w.heap.size) :
    ∃ v' w', (Builtin.append_ #[t, t] ty #[v, u]).run P w = .ok v' w' ∧ w'.ownsRow base e size v' (n + m) (xs ++ cs) ∧ w.grownBy w' v.ownBlock := by
  obtain ⟨p, c, rfl, _, hc⟩ := hu
  cases p with
  | none =>
    have hm : m = 0 := by
      rcases Nat.eq_zero_or_pos m with h | h
      · exact h
      · obtain ⟨g, o, e1, _⟩ := hc h; cases e1
    subst hm
    have hcs : cs = [] := List.length_eq_zero_iff.1 (by rw [hl]; simp)
    subst hcs
    exact ⟨v, w, run_append_none base t ty e i size ht hi v n xs hown c, by simpa using hown, World.grownBy.refl w _⟩
  | some a =>
    have hnews : ∀ j x, cs[j]? = some x → w.cell? (a.add j) = some x := fun j x hx => by
      have hm : 0 < m := by
        rcases Nat.eq_zero_or_pos m with h | h
        · subst h
          have hj := (List.getElem?_eq_some_iff.1 hx).1
          rw [hl] at hj; simp at hj
        · exact h
      obtain ⟨g, o, e1, _, _, cc, _⟩ := hc hm
      injection e1 with e1
      subst e1
      have hadd : (⟨g, o, none⟩ : Addr).add j = ⟨g, o + j, none⟩ := by unfold Addr.add; split <;> simp_all
      rw [hadd]; exact cc j x hx
    obtain ⟨v', w', h2, h3, h4, _⟩ := run_append_own (P := P) (w := w) base t ty e i z size bytes ht hi hz hsize hby hzs hsz v n xs hown a m c cs hl hnews h1 h63 hbytes hbase
    exact ⟨v', w', h2, h3, h4⟩
/-- An append that is known, at a step of a region that draws its order. -/
theorem step_run_append {P : Program} {w : World} {ops : Array Oper} {o : Oper} {a : Act} {K : Act → World → Prop} {Q : Exit → Act → World → Prop} {E : Prop} (hgd : o.guard = none) (s x : Operand) (t : TypeId)
    (ho : o.op = .call { callee := .builtin .append, args := #[s, x], argTypes := #[t, t] }) (v u : Value) (hs : a.eval s = v) (hx : a.eval x = u) {v' : Value} {w' : World} (hr : (Builtin.append_ #[t, t] o.type #[v, u]).run P w = .ok v' w') (h : K (a.put o.dst v') w') :
    if Region.wanted o (yielded ops a.tmps) = true then Oper.wp P o a w K Q else E := by
  have hw : Region.wanted o (yielded ops a.tmps) = true := by simp [Region.wanted, hgd]
  rw [if_pos hw]
  unfold Oper.wp execOp
  simp only [ho, resolve, invoke, builtin, Sem.run_bind, Sem.run_pure, Result.andThen_ok, List.map_toArray, List.map_cons, List.map_nil, hs, hx, hr]
  exact h
/-- The same as a hypothesis of one world. -/
def StepApp (P : Program) (t ty : TypeId) (v u : Value) (w : World) (v' : Value) (w' : World) : Prop :=
  ∀ (ops : Array Oper) (o : Oper) (a : Act) (K : Act → World → Prop) (Q : Exit → Act → World → Prop) (E : Prop), o.guard = none → (∃ s x, o.op = .call { callee := .builtin .append, args := #[s, x], argTypes := #[t, t] } ∧ a.eval s = v ∧ a.eval x = u) → o.type = ty → K (a.put o.dst v') w' → if Region.wanted o (yielded ops a.tmps) = true then Oper.wp P o a w K Q else E
theorem stepApp {P : Program} {t ty : TypeId} {v u : Value} {w : World} {v' : Value} {w' : World} (hr : (Builtin.append_ #[t, t] ty #[v, u]).run P w = .ok v' w') : StepApp P t ty v u w v' w' := fun ops o a K Q E hgd ho hty h => by
  obtain ⟨s, x, ho, hs, hx⟩ := ho
  subst hty
  exact step_run_append hgd s x t ho v u hs hx hr h
/-- A row of none that is not nil. -/
theorem ownsRow_none (w : World) (e : TypeId) (size base : Nat) (hb : base ≤ w.heap.size) : (w.alloc (.cells #[] e)).ownsRow base e size (.slice (some ⟨w.heap.size, 0, none⟩) 0 0) 0 [] :=
  World.ownsRow_lit w #[] 0 hb (Nat.zero_le _) (by simp)
end Go.Proofs.YtgpklcpmabafmaaDoor
/- CopyGrammar of templelaw0: another one, in new blocks. -/
namespace Go.Proofs.YtgpklcpmabafmaaDoor
set_option linter.unusedVariables false
open Go.ChangeShapes Go.WideShapes Go.ChangeAt Go.RowKit

/-- What a machine's memory bears of a grammar. -/
def GSz (R : Nat) (g : Gr) : Prop := g.names.length * 16 ≤ R ∧ g.rules.length * 32 ≤ R ∧ ∀ r, r ∈ g.rules → r.conj.length * 32 ≤ R ∧ ∀ c, c ∈ r.conj → c.seq.length * 24 ≤ R
theorem Tryd.infoStrC : (Tryd.prog.info? 9).map (fun i => (i.zero, i.size, i.bytes)) = some (some (.string ⟨#[]⟩), 1, 16) := by kernel_rfl
theorem Tryd.infoSymC : (Tryd.prog.info? 32).map (fun i => (i.zero, i.size, i.bytes)) = some (some (.agg #[.int .i64 0, .int .i64 0, .int .i64 0]), 3, 24) := by kernel_rfl
theorem Tryd.infoConC : (Tryd.prog.info? 30).map (fun i => (i.zero, i.size, i.bytes)) = some (some (.agg #[.bool false, .slice none 0 0]), 2, 32) := by kernel_rfl
theorem Tryd.infoRuleC : (Tryd.prog.info? 35).map (fun i => (i.zero, i.size, i.bytes)) = some (some (.agg #[.int .i64 0, .slice none 0 0]), 2, 32) := by kernel_rfl
theorem belC_alloc {W w' : World} {o : Obj} (h : Below W.heap.size W w') : Below W.heap.size W (w'.alloc o) := h.alloc h.size o
theorem belC_set {W w' : World} {b j : Nat} (h : Below W.heap.size W w') (hb : W.heap.size ≤ b) (v : Value) : Below W.heap.size W (w'.setCell ⟨b, j, none⟩ v) := h.trans ⟨rfl, rfl, rfl, by simp [World.setCell], fun i hi => Below.heap_setCell _ _ _ _ (by simp; omega)⟩
theorem set3 {w : World} {b : Nat} {x0 x1 x2 : Value} {t : TypeId} (h : w.heap[b]? = some (.cells #[x0, x1, x2] t)) (a b' c : Value) : (((w.setCell ⟨b, 0, none⟩ a).setCell ⟨b, 1, none⟩ b').setCell ⟨b, 2, none⟩ c).heap[b]? = some (.cells #[a, b', c] t) := by
  simp [World.setCell, Array.getElem?_modify, h]
theorem own3 {w : World} {b base e size n : Nat} {v : Value} {xs : List Value} {cs : Array Value} {t : TypeId} (h : w.ownsRow base e size v n xs) (hb : w.heap[b]? = some (.cells cs t)) (hne : e ≠ t) (a b' c : Value) : (((w.setCell ⟨b, 0, none⟩ a).setCell ⟨b, 1, none⟩ b').setCell ⟨b, 2, none⟩ c).ownsRow base e size v n xs := by
  have hn : v.ownBlock ≠ some b := own_neL h hb hne
  exact ownsRow_setCell_other (a := ⟨b, 2, none⟩) (ownsRow_setCell_other (a := ⟨b, 1, none⟩) (ownsRow_setCell_other (a := ⟨b, 0, none⟩) h hn _) hn _) hn _
theorem cellC_lt {w : World} {b j : Nat} {v : Value} (h : w.cell? ⟨b, j, none⟩ = some v) : b < w.heap.size := by
  by_cases hh : b < w.heap.size
  · exact hh
  · unfold World.cell? at h
    rw [Array.getElem?_eq_none (by simpa using hh)] at h; cases h
theorem txV_len (l : List ByteArray) : (txV l).length = l.length * 1 := by simp [txV]
theorem txV_one (l : List ByteArray) : ∀ x ∈ txV l, x.oneCell' = true := fun x hx => by
  obtain ⟨s, _, rfl⟩ := List.mem_map.1 hx
  rfl
theorem sysV_one : ∀ (l : List Sy), ∀ x ∈ sysV l, x.oneCell' = true
  | [], x, hx => by simp [sysV] at hx
  | s :: l, x, hx => by
    simp only [sysV, syV, List.mem_append, List.mem_cons, List.not_mem_nil, or_false] at hx
    rcases hx with (rfl | rfl | rfl) | hx
    · rfl
    · rfl
    · rfl
    · exact sysV_one l x hx
/-- A copy's rows are its own: its names, its rules; what its rules hold lies in blocks aside. -/
def Cp (w : World) (g : Gr) (u1 u2 : Value) (w' : World) : Prop := ∃ (B : World) (F : Nat → Prop) (us : List Value), Below w.heap.size w B ∧ Mk0 B F g.rules us u2 w' ∧ w'.ownsRow B.heap.size 9 1 u1 g.names.length (txV g.names) ∧ ∀ b, u1.ownBlock = some b → ¬ F b
end Go.Proofs.YtgpklcpmabafmaaDoor
