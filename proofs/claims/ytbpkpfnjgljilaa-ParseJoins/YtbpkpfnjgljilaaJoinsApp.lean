/- What an append of a row that may be empty does, at a step of a region that draws. -/
import Derived.Test.YtbpkpfnjgljilaaJoinsSmall
namespace Go.Proofs.Ytbpkpfnjgljilaa
set_option linter.unusedVariables false
open Go.ChangeShapes Go.WideShapes Go.ChangeAt Go.RowKit

theorem add_at (g o j : Nat) : (⟨g, o, none⟩ : Addr).add j = ⟨g, o + j, none⟩ := by unfold Addr.add; split <;> simp_all
theorem run_append_no {P : Program} {w : World} (base : Nat) (t ty e : TypeId) (i : TypeInfo) (size : Nat) (ht : P.underlying t = some (.slice e)) (hi : P.info? e = some i)
    (v : Value) (n : Nat) (xs : List Value) (hown : w.ownsRow base e size v n xs) (c : Nat) :
    (Builtin.append_ #[t, t] ty #[v, .slice none 0 c]).run P w = .ok v w := by
  rcases hown.2 with ⟨rfl, rfl⟩ | ⟨g, cap, cur, rfl, _, _, hnc, _⟩
  · simp [Builtin.append_, run_underlying ht, sizeOf, typeInfo, hi, Builtin.lenOf, Builtin.firstCells]
  · simp [Builtin.append_, run_underlying ht, sizeOf, typeInfo, hi, Builtin.lenOf, Builtin.firstCells, hnc, storeCells]
theorem run_append_reads {P : Program} {w : World} (t ty : TypeId) (base : Nat) (e : TypeId) (i : TypeInfo) (z : Value) (size bytes : Nat) (ht : P.underlying t = some (.slice e)) (hi : P.info? e = some i) (hz : i.zero = some z)
    (hsize : i.size = size) (hby : i.bytes = bytes) (hzs : z.cells.size = size) (hsz : 0 < size)
    (v : Value) (n : Nat) (xs : List Value) (hown : w.ownsRow base e size v n xs) (X : Value) (m : Nat) (cs : List Value) (F : Nat → Prop) (hX : Reads w F X m cs) (hl : cs.length = m * size) (h1 : ∀ u ∈ cs, u.oneCell' = true)
    (h63 : n + m ≤ maxLen) (hbytes : (n + m) * bytes ≤ 140737488355328) (hbase : base ≤ w.heap.size) :
    ∃ p' cap' w', (Builtin.append_ #[t, t] ty #[v, X]).run P w = .ok (.slice p' (n + m) cap') w' ∧ w'.ownsRow base e size (.slice p' (n + m) cap') (n + m) (xs ++ cs) ∧ w.grownBy w' v.ownBlock := by
  obtain ⟨p, c, rfl, -, hc⟩ := hX
  have big : ∀ ad : Addr, p = some ad → (∀ j u, cs[j]? = some u → w.cell? (ad.add j) = some u) → ∃ p' cap' w', (Builtin.append_ #[t, t] ty #[v, .slice p m c]).run P w = .ok (.slice p' (n + m) cap') w' ∧ w'.ownsRow base e size (.slice p' (n + m) cap') (n + m) (xs ++ cs) ∧ w.grownBy w' v.ownBlock := fun ad hp hn => by
    subst hp
    obtain ⟨v', w', hr, h2, h3, _, h5⟩ := run_append_own_at (P := P) w base t ty e i z size bytes ht hi hz hsize hby hzs hsz v n xs hown ad m c cs hl hn h1 h63 hbytes hbase
    obtain ⟨p', c', rfl⟩ := row_slice h2
    exact ⟨p', c', w', hr, h2, h3⟩
  rcases Nat.eq_zero_or_pos m with hm | hm
  · have h0 : cs = [] := List.length_eq_zero_iff.1 (by rw [hl, hm, Nat.zero_mul])
    cases p with
    | some ad => exact big ad rfl (fun j u h => by rw [h0] at h; simp at h)
    | none =>
      clear big hbytes h63
      obtain ⟨p', c', e1⟩ := row_slice hown
      subst hm h0 e1
      refine ⟨p', c', w, run_append_no base t ty e i size ht hi _ n xs hown c, ?_, ?_⟩
      · rw [List.append_nil]; exact hown
      · exact ⟨rfl, rfl, rfl, Nat.le_refl _, fun _ _ _ => rfl⟩
  · obtain ⟨g, o, hp, -, hg, hx, -⟩ := hc hm
    exact big _ hp (fun j u h => by rw [add_at]; exact hx j u h)
theorem step_append_reads {P : Program} {w : World} {ops : Array Oper} {o : Oper} {a : Act} {K : Act → World → Prop} {Q : Exit → Act → World → Prop} {E : Prop} (hgd : o.guard = none) (s x : Operand) (t : TypeId)
    (ho : o.op = .call { callee := .builtin .append, args := #[s, x], argTypes := #[t, t] })
    (base : Nat) (e : TypeId) (i : TypeInfo) (z : Value) (size bytes : Nat) (ht : P.underlying t = some (.slice e)) (hi : P.info? e = some i) (hz : i.zero = some z)
    (hsize : i.size = size) (hby : i.bytes = bytes) (hzs : z.cells.size = size) (hsz : 0 < size)
    (v : Value) (n : Nat) (xs : List Value) (hs : a.eval s = v) (hown : w.ownsRow base e size v n xs)
    (X : Value) (m : Nat) (cs : List Value) (F : Nat → Prop) (hx : a.eval x = X) (hX : Reads w F X m cs) (hl : cs.length = m * size) (h1 : ∀ u ∈ cs, u.oneCell' = true)
    (h63 : n + m ≤ maxLen) (hbytes : (n + m) * bytes ≤ 140737488355328) (hbase : base ≤ w.heap.size)
    (h : ∀ p cap w', w'.ownsRow base e size (.slice p (n + m) cap) (n + m) (xs ++ cs) → w.grownBy w' v.ownBlock → K (a.put o.dst (.slice p (n + m) cap)) w') :
    if Region.wanted o (yielded ops a.tmps) = true then Oper.wp P o a w K Q else E := by
  have hw : Region.wanted o (yielded ops a.tmps) = true := by simp [Region.wanted, hgd]
  rw [if_pos hw]
  obtain ⟨p', cap', w', hr, h2, h3⟩ := run_append_reads (P := P) t o.type base e i z size bytes ht hi hz hsize hby hzs hsz v n xs hown X m cs F hX hl h1 h63 hbytes hbase
  unfold Oper.wp execOp
  simp only [ho, resolve, invoke, builtin, Sem.run_bind, Sem.run_pure, Result.andThen_ok, List.map_toArray, List.map_cons, List.map_nil, hs, hx, hr]
  exact h p' cap' w' h2 h3
def boxO : Obj := .cells #[.slice none 0 0, .slice none 0 0] 26
/-- The two rows that are being put together over W, and the box that they come into, if it is there: kept apart from each other by their elements' types. -/
structure JJ (W : World) (B : Option Nat) (vS : Value) (nS : Nat) (xS : List Value) (vD : Value) (nD : Nat) (xD : List Value) (w : World) : Prop where
  bl : Below W.heap.size W w
  os : w.ownsRow W.heap.size 9 1 vS nS xS
  od : w.ownsRow W.heap.size 41 2 vD nD xD
  bx : ∀ b, B = some b → W.heap.size ≤ b ∧ w.heap[b]? = some boxO
theorem own_not_box {w : World} {base e size n b : Nat} {v : Value} {xs : List Value} (h : w.ownsRow base e size v n xs) (he : e ≠ 26) (hb : w.heap[b]? = some boxO) : some b ≠ v.ownBlock := by
  intro hv
  rcases h.2 with ⟨h1, _⟩ | ⟨g, cap, cur, rfl, _, hg, _⟩
  · rw [h1] at hv; cases hv
  · obtain rfl : b = g := by injection hv
    rw [hb] at hg
    injection hg with hg
    unfold boxO at hg
    injection hg with _ h2
    exact he h2.symm
theorem own_none (w : World) (base : Nat) (hb : base ≤ w.heap.size) (e size : Nat) : (w.alloc (.cells #[] e)).ownsRow base e size (.slice (some ⟨w.heap.size, 0, none⟩) 0 0) 0 [] := ⟨by simp, .inr ⟨w.heap.size, 0, #[], rfl, hb, heap_alloc_new w _, Nat.le_refl _, Nat.zero_le _, by simp, by simp⟩⟩
theorem blk_lt {w : World} {b : Nat} {o : Obj} (h : w.heap[b]? = some o) : b < w.heap.size := by
  by_cases hh : b < w.heap.size
  · exact hh
  · rw [Array.getElem?_eq_none (by omega)] at h; cases h
section
variable {W w w1 : World} {B : Option Nat} {vS vD : Value} {nS nD : Nat} {xS xD : List Value}
theorem JJ.nil (W : World) : JJ W none (.slice none 0 0) 0 [] (.slice none 0 0) 0 [] W := ⟨Below.refl _ _, World.ownsRow_nil _ _ _ _, World.ownsRow_nil _ _ _ _, fun b h => by cases h⟩
theorem JJ.drew (h : JJ W B vS nS xS vD nD xD w) : JJ W B vS nS xS vD nD xD w.drew := ⟨h.bl.drew, h.os.drew, h.od.drew, h.bx⟩
theorem JJ.bsS (h : JJ W B vS nS xS vD nD xD w) : JJ W B (.slice (some ⟨w.heap.size, 0, none⟩) 0 0) 0 [] vD nD xD (w.alloc (.cells #[] 9)) := ⟨h.bl.alloc h.bl.size _, own_none w _ h.bl.size _ _, h.od.alloc _, fun b e => ⟨(h.bx b e).1, ((bel1 w _).block b (blk_lt (h.bx b e).2)).trans (h.bx b e).2⟩⟩
theorem JJ.bsD (h : JJ W B vS nS xS vD nD xD w) : JJ W B vS nS xS (.slice (some ⟨w.heap.size, 0, none⟩) 0 0) 0 [] (w.alloc (.cells #[] 41)) := ⟨h.bl.alloc h.bl.size _, h.os.alloc _, own_none w _ h.bl.size _ _, fun b e => ⟨(h.bx b e).1, ((bel1 w _).block b (blk_lt (h.bx b e).2)).trans (h.bx b e).2⟩⟩
theorem JJ.box (h : JJ W B vS nS xS vD nD xD w) : JJ W (some w.heap.size) vS nS xS vD nD xD (w.alloc (.cells #[.slice none 0 0, .slice none 0 0] 26)) := ⟨h.bl.alloc h.bl.size _, h.os.alloc _, h.od.alloc _, fun b e => by
  injection e with e; subst e; exact ⟨h.bl.size, heap_alloc_new w _⟩⟩
theorem JJ.apS (h : JJ W B vS nS xS vD nD xD w) (hg : w.grownBy w1 vS.ownBlock) {v : Value} {n : Nat} {x : List Value} (o : w1.ownsRow W.heap.size 9 1 v n x) : JJ W B v n x vD nD xD w1 :=
  ⟨h.bl.grown hg h.bl.size (fun k hk => (h.os.lt k hk).1), o, row_grown h.od h.os (by decide) hg, fun b e => ⟨(h.bx b e).1, (hg.block b (blk_lt (h.bx b e).2) (own_not_box h.os (by decide) (h.bx b e).2)).trans (h.bx b e).2⟩⟩
theorem JJ.apD (h : JJ W B vS nS xS vD nD xD w) (hg : w.grownBy w1 vD.ownBlock) {v : Value} {n : Nat} {x : List Value} (o : w1.ownsRow W.heap.size 41 2 v n x) : JJ W B vS nS xS v n x w1 :=
  ⟨h.bl.grown hg h.bl.size (fun k hk => (h.od.lt k hk).1), row_grown h.os h.od (by decide) hg, o, fun b e => ⟨(h.bx b e).1, (hg.block b (blk_lt (h.bx b e).2) (own_not_box h.od (by decide) (h.bx b e).2)).trans (h.bx b e).2⟩⟩
theorem stepS {P : Program} {ops : Array Oper} {o : Oper} {a : Act} {K : Act → World → Prop} {Q : Exit → Act → World → Prop} {E : Prop} (hgd : o.guard = none) (s x : Operand) (t : TypeId)
    (ho : o.op = .call { callee := .builtin .append, args := #[s, x], argTypes := #[t, t] }) (i : TypeInfo) (ht : P.underlying t = some (.slice 9))
    (hi : P.info? 9 = some i ∧ i.zero = some (.string ⟨#[]⟩) ∧ i.size = 1 ∧ i.bytes = 16) (J : JJ W B vS nS xS vD nD xD w) (hs : a.eval s = vS)
    (X : Value) (m : Nat) (cs : List Value) (F : Nat → Prop) (hx : a.eval x = X) (hX : Reads W F X m cs) (hl : cs.length = m) (h1 : ∀ u ∈ cs, u.oneCell' = true) (hn : nS ≤ 65536) (hm : m ≤ 65536)
    (h : ∀ p cap w', JJ W B (.slice p (nS + m) cap) (nS + m) (xS ++ cs) vD nD xD w' → K (a.put o.dst (.slice p (nS + m) cap)) w') :
    if Region.wanted o (yielded ops a.tmps) = true then Oper.wp P o a w K Q else E :=
  step_append_reads hgd s x t ho W.heap.size 9 i _ 1 16 ht hi.1 hi.2.1 hi.2.2.1 hi.2.2.2 rfl (by decide) vS nS xS hs J.os X m cs F hx (hX.any J.bl) (by omega) h1 (by unfold maxLen; omega) (by omega) J.bl.size (fun p cap w' o1 g1 => h p cap w' (J.apS g1 o1))
theorem stepD {P : Program} {ops : Array Oper} {o : Oper} {a : Act} {K : Act → World → Prop} {Q : Exit → Act → World → Prop} {E : Prop} (hgd : o.guard = none) (s x : Operand) (t : TypeId)
    (ho : o.op = .call { callee := .builtin .append, args := #[s, x], argTypes := #[t, t] }) (i : TypeInfo) (ht : P.underlying t = some (.slice 41))
    (hi : P.info? 41 = some i ∧ i.zero = some (.agg #[.string ⟨#[]⟩, .slice none 0 0]) ∧ i.size = 2 ∧ i.bytes = 40) (J : JJ W B vS nS xS vD nD xD w) (hs : a.eval s = vD)
    (X : Value) (m : Nat) (cs : List Value) (F : Nat → Prop) (hx : a.eval x = X) (hX : Reads W F X m cs) (hl : cs.length = m * 2) (h1 : ∀ u ∈ cs, u.oneCell' = true) (hn : nD ≤ 65536) (hm : m ≤ 65536)
    (h : ∀ p cap w', JJ W B vS nS xS (.slice p (nD + m) cap) (nD + m) (xD ++ cs) w' → K (a.put o.dst (.slice p (nD + m) cap)) w') :
    if Region.wanted o (yielded ops a.tmps) = true then Oper.wp P o a w K Q else E :=
  step_append_reads hgd s x t ho W.heap.size 41 i _ 2 40 ht hi.1 hi.2.1 hi.2.2.1 hi.2.2.2 rfl (by decide) vD nD xD hs J.od X m cs F hx (hX.any J.bl) hl h1 (by unfold maxLen; omega) (by omega) J.bl.size (fun p cap w' o1 g1 => h p cap w' (J.apD g1 o1))
end
theorem dfsV_app : ∀ (l m : List Df) (us vs : List Value), us.length = l.length → dfsV (l ++ m) (us ++ vs) = dfsV l us ++ dfsV m vs
  | [], m, [], vs, _ => rfl
  | [], _, _ :: _, _, h => by simp at h
  | _ :: _, _, [], _, h => by simp at h
  | d :: l, m, u :: us, vs, h => by
    show .string d.name :: u :: dfsV (l ++ m) (us ++ vs) = _
    rw [dfsV_app l m us vs (by simpa using h)]; rfl
theorem DefsIn.app {w : World} {F : Nat → Prop} {l m : List Df} {us vs : List Value} (h1 : DefsIn w F l us) (h2 : DefsIn w F m vs) : DefsIn w F (l ++ m) (us ++ vs) := by
  refine ⟨by simp [h1.1, h2.1], fun k d u e1 e2 => ?_⟩
  by_cases e : k < l.length
  · rw [List.getElem?_append_left e] at e1
    rw [List.getElem?_append_left (by rw [h1.1]; exact e)] at e2
    exact h1.2 k d u e1 e2
  · rw [List.getElem?_append_right (by omega)] at e1
    rw [List.getElem?_append_right (by rw [h1.1]; omega), h1.1] at e2
    exact h2.2 _ d u e1 e2
theorem dfs_one : ∀ (l : List Df) (us : List Value), (∀ u ∈ us, u.oneCell' = true) → ∀ u ∈ dfsV l us, u.oneCell' = true
  | [], [], _, u, h => by cases h
  | [], _ :: _, _, u, h => by cases h
  | _ :: _, [], _, u, h => by cases h
  | d :: l, v :: vs, h1, u, h => by
    have h' : u ∈ Value.string d.name :: v :: dfsV l vs := h
    rcases List.mem_cons.1 h' with e | h'
    · rw [e]; rfl
    · rcases List.mem_cons.1 h' with e | h'
      · rw [e]; exact h1 v (List.mem_cons_self ..)
      · exact dfs_one l vs (fun u hu => h1 u (List.mem_cons_of_mem _ hu)) u h'
theorem alts_one {w : World} {F : Nat → Prop} {l : List Df} {us : List Value} (h : DefsIn w F l us) : ∀ u ∈ us, u.oneCell' = true := by
  intro u hu
  obtain ⟨k, hk, e⟩ := List.getElem_of_mem hu
  have hk2 : k < l.length := by rw [← h.1]; exact hk
  obtain ⟨vs, ⟨p, c, rfl, _⟩, _⟩ := h.2 k l[k] u (List.getElem?_eq_getElem hk2) (by rw [List.getElem?_eq_getElem hk, e])
  rfl
theorem tx_one (l : List ByteArray) : ∀ u ∈ txV l, u.oneCell' = true := fun u hu => by
  obtain ⟨b, _, rfl⟩ := List.mem_map.1 hu
  rfl
theorem JJ.raw {W w : World} {B : Option Nat} {vS vD : Value} {ra rb : Rw} {ua ub : List Value} {F1 F2 : Nat → Prop} {n1 n2 : Nat} (h : JJ W B vS n1 (txV ra.starts ++ txV rb.starts) vD n2 (dfsV ra.defs ua ++ dfsV rb.defs ub) w) (e1 : n1 = ra.starts.length + rb.starts.length) (e2 : n2 = ra.defs.length + rb.defs.length)
    (ha : DefsIn W F1 ra.defs ua) (hb : DefsIn W F2 rb.defs ub) (f1 : ∀ g, F1 g → g < W.heap.size) (f2 : ∀ g, F2 g → g < W.heap.size) : RawIs w (fun g => B ≠ some g) vS vD ⟨ra.starts ++ rb.starts, ra.defs ++ rb.defs⟩ := by
  have key : ∀ F : Nat → Prop, (∀ g, F g → g < W.heap.size) → Stay F W w ∧ ∀ g, F g → B ≠ some g := fun F hF => ⟨⟨h.bl.size, fun b hb => h.bl.block b (hF b hb)⟩, fun g hg e => by have := (h.bx g e).1; have := hF g hg; omega⟩
  refine ⟨?_, ua ++ ub, ?_, ((ha.keep (key F1 f1).1 (key F1 f1).2).app (hb.keep (key F2 f2).1 (key F2 f2).2))⟩
  · have := Reads.of (F := fun g => B ≠ some g) h.os (fun g hg e => own_not_box h.os (by decide) (h.bx g e).2 hg.symm)
    unfold IsTexts
    rw [List.length_append, ← e1, txV, List.map_append]
    exact this
  · have := Reads.of (F := fun g => B ≠ some g) h.od (fun g hg e => own_not_box h.od (by decide) (h.bx g e).2 hg.symm)
    show Reads w _ vD (ra.defs ++ rb.defs).length _
    rw [List.length_append, ← e2, dfsV_app _ _ _ _ ha.1]
    exact this
theorem RawIs.put {w : World} {b : Nat} {v1 v2 u0 u1 : Value} {r : Rw} (h : RawIs w (fun g => some b ≠ some g) v1 v2 r) : RawIs ((w.setCell ⟨b, 0, none⟩ u0).setCell ⟨b, 1, none⟩ u1) Any v1 v2 r := by
  have hs : Stay (fun g => some b ≠ some g) w ((w.setCell ⟨b, 0, none⟩ u0).setCell ⟨b, 1, none⟩ u1) := ⟨by simp [World.setCell], fun g hg => by
    have hne : g ≠ b := fun e => hg (by rw [e])
    rw [Go.Deep.blk_setCell_other _ ⟨b, 1, none⟩ u1 g hne, Go.Deep.blk_setCell_other _ ⟨b, 0, none⟩ u0 g hne]⟩
  exact ⟨h.1.keep hs (fun _ _ => trivial), h.2.keep hs (fun _ _ => trivial)⟩
theorem box_cells {w : World} {b : Nat} (h : w.heap[b]? = some boxO) : w.cell? ⟨b, 0, none⟩ = some (.slice none 0 0) ∧ w.cell? ⟨b, 1, none⟩ = some (.slice none 0 0) ∧ w.frozen? ⟨b, 0, none⟩ = false ∧ w.frozen? ⟨b, 1, none⟩ = false := by
  unfold boxO at h
  exact ⟨by rw [cell_of_row w b 0 _ _ _ h]; rfl, by rw [cell_of_row w b 1 _ _ _ h]; rfl, by simp [World.frozen?, h], by simp [World.frozen?, h]⟩
theorem feed_fits2 : ∀ (l : List Tok) (p q : Pm) (k : Nat), Fits p k → feed p l = .ok q → Fits q (k + l.length)
  | [], p, q, k, h, e => by injection e with e; subst e; exact h
  | t :: l, p, q, k, h, e => by
    have e' : (match take p t with
      | none => Except.error t.pl
      | some r => feed r l) = .ok q := e
    cases ht : take p t with
    | none => rw [ht] at e'; cases e'
    | some r =>
      rw [ht] at e'
      have := feed_fits2 l r q (k + 1) (take_fits h ht) e'
      rw [List.length_cons, show k + (l.length + 1) = k + 1 + l.length by omega]
      exact this
theorem parse_len {s : ByteArray} {r : Rw} (h : parseT s = .ok r) : r.starts.length ≤ 65536 ∧ r.defs.length ≤ 65536 := by
  obtain ⟨hs, l, p, h1, h2, h3, rfl⟩ := parseT_ok h
  have hf := feed_fits2 l pm0 p 0 fits0 h2
  have hl : l.length ≤ 65536 := by have := lexT_len s; rw [h1] at this; exact this
  exact ⟨by have := hf.starts; show p.starts.length ≤ _; omega, by have := hf.defs; show p.defs.length ≤ _; omega⟩
end Go.Proofs.Ytbpkpfnjgljilaa
