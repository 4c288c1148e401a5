/- BuildLong's walk, for one to four texts. -/
import Derived.Test.YteafdfalgeeheaaBLong
import Derived.Deep.RegionHeldLaw
import Derived.Deep.AppendLies
namespace Go.Proofs.Yteafdfalgeeheaa
set_option linter.unusedVariables false
open Go.ChangeShapes Go.WideShapes Go.ChangeAt Go.RowKit

/-- An append that is known, at a step of a region that draws its order. -/
theorem step_run_append {P : Program} {w : World} {ops : Array Oper} {o : Oper} {a : Act} {K : Act → World → Prop} {Q : Exit → Act → World → Prop} {E : Prop} (hgd : o.guard = none) (s x : Operand) (t : TypeId)
    (ho : o.op = .call { callee := .builtin .append, args := #[s, x], argTypes := #[t, t] }) (v u : Value) (hs : a.eval s = v) (hx : a.eval x = u) {v' : Value} {w' : World} (hr : (Builtin.append_ #[t, t] o.type #[v, u]).run P w = .ok v' w') (h : K (a.put o.dst v') w') :
    if Region.wanted o (yielded ops a.tmps) = true then Oper.wp P o a w K Q else E := by
  have hw : Region.wanted o (yielded ops a.tmps) = true := by simp [Region.wanted, hgd]
  rw [if_pos hw]
  unfold Oper.wp execOp
  simp only [ho, resolve, invoke, builtin, Sem.run_bind, Sem.run_pure, Result.andThen_ok, List.map_toArray, List.map_cons, List.map_nil, hs, hx, hr]
  exact h
/-- The same as a hypothesis of one world. -/
def StepApp (P : Program) (t ty : TypeId) (v u : Value) (w : World) (v' : Value) (w' : World) : Prop :=
  ∀ (ops : Array Oper) (o : Oper) (a : Act) (K : Act → World → Prop) (Q : Exit → Act → World → Prop) (E : Prop), o.guard = none → (∃ s x, o.op = .call { callee := .builtin .append, args := #[s, x], argTypes := #[t, t] } ∧ a.eval s = v ∧ a.eval x = u) → o.type = ty → K (a.put o.dst v') w' → if Region.wanted o (yielded ops a.tmps) = true then Oper.wp P o a w K Q else E
theorem stepApp {P : Program} {t ty : TypeId} {v u : Value} {w : World} {v' : Value} {w' : World} (hr : (Builtin.append_ #[t, t] ty #[v, u]).run P w = .ok v' w') : StepApp P t ty v u w v' w' := fun ops o a K Q E hgd ho hty h => by
  obtain ⟨s, x, ho, hs, hx⟩ := ho
  subst hty
  exact step_run_append hgd s x t ho v u hs hx hr h
theorem Try.infoByte4 : (Try.prog.info? 5).map (fun i => (i.zero, i.size, i.bytes)) = some (some (.int .u8 0), 1, 1) := by kernel_rfl
theorem make_by (k : Nat) (hk : k ≤ 63) (w : World) : (Instr.makeSlice 56 (.int .i64 (k : Int)) (.int .i64 (k : Int))).run Try.prog w = .ok (.slice (some ⟨w.heap.size, 0, none⟩) k k) (w.alloc (.cells (madeCells #[.int .u8 0] k) 5)) :=
  run_make_row' 56 5 (.int .u8 0) 1 Try.underlying56 Try.infoByte4 rfl .i64 .i64 k (by omega) (by omega) w
theorem made_by (k : Nat) : (madeCells #[.int .u8 0] k).toList = bytesV (List.replicate k 0) := by
  have h1 : (madeCells #[.int .u8 0] k).toList = List.replicate k (.int .u8 0) := by
    rw [List.eq_replicate_iff]
    refine ⟨by simp [madeCells], fun b hb => ?_⟩
    simp only [madeCells, Array.toList_map, List.mem_map] at hb
    obtain ⟨x, -, rfl⟩ := hb
    simp [Nat.mod_one]
  rw [h1, bytesV, List.map_replicate]
theorem conv_by (k : Nat) (hk : k ≤ 63) (w : World) : (convert 56 9 (.slice (some ⟨w.heap.size, 0, none⟩) k k)).run Try.prog (w.alloc (.cells (madeCells #[.int .u8 0] k) 5)).drew = .ok (.string (zeros k)) (w.alloc (.cells (madeCells #[.int .u8 0] k) 5)).drew := by
  have h : (w.alloc (.cells (madeCells #[.int .u8 0] k) 5)).ownsRow 0 5 1 (.slice (some ⟨w.heap.size, 0, none⟩) k k) k (bytesV (List.replicate k 0)) := ⟨by simp [bytesV], .inr ⟨w.heap.size, k, _, rfl, Nat.zero_le _, heap_alloc_new w _, Nat.le_refl _, by unfold maxLen; omega, by rw [size_madeCells]; omega, by rw [Nat.mul_one, made_by, List.take_of_length_le (by simp [bytesV])]⟩⟩
  exact conv_row h.drew
theorem long_ok {r : Rw} {st hd : Int} {names : List ByteArray} {ng : Bool} {sq : List Sy} (h : buildT r = .ok ⟨st, names, [⟨hd, [⟨ng, sq⟩]⟩]⟩) (hS : sizedB r = true) (v1 v2 : Value) (w : World) {F : Nat → Prop} (h1 : IsTexts w F v1 r.starts) (h2 : IsDefs w F v2 r.defs) :
    Calls Try.prog 10 #[.agg #[v1, v2]] w fun e w' => ∃ p1 c1 gR oR c2 gC oC cC pS cS, e = .returned (.tuple #[.agg #[.int .i64 st, .slice p1 names.length c1, .slice (some ⟨gR, oR, none⟩) 1 c2], .string ⟨#[]⟩, .int .i64 0]) ∧ w'.cell? ⟨gR, oR + 1, none⟩ = some (.slice (some ⟨gC, oC, none⟩) 1 cC) ∧ w'.cell? ⟨gC, oC + 1, none⟩ = some (.slice pS sq.length cS) ∧ gR < w'.heap.size ∧ gC < w'.heap.size ∧ Hid (Below w.heap.size w w') := by
  refine (build_ok h hS v1 v2 w h1 h2).mono ?_
  rintro e w' ⟨p1, c1, p2, c2, F', rfl, hg, hb, -⟩
  obtain ⟨us, ⟨p, cp, e1, -, hc⟩, hl, hi⟩ := hg.out.2
  obtain ⟨gR, oR, hp, -, hR, hx, -⟩ := hc Nat.zero_lt_one
  injection e1 with e1 _ _
  subst e1 hp
  obtain ⟨u, hu⟩ : ∃ u, us[0]? = some u := ⟨_, List.getElem?_eq_getElem (by rw [hl]; exact Nat.zero_lt_one)⟩
  obtain ⟨vs, ⟨q, cq, e2, -, hc2⟩, hl2, hi2⟩ := hi 0 _ u rfl hu
  obtain ⟨gC, oC, hq, -, hC, hy, -⟩ := hc2 Nat.zero_lt_one
  subst e2 hq
  obtain ⟨v, hv⟩ : ∃ v, vs[0]? = some v := ⟨_, List.getElem?_eq_getElem (by rw [hl2]; exact Nat.zero_lt_one)⟩
  obtain ⟨pS, cS, e3⟩ := Reads.slc (hi2 0 _ v rfl hv)
  subst e3
  have a1 := hx _ _ (rusV_at _ us 0 _ _ rfl hu).2
  have a2 := hy _ _ (cnsV_at _ vs 0 _ _ rfl hv).2
  exact ⟨p1, c1, gR, oR, c2, gC, oC, cq, pS, cS, rfl, a1, a2, hR, hC, hb⟩
theorem size0 {n : ByteArray} (h : n.size = 0) : n = ⟨#[]⟩ := by
  cases n with | mk a =>
  have : a.size = 0 := h
  rw [Array.eq_empty_of_size_eq_zero this]

end Go.Proofs.Yteafdfalgeeheaa
