/- A row of edges being put together, edge by edge. -/
import Derived.Test.YtalckpaeleflnaaComponentsW
import Derived.Test.YtalckpaeleflnaaCmpLawT
import Derived.Deep.RegionHeld3
import Derived.Deep.RegionLaw
import Derived.Deep.AppendLies
namespace Go.Proofs.Ytalckpaeleflnaa
set_option linter.unusedVariables false
open Go.ChangeShapes Go.WideShapes Go.ChangeAt Go.RowKit

/-- An append that is known, at a step of a region that draws its order. -/
theorem step_run_append {P : Program} {w : World} {ops : Array Oper} {o : Oper} {a : Act} {K : Act → World → Prop} {Q : Exit → Act → World → Prop} {E : Prop} (hgd : o.guard = none) (s x : Operand) (t : TypeId)
    (ho : o.op = .call { callee := .builtin .append, args := #[s, x], argTypes := #[t, t] }) (v u : Value) (hs : a.eval s = v) (hx : a.eval x = u) {v' : Value} {w' : World} (hr : (Builtin.append_ #[t, t] o.type #[v, u]).run P w = .ok v' w') (h : K (a.put o.dst v') w') :
    if Region.wanted o (yielded ops a.tmps) = true then Oper.wp P o a w K Q else E := by
  have hw : Region.wanted o (yielded ops a.tmps) = true := by simp [Region.wanted, hgd]
  rw [if_pos hw]
  unfold Oper.wp execOp
  simp only [ho, resolve, invoke, builtin, Sem.run_bind, Sem.run_pure, Result.andThen_ok, List.map_toArray, List.map_cons, List.map_nil, hs, hx, hr]
  exact h
/-- The same as a hypothesis of one world. -/
def StepApp (P : Program) (t ty : TypeId) (v u : Value) (w : World) (v' : Value) (w' : World) : Prop :=
  ∀ (ops : Array Oper) (o : Oper) (a : Act) (K : Act → World → Prop) (Q : Exit → Act → World → Prop) (E : Prop), o.guard = none → (∃ s x, o.op = .call { callee := .builtin .append, args := #[s, x], argTypes := #[t, t] } ∧ a.eval s = v ∧ a.eval x = u) → o.type = ty → K (a.put o.dst v') w' → if Region.wanted o (yielded ops a.tmps) = true then Oper.wp P o a w K Q else E
theorem stepApp {P : Program} {t ty : TypeId} {v u : Value} {w : World} {v' : Value} {w' : World} (hr : (Builtin.append_ #[t, t] ty #[v, u]).run P w = .ok v' w') : StepApp P t ty v u w v' w' := fun ops o a K Q E hgd ho hty h => by
  obtain ⟨s, x, ho, hs, hx⟩ := ho
  subst hty
  exact step_run_append hgd s x t ho v u hs hx hr h
theorem bel_drew {B : Nat} {w w' : World} (h : Below B w w') : Below B w w'.drew := ⟨h.os, h.tape, h.output, h.size, h.block⟩
/-- One edge more. -/
theorem app_ed {V : World} {B n : Nat} {p : Option Addr} {c : Nat} {l : List Ed} (hown : V.ownsRow B 37 3 (.slice p n c) n (edsV l)) (hB : B ≤ V.heap.size) (hn : n ≤ 1000) (x y : Int) (z : Bool) :
    ∃ q k w', (Builtin.append_ #[22, 22] 22 #[.slice p n c, .slice (some ⟨V.heap.size, 0, none⟩) 1 1]).run Try.prog (V.alloc (.cells #[.int .i64 x, .int .i64 y, .bool z] 37)).drew = .ok (.slice q (n + 1) k) w' ∧ w'.ownsRow B 37 3 (.slice q (n + 1) k) (n + 1) (edsV (l ++ [(x, y, z)])) ∧ Below B V w' := by
  obtain ⟨i, hi0, hz0, hz1, hz2⟩ := info_parts Try.infoEd
  have hr : Reads (V.alloc (.cells #[.int .i64 x, .int .i64 y, .bool z] 37)).drew Any (.slice (some ⟨V.heap.size, 0, none⟩) 1 1) 1 [.int .i64 x, .int .i64 y, .bool z] := reads_laid (heap_alloc_new V _) (by unfold maxLen; omega) rfl
  obtain ⟨v', w', h1, h2, h3⟩ := run_append_reads (P := Try.prog) B 22 22 37 i _ 3 24 Try.underlying22 hi0 hz0 hz1 hz2 rfl (by decide) _ n (edsV l) ((hown.alloc _).drew) _ 1 _ hr rfl (by simp [Value.oneCell']) (by unfold maxLen; omega) (by omega) (by show B ≤ (V.alloc _).heap.size; simp; omega)
  obtain ⟨q, k, hv⟩ := row_slice h2
  subst hv
  refine ⟨q, k, w', h1, by rw [edsV_append]; exact h2, (bel_drew ((Below.refl B V).alloc hB _)).grown h3 (by show B ≤ (V.alloc _).heap.size; simp; omega) (fun g hg => (hown.lt g hg).1)⟩
theorem eds_of {w : World} {B n : Nat} {v : Value} {l : List Ed} (h : w.ownsRow B 37 3 v n (edsV l)) : IsEds w (fun i => B ≤ i) v l := by
  have hl : n = l.length := by have := h.1; rw [edsV_length] at this; omega
  have := Reads.of (F := fun i => B ≤ i) h (fun b hb => (h.lt b hb).1)
  rw [hl] at this
  exact this
end Go.Proofs.Ytalckpaeleflnaa
