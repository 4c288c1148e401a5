/- FirstsHold: a name may come to nothing, and begins, as its conjuncts do; where there is an error there is no answer: at every argument, with no condition. -/
import Derived.Test.YtopokicdgdjgkaaFirstsHoldW
import Derived.Test.YtopokicdgdjgkaaGs
namespace Go.Proofs.Ytopokicdgdjgkaa
set_option linter.unusedVariables false
open Go.ChangeShapes Go.WideShapes Go.ChangeAt Go.RowKit

theorem firstsHold_walk (W : World) (g : Gr) (v1 v2 : Value) (hg : GrIs W Any v1 v2 g) (gn : ∀ s, s ∈ g.names → s.size ≤ maxLen ∧ s.size ≤ reachBytes) (gs : ∀ r, r ∈ g.rules → ∀ c, c ∈ r.conj → c.seq.length * 24 ≤ reachBytes) (hw : (Lit.int .i64 g.start).wf = true) :
    Calls Try.prog 4 #[.agg #[.int .i64 g.start, v1, v2]] W fun e W' => e = .returned (.bool true) ∧ Below W.heap.size W W' := by
  have hS : Short g.rules := fun r hr c hc => by have := gs r hr c hc; unfold reachBytes at this; omega
  have hn : ∀ s, s ∈ g.names → s.size ≤ maxLen := fun s h => (gn s h).1
  obtain ⟨p1, l1, hv1⟩ : ∃ p c, v1 = .slice p g.names.length c := by obtain ⟨p, c, e, _⟩ := hg.1; exact ⟨_, _, e⟩
  obtain ⟨p2, c2, hv2⟩ := lngRF hg.2
  cases hM : mayG g with
  | true =>
    obtain ⟨q1, q2, q3, q4, q5⟩ := may_partsY hM
    have hn64 : g.names.length ≤ 64 := by unfold mayNames at q1; simp only [Bool.and_eq_true, decide_eq_true_eq] at q1; omega
    have hhd := may_headF hM
    refine firstsHold_ok W g v1 v2 g.start g.names.length hn64 hg.2 q4.2 (fun r hr => ⟨q5 r hr, (hhd r hr).1, (hhd r hr).2⟩) ⟨p1, l1⟩ hv1 (fun w hb => empty_ok g v1 v2 w (hg.any hb) hn hS hM) (fun w hb => fst_ok g v1 v2 w (hg.any hb) hn hS hM) (fun w hb => ?_)
    have := mayG_ref g v1 v2 w (hg.any hb) hn
    rw [refMay_eq, hM] at this
    exact this.mono fun e w' h => ⟨h.1, h.2⟩
  | false =>
    exact firstsHold_no W g.start v1 v2 ⟨p1, g.names.length, l1⟩ ⟨p2, g.rules.length, c2⟩ hv1 hv2 (fun w hb => empty_no g v1 v2 w (hg.any hb) hn hS hM) (fun w hb => fst_no g v1 v2 w (hg.any hb) hn hS hM)

set_option linter.unusedVariables false
theorem firstsHold_own : ownKnob Try.prog.godebug = none := by kernel_rfl
set_option maxRecDepth 100000 in
theorem firstsHold_lifted (os : Os) (started : os.Started) (H : Type) (enc : TypeId × Value → H) :
    ReturnsInHanded {} Try.checked os 4 .any (Rows.firstsHoldSpec.pre6 enc Try.prog Try.f4 Rows.firstsHoldRow.domain false) (Rows.firstsHoldSpec.post enc Try.prog Try.f4 false true false false) := by
  refine returnsInHanded_of_change_sized (C := Try.checked) firstsHold_own started (by kernel_rfl) Try.func4
    (ChangeSpec.witness6 (enc := enc) (C := Try.checked) false ⟨#[], #[.agg #[.int .i64 0, .slice none 0 0, .slice none 0 0]], []⟩ 8 (by kernel_rfl) (by kernel_rfl) (by kernel_rfl) (by kernel_rfl)) ?_
  intro W base args ds gs before hval0 hW hcnd hsz0 _
  have hsz : (DataW.weightsEach Try.prog (Try.f4.params.toList ++ Rows.firstsHoldSpec.plain.varTypes Try.prog) (ds ++ gs)).all (· ≤ reachBytes) = true := hsz0
  have hval : ∀ (j : Nat) t v, Try.f4.params[j]? = some t → args[j]? = some v → Value.okWide Try.prog W .any base t v := hval0
  have hW' := hW
  obtain ⟨p, q, hA0, hV, rfl, hfz, hnd⟩ := hW
  have hA : DataW.TrodAll enc Try.prog W 0 (fun _ => true) true Try.f4.params.toList args.toList ds p := hA0
  rw [Try.params4] at hA hval hsz
  obtain ⟨v0, vs0, d0, ds0, p0, q0, hargs, rfl, rfl, h0, r0⟩ := trodAll_cons hA
  obtain ⟨rfl, rfl, rfl⟩ := trodAll_nil r0
  obtain rfl : args = #[v0] := by cases args; simp_all
  obtain ⟨rfl, rfl⟩ := trodVars_none hV
  clear hA0 hval0 hsz0
  have k0 := h0
  have lt0 : ∀ x ∈ p0, x.block < W.heap.size := fun x hx => by have := hW'.lt x (by simp [hx]); simpa using this
  obtain ⟨cs0, rfl, op0⟩ := open_agg (j := 0) Try.structGr (hval 0 27 v0 rfl rfl) h0 (fun b o hm => hfz b o (by simp [hm])) hsz rfl rfl
  obtain ⟨g0, ga0, gb0, rfl, gi0, gn0, gs0, w0⟩ := op_gram op0
  refine (firstsHold_walk W g0 ga0 gb0 gi0 gn0 gs0 w0).mono fun e W' ⟨he, bel⟩ => ?_
  subst he
  exact ⟨_, rfl, _, _, _, [], _, [], hW', trodAll_mk1 (shut_bool Try.underlying4 _), (trodAll_cons_mk (Below.trod Try.laidOutB (by kernel_rfl) (of_decide_eq_true (by kernel_rfl)) k0 bel lt0) trodAll_mk0), rfl, bel.frame _, fun h => by cases h⟩

set_option maxHeartbeats 8000000 in
theorem firstsHold_closed : joinedFacts Try.checked.prog 4 Try.f4 Rows.firstsHoldSpec Rows.firstsHoldRow = true := by
  unfold joinedFacts
  iterate 31 (refine and_ok ?_ ?_)
  all_goals first | (with_reducible exact enter_ok) | (rw [lifts_no]; rfl) | (rw [make_cut]; rfl) | as_aux_lemma => kernel_rfl
theorem firstsHold_holds : Rows.FirstsHoldSaid :=
  OpenClaim.holds_of_wide 4 Try.f4 rfl rfl rfl rfl rfl rfl rfl ⟨rfl, rfl, rfl, rfl, rfl⟩ rfl rfl rfl rfl rfl (by kernel_rfl) Try.func4 firstsHold_closed
    (of_decide_eq_true (by kernel_rfl)) (by unfold Func.isWrapper; first | (rw [if_pos (by decide +kernel)]; kernel_rfl) | (rw [if_neg (by decide +kernel)]; exact ⟨rfl, rfl⟩))
    (fun os started H enc _ => firstsHold_lifted os started H enc)
#print axioms firstsHold_holds
end Go.Proofs.Ytopokicdgdjgkaa
