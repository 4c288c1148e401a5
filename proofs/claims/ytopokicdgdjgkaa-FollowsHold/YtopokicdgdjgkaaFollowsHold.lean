/- FollowsHold: the start has the end behind it, and what may come behind a name comes behind the last names of its conjuncts; where there is an error there is no answer: at every argument, with no condition. -/
import Derived.Test.YtopokicdgdjgkaaFollowsHoldW
import Derived.Test.YtopokicdgdjgkaaGs
namespace Go.Proofs.Ytopokicdgdjgkaa
set_option linter.unusedVariables false
open Go.ChangeShapes Go.WideShapes Go.ChangeAt Go.RowKit

theorem may_startF {g : Gr} (h : mayG g = true) : ∃ s : Nat, g.start = (s : Int) ∧ s < g.names.length := by
  obtain ⟨p1, p2, p3, p4, p5⟩ := may_partsY h
  unfold isNum at p2
  simp only [Bool.and_eq_true, decide_eq_true_eq] at p2
  exact ⟨g.start.toNat, by omega, by omega⟩
theorem followsHold_walk (W : World) (g : Gr) (v1 v2 : Value) (hg : GrIs W Any v1 v2 g) (gn : ∀ s, s ∈ g.names → s.size ≤ maxLen ∧ s.size ≤ reachBytes) (gs : ∀ r, r ∈ g.rules → ∀ c, c ∈ r.conj → c.seq.length * 24 ≤ reachBytes) (hw : (Lit.int .i64 g.start).wf = true) :
    Calls Try.prog 5 #[.agg #[.int .i64 g.start, v1, v2]] W fun e W' => e = .returned (.bool true) ∧ Below W.heap.size W W' := by
  have hS : Short g.rules := fun r hr c hc => by have := gs r hr c hc; unfold reachBytes at this; omega
  have hn : ∀ s, s ∈ g.names → s.size ≤ maxLen := fun s h => (gn s h).1
  obtain ⟨p1, l1, hv1⟩ : ∃ p c, v1 = .slice p g.names.length c := by obtain ⟨p, c, e, _⟩ := hg.1; exact ⟨_, _, e⟩
  obtain ⟨p2, c2, hv2⟩ := lngRF hg.2
  cases hM : mayG g with
  | true =>
    obtain ⟨q1, q2, q3, q4, q5⟩ := may_partsY hM
    have hn64 : g.names.length ≤ 64 := by unfold mayNames at q1; simp only [Bool.and_eq_true, decide_eq_true_eq] at q1; omega
    obtain ⟨s, hs, hsn⟩ := may_startF hM
    have hhd := may_headF hM
    rw [hs]
    refine followsHold_ok W g v1 v2 s g.names.length hs hn64 hsn hg.2 q4.2 (fun r hr => ⟨q5 r hr, (hhd r hr).1, (hhd r hr).2⟩) ⟨p1, l1⟩ hv1 (fun w hb => ?_) (fun w hb => ?_) (fun w hb => ?_) (fun w hb => ?_)
    · have := empty_ok g v1 v2 w (hg.any hb) hn hS hM; rw [hs] at this; exact this
    · have := fst_ok g v1 v2 w (hg.any hb) hn hS hM; rw [hs] at this; exact this
    · have := follow_ok g v1 v2 w (hg.any hb) hn hS hM; rw [hs] at this; exact this
    · have := mayG_ref g v1 v2 w (hg.any hb) hn
      rw [refMay_eq, hM, hs] at this
      exact this.mono fun e w' h => ⟨h.1, h.2⟩
  | false =>
    exact followsHold_no W g.start v1 v2 ⟨p1, g.names.length, l1⟩ ⟨p2, g.rules.length, c2⟩ hv1 hv2 (fun w hb => empty_no g v1 v2 w (hg.any hb) hn hS hM) (fun w hb => fst_no g v1 v2 w (hg.any hb) hn hS hM) (fun w hb => follow_no g v1 v2 w (hg.any hb) hn hS hM)

set_option linter.unusedVariables false
theorem followsHold_own : ownKnob Try.prog.godebug = none := by kernel_rfl
set_option maxRecDepth 100000 in
theorem followsHold_lifted (os : Os) (started : os.Started) (H : Type) (enc : TypeId × Value → H) :
    ReturnsInHanded {} Try.checked os 5 .any (Rows.followsHoldSpec.pre6 enc Try.prog Try.f5 Rows.followsHoldRow.domain false) (Rows.followsHoldSpec.post enc Try.prog Try.f5 false true false false) := by
  refine returnsInHanded_of_change_sized (C := Try.checked) followsHold_own started (by kernel_rfl) Try.func5
    (ChangeSpec.witness6 (enc := enc) (C := Try.checked) false ⟨#[], #[.agg #[.int .i64 0, .slice none 0 0, .slice none 0 0]], []⟩ 8 (by kernel_rfl) (by kernel_rfl) (by kernel_rfl) (by kernel_rfl)) ?_
  intro W base args ds gs before hval0 hW hcnd hsz0 _
  have hsz : (DataW.weightsEach Try.prog (Try.f5.params.toList ++ Rows.followsHoldSpec.plain.varTypes Try.prog) (ds ++ gs)).all (· ≤ reachBytes) = true := hsz0
  have hval : ∀ (j : Nat) t v, Try.f5.params[j]? = some t → args[j]? = some v → Value.okWide Try.prog W .any base t v := hval0
  have hW' := hW
  obtain ⟨p, q, hA0, hV, rfl, hfz, hnd⟩ := hW
  have hA : DataW.TrodAll enc Try.prog W 0 (fun _ => true) true Try.f5.params.toList args.toList ds p := hA0
  rw [Try.params5] at hA hval hsz
  obtain ⟨v0, vs0, d0, ds0, p0, q0, hargs, rfl, rfl, h0, r0⟩ := trodAll_cons hA
  obtain ⟨rfl, rfl, rfl⟩ := trodAll_nil r0
  obtain rfl : args = #[v0] := by cases args; simp_all
  obtain ⟨rfl, rfl⟩ := trodVars_none hV
  clear hA0 hval0 hsz0
  have k0 := h0
  have lt0 : ∀ x ∈ p0, x.block < W.heap.size := fun x hx => by have := hW'.lt x (by simp [hx]); simpa using this
  obtain ⟨cs0, rfl, op0⟩ := open_agg (j := 0) Try.structGr (hval 0 27 v0 rfl rfl) h0 (fun b o hm => hfz b o (by simp [hm])) hsz rfl rfl
  obtain ⟨g0, ga0, gb0, rfl, gi0, gn0, gs0, w0⟩ := op_gram op0
  refine (followsHold_walk W g0 ga0 gb0 gi0 gn0 gs0 w0).mono fun e W' ⟨he, bel⟩ => ?_
  subst he
  exact ⟨_, rfl, _, _, _, [], _, [], hW', trodAll_mk1 (shut_bool Try.underlying4 _), (trodAll_cons_mk (Below.trod Try.laidOutB (by kernel_rfl) (of_decide_eq_true (by kernel_rfl)) k0 bel lt0) trodAll_mk0), rfl, bel.frame _, fun h => by cases h⟩

set_option maxHeartbeats 8000000 in
theorem followsHold_closed : joinedFacts Try.checked.prog 5 Try.f5 Rows.followsHoldSpec Rows.followsHoldRow = true := by
  unfold joinedFacts
  iterate 31 (refine and_ok ?_ ?_)
  all_goals first | (with_reducible exact enter_ok) | (rw [lifts_no]; rfl) | (rw [make_cut]; rfl) | as_aux_lemma => kernel_rfl
theorem followsHold_holds : Rows.FollowsHoldSaid :=
  OpenClaim.holds_of_wide 5 Try.f5 rfl rfl rfl rfl rfl rfl rfl ⟨rfl, rfl, rfl, rfl, rfl⟩ rfl rfl rfl rfl rfl (by kernel_rfl) Try.func5 followsHold_closed
    (of_decide_eq_true (by kernel_rfl)) (by unfold Func.isWrapper; first | (rw [if_pos (by decide +kernel)]; kernel_rfl) | (rw [if_neg (by decide +kernel)]; exact ⟨rfl, rfl⟩))
    (fun os started H enc _ => followsHold_lifted os started H enc)
#print axioms followsHold_holds
end Go.Proofs.Ytopokicdgdjgkaa
