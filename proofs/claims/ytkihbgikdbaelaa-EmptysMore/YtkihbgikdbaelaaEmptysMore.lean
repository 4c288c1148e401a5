/- EmptysMore: without negations a rule more takes nothing away, and a rule of nothing gives it: at every argument, with no condition. -/
import Derived.Test.YtkihbgikdbaelaaEmptysMoreW
import Derived.Test.YtkihbgikdbaelaaGramOpen
import Derived.Test.YtkihbgikdbaelaaLawOpen
namespace Go.Proofs.Ytkihbgikdbaelaa
set_option linter.unusedVariables false
open Go.ChangeShapes Go.WideShapes Go.ChangeAt Go.RowKit

theorem emptysMore_walk (W : World) (g : Gr) (v1 v2 : Value) (ga : GrIs W Any v1 v2 g) (gn : ∀ s, s ∈ g.names → s.size ≤ maxLen ∧ s.size ≤ reachBytes) (gz : g.names.length * 16 ≤ reachBytes ∧ g.rules.length * 32 ≤ reachBytes ∧ ∀ r, r ∈ g.rules → r.conj.length * 32 ≤ reachBytes ∧ ∀ c, c ∈ r.conj → c.seq.length * 24 ≤ reachBytes) (w0 : (Lit.int .i64 g.start).wf = true) :
    Calls Try.prog 6 #[.agg #[.int .i64 g.start, v1, v2]] W fun e W' => e = .returned (.bool true) ∧ Below W.heap.size W W' := by
  have hS : Short g.rules := fun r hr c hc => by have := (gz.2.2 r hr).2 c hc; unfold reachBytes at this; omega
  have hN : ∀ s, s ∈ g.names → s.size ≤ maxLen := fun s h => (gn s h).1
  have gz' : GSz reachBytes g := gz
  have hrl : g.rules.length ≤ 9223372036854775807 := by have := gz.2.1; unfold reachBytes at this; omega
  have hcl : ∀ r, r ∈ g.rules → r.conj.length ≤ 9223372036854775807 := fun r hr => by have := (gz.2.2 r hr).1; unfold reachBytes at this; omega
  have hS2 : Short (posG g).rules := fun r hr c hc => by
    obtain ⟨r', hr', rfl⟩ := List.mem_map.1 hr
    obtain ⟨c', hc', rfl⟩ := List.mem_map.1 hc
    exact hS r' hr' c' hc'
  have hS3 : Short (moreR (posG g)).rules := fun r hr c hc => by
    rcases List.mem_append.1 hr with hr | hr
    · exact hS2 r hr c hc
    · obtain rfl : r = ruE (posG g).names.length := by simpa using hr
      obtain rfl : c = ⟨false, []⟩ := by simpa [ruE] using hc
      simp
  obtain ⟨p1, l1, hv1⟩ : ∃ p c, v1 = .slice p g.names.length c := by obtain ⟨p, c, e, _⟩ := ga.1; exact ⟨_, _, e⟩
  obtain ⟨p2, c2, hv2⟩ := ga.2.slc
  have hKC : ∀ w, Below W.heap.size W w → Calls Try.prog 11 #[.agg #[.int .i64 g.start, v1, v2]] w fun e w' => ∃ u1 u2, e = .returned (.agg #[.int .i64 g.start, u1, u2]) ∧ Hid (Below w.heap.size w w') ∧ Hid (Cp w g u1 u2 w') :=
    fun w hb => (copyGr_own g v1 v2 w (ga.any hb) gz').mono fun e w' ⟨u1, u2, h1, _, h3, h4⟩ => ⟨u1, u2, h1, h3, h4⟩
  have hpl : (posG g).rules.length = g.rules.length := by simp [posG]
  cases hM : mayG g with
  | false =>
    exact emptysMore_core W g v1 v2 g.names.length rfl (p1, l1) (p2, g.rules.length, c2) hv1 hv2 hrl hcl hKC (Or.inr fun u1 u2 w hg => nulls_no (posG g) u1 u2 w hg hN hS2 (Or.inl (by rw [pos_may]; exact hM)))
  | true =>
    have hMp : mayG (posG g) = true := by rw [pos_may]; exact hM
    have hbad : (edgesT (posG g)).find? (badE (posG g).names.length (edgesT (posG g))) = none := not_bad (mayE_all (mayE_edges hMp)).2.2 (pos_clean g)
    refine emptysMore_core W g v1 v2 g.names.length rfl (p1, l1) (p2, g.rules.length, c2) hv1 hv2 hrl hcl hKC (Or.inl ⟨mayG_pos hM, mayG_names hM, mayG_rules hM, fun u1 u2 w hg => nulls_ok (posG g) u1 u2 w hg hN hS2 hMp hbad, fun M u1 u2 w hlt hSt hg => ?_⟩)
    have hM3 : mayG (moreR (posG g)) = true := moreR_may hMp (by rw [hpl]; exact hlt)
    have h := nulls_ok (moreR (posG g)) u1 u2 w hg hN hS3 hM3 (by rw [moreR_edges]; exact hbad)
    refine h.mono fun e w' ⟨b, N, h1, _, h3, h4, h5⟩ => ?_
    obtain ⟨h6, h7⟩ := moreR_nul (pos_negs g) hSt h3.out
    exact ⟨b, N, h1, h6, h7, h4, h5⟩

set_option linter.unusedVariables false
theorem emptysMore_own : ownKnob Try.prog.godebug = none := by kernel_rfl
set_option maxRecDepth 100000 in
theorem emptysMore_lifted (os : Os) (started : os.Started) (H : Type) (enc : TypeId × Value → H) :
    ReturnsInHanded {} Try.checked os 6 .any (Rows.emptysMoreSpec.pre6 enc Try.prog Try.f6 Rows.emptysMoreRow.domain false) (Rows.emptysMoreSpec.post enc Try.prog Try.f6 false true false false) := by
  refine returnsInHanded_of_change_sized (C := Try.checked) emptysMore_own started (by kernel_rfl) Try.func6
    (ChangeSpec.witness6 (enc := enc) (C := Try.checked) false ⟨#[], #[.agg #[.int .i64 0, .slice none 0 0, .slice none 0 0]], []⟩ 8 (by kernel_rfl) (by kernel_rfl) (by kernel_rfl) (by kernel_rfl)) ?_
  intro W base args ds gs before hval0 hW hcnd hsz0 _
  have hsz : (DataW.weightsEach Try.prog (Try.f6.params.toList ++ Rows.emptysMoreSpec.plain.varTypes Try.prog) (ds ++ gs)).all (· ≤ reachBytes) = true := hsz0
  have hval : ∀ (j : Nat) t v, Try.f6.params[j]? = some t → args[j]? = some v → Value.okWide Try.prog W .any base t v := hval0
  have hW' := hW
  obtain ⟨p, q, hA0, hV, rfl, hfz, hnd⟩ := hW
  have hA : DataW.TrodAll enc Try.prog W 0 (fun _ => true) true Try.f6.params.toList args.toList ds p := hA0
  rw [Try.params6] at hA hval hsz
  obtain ⟨v0, vs0, d0, ds0, p0, q0, hargs, rfl, rfl, h0, r0⟩ := trodAll_cons hA
  obtain ⟨rfl, rfl, rfl⟩ := trodAll_nil r0
  obtain rfl : args = #[v0] := by cases args; simp_all
  obtain ⟨rfl, rfl⟩ := trodVars_none hV
  clear hA0 hval0 hsz0
  have k0 := h0
  have lt0 : ∀ x ∈ p0, x.block < W.heap.size := fun x hx => by have := hW'.lt x (by simp [hx]); simpa using this
  obtain ⟨cs0, rfl, op0⟩ := open_agg (j := 0) Try.structGr (hval 0 25 v0 rfl rfl) h0 (fun b o hm => hfz b o (by simp [hm])) hsz rfl rfl
  obtain ⟨g0, ga0, gb0, rfl, gi0, gn0, gs0, w0⟩ := op_gramZ op0
  refine (emptysMore_walk W g0 ga0 gb0 gi0 gn0 gs0 w0).mono fun e W' ⟨he, bel⟩ => ?_
  subst he
  exact ⟨_, rfl, _, _, _, [], _, [], hW', trodAll_mk1 (shut_bool Try.underlying4 _), (trodAll_cons_mk (Below.trod Try.laidOutB (by kernel_rfl) (of_decide_eq_true (by kernel_rfl)) k0 bel lt0) trodAll_mk0), rfl, bel.frame _, fun h => by cases h⟩

set_option maxHeartbeats 8000000 in
theorem emptysMore_closed : joinedFacts Try.checked.prog 6 Try.f6 Rows.emptysMoreSpec Rows.emptysMoreRow = true := by
  unfold joinedFacts
  iterate 31 (refine and_ok ?_ ?_)
  all_goals first | (with_reducible exact enter_ok) | (rw [lifts_no]; rfl) | (rw [make_cut]; rfl) | as_aux_lemma => kernel_rfl
theorem emptysMore_holds : Rows.EmptysMoreSaid :=
  OpenClaim.holds_of_wide 6 Try.f6 rfl rfl rfl rfl rfl rfl rfl ⟨rfl, rfl, rfl, rfl, rfl⟩ rfl rfl rfl rfl rfl (by kernel_rfl) Try.func6 emptysMore_closed
    (of_decide_eq_true (by kernel_rfl)) (by unfold Func.isWrapper; first | (rw [if_pos (by decide +kernel)]; kernel_rfl) | (rw [if_neg (by decide +kernel)]; exact ⟨rfl, rfl⟩))
    (fun os started H enc _ => emptysMore_lifted os started H enc)
#print axioms emptysMore_holds
end Go.Proofs.Ytkihbgikdbaelaa
