/- EmptysRows: a row of names has the empty text just if each of them has, and each of them as its rule says: at every argument, with no condition. -/
import Derived.Test.YtkihbgikdbaelaaEmptysRowsW
import Derived.Test.YtkihbgikdbaelaaLawOpen
namespace Go.Proofs.Ytkihbgikdbaelaa
set_option linter.unusedVariables false
open Go.ChangeShapes Go.WideShapes Go.ChangeAt Go.RowKit

theorem emptysRows_walk (W : World) (v : Value) (zs : List Int) (row : IRow W v zs) (wz : ∀ z, z ∈ zs → (Lit.int .i64 z).wf = true) (hz : zs.length * 8 ≤ 140737488351232) :
    Calls Try.prog 5 #[v] W fun e W' => e = .returned (.bool true) ∧ Below W.heap.size W W' := by
  obtain ⟨pv, cv, hv⟩ : ∃ p c, v = .slice p zs.length c := by obtain ⟨p, c, e, _⟩ := row; exact ⟨p, c, e⟩
  subst hv
  have hm : min zs.length 30 < 31 := by omega
  refine emptysRows_core W pv zs.length cv (min zs.length 30) (evE zs) rfl hz (fun i hi w' hb => ?_) (fun u1 u2 w hg => ?_)
  · obtain ⟨p, c, e, _, h⟩ := row.keep hb
    injection e with e1
    subst e1
    obtain ⟨z, hz⟩ : ∃ z, zs[i]? = some z := ⟨_, List.getElem?_eq_getElem hi⟩
    obtain ⟨g, o, e2, h1, h2⟩ := h i z hz
    refine ⟨g, o, z, e2, h2, h1, ?_⟩
    unfold evE
    rw [hz]
    rcases and1 z with h3 | h3
    · left; exact ⟨by simp [h3], h3⟩
    · right; exact ⟨by simp [h3], h3⟩
  · have hM := grE_may (min zs.length 30) (evE zs) hm
    have hbad := not_bad (mayE_all (mayE_edges hM)).2.2 (neg_clean (grE_neg (min zs.length 30) (evE zs)))
    have h := nulls_ok (grE (min zs.length 30) (evE zs)) u1 u2 w hg (fun s hs => by have := nmsE_size _ s hs; unfold maxLen; omega) (grE_short _ _ hm) hM hbad
    refine h.mono fun e w' ⟨b, M, h1, _, h3, h4, h5⟩ => ?_
    have hnl : (grE (min zs.length 30) (evE zs)).names.length = min zs.length 30 + 1 := nmsE_len _
    rw [hnl] at h1 h4
    exact ⟨b, M, h1, grE_zero h3.out, fun j hj => grE_one h3.out hj, h4, h5⟩

set_option linter.unusedVariables false
theorem emptysRows_own : ownKnob Try.prog.godebug = none := by kernel_rfl
set_option maxRecDepth 100000 in
theorem emptysRows_lifted (os : Os) (started : os.Started) (H : Type) (enc : TypeId × Value → H) :
    ReturnsInHanded {} Try.checked os 5 .any (Rows.emptysRowsSpec.pre6 enc Try.prog Try.f5 Rows.emptysRowsRow.domain false) (Rows.emptysRowsSpec.post enc Try.prog Try.f5 false true false false) := by
  refine returnsInHanded_of_change_sized (C := Try.checked) emptysRows_own started (by kernel_rfl) Try.func5
    (ChangeSpec.witness6 (enc := enc) (C := Try.checked) false ⟨#[], #[.slice none 0 0], []⟩ 8 (by kernel_rfl) (by kernel_rfl) (by kernel_rfl) (by kernel_rfl)) ?_
  intro W base args ds gs before hval0 hW hcnd hsz0 _
  have hsz : (DataW.weightsEach Try.prog (Try.f5.params.toList ++ Rows.emptysRowsSpec.plain.varTypes Try.prog) (ds ++ gs)).all (· ≤ reachBytes) = true := hsz0
  have hval : ∀ (j : Nat) t v, Try.f5.params[j]? = some t → args[j]? = some v → Value.okWide Try.prog W .any base t v := hval0
  have hW' := hW
  obtain ⟨p, q, hA0, hV, rfl, hfz, hnd⟩ := hW
  have hA : DataW.TrodAll enc Try.prog W 0 (fun _ => true) true Try.f5.params.toList args.toList ds p := hA0
  rw [Try.params5] at hA hval hsz
  obtain ⟨v0, vs0, d0, ds0, p0, q0, hargs, rfl, rfl, h0, r0⟩ := trodAll_cons hA
  obtain ⟨rfl, rfl, rfl⟩ := trodAll_nil r0
  obtain rfl : args = #[v0] := by cases args; simp_all
  obtain ⟨rfl, rfl⟩ := trodVars_none hV
  clear hA0 hval0 hsz0
  have k0 := h0
  have lt0 : ∀ x ∈ p0, x.block < W.heap.size := fun x hx => by have := hW'.lt x (by simp [hx]); simpa using this
  obtain ⟨zs0, row0, w0, hd0⟩ := open_irow Try.underlying45 (hval 0 45 v0 rfl rfl) h0
  have z0 := irow_reach hsz (j := 0) (t := 45) rfl rfl Try.underlying45 hd0
  refine (emptysRows_walk W v0 zs0 row0 w0 z0).mono fun e W' ⟨he, bel⟩ => ?_
  subst he
  exact ⟨_, rfl, _, _, _, [], _, [], hW', trodAll_mk1 (shut_bool Try.underlying4 _), (trodAll_cons_mk (Below.trod Try.laidOutB (by kernel_rfl) (of_decide_eq_true (by kernel_rfl)) k0 bel lt0) trodAll_mk0), rfl, bel.frame _, fun h => by cases h⟩

set_option maxHeartbeats 8000000 in
theorem emptysRows_closed : joinedFacts Try.checked.prog 5 Try.f5 Rows.emptysRowsSpec Rows.emptysRowsRow = true := by
  unfold joinedFacts
  iterate 31 (refine and_ok ?_ ?_)
  all_goals first | (with_reducible exact enter_ok) | (rw [lifts_no]; rfl) | (rw [make_cut]; rfl) | as_aux_lemma => kernel_rfl
theorem emptysRows_holds : Rows.EmptysRowsSaid :=
  OpenClaim.holds_of_wide 5 Try.f5 rfl rfl rfl rfl rfl rfl rfl ⟨rfl, rfl, rfl, rfl, rfl⟩ rfl rfl rfl rfl rfl (by kernel_rfl) Try.func5 emptysRows_closed
    (of_decide_eq_true (by kernel_rfl)) (by unfold Func.isWrapper; first | (rw [if_pos (by decide +kernel)]; kernel_rfl) | (rw [if_neg (by decide +kernel)]; exact ⟨rfl, rfl⟩))
    (fun os started H enc _ => emptysRows_lifted os started H enc)
#print axioms emptysRows_holds
end Go.Proofs.Ytkihbgikdbaelaa
