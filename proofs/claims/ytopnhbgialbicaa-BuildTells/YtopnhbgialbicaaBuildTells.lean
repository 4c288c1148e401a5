/- BuildTells: what is made may be; whose fault it is stands in the declarations: at every argument of bulk at most 1048576. -/
import Derived.Test.YtopnhbgialbicaaBuTellW
import Derived.Test.YtopnhbgialbicaaGramAwake
import Derived.Test.YtopnhbgialbicaaRefMayG
import Derived.Test.YtopnhbgialbicaaRefMayE
import Derived.Test.YtopnhbgialbicaaRawOpen
import Derived.Test.YtopnhbgialbicaaLawOpen
import Derived.Deep.CondSized
namespace Go.Proofs.Ytopnhbgialbicaa
set_option linter.unusedVariables false
set_option linter.unusedSimpArgs false
open Go.ChangeShapes Go.WideShapes Go.ChangeAt Go.RowKit

theorem build_okT {r : Rw} {g : Gr} (h : buildT r = .ok g) : g = gramT r ∧ tooLongT r.defs = false := by
  unfold buildT at h
  split at h
  · cases h
  · split at h
    · cases h
    · split at h
      · cases h
      · split at h
        · cases h
        · split at h
          · cases h
          · next ht =>
            split at h
            · cases h; exact ⟨rfl, by simpa using ht⟩
            · cases h
theorem buildTells_walk (W : World) (r : Rw) (v1 v2 : Value) (h1 : IsTexts W Any v1 r.starts) (h2 : IsDefs W Any v2 r.defs) (hS : Sized r) :
    Calls Try.prog 3 #[.agg #[v1, v2]] W fun e W' => e = .returned (.bool true) ∧ Below W.heap.size W W' := by
  obtain ⟨p1, c1, rfl⟩ := Reads.slc h1
  obtain ⟨p2, c2, rfl⟩ := h2.slc
  refine buildTells_core W r p1 c1 p2 c2 h1 h2 hS.len (fun w => (awake4_any w).mono fun e w' h => ⟨h.1, h.2⟩) (fun k w => (num_any k w).mono fun e w' h => ⟨h.1, by first | exact h.2 | exact h.2.symm⟩) (fun V k1 k2 => ?_)
  have hb := build_any r _ _ V k1 k2 hS
  have ht := tells_build r
  cases hB : buildT r with
  | error x =>
    obtain ⟨n, k⟩ := x
    rw [hB] at hb ht
    refine hb.mono ?_
    rintro e w' ⟨rfl, hbl⟩
    refine ⟨⟨0, [], []⟩, none, 0, none, 0, n, k, rfl, Or.inr ht, ⟨IsTexts.nil w' Any, IsRus.nil w' Any⟩, hbl, fun hk => ?_⟩
    exfalso
    rcases ht with ⟨e, _⟩ | ⟨e, _⟩ | ⟨e, _⟩ | ⟨e, _⟩ | ⟨e, _⟩ <;> omega
  | ok g =>
    obtain ⟨hg, hlong⟩ := build_okT hB
    rw [hB] at hb ht
    obtain ⟨hm, hs1, hnm, i, hi, s, hs, hs0⟩ := ht
    refine hb.mono ?_
    rintro e w' ⟨q1, d1, q2, d2, F, rfl, hF, hgr, hbl⟩
    refine ⟨g, q1, d1, q2, d2, ⟨#[]⟩, 0, rfl, Or.inl ⟨rfl, rfl, hs1, by rw [hnm]; unfold namesT; rw [List.length_map], i, hi, s, by rw [hnm]; exact hs, hs0⟩, ⟨Reads.keep hgr.1 ⟨Nat.le_refl _, fun _ _ => rfl⟩ (fun _ _ => trivial), hgr.2.keep ⟨Nat.le_refl _, fun _ _ => rfl⟩ (fun _ _ => trivial)⟩, hbl, fun _ => ⟨fun V' a b h => ?_, fun V' a b h => ?_⟩⟩
    · have := may_any g a b V' h (by rw [hnm]; exact hS.names) (by rw [hg]; exact hS.short hlong)
      rw [hm] at this
      exact this.mono fun e w h => ⟨h.1, h.2⟩
    · have := mayG_ref g a b V' h (by rw [hnm]; exact hS.names)
      rw [refMay_eq, hm] at this
      exact this.mono fun e w h => ⟨h.1, h.2⟩

set_option linter.unusedVariables false
theorem buildTells_ownU : ownKnob Try.prog.godebug = none := by kernel_rfl
set_option maxRecDepth 100000 in
theorem buildTells_contractU (H : Type) (enc : TypeId × Value → H) (W : World) (base : Nat) (args : Array Value) (ds gs : List (DataW H)) (before : List MemPlace)
    (hval0 : ∀ (j : Nat) t v, Try.f3.params[j]? = some t → args[j]? = some v → Value.okWide Try.prog W .any base t v)
    (hW : DataW.Whole enc Try.prog Try.f3.params.toList Rows.buildTellsSpec.vars false W args.toList ds gs before) (hk : Rows.uptoSmall H (ds ++ gs) = true)
    (hsz0 : (DataW.weightsEach Try.prog (Try.f3.params.toList ++ Rows.buildTellsSpec.plain.varTypes Try.prog) (ds ++ gs)).all (· ≤ reachBytes) = true) :
    Calls Try.prog 3 args W fun e W' => ∃ v, e = .returned v ∧ Rows.buildTellsSpec.post enc Try.prog Try.f3 false true false false W args v W' := by
  have hsz : (DataW.weightsEach Try.prog (Try.f3.params.toList ++ Rows.buildTellsSpec.plain.varTypes Try.prog) (ds ++ gs)).all (· ≤ reachBytes) = true := hsz0
  have hval : ∀ (j : Nat) t v, Try.f3.params[j]? = some t → args[j]? = some v → Value.okWide Try.prog W .any base t v := hval0
  have hW' := hW
  obtain ⟨p, q, hA0, hV, rfl, hfz, hnd⟩ := hW
  have hA : DataW.TrodAll enc Try.prog W 0 (fun _ => true) true Try.f3.params.toList args.toList ds p := hA0
  rw [Try.params3] at hA hval hsz
  obtain ⟨v0, vs0, d0, ds0, p0, q0, hargs, rfl, rfl, h0, r0⟩ := trodAll_cons hA
  obtain ⟨rfl, rfl, rfl⟩ := trodAll_nil r0
  obtain rfl : args = #[v0] := by cases args; simp_all
  obtain ⟨rfl, rfl⟩ := trodVars_none hV
  clear hA0 hval0 hsz0
  have k0 := h0
  have lt0 : ∀ x ∈ p0, x.block < W.heap.size := fun x hx => by have := hW'.lt x (by simp [hx]); simpa using this
  obtain ⟨rr0, va0, vb0, rfl, ta0, tb0, sz0⟩ := open_raw (hval 0 25 v0 rfl rfl) h0 (fun b o hm => hfz b o (by simp [hm])) hk (by simp)
  refine (buildTells_walk W rr0 va0 vb0 ta0 tb0 sz0).mono fun e W' ⟨he, bel⟩ => ?_
  subst he
  exact ⟨_, rfl, _, _, _, [], _, [], hW', trodAll_mk1 (shut_bool Try.underlying4 _), (trodAll_cons_mk (Below.trod Try.laidOutB (by kernel_rfl) (of_decide_eq_true (by kernel_rfl)) k0 bel lt0) trodAll_mk0), rfl, bel.frame _, fun h => by cases h⟩


set_option maxRecDepth 100000 in
theorem buildTells_liftedU (os : Os) (started : os.Started) (H : Type) (enc : TypeId × Value → H) (F : Stop.Interp) :
    ReturnsInHanded {} Try.checked os 3 .any ((Rows.OpenSpec.upto Rows.buildTellsSpec).pre6 enc Try.prog Try.f3 Rows.buildTellsUptoRow.domain false) (((Rows.OpenSpec.upto Rows.buildTellsSpec).at F).post enc Try.prog Try.f3 false true false false) := by
  refine returnsInHanded_of_cond_sized (C := Try.checked) (s := Rows.OpenSpec.upto Rows.buildTellsSpec) (k := Rows.uptoSmall) rfl buildTells_ownU started (by kernel_rfl) Try.func3
    (OpenSpec.witness (enc := enc) (C := Try.checked) (s := Rows.OpenSpec.upto Rows.buildTellsSpec) (k := Rows.uptoSmall) rfl false ⟨#[], #[.agg #[.slice none 0 0, .slice none 0 0]], []⟩ 8 (by kernel_rfl) (by kernel_rfl) (by kernel_rfl)
      (x := ([.agg [.nil, .nil]], [], [])) (by kernel_rfl) rfl (by kernel_rfl)) ?_
  intro W base args ds gs before hval hW _ hk hsz _
  exact buildTells_contractU H enc W base args ds gs before hval hW hk hsz

set_option maxHeartbeats 8000000 in
theorem buildTells_closedU : joinedFacts Try.checked.prog 3 Try.f3 (Rows.OpenSpec.upto Rows.buildTellsSpec).bare Rows.buildTellsUptoRow = true := by
  unfold joinedFacts
  iterate 31 (refine and_ok ?_ ?_)
  all_goals first | (with_reducible exact enter_ok) | (rw [lifts_no]; rfl) | (rw [make_cut]; rfl) | as_aux_lemma => kernel_rfl
theorem buildTells_upto : Rows.BuildTellsUptoSaid :=
  OpenClaim.holds_of_cond 3 Try.f3 rfl rfl rfl rfl rfl rfl rfl ⟨rfl, rfl, rfl, rfl, rfl⟩ rfl rfl rfl rfl rfl (by kernel_rfl) Try.func3 buildTells_closedU
    (of_decide_eq_true (by kernel_rfl)) (by unfold Func.isWrapper; first | (rw [if_pos (by decide +kernel)]; kernel_rfl) | (rw [if_neg (by decide +kernel)]; exact ⟨rfl, rfl⟩))
    (fun os started H enc _ F => buildTells_liftedU os started H enc F)
#print axioms buildTells_upto
end Go.Proofs.Ytopnhbgialbicaa
