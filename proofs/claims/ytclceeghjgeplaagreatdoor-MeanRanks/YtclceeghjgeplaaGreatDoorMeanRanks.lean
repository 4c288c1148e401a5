/- MeanRanks: what is in has a rank, one more than the least of its rules' greatest, all else has none; where there is no table there is none: at every argument, with no condition but the library's table as the program lays it. -/
import Derived.Test.YtclceeghjgeplaaGreatDoorMeanRanksW
import Derived.Test.YtclceeghjgeplaaGreatDoorMaw
import Derived.Test.YtclceeghjgeplaaGreatDoorTied
import Derived.Test.YtclceeghjgeplaaGreatDoorGs
import Derived.Test.YtclceeghjgeplaaGreatDoorCards
import Derived.Test.YtclceeghjgeplaaGreatDoorTie
import Derived.SevenTiedAt
namespace Go.Proofs.YtclceeghjgeplaaGreatDoor
set_option linter.unusedVariables false
open Go.ChangeShapes Go.WideShapes Go.ChangeAt Go.RowKit

theorem meanRanks_walk (W : World) (hG : TabG W) (g : Gr) (v1 v2 : Value) (hg : GrIs W Any v1 v2 g) (gn : ∀ s, s ∈ g.names → s.size ≤ maxLen ∧ s.size ≤ reachBytes) (gs : ∀ r, r ∈ g.rules → ∀ c, c ∈ r.conj → c.seq.length * 24 ≤ reachBytes) (hw : (Lit.int .i64 g.start).wf = true) (T : ByteArray) (hT : T.size ≤ 140737488351232) :
    Calls Tryz.prog 4 #[.agg #[.int .i64 g.start, v1, v2], .string T] W fun e W' => e = .returned (.bool true) ∧ Below W.heap.size W W' := by
  have hS : Short g.rules := fun r hr c hc => by have := gs r hr c hc; unfold reachBytes at this; omega
  have hn : ∀ s, s ∈ g.names → s.size ≤ maxLen := fun s h => (gn s h).1
  obtain ⟨p1, l1, hv1⟩ : ∃ p c, v1 = .slice p g.names.length c := by obtain ⟨p, c, e, _⟩ := hg.1; exact ⟨_, _, e⟩
  obtain ⟨p2, c2, hv2⟩ := lngR hg.2
  have KA : ∀ w, Below W.heap.size W w → Calls Tryz.prog 13 #[] w fun e w' => e = .returned (.bool true) ∧ Hid (Below w.heap.size w w') := fun w hb => awake11_any w ((Kg.ofB hb).tab hG)
  by_cases hM : mayG g = true ∧ (edgesT g).find? (badE g.names.length (edgesT g)) = none ∧ T.size ≤ 32
  · exact meanRanks_ok W g v1 v2 T hg (fun r hr => (mayG_head hM.1 r hr).1) KA (fun w hb => new_any g T v1 v2 w (hg.any hb) hn hS hM.1 hM.2.1 hM.2.2 ((Kg.ofB hb).tab hG))
  · exact meanRanks_no W g.start v1 v2 T ⟨p1, g.names.length, l1⟩ ⟨p2, g.rules.length, c2⟩ hv1 hv2 KA (fun w hb => new_all g T v1 v2 w (hg.any hb) hn hS hM)

set_option linter.unusedVariables false
theorem meanRanks_own : ownKnob Tryz.prog.godebug = none := by kernel_rfl
set_option maxRecDepth 100000 in
theorem meanRanks_lifted (os : Os) (started : os.Started) (H : Type) (enc : TypeId × Value → H) :
    ReturnsInHanded {} Tryz.checked os 4 .any (fun w args => (Rows.meanRanksSpec.pre enc Tryz.prog Tryz.f4 Rows.meanRanksRow.domain false w args ∧ laidMetH Tryz.prog laidT w) ∧ sizedMet enc Tryz.prog Tryz.f4 (OpenSpec.ofChange Rows.meanRanksSpec) false w args) (Rows.meanRanksSpec.post enc Tryz.prog Tryz.f4 false true false false) := by
  refine returnsInHanded_of_change_and (C := Tryz.checked) (X := fun w _ => laidMetH Tryz.prog laidT w) (fun _ _ _ hh h => h.of_heap hh) meanRanks_own started (by kernel_rfl) Tryz.func4
    (ChangeSpec.witness_shaped (enc := enc) (C := Tryz.checked) (os := os) (X := fun w _ => laidMetH Tryz.prog laidT w) false (World.doorLaid Tryz.prog 400 os) #[.agg #[.int .i64 0, .slice none 0 0, .slice none 0 0], .string ⟨#[]⟩] 8 rfl (World.shaped_of_RefB (by kernel_rfl) (by kernel_rfl)) (by kernel_rfl) (by kernel_rfl) (by kernel_rfl) (door_met os _)) ?_
  intro W base args ds gs before hval0 hW hcnd hsz0 hL _
  have hsz : (DataW.weightsEach Tryz.prog (Tryz.f4.params.toList ++ Rows.meanRanksSpec.plain.varTypes Tryz.prog) (ds ++ gs)).all (· ≤ reachBytes) = true := hsz0
  have hval : ∀ (j : Nat) t v, Tryz.f4.params[j]? = some t → args[j]? = some v → Value.okWide Tryz.prog W .any base t v := hval0
  have hW' := hW
  obtain ⟨p, q, hA0, hV, rfl, hfz, hnd⟩ := hW
  have hA : DataW.TrodAll enc Tryz.prog W 0 (fun _ => true) true Tryz.f4.params.toList args.toList ds p := hA0
  rw [Tryz.params4] at hA hval hsz
  obtain ⟨v0, vs0, d0, ds0, p0, q0, hargs, rfl, rfl, h0, r0⟩ := trodAll_cons hA
  obtain ⟨v1, vs1, d1, ds1, p1, q1, rfl, rfl, rfl, h1, r1⟩ := trodAll_cons r0
  obtain ⟨rfl, rfl, rfl⟩ := trodAll_nil r1
  obtain rfl : args = #[v0, v1] := by cases args; simp_all
  obtain ⟨rfl, rfl⟩ := trodVars_none hV
  clear hA0 hval0 hsz0
  have k0 := h0
  have lt0 : ∀ x ∈ p0, x.block < W.heap.size := fun x hx => by have := hW'.lt x (by simp [hx]); simpa using this
  have k1 := h1
  have lt1 : ∀ x ∈ p1, x.block < W.heap.size := fun x hx => by have := hW'.lt x (by simp [hx]); simpa using this
  obtain ⟨cs0, rfl, op0⟩ := open_agg (j := 0) Tryz.structGr (hval 0 25 v0 rfl rfl) h0 (fun b o hm => hfz b o (by simp [hm])) hsz rfl rfl
  obtain ⟨g0, ga0, gb0, rfl, gi0, gn0, gs0, w0⟩ := op_gram op0
  obtain ⟨a1, rfl, rfl, rfl, -⟩ := ChangeMaps.open_string Tryz.underlying9 (hval 1 9 v1 rfl rfl) h1
  have w1 := str_reach hsz (j := 1) (t := 9) (s := a1) rfl rfl
  refine (meanRanks_walk W (tab_of_laid hL) g0 ga0 gb0 gi0 gn0 gs0 w0 a1 w1).mono fun e W' ⟨he, bel⟩ => ?_
  subst he
  exact ⟨_, rfl, _, _, _, [], _, [], hW', trodAll_mk1 (shut_bool Tryz.underlying4 _), (trodAll_cons_mk (Below.trod Tryz.laidOutB (by kernel_rfl) (of_decide_eq_true (by kernel_rfl)) k0 bel lt0) (trodAll_cons_mk (Below.trod Tryz.laidOutB (by kernel_rfl) (of_decide_eq_true (by kernel_rfl)) k1 bel lt1) trodAll_mk0)), rfl, bel.frame _, fun h => by cases h⟩

set_option maxHeartbeats 8000000 in
theorem meanRanks_closed : joinedFacts Tryz.checked.prog 4 Tryz.f4 Rows.meanRanksSpec Rows.meanRanksRow = true := by
  unfold joinedFacts
  iterate 31 (refine and_ok ?_ ?_)
  all_goals first | (with_reducible exact enter_ok) | (rw [lifts_no]; rfl) | (rw [make_cut]; rfl) | as_aux_lemma => kernel_rfl
theorem meanRanks_holds : Rows.MeanRanksSaid :=
  OpenClaim.holds_of_wide 4 Tryz.f4 rfl rfl rfl rfl rfl rfl rfl ⟨rfl, rfl, rfl, rfl, rfl⟩ rfl rfl rfl rfl rfl (by kernel_rfl) Tryz.func4 meanRanks_closed
    (of_decide_eq_true (by kernel_rfl)) (by unfold Func.isWrapper; first | (rw [if_pos (by decide +kernel)]; kernel_rfl) | (rw [if_neg (by decide +kernel)]; exact ⟨rfl, rfl⟩))
    (fun os started H enc _ => meanRanks_lifted os started H enc)
theorem meanRanks_card : Rows.MeanRanksCardSaid :=
  Claim7.holds_tied_plain_at .later [] [.data] true (true, "7b1a2502c7865af0658e6db8bd214c7ea0c6b20b20381b08a6ff544a4d37f9f1") true
    meanRanks_holds (fun _ h => by cases h) (by kernel_rfl) (fun _ h => by cases h) meanRanks_row_tie rfl ⟨rfl, rfl⟩ (by kernel_rfl) rfl
    (fun f fn hf hfn => by
      obtain rfl : f = 4 := Option.some.inj ((show Tryz.prog.funcNamed "temple/templelaw11.MeanRanks" = some 4 by kernel_rfl).symm.trans hf) |>.symm
      obtain rfl : fn = Tryz.f4 := (Option.some.inj (Tryz.func4.symm.trans hfn)).symm
      exact ⟨by kernel_rfl, fun j t ht => by
        rw [Tryz.params4] at ht
        have hm : t ∈ [25, 9] := by simpa using Array.mem_of_getElem? ht
        have hall : ([25, 9].all fun u => !Tryz.prog.wantsStandIn u) = true := by kernel_rfl
        exact (show Tryz.prog.wantsStandIn t = false by simpa using List.all_eq_true.1 hall t hm)⟩)
    (by kernel_rfl)
#print axioms meanRanks_card
end Go.Proofs.YtclceeghjgeplaaGreatDoor
