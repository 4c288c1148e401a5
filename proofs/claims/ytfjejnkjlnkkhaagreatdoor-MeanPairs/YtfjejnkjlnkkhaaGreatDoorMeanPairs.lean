/- MeanPairs: of a text of a and b the grammar of pairs has just the spans that are as many a as b, the other name the rows of a: at every argument, with no condition but the library's table as the program lays it. -/
import Derived.Test.YtfjejnkjlnkkhaaGreatDoorMeanPairsW
import Derived.Test.YtfjejnkjlnkkhaaGreatDoorGq
import Derived.Test.YtfjejnkjlnkkhaaGreatDoorMaw
import Derived.Test.YtfjejnkjlnkkhaaGreatDoorTied
import Derived.Test.YtfjejnkjlnkkhaaGreatDoorGs
import Derived.Test.YtfjejnkjlnkkhaaGreatDoorCards
import Derived.Test.YtfjejnkjlnkkhaaGreatDoorTie
import Derived.SevenTiedAt
namespace Go.Proofs.YtfjejnkjlnkkhaaGreatDoor
set_option linter.unusedVariables false
open Go.ChangeShapes Go.WideShapes Go.ChangeAt Go.RowKit

theorem pairs_mean {T : ByteArray} {M : SpM} {n tb : Nat} {w : World} (h : TbM psG T M n tb w) : M = prM (btP T) T.size :=
  stb3_uniq (grOk_of ps_may ps_free).1.st h.stb (show Stb3 (btP T) T.size psG.rules (prM (btP T) T.size) from pr_stb)
theorem abT_bt {T : ByteArray} (h : AbT T) : ∀ k, k < T.size → btP T k = 97 ∨ btP T k = 98 := fun k hk => by
  unfold btP
  rcases h.2 k hk with e | e <;> rw [e]
  · exact Or.inl rfl
  · exact Or.inr rfl
theorem meanPairs_walk (W : World) (hG : TabG W) (s : ByteArray) (hs : s.size ≤ 140737488351232) :
    Calls Tryz.prog 6 #[.string s] W fun e W' => e = .returned (.bool true) ∧ Below W.heap.size W W' := by
  refine meanPairs_core W s hs (fun w p1 c1 p2 c2 => GrIs w Any (.slice p1 2 c1) (.slice p2 4 c2) psG) (fun T tb w => TmIs psG T tb w) (fun w hb => awake11_any w ((Kg.ofB hb).tab hG)) (fun w hb => pairs_any w) (fun T w p1 c1 p2 c2 hb hg hT => ?_) (fun T tb w i j h hT hi hj => ?_) (fun T tb w i j h hT hi hj => ?_)
  · exact new_any psG T _ _ w hg ps_small ps_short ps_may ps_free (by have := hT.1; omega) ((Kg.ofB hb).tab hG)
  · obtain ⟨M, n, h2⟩ := h.tbM
    have := has_tb w h2 (x := 0) (by decide) hi hj
    rw [pairs_mean h2, pr_say0 (abT_bt hT) hi hj] at this
    exact this
  · obtain ⟨M, n, h2⟩ := h.tbM
    have := has_tb w h2 (x := 1) (by decide) hi hj
    rw [pairs_mean h2, pr_say1 hi hj] at this
    exact this

set_option linter.unusedVariables false
theorem meanPairs_own : ownKnob Tryz.prog.godebug = none := by kernel_rfl
set_option maxRecDepth 100000 in
theorem meanPairs_lifted (os : Os) (started : os.Started) (H : Type) (enc : TypeId × Value → H) :
    ReturnsInHanded {} Tryz.checked os 6 .any (fun w args => (Rows.meanPairsSpec.pre enc Tryz.prog Tryz.f6 Rows.meanPairsRow.domain false w args ∧ laidMetH Tryz.prog laidT w) ∧ sizedMet enc Tryz.prog Tryz.f6 (OpenSpec.ofChange Rows.meanPairsSpec) false w args) (Rows.meanPairsSpec.post enc Tryz.prog Tryz.f6 false true false false) := by
  refine returnsInHanded_of_change_and (C := Tryz.checked) (X := fun w _ => laidMetH Tryz.prog laidT w) (fun _ _ _ hh h => h.of_heap hh) meanPairs_own started (by kernel_rfl) Tryz.func6
    (ChangeSpec.witness_shaped (enc := enc) (C := Tryz.checked) (os := os) (X := fun w _ => laidMetH Tryz.prog laidT w) false (World.doorLaid Tryz.prog 400 os) #[.string ⟨#[]⟩] 8 rfl (World.shaped_of_RefB (by kernel_rfl) (by kernel_rfl)) (by kernel_rfl) (by kernel_rfl) (by kernel_rfl) (door_met os _)) ?_
  intro W base args ds gs before hval0 hW hcnd hsz0 hL _
  have hsz : (DataW.weightsEach Tryz.prog (Tryz.f6.params.toList ++ Rows.meanPairsSpec.plain.varTypes Tryz.prog) (ds ++ gs)).all (· ≤ reachBytes) = true := hsz0
  have hval : ∀ (j : Nat) t v, Tryz.f6.params[j]? = some t → args[j]? = some v → Value.okWide Tryz.prog W .any base t v := hval0
  have hW' := hW
  obtain ⟨p, q, hA0, hV, rfl, hfz, hnd⟩ := hW
  have hA : DataW.TrodAll enc Tryz.prog W 0 (fun _ => true) true Tryz.f6.params.toList args.toList ds p := hA0
  rw [Tryz.params6] at hA hval hsz
  obtain ⟨v0, vs0, d0, ds0, p0, q0, hargs, rfl, rfl, h0, r0⟩ := trodAll_cons hA
  obtain ⟨rfl, rfl, rfl⟩ := trodAll_nil r0
  obtain rfl : args = #[v0] := by cases args; simp_all
  obtain ⟨rfl, rfl⟩ := trodVars_none hV
  clear hA0 hval0 hsz0
  have k0 := h0
  have lt0 : ∀ x ∈ p0, x.block < W.heap.size := fun x hx => by have := hW'.lt x (by simp [hx]); simpa using this
  obtain ⟨a0, rfl, rfl, rfl, -⟩ := ChangeMaps.open_string Tryz.underlying9 (hval 0 9 v0 rfl rfl) h0
  have w0 := str_reach hsz (j := 0) (t := 9) (s := a0) rfl rfl
  refine (meanPairs_walk W (tab_of_laid hL) a0 w0).mono fun e W' ⟨he, bel⟩ => ?_
  subst he
  exact ⟨_, rfl, _, _, _, [], _, [], hW', trodAll_mk1 (shut_bool Tryz.underlying4 _), (trodAll_cons_mk (Below.trod Tryz.laidOutB (by kernel_rfl) (of_decide_eq_true (by kernel_rfl)) k0 bel lt0) trodAll_mk0), rfl, bel.frame _, fun h => by cases h⟩

set_option maxHeartbeats 8000000 in
theorem meanPairs_closed : joinedFacts Tryz.checked.prog 6 Tryz.f6 Rows.meanPairsSpec Rows.meanPairsRow = true := by
  unfold joinedFacts
  iterate 31 (refine and_ok ?_ ?_)
  all_goals first | (with_reducible exact enter_ok) | (rw [lifts_no]; rfl) | (rw [make_cut]; rfl) | as_aux_lemma => kernel_rfl
theorem meanPairs_holds : Rows.MeanPairsSaid :=
  OpenClaim.holds_of_wide 6 Tryz.f6 rfl rfl rfl rfl rfl rfl rfl ⟨rfl, rfl, rfl, rfl, rfl⟩ rfl rfl rfl rfl rfl (by kernel_rfl) Tryz.func6 meanPairs_closed
    (of_decide_eq_true (by kernel_rfl)) (by unfold Func.isWrapper; first | (rw [if_pos (by decide +kernel)]; kernel_rfl) | (rw [if_neg (by decide +kernel)]; exact ⟨rfl, rfl⟩))
    (fun os started H enc _ => meanPairs_lifted os started H enc)
theorem meanPairs_card : Rows.MeanPairsCardSaid :=
  Claim7.holds_tied_plain_at .later [] [.data] true (true, "7b1a2502c7865af0658e6db8bd214c7ea0c6b20b20381b08a6ff544a4d37f9f1") true
    meanPairs_holds (fun _ h => by cases h) (by kernel_rfl) (fun _ h => by cases h) meanPairs_row_tie rfl ⟨rfl, rfl⟩ (by kernel_rfl) rfl
    (fun f fn hf hfn => by
      obtain rfl : f = 6 := Option.some.inj ((show Tryz.prog.funcNamed "temple/templelaw11.MeanPairs" = some 6 by kernel_rfl).symm.trans hf) |>.symm
      obtain rfl : fn = Tryz.f6 := (Option.some.inj (Tryz.func6.symm.trans hfn)).symm
      exact ⟨by kernel_rfl, fun j t ht => by
        rw [Tryz.params6] at ht
        have hm : t ∈ [9] := by simpa using Array.mem_of_getElem? ht
        have hall : ([9].all fun u => !Tryz.prog.wantsStandIn u) = true := by kernel_rfl
        exact (show Tryz.prog.wantsStandIn t = false by simpa using List.all_eq_true.1 hall t hm)⟩)
    (by kernel_rfl)
#print axioms meanPairs_card
end Go.Proofs.YtfjejnkjlnkkhaaGreatDoor
