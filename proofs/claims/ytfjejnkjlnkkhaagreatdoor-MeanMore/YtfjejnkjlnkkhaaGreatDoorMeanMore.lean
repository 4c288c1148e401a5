/- MeanMore: without negations a rule more takes nothing away, and no rank rises by it: at every argument, with no condition but the library's table as the program lays it. -/
import Derived.Test.YtfjejnkjlnkkhaaGreatDoorMeanMoreW
import Derived.Test.YtfjejnkjlnkkhaaGreatDoorMaw
import Derived.Test.YtfjejnkjlnkkhaaGreatDoorTied
import Derived.Test.YtfjejnkjlnkkhaaGreatDoorGs
import Derived.Test.YtfjejnkjlnkkhaaGreatDoorCards
import Derived.Test.YtfjejnkjlnkkhaaGreatDoorTie
import Derived.SevenTiedAt
namespace Go.Proofs.YtfjejnkjlnkkhaaGreatDoor
set_option linter.unusedVariables false
open Go.ChangeShapes Go.WideShapes Go.ChangeAt Go.RowKit

theorem new_twoM (g : Gr) (T : ByteArray) (u1 u2 : Value) (w : World) {F : Nat → Prop} (hg : GrIs w F u1 u2 g) (hn : ∀ s, s ∈ g.names → s.size ≤ maxLen) (hS : Short g.rules) (hG : TabG w) :
    Calls Tryz.prog 14 #[.agg #[.int .i64 g.start, u1, u2], .string T] w fun e w' => ∃ pt z, e = .returned (.tuple #[.pointer pt, .int .i64 z]) ∧ Hid ((z = 1100 ∧ pt = none) ∨ ∃ ub, z = 0 ∧ pt = some ⟨ub, 0, none⟩ ∧ TmIs g T ub w' ∧ mayG g = true) ∧ Hid (Below w.heap.size w w') := by
  by_cases hM : mayG g = true ∧ (edgesT g).find? (badE g.names.length (edgesT g)) = none ∧ T.size ≤ 32
  · exact (new_any g T u1 u2 w hg hn hS hM.1 hM.2.1 hM.2.2 hG).mono fun e w' ⟨tb, h1, h2, h3⟩ => ⟨_, _, h1, Or.inr ⟨tb, rfl, rfl, h2.out, hM.1⟩, h3⟩
  · exact (new_all g T u1 u2 w hg hn hS hM).mono fun e w' ⟨h1, h2⟩ => ⟨_, _, h1, Or.inl ⟨rfl, rfl⟩, h2⟩
theorem short_pos {g : Gr} (hS : Short g.rules) : Short (posG g).rules := fun r hr c hc => by
  unfold posG at hr
  obtain ⟨r', hr', rfl⟩ := List.mem_map.1 hr
  unfold posR at hc
  obtain ⟨c', hc', rfl⟩ := List.mem_map.1 hc
  exact hS r' hr' c' hc'
theorem meanMore_walk (W : World) (hG : TabG W) (g : Gr) (v1 v2 : Value) (hg : GrIs W Any v1 v2 g) (gn : ∀ s, s ∈ g.names → s.size ≤ maxLen ∧ s.size ≤ reachBytes) (gz : GSz reachBytes g) (hw : (Lit.int .i64 g.start).wf = true) (T : ByteArray) (hT : T.size ≤ 140737488351232) (p : Int) (hp : (Lit.int .i64 p).wf = true) (q : Int) (hq : (Lit.int .i64 q).wf = true) :
    Calls Tryz.prog 11 #[.agg #[.int .i64 g.start, v1, v2], .string T, .int .i64 p, .int .i64 q] W fun e W' => e = .returned (.bool true) ∧ Below W.heap.size W W' := by
  have hS : Short g.rules := fun r hr c hc => by have := (gz.2.2 r hr).2 c hc; unfold reachBytes at this; omega
  have hn : ∀ s, s ∈ g.names → s.size ≤ maxLen := fun s h => (gn s h).1
  obtain ⟨p1, l1, hv1⟩ : ∃ p c, v1 = .slice p g.names.length c := by obtain ⟨p, c, e, _⟩ := hg.1; exact ⟨_, _, e⟩
  obtain ⟨p2, c2, hv2⟩ := lngR hg.2
  refine meanMore_core W g v1 v2 T p q g.names.length rfl ⟨p1, l1⟩ ⟨p2, g.rules.length, c2⟩ hv1 hv2 (by have := gz.2.1; unfold reachBytes at this; omega) (fun r hr => by have := (gz.2.2 r hr).1; unfold reachBytes at this; omega) (fun w hb => awake11_any w ((Kg.ofB hb).tab hG)) (fun w hb => (copyGr_own g v1 v2 w (hg.any hb) gz).mono fun e w' ⟨u1, u2, h1, h2, h3, h4⟩ => ⟨u1, u2, h1, h3, h4⟩) (fun u1 u2 w hb h2 => new_twoM (posG g) T u1 u2 w h2 hn (short_pos hS) ((Kg.ofB hb).tab hG)) (fun u1 u2 w k x y hb h2 => ?_)
  refine (new_twoM (addG g k x y) T u1 u2 w h2 hn (fun r hr c hc => ?_) ((Kg.ofB hb).tab hG)).mono fun e w' ⟨pt, z, h1, h3, h4⟩ => ⟨pt, z, h1, ?_, h4⟩
  · rcases List.mem_append.1 hr with h | h
    · exact short_pos hS r h c hc
    · rw [List.mem_singleton.1 h] at hc
      rw [List.mem_singleton.1 hc]
      show 2 ≤ 140737488355328
      omega
  · rcases h3.out with h | ⟨ub, h5, h6, h7, _⟩
    · exact Or.inl h
    · exact Or.inr ⟨ub, h5, h6, h7⟩

set_option linter.unusedVariables false
theorem meanMore_own : ownKnob Tryz.prog.godebug = none := by kernel_rfl
set_option maxRecDepth 100000 in
theorem meanMore_lifted (os : Os) (started : os.Started) (H : Type) (enc : TypeId × Value → H) :
    ReturnsInHanded {} Tryz.checked os 11 .any (fun w args => (Rows.meanMoreSpec.pre enc Tryz.prog Tryz.f11 Rows.meanMoreRow.domain false w args ∧ laidMetH Tryz.prog laidT w) ∧ sizedMet enc Tryz.prog Tryz.f11 (OpenSpec.ofChange Rows.meanMoreSpec) false w args) (Rows.meanMoreSpec.post enc Tryz.prog Tryz.f11 false true false false) := by
  refine returnsInHanded_of_change_and (C := Tryz.checked) (X := fun w _ => laidMetH Tryz.prog laidT w) (fun _ _ _ hh h => h.of_heap hh) meanMore_own started (by kernel_rfl) Tryz.func11
    (ChangeSpec.witness_shaped (enc := enc) (C := Tryz.checked) (os := os) (X := fun w _ => laidMetH Tryz.prog laidT w) false (World.doorLaid Tryz.prog 400 os) #[.agg #[.int .i64 0, .slice none 0 0, .slice none 0 0], .string ⟨#[]⟩, .int .i64 0, .int .i64 0] 8 rfl (World.shaped_of_RefB (by kernel_rfl) (by kernel_rfl)) (by kernel_rfl) (by kernel_rfl) (by kernel_rfl) (door_met os _)) ?_
  intro W base args ds gs before hval0 hW hcnd hsz0 hL _
  have hsz : (DataW.weightsEach Tryz.prog (Tryz.f11.params.toList ++ Rows.meanMoreSpec.plain.varTypes Tryz.prog) (ds ++ gs)).all (· ≤ reachBytes) = true := hsz0
  have hval : ∀ (j : Nat) t v, Tryz.f11.params[j]? = some t → args[j]? = some v → Value.okWide Tryz.prog W .any base t v := hval0
  have hW' := hW
  obtain ⟨p, q, hA0, hV, rfl, hfz, hnd⟩ := hW
  have hA : DataW.TrodAll enc Tryz.prog W 0 (fun _ => true) true Tryz.f11.params.toList args.toList ds p := hA0
  rw [Tryz.params11] at hA hval hsz
  obtain ⟨v0, vs0, d0, ds0, p0, q0, hargs, rfl, rfl, h0, r0⟩ := trodAll_cons hA
  obtain ⟨v1, vs1, d1, ds1, p1, q1, rfl, rfl, rfl, h1, r1⟩ := trodAll_cons r0
  obtain ⟨v2, vs2, d2, ds2, p2, q2, rfl, rfl, rfl, h2, r2⟩ := trodAll_cons r1
  obtain ⟨v3, vs3, d3, ds3, p3, q3, rfl, rfl, rfl, h3, r3⟩ := trodAll_cons r2
  obtain ⟨rfl, rfl, rfl⟩ := trodAll_nil r3
  obtain rfl : args = #[v0, v1, v2, v3] := by cases args; simp_all
  obtain ⟨rfl, rfl⟩ := trodVars_none hV
  clear hA0 hval0 hsz0
  have k0 := h0
  have lt0 : ∀ x ∈ p0, x.block < W.heap.size := fun x hx => by have := hW'.lt x (by simp [hx]); simpa using this
  have k1 := h1
  have lt1 : ∀ x ∈ p1, x.block < W.heap.size := fun x hx => by have := hW'.lt x (by simp [hx]); simpa using this
  have k2 := h2
  have lt2 : ∀ x ∈ p2, x.block < W.heap.size := fun x hx => by have := hW'.lt x (by simp [hx]); simpa using this
  have k3 := h3
  have lt3 : ∀ x ∈ p3, x.block < W.heap.size := fun x hx => by have := hW'.lt x (by simp [hx]); simpa using this
  obtain ⟨cs0, rfl, op0⟩ := open_agg (j := 0) Tryz.structGr (hval 0 25 v0 rfl rfl) h0 (fun b o hm => hfz b o (by simp [hm])) hsz rfl rfl
  obtain ⟨g0, ga0, gb0, rfl, gi0, gn0, gs0, w0⟩ := op_gramZ op0
  obtain ⟨a1, rfl, rfl, rfl, -⟩ := ChangeMaps.open_string Tryz.underlying9 (hval 1 9 v1 rfl rfl) h1
  have w1 := str_reach hsz (j := 1) (t := 9) (s := a1) rfl rfl
  obtain ⟨a2, rfl, rfl, rfl, w2⟩ := open_int Tryz.underlying3 (hval 2 3 v2 rfl rfl) h2
  obtain ⟨a3, rfl, rfl, rfl, w3⟩ := open_int Tryz.underlying3 (hval 3 3 v3 rfl rfl) h3
  refine (meanMore_walk W (tab_of_laid hL) g0 ga0 gb0 gi0 gn0 gs0 w0 a1 w1 a2 w2 a3 w3).mono fun e W' ⟨he, bel⟩ => ?_
  subst he
  exact ⟨_, rfl, _, _, _, [], _, [], hW', trodAll_mk1 (shut_bool Tryz.underlying4 _), (trodAll_cons_mk (Below.trod Tryz.laidOutB (by kernel_rfl) (of_decide_eq_true (by kernel_rfl)) k0 bel lt0) (trodAll_cons_mk (Below.trod Tryz.laidOutB (by kernel_rfl) (of_decide_eq_true (by kernel_rfl)) k1 bel lt1) (trodAll_cons_mk (Below.trod Tryz.laidOutB (by kernel_rfl) (of_decide_eq_true (by kernel_rfl)) k2 bel lt2) (trodAll_cons_mk (Below.trod Tryz.laidOutB (by kernel_rfl) (of_decide_eq_true (by kernel_rfl)) k3 bel lt3) trodAll_mk0)))), rfl, bel.frame _, fun h => by cases h⟩

set_option maxHeartbeats 8000000 in
theorem meanMore_closed : joinedFacts Tryz.checked.prog 11 Tryz.f11 Rows.meanMoreSpec Rows.meanMoreRow = true := by
  unfold joinedFacts
  iterate 31 (refine and_ok ?_ ?_)
  all_goals first | (with_reducible exact enter_ok) | (rw [lifts_no]; rfl) | (rw [make_cut]; rfl) | as_aux_lemma => kernel_rfl
theorem meanMore_holds : Rows.MeanMoreSaid :=
  OpenClaim.holds_of_wide 11 Tryz.f11 rfl rfl rfl rfl rfl rfl rfl ⟨rfl, rfl, rfl, rfl, rfl⟩ rfl rfl rfl rfl rfl (by kernel_rfl) Tryz.func11 meanMore_closed
    (of_decide_eq_true (by kernel_rfl)) (by unfold Func.isWrapper; first | (rw [if_pos (by decide +kernel)]; kernel_rfl) | (rw [if_neg (by decide +kernel)]; exact ⟨rfl, rfl⟩))
    (fun os started H enc _ => meanMore_lifted os started H enc)
theorem meanMore_card : Rows.MeanMoreCardSaid :=
  Claim7.holds_tied_plain_at .later [] [.data] true (true, "7b1a2502c7865af0658e6db8bd214c7ea0c6b20b20381b08a6ff544a4d37f9f1") true
    meanMore_holds (fun _ h => by cases h) (by kernel_rfl) (fun _ h => by cases h) meanMore_row_tie rfl ⟨rfl, rfl⟩ (by kernel_rfl) rfl
    (fun f fn hf hfn => by
      obtain rfl : f = 11 := Option.some.inj ((show Tryz.prog.funcNamed "temple/templelaw11.MeanMore" = some 11 by kernel_rfl).symm.trans hf) |>.symm
      obtain rfl : fn = Tryz.f11 := (Option.some.inj (Tryz.func11.symm.trans hfn)).symm
      exact ⟨by kernel_rfl, fun j t ht => by
        rw [Tryz.params11] at ht
        have hm : t ∈ [25, 9, 3, 3] := by simpa using Array.mem_of_getElem? ht
        have hall : ([25, 9, 3, 3].all fun u => !Tryz.prog.wantsStandIn u) = true := by kernel_rfl
        exact (show Tryz.prog.wantsStandIn t = false by simpa using List.all_eq_true.1 hall t hm)⟩)
    (by kernel_rfl)
#print axioms meanMore_card
end Go.Proofs.YtfjejnkjlnkkhaaGreatDoor
