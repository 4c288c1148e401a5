/- DependsMore: one symbol more at a conjunct's end makes its edge and no other one: at every argument that memory holds, with no other condition. -/
import Derived.Test.YtdoibpgkfdpbdaaDependsMoreW
import Derived.Test.YtdoibpgkfdpbdaaCopyD
import Derived.Test.YtdoibpgkfdpbdaaDepSame
import Derived.Test.YtdoibpgkfdpbdaaBinY0
import Derived.Test.YtdoibpgkfdpbdaaRefMayG
import Derived.Test.YtdoibpgkfdpbdaaRefMayF
import Derived.Test.YtdoibpgkfdpbdaaGramOpen
import Derived.Test.YtdoibpgkfdpbdaaLawOpen
namespace Go.Proofs.Ytdoibpgkfdpbdaa
set_option linter.unusedVariables false
open Go.ChangeShapes Go.WideShapes Go.ChangeAt Go.RowKit

theorem edc_of {w : World} {F : Nat → Prop} {p : Option Addr} {n c : Nat} {l : List Ed} (h : IsEds w F (.slice p n c) l) : EdC w p l := fun k e hk => h.at hk
theorem edgesM_len {g : Gr} (h : mayG g = true) : (edgesT g).length ≤ 100000000 := by
  have h1 := allE_len h
  have h2 := addAll_len (allE g.rules) []
  have h3 := (sort_perm (addAll [] (allE g.rules))).length_eq
  unfold edgesT
  simp only [List.length_nil] at h2
  omega
theorem mayD_of (g : Gr) (v1 v2 : Value) (w : World) (hg : GrIs w Any v1 v2 g) (hn : ∀ s, s ∈ g.names → s.size ≤ maxLen) {b : Bool} (hM : mayG g = b) : Calls Try.prog 8 #[.agg #[.int .i64 g.start, v1, v2]] w fun e w' => e = .returned (.bool b) ∧ Hid (Below w.heap.size w w') := by
  have h := mayG_ref g v1 v2 w hg hn
  rw [refMay_eq, hM] at h
  exact h.mono fun e w' h => ⟨h.1, h.2⟩
theorem moreD_mem {g : Gr} {r c : Nat} {ru : Ru} {cn : Cn} {t : Int} (h1 : g.rules[r]? = some ru) (h2 : ru.conj[c]? = some cn) {R : Nat} (hR : 24 ≤ R) (hz : ∀ q, q ∈ g.rules → ∀ d, d ∈ q.conj → d.seq.length * 24 ≤ R) : ∀ q, q ∈ (moreG g r ru c cn t).rules → ∀ d, d ∈ q.conj → d.seq.length * 24 ≤ R + 24 := fun q hq d hd => by
  have hq2 : q ∈ g.rules ∨ q = moreR ru c cn t := by
    rcases List.mem_or_eq_of_mem_set hq with h | h
    · exact Or.inl h
    · exact Or.inr h
  rcases hq2 with h | h
  · have := hz q h d hd; omega
  · subst h
    rcases List.mem_or_eq_of_mem_set hd with h | h
    · have := hz ru (List.mem_of_getElem? h1) d h; omega
    · subst h
      have := hz ru (List.mem_of_getElem? h1) cn (List.mem_of_getElem? h2)
      show (cn.seq ++ [_]).length * 24 ≤ _
      rw [List.length_append, List.length_singleton]; omega
theorem dependsMore_walk (W : World) (g : Gr) (v1 v2 : Value) (ga : GrIs W Any v1 v2 g) (gn : ∀ s, s ∈ g.names → s.size ≤ maxLen ∧ s.size ≤ reachBytes) (gz : g.names.length * 16 ≤ reachBytes ∧ g.rules.length * 32 ≤ reachBytes ∧ ∀ r, r ∈ g.rules → r.conj.length * 32 ≤ reachBytes ∧ ∀ c, c ∈ r.conj → c.seq.length * 24 ≤ reachBytes) (w0 : (Lit.int .i64 g.start).wf = true)
    (ru : Int) (w1 : (Lit.int .i64 ru).wf = true) (cj : Int) (w2 : (Lit.int .i64 cj).wf = true) (tt : Int) (w3 : (Lit.int .i64 tt).wf = true) :
    Calls Try.prog 3 #[.agg #[.int .i64 g.start, v1, v2], .int .i64 ru, .int .i64 cj, .int .i64 tt] W fun e W' => e = .returned (.bool true) ∧ Below W.heap.size W W' := by
  have hS : Short g.rules := fun r hr c hc => by have := (gz.2.2 r hr).2 c hc; unfold reachBytes at this; omega
  have hN : ∀ s, s ∈ g.names → s.size ≤ maxLen := fun s h => (gn s h).1
  have gz' : GSz reachBytes g := gz
  obtain ⟨p1, l1, hv1⟩ : ∃ p c, v1 = .slice p g.names.length c := by obtain ⟨p, c, e, _⟩ := ga.1; exact ⟨_, _, e⟩
  obtain ⟨p2, l2, hv2⟩ := ga.2.slc
  have KA : ∀ w, Calls Try.prog 5 #[] w fun e w' => e = .returned (.bool true) ∧ Hid (Below w.heap.size w w') := fun w => (awake6_any w).mono fun e w' h => ⟨h.1, h.2⟩
  have KC0 : ∀ w, Below W.heap.size W w → Calls Try.prog 9 #[.agg #[.int .i64 g.start, v1, v2]] w fun e w' => ∃ u1 u2, e = .returned (.agg #[.int .i64 g.start, u1, u2]) ∧ Hid (Below w.heap.size w w') ∧ Hid (CpD w g u1 u2 w') := fun w hb => (copyGr_deep g v1 v2 w (ga.any hb) gz').mono fun e w' ⟨u1, u2, h1, _, h3, h4⟩ => ⟨u1, u2, h1, h3, h4⟩
  have hL : ∃ L : List Ed, L = (if mayG g then edgesT g else []) ∧ L.length ≤ 100000000 := by
    refine ⟨_, rfl, ?_⟩
    cases hM : mayG g with
    | true => exact edgesM_len hM
    | false => simp
  obtain ⟨L, hLe, hLm⟩ := hL
  refine dependsMore_core W g v1 v2 ru cj tt g.names.length rfl (p1, l1) (p2, l2) hv1 hv2 ga gz' L hLm KA (fun a b c a' b' c' w => Try.eqEd a b c a' b' c' w) KC0 ?_
  cases hM : mayG g with
  | false => exact Or.inl ⟨fun w hb => edges_no g v1 v2 w (ga.any hb) hN hS hM, fun w hb => mayD_of g v1 v2 w (ga.any hb) hN hM⟩
  | true =>
    rw [hM, if_pos rfl] at hLe
    obtain ⟨q1, q2, -, q4, q5⟩ := may_partsY hM
    have hn0 : 0 < g.names.length := by unfold mayNames at q1; simp only [Bool.and_eq_true, decide_eq_true_eq] at q1; omega
    refine Or.inr ⟨⟨hn0, by omega, fun r hr => by have := (q5 r hr).1.1; omega⟩, fun w hb => ?_, fun r c t ru cn hr hc ht => ?_⟩
    · refine (edges_ok g v1 v2 w (ga.any hb) hN hS hM).mono fun e w' ⟨v, h1, h2, h3⟩ => ?_
      obtain ⟨p, c, hv⟩ := h2.out.slc
      subst hv
      rw [← hLe] at h1 h2
      exact ⟨p, c, h1, edc_of h2.out, h3⟩
    · have hS2 : Short (moreG g r ru c cn t).rules := fun q hq d hd => by
        have := moreD_mem hr hc (by unfold reachBytes; omega) (fun q hq d hd => (gz.2.2 q hq).2 d hd) q hq d hd
        unfold reachBytes at this; omega
      cases hM2 : mayG (moreG g r ru c cn t) with
      | false => exact Or.inl fun o1 o2 w hg => ⟨edges_no (moreG g r ru c cn t) o1 o2 w hg hN hS2 hM2, mayD_of (moreG g r ru c cn t) o1 o2 w hg hN hM2⟩
      | true =>
        obtain ⟨p, hp⟩ := more_pos hr hc (t := (t : Int)) (by omega)
        rw [← hLe] at hp
        refine Or.inr ⟨_, p, hp, fun o1 o2 w hg => ?_⟩
        refine (edges_ok (moreG g r ru c cn t) o1 o2 w hg hN hS2 hM2).mono fun e w' ⟨v, h1, h2, h3⟩ => ?_
        obtain ⟨p', c', hv⟩ := h2.out.slc
        subst hv
        refine ⟨p', c', h1, edc_of h2.out, fun w2 hb => ?_, h3⟩
        have h9 := has_any _ _ (ru.head, (t : Int), cn.neg) w2 (h2.out.any hb) (edgesM_len hM2)
        rw [decide_eq_true hp.mem] at h9
        exact h9

set_option linter.unusedVariables false
theorem dependsMore_own : ownKnob Try.prog.godebug = none := by kernel_rfl
set_option maxRecDepth 100000 in
theorem dependsMore_lifted (os : Os) (started : os.Started) (H : Type) (enc : TypeId × Value → H) :
    ReturnsInHanded {} Try.checked os 3 .any (Rows.dependsMoreSpec.pre6 enc Try.prog Try.f3 Rows.dependsMoreRow.domain false) (Rows.dependsMoreSpec.post enc Try.prog Try.f3 false true false false) := by
  refine returnsInHanded_of_change_sized (C := Try.checked) dependsMore_own started (by kernel_rfl) Try.func3
    (ChangeSpec.witness6 (enc := enc) (C := Try.checked) false ⟨#[], #[.agg #[.int .i64 0, .slice none 0 0, .slice none 0 0], .int .i64 0, .int .i64 0, .int .i64 0], []⟩ 8 (by kernel_rfl) (by kernel_rfl) (by kernel_rfl) (by kernel_rfl)) ?_
  intro W base args ds gs before hval0 hW hcnd hsz0 _
  have hsz : (DataW.weightsEach Try.prog (Try.f3.params.toList ++ Rows.dependsMoreSpec.plain.varTypes Try.prog) (ds ++ gs)).all (· ≤ reachBytes) = true := hsz0
  have hval : ∀ (j : Nat) t v, Try.f3.params[j]? = some t → args[j]? = some v → Value.okWide Try.prog W .any base t v := hval0
  have hW' := hW
  obtain ⟨p, q, hA0, hV, rfl, hfz, hnd⟩ := hW
  have hA : DataW.TrodAll enc Try.prog W 0 (fun _ => true) true Try.f3.params.toList args.toList ds p := hA0
  rw [Try.params3] at hA hval hsz
  obtain ⟨v0, vs0, d0, ds0, p0, q0, hargs, rfl, rfl, h0, r0⟩ := trodAll_cons hA
  obtain ⟨v1, vs1, d1, ds1, p1, q1, rfl, rfl, rfl, h1, r1⟩ := trodAll_cons r0
  obtain ⟨v2, vs2, d2, ds2, p2, q2, rfl, rfl, rfl, h2, r2⟩ := trodAll_cons r1
  obtain ⟨v3, vs3, d3, ds3, p3, q3, rfl, rfl, rfl, h3, r3⟩ := trodAll_cons r2
  obtain ⟨rfl, rfl, rfl⟩ := trodAll_nil r3
  obtain rfl : args = #[v0, v1, v2, v3] := by cases args; simp_all
  obtain ⟨rfl, rfl⟩ := trodVars_none hV
  clear hA0 hval0 hsz0
  have k0 := h0
  have lt0 : ∀ x ∈ p0, x.block < W.heap.size := fun x hx => by have := hW'.lt x (by simp [hx]); simpa using this
  have k1 := h1
  have lt1 : ∀ x ∈ p1, x.block < W.heap.size := fun x hx => by have := hW'.lt x (by simp [hx]); simpa using this
  have k2 := h2
  have lt2 : ∀ x ∈ p2, x.block < W.heap.size := fun x hx => by have := hW'.lt x (by simp [hx]); simpa using this
  have k3 := h3
  have lt3 : ∀ x ∈ p3, x.block < W.heap.size := fun x hx => by have := hW'.lt x (by simp [hx]); simpa using this
  obtain ⟨cs0, rfl, op0⟩ := open_agg (j := 0) Try.structGr (hval 0 25 v0 rfl rfl) h0 (fun b o hm => hfz b o (by simp [hm])) hsz rfl rfl
  obtain ⟨g0, ga0, gb0, rfl, gi0, gn0, gs0, w0⟩ := op_gramZ op0
  obtain ⟨a1, rfl, rfl, rfl, w1⟩ := open_int Try.underlying3 (hval 1 3 v1 rfl rfl) h1
  obtain ⟨a2, rfl, rfl, rfl, w2⟩ := open_int Try.underlying3 (hval 2 3 v2 rfl rfl) h2
  obtain ⟨a3, rfl, rfl, rfl, w3⟩ := open_int Try.underlying3 (hval 3 3 v3 rfl rfl) h3
  refine (dependsMore_walk W g0 ga0 gb0 gi0 gn0 gs0 w0 a1 w1 a2 w2 a3 w3).mono fun e W' ⟨he, bel⟩ => ?_
  subst he
  exact ⟨_, rfl, _, _, _, [], _, [], hW', trodAll_mk1 (shut_bool Try.underlying4 _), (trodAll_cons_mk (Below.trod Try.laidOutB (by kernel_rfl) (of_decide_eq_true (by kernel_rfl)) k0 bel lt0) (trodAll_cons_mk (Below.trod Try.laidOutB (by kernel_rfl) (of_decide_eq_true (by kernel_rfl)) k1 bel lt1) (trodAll_cons_mk (Below.trod Try.laidOutB (by kernel_rfl) (of_decide_eq_true (by kernel_rfl)) k2 bel lt2) (trodAll_cons_mk (Below.trod Try.laidOutB (by kernel_rfl) (of_decide_eq_true (by kernel_rfl)) k3 bel lt3) trodAll_mk0)))), rfl, bel.frame _, fun h => by cases h⟩

set_option maxHeartbeats 8000000 in
theorem dependsMore_closed : joinedFacts Try.checked.prog 3 Try.f3 Rows.dependsMoreSpec Rows.dependsMoreRow = true := by
  unfold joinedFacts
  iterate 31 (refine and_ok ?_ ?_)
  all_goals first | (with_reducible exact enter_ok) | (rw [lifts_no]; rfl) | (rw [make_cut]; rfl) | as_aux_lemma => kernel_rfl
theorem dependsMore_holds : Rows.DependsMoreSaid :=
  OpenClaim.holds_of_wide 3 Try.f3 rfl rfl rfl rfl rfl rfl rfl ⟨rfl, rfl, rfl, rfl, rfl⟩ rfl rfl rfl rfl rfl (by kernel_rfl) Try.func3 dependsMore_closed
    (of_decide_eq_true (by kernel_rfl)) (by unfold Func.isWrapper; first | (rw [if_pos (by decide +kernel)]; kernel_rfl) | (rw [if_neg (by decide +kernel)]; exact ⟨rfl, rfl⟩))
    (fun os started H enc _ => dependsMore_lifted os started H enc)
#print axioms dependsMore_holds
end Go.Proofs.Ytdoibpgkfdpbdaa
