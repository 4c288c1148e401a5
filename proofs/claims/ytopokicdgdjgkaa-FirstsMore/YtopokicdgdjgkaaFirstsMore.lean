/- FirstsMore: a conjunct more, negated or not, takes nothing away: at every argument, with no condition. -/
import Derived.Test.YtopokicdgdjgkaaFirstsMoreW
import Derived.Test.YtopokicdgdjgkaaGs
namespace Go.Proofs.Ytopokicdgdjgkaa
set_option linter.unusedVariables false
open Go.ChangeShapes Go.WideShapes Go.ChangeAt Go.RowKit

theorem op_con {H : Type} {enc : TypeId × Value → H} {W : World} {R : Nat} {cs : List Value} (h : Op enc Try.prog W R 30 cs) : ∃ (c : Cn) (v : Value), cs = [.bool c.neg, v] ∧ IsSys W Any v c.seq ∧ c.seq.length * 24 ≤ R := by
  obtain ⟨⟨c, v⟩, h1, h2, h3⟩ := op_cn h
  exact ⟨c, v, h1, h2, h3⟩
theorem moC1_of (g : Gr) (v1 v2 : Value) (w : World) (hg : GrIs w Any v1 v2 g) (hn : ∀ s, s ∈ g.names → s.size ≤ maxLen) (hS : Short g.rules) (hM : mayG g = true) : MoC1 g.names.length g g.start v1 v2 w :=
  ⟨(empty_ok g v1 v2 w hg hn hS hM).mono fun e w' ⟨eb, E, h1, _, h3, h4, h5⟩ => ⟨eb, E, h1, h3, h4, h5⟩,
   (fst_ok g v1 v2 w hg hn hS hM).mono fun e w' ⟨eb, E, B, h1, _, h3, h4, h5⟩ => ⟨eb, E, B, h1, h3, h4, h5⟩,
   (follow_ok g v1 v2 w hg hn hS hM).mono fun e w' ⟨eb, E, B, D, h1, _, h3, h4, h5, h6⟩ => ⟨eb, E, B, D, h1, h3, h4, h5, h6⟩⟩
theorem may_of (g : Gr) (v1 v2 : Value) (w : World) (hg : GrIs w Any v1 v2 g) (hn : ∀ s, s ∈ g.names → s.size ≤ maxLen) {b : Bool} (hM : mayG g = b) : Calls Try.prog 15 #[.agg #[.int .i64 g.start, v1, v2]] w fun e w' => e = .returned (.bool b) ∧ Hid (Below w.heap.size w w') := by
  have h := mayG_ref g v1 v2 w hg hn
  rw [refMay_eq, hM] at h
  exact h.mono fun e w' h => ⟨h.1, h.2⟩
theorem firstsMore_walk (W : World) (g : Gr) (v1 v2 : Value) (ga : GrIs W Any v1 v2 g) (gn : ∀ s, s ∈ g.names → s.size ≤ maxLen ∧ s.size ≤ reachBytes) (gz : g.names.length * 16 ≤ reachBytes ∧ g.rules.length * 32 ≤ reachBytes ∧ ∀ r, r ∈ g.rules → r.conj.length * 32 ≤ reachBytes ∧ ∀ c, c ∈ r.conj → c.seq.length * 24 ≤ reachBytes) (w0 : (Lit.int .i64 g.start).wf = true)
    (ru : Int) (w1 : (Lit.int .i64 ru).wf = true) (c : Cn) (cv : Value) (ci : IsSys W Any cv c.seq) (cz : c.seq.length * 24 ≤ reachBytes) :
    Calls Try.prog 6 #[.agg #[.int .i64 g.start, v1, v2], .int .i64 ru, .agg #[.bool c.neg, cv]] W fun e W' => e = .returned (.bool true) ∧ Below W.heap.size W W' := by
  have hS : Short g.rules := fun r hr c hc => by have := (gz.2.2 r hr).2 c hc; unfold reachBytes at this; omega
  have hN : ∀ s, s ∈ g.names → s.size ≤ maxLen := fun s h => (gn s h).1
  have gz' : GSz reachBytes g := gz
  obtain ⟨p1, l1, hv1⟩ : ∃ p c, v1 = .slice p g.names.length c := by obtain ⟨p, c, e, _⟩ := ga.1; exact ⟨_, _, e⟩
  obtain ⟨p2, l2, hv2⟩ := ga.2.slc
  obtain ⟨p3, l3, hv3⟩ := ci.slc
  refine firstsMore_core W g c v1 v2 cv ru g.names.length rfl (p1, l1) (p2, g.rules.length, l2) (p3, c.seq.length, l3) hv1 hv2 hv3 ci gz.2.1 (fun r hr => (gz.2.2 r hr).1)
    (fun w hb => (copyGr_sep g v1 v2 w (ga.any hb) gz').mono fun e w' ⟨u1, u2, h1, _, h3, h4⟩ => ⟨u1, u2, h1, h3, h4⟩) (fun k r hr => ?_)
  have hS2 : Short (moreG g k r c).rules := fun q hq d hd => by
    obtain ⟨q', h1, h2⟩ := more_mem (c := c) hr hq
    rcases h2 d hd with h3 | h3
    · exact hS q' h1 d h3
    · subst h3; unfold reachBytes at cz; omega
  cases hM : mayG g with
  | false =>
    refine Or.inl ⟨fun w hb => empty_no g v1 v2 w (ga.any hb) hN hS hM, fun w hb => may_of g v1 v2 w (ga.any hb) hN hM, fun o1 o2 w hg => ?_⟩
    cases hM2 : mayG (moreG g k r c) with
    | false => exact (empty_no (moreG g k r c) o1 o2 w hg hN hS2 hM2).mono fun e w' ⟨h1, h2⟩ => ⟨_, _, h1, h2⟩
    | true => exact (empty_ok (moreG g k r c) o1 o2 w hg hN hS2 hM2).mono fun e w' ⟨eb, E, h1, _, _, _, h2⟩ => ⟨_, _, h1, h2⟩
  | true =>
    cases hM2 : mayG (moreG g k r c) with
    | false =>
      exact Or.inr (Or.inl ⟨fun w hb => (empty_ok g v1 v2 w (ga.any hb) hN hS hM).mono fun e w' ⟨eb, E, h1, _, _, _, h2⟩ => ⟨_, h1, h2⟩, fun w hb => may_of g v1 v2 w (ga.any hb) hN hM,
        fun o1 o2 w hg => empty_no (moreG g k r c) o1 o2 w hg hN hS2 hM2, fun o1 o2 w hg => may_of (moreG g k r c) o1 o2 w hg hN hM2⟩)
    | true =>
      obtain ⟨q1, -⟩ := may_partsY hM
      have hn64 : g.names.length ≤ 64 := by unfold mayNames at q1; simp only [Bool.and_eq_true, decide_eq_true_eq] at q1; omega
      exact Or.inr (Or.inr ⟨hn64, fun w hb => moC1_of g v1 v2 w (ga.any hb) hN hS hM, fun o1 o2 w hg => moC1_of (moreG g k r c) o1 o2 w hg hN hS2 hM2⟩)

set_option linter.unusedVariables false
theorem firstsMore_own : ownKnob Try.prog.godebug = none := by kernel_rfl
set_option maxRecDepth 100000 in
theorem firstsMore_lifted (os : Os) (started : os.Started) (H : Type) (enc : TypeId × Value → H) :
    ReturnsInHanded {} Try.checked os 6 .any (Rows.firstsMoreSpec.pre6 enc Try.prog Try.f6 Rows.firstsMoreRow.domain false) (Rows.firstsMoreSpec.post enc Try.prog Try.f6 false true false false) := by
  refine returnsInHanded_of_change_sized (C := Try.checked) firstsMore_own started (by kernel_rfl) Try.func6
    (ChangeSpec.witness6 (enc := enc) (C := Try.checked) false ⟨#[], #[.agg #[.int .i64 0, .slice none 0 0, .slice none 0 0], .int .i64 0, .agg #[.bool false, .slice none 0 0]], []⟩ 8 (by kernel_rfl) (by kernel_rfl) (by kernel_rfl) (by kernel_rfl)) ?_
  intro W base args ds gs before hval0 hW hcnd hsz0 _
  have hsz : (DataW.weightsEach Try.prog (Try.f6.params.toList ++ Rows.firstsMoreSpec.plain.varTypes Try.prog) (ds ++ gs)).all (· ≤ reachBytes) = true := hsz0
  have hval : ∀ (j : Nat) t v, Try.f6.params[j]? = some t → args[j]? = some v → Value.okWide Try.prog W .any base t v := hval0
  have hW' := hW
  obtain ⟨p, q, hA0, hV, rfl, hfz, hnd⟩ := hW
  have hA : DataW.TrodAll enc Try.prog W 0 (fun _ => true) true Try.f6.params.toList args.toList ds p := hA0
  rw [Try.params6] at hA hval hsz
  obtain ⟨v0, vs0, d0, ds0, p0, q0, hargs, rfl, rfl, h0, r0⟩ := trodAll_cons hA
  obtain ⟨v1, vs1, d1, ds1, p1, q1, rfl, rfl, rfl, h1, r1⟩ := trodAll_cons r0
  obtain ⟨v2, vs2, d2, ds2, p2, q2, rfl, rfl, rfl, h2, r2⟩ := trodAll_cons r1
  obtain ⟨rfl, rfl, rfl⟩ := trodAll_nil r2
  obtain rfl : args = #[v0, v1, v2] := by cases args; simp_all
  obtain ⟨rfl, rfl⟩ := trodVars_none hV
  clear hA0 hval0 hsz0
  have k0 := h0
  have lt0 : ∀ x ∈ p0, x.block < W.heap.size := fun x hx => by have := hW'.lt x (by simp [hx]); simpa using this
  have k1 := h1
  have lt1 : ∀ x ∈ p1, x.block < W.heap.size := fun x hx => by have := hW'.lt x (by simp [hx]); simpa using this
  have k2 := h2
  have lt2 : ∀ x ∈ p2, x.block < W.heap.size := fun x hx => by have := hW'.lt x (by simp [hx]); simpa using this
  obtain ⟨cs0, rfl, op0⟩ := open_agg (j := 0) Try.structGr (hval 0 27 v0 rfl rfl) h0 (fun b o hm => hfz b o (by simp [hm])) hsz rfl rfl
  obtain ⟨g0, ga0, gb0, rfl, gi0, gn0, gs0, w0⟩ := op_gramZ op0
  obtain ⟨a1, rfl, rfl, rfl, w1⟩ := open_int Try.underlying3 (hval 1 3 v1 rfl rfl) h1
  obtain ⟨cs2, rfl, op2⟩ := open_agg (j := 2) Try.structCn (hval 2 30 v2 rfl rfl) h2 (fun b o hm => hfz b o (by simp [hm])) hsz rfl rfl
  obtain ⟨c2, cv2, rfl, ci2, cz2⟩ := op_con op2
  refine (firstsMore_walk W g0 ga0 gb0 gi0 gn0 gs0 w0 a1 w1 c2 cv2 ci2 cz2).mono fun e W' ⟨he, bel⟩ => ?_
  subst he
  exact ⟨_, rfl, _, _, _, [], _, [], hW', trodAll_mk1 (shut_bool Try.underlying4 _), (trodAll_cons_mk (Below.trod Try.laidOutB (by kernel_rfl) (of_decide_eq_true (by kernel_rfl)) k0 bel lt0) (trodAll_cons_mk (Below.trod Try.laidOutB (by kernel_rfl) (of_decide_eq_true (by kernel_rfl)) k1 bel lt1) (trodAll_cons_mk (Below.trod Try.laidOutB (by kernel_rfl) (of_decide_eq_true (by kernel_rfl)) k2 bel lt2) trodAll_mk0))), rfl, bel.frame _, fun h => by cases h⟩

set_option maxHeartbeats 8000000 in
theorem firstsMore_closed : joinedFacts Try.checked.prog 6 Try.f6 Rows.firstsMoreSpec Rows.firstsMoreRow = true := by
  unfold joinedFacts
  iterate 31 (refine and_ok ?_ ?_)
  all_goals first | (with_reducible exact enter_ok) | (rw [lifts_no]; rfl) | (rw [make_cut]; rfl) | as_aux_lemma => kernel_rfl
theorem firstsMore_holds : Rows.FirstsMoreSaid :=
  OpenClaim.holds_of_wide 6 Try.f6 rfl rfl rfl rfl rfl rfl rfl ⟨rfl, rfl, rfl, rfl, rfl⟩ rfl rfl rfl rfl rfl (by kernel_rfl) Try.func6 firstsMore_closed
    (of_decide_eq_true (by kernel_rfl)) (by unfold Func.isWrapper; first | (rw [if_pos (by decide +kernel)]; kernel_rfl) | (rw [if_neg (by decide +kernel)]; exact ⟨rfl, rfl⟩))
    (fun os started H enc _ => firstsMore_lifted os started H enc)
#print axioms firstsMore_holds
end Go.Proofs.Ytopokicdgdjgkaa
