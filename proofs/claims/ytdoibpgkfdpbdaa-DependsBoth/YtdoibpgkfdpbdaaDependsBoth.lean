/- DependsBoth: two grammars, one behind the other, have both's edges: at every argument that memory holds, with no other condition. -/
import Derived.Test.YtdoibpgkfdpbdaaDependsBothW
import Derived.Test.YtdoibpgkfdpbdaaCopyD
import Derived.Test.YtdoibpgkfdpbdaaDepSame
import Derived.Test.YtdoibpgkfdpbdaaBinY0
import Derived.Test.YtdoibpgkfdpbdaaGramOpen
import Derived.Test.YtdoibpgkfdpbdaaLawOpen
namespace Go.Proofs.Ytdoibpgkfdpbdaa
set_option linter.unusedVariables false
open Go.ChangeShapes Go.WideShapes Go.ChangeAt Go.RowKit

theorem edgesO_len {g : Gr} (h : mayG g = true) : (edgesT g).length ≤ 1024 := by
  have h1 := allE_pre h g.rules.length
  rw [List.take_length] at h1
  have h2 := addAll_len (allE g.rules) []
  have h3 := (sort_perm (addAll [] (allE g.rules))).length_eq
  unfold edgesT
  simp only [List.length_nil] at h2
  omega
theorem edgesO_in {g : Gr} (h : mayG g = true) : ∀ e, e ∈ edgesT g → 0 ≤ e.1 ∧ e.1 < 64 ∧ 0 ≤ e.2.1 ∧ e.2.1 < 64 := fun e he => by
  rw [mem_edgesT, mem_allE] at he
  obtain ⟨r, hr, h1⟩ := he
  rw [mem_cnsE] at h1
  obtain ⟨c, hc, h1⟩ := h1
  rw [mem_seqE] at h1
  obtain ⟨a1, a2, s, hs, a3, a4⟩ := h1
  have := mayG_head h r hr
  have := mayG_sym h r hr c hc s hs
  have := mayG_names h
  omega
theorem edgesO_ey (g : Gr) (v1 v2 : Value) (W : World) (hg : GrIs W Any v1 v2 g) (hn : ∀ s, s ∈ g.names → s.size ≤ maxLen) (hS : Short g.rules) (hM : mayG g = true) {L : List Ed} (hL : edgesT g = L) : EyO W g.start v1 v2 L := fun w hb => by
  subst hL
  refine (edges_ok g v1 v2 w (hg.any hb) hn hS hM).mono fun e w' ⟨v, h1, h2, h3⟩ => ?_
  obtain ⟨p, c, hv⟩ := h2.out.slc
  subst hv
  refine ⟨p, c, h1, ?_, h3⟩
  have h9 := h2.out
  exact Reads.keep h9 ⟨Nat.le_refl _, fun _ _ => rfl⟩ (fun _ _ => trivial)
theorem edgesO_ea (g : Gr) (v1 v2 : Value) (W : World) (hg : GrIs W Any v1 v2 g) (hn : ∀ s, s ∈ g.names → s.size ≤ maxLen) (hS : Short g.rules) : EaO W g.start v1 v2 := fun w hb => by
  cases hM : mayG g with
  | false => exact (edges_no g v1 v2 w (hg.any hb) hn hS hM).mono fun e w' ⟨h1, h2⟩ => ⟨_, _, _, _, h1, h2⟩
  | true =>
    refine (edges_ok g v1 v2 w (hg.any hb) hn hS hM).mono fun e w' ⟨v, h1, h2, h3⟩ => ?_
    obtain ⟨p, c, hv⟩ := h2.out.slc
    subst hv
    exact ⟨_, _, _, _, h1, h3⟩
theorem shortO {g h : Gr} (hg : Short g.rules) (hh : Short h.rules) : Short (bothG g h).rules := fun r hr c hc => by
  rcases List.mem_append.1 hr with hr | hr
  · exact hg r hr c hc
  · obtain ⟨q, hq, rfl⟩ := List.mem_map.1 hr
    obtain ⟨d, hd, rfl⟩ := List.mem_map.1 hc
    have := hh q hq d hd
    show (List.map _ _).length ≤ _
    rw [List.length_map]; exact this
theorem namesO (g h : Gr) : ∀ s, s ∈ (bothG g h).names → s.size ≤ maxLen := fun s hs => by
  rcases List.mem_append.1 hs with hs | hs
  all_goals
    obtain ⟨i, _, rfl⟩ := List.mem_map.1 hs
    have := dec_sizeO i
    rw [ByteArray.size_append]
    unfold maxLen
    have e : ∀ b : UInt8, (ByteArray.mk #[b]).size = 1 := fun b => rfl
    rw [e]
    omega
theorem dependsBoth_walk (W : World) (g : Gr) (v1 v2 : Value) (ga : GrIs W Any v1 v2 g) (gn : ∀ s, s ∈ g.names → s.size ≤ maxLen ∧ s.size ≤ reachBytes) (gz : g.names.length * 16 ≤ reachBytes ∧ g.rules.length * 32 ≤ reachBytes ∧ ∀ r, r ∈ g.rules → r.conj.length * 32 ≤ reachBytes ∧ ∀ c, c ∈ r.conj → c.seq.length * 24 ≤ reachBytes) (w0 : (Lit.int .i64 g.start).wf = true)
    (h : Gr) (u1 u2 : Value) (ha : GrIs W Any u1 u2 h) (hn : ∀ s, s ∈ h.names → s.size ≤ maxLen ∧ s.size ≤ reachBytes) (hz : h.names.length * 16 ≤ reachBytes ∧ h.rules.length * 32 ≤ reachBytes ∧ ∀ r, r ∈ h.rules → r.conj.length * 32 ≤ reachBytes ∧ ∀ c, c ∈ r.conj → c.seq.length * 24 ≤ reachBytes) (w1 : (Lit.int .i64 h.start).wf = true) :
    Calls Try.prog 4 #[.agg #[.int .i64 g.start, v1, v2], .agg #[.int .i64 h.start, u1, u2]] W fun e W' => e = .returned (.bool true) ∧ Below W.heap.size W W' := by
  have hS : Short g.rules := fun r hr c hc => by have := (gz.2.2 r hr).2 c hc; unfold reachBytes at this; omega
  have hS2 : Short h.rules := fun r hr c hc => by have := (hz.2.2 r hr).2 c hc; unfold reachBytes at this; omega
  have hN : ∀ s, s ∈ g.names → s.size ≤ maxLen := fun s h => (gn s h).1
  have hN2 : ∀ s, s ∈ h.names → s.size ≤ maxLen := fun s h => (hn s h).1
  have gz' : GSz reachBytes g := gz
  have hz' : GSz reachBytes h := hz
  obtain ⟨p1, l1, hv1⟩ : ∃ p c, v1 = .slice p g.names.length c := by obtain ⟨p, c, e, _⟩ := ga.1; exact ⟨_, _, e⟩
  obtain ⟨p2, l2, hv2⟩ := ga.2.slc
  obtain ⟨p3, l3, hv3⟩ : ∃ p c, u1 = .slice p h.names.length c := by obtain ⟨p, c, e, _⟩ := ha.1; exact ⟨_, _, e⟩
  obtain ⟨p4, l4, hv4⟩ := ha.2.slc
  refine dependsBoth_core W g h v1 v2 u1 u2 _ _ _ _ rfl rfl rfl rfl (p1, l1) (p2, l2) (p3, l3) (p4, l4) hv1 hv2 hv3 hv4 (edgesT g) (edgesT h) (fun w => (awake6_any w).mono fun e w' h => ⟨h.1, h.2⟩)
    (fun w hb => (copyGr_deep g v1 v2 w (ga.any hb) gz').mono fun e w' ⟨u1, u2, h1, _, h3, h4⟩ => ⟨u1, u2, h1, h3, h4⟩)
    (fun w hb => (copyGr_deep h u1 u2 w (ha.any hb) hz').mono fun e w' ⟨u1, u2, h1, _, h3, h4⟩ => ⟨u1, u2, h1, h3, h4⟩)
    (fun va vb l w h1 h2 h3 => sameEds_yes va vb l w h1 h2 h3) ?_
  cases hM : mayG g with
  | false => exact Or.inl ⟨fun w hb => edges_no g v1 v2 w (ga.any hb) hN hS hM, edgesO_ea h u1 u2 W ha hN2 hS2⟩
  | true =>
    cases hM2 : mayG h with
    | false => exact Or.inr (Or.inl ⟨edgesO_ey g v1 v2 W ga hN hS hM rfl, fun w hb => edges_no h u1 u2 w (ha.any hb) hN2 hS2 hM2⟩)
    | true =>
      obtain ⟨q1, -, -, q4, -⟩ := may_partsY hM
      obtain ⟨q6, -, -, q9, -⟩ := may_partsY hM2
      have n0 : 0 < g.names.length := by unfold mayNames at q1; simp only [Bool.and_eq_true, decide_eq_true_eq] at q1; omega
      have n1 : 0 < h.names.length := by unfold mayNames at q6; simp only [Bool.and_eq_true, decide_eq_true_eq] at q6; omega
      have n2 := mayG_names hM
      have n3 := mayG_names hM2
      have e1 := edgesO_len hM
      have e2 := edgesO_len hM2
      refine Or.inr (Or.inr ⟨edgesO_ey g v1 v2 W ga hN hS hM rfl, edgesO_ey h u1 u2 W ha hN2 hS2 hM2 rfl, ⟨⟨n0, n2, n3, n1, q4.2, q9.2, by omega, by omega⟩, fun r hr => ?_, edgesO_in hM2⟩, fun _ _ => ?_⟩)
      · have b1 := mayG_head hM2 r hr
        refine ⟨b1.1, by omega, mayG_conj hM2 r hr, fun c hc => ⟨mayG_seq hM2 r hr c hc, fun s hs => ?_⟩⟩
        have b2 := mayG_sym hM2 r hr c hc s hs
        omega
      · cases hM3 : mayG (bothG g h) with
        | false => exact Or.inl fun o1 o2 w hg w' hb => edges_no (bothG g h) o1 o2 w' (hg.any hb) (namesO g h) (shortO hS hS2) hM3
        | true => exact Or.inr fun o1 o2 w hg => edgesO_ey (bothG g h) o1 o2 w hg (namesO g h) (shortO hS hS2) hM3 (both_edges hM hM2)

set_option linter.unusedVariables false
theorem dependsBoth_own : ownKnob Try.prog.godebug = none := by kernel_rfl
set_option maxRecDepth 100000 in
theorem dependsBoth_lifted (os : Os) (started : os.Started) (H : Type) (enc : TypeId × Value → H) :
    ReturnsInHanded {} Try.checked os 4 .any (Rows.dependsBothSpec.pre6 enc Try.prog Try.f4 Rows.dependsBothRow.domain false) (Rows.dependsBothSpec.post enc Try.prog Try.f4 false true false false) := by
  refine returnsInHanded_of_change_sized (C := Try.checked) dependsBoth_own started (by kernel_rfl) Try.func4
    (ChangeSpec.witness6 (enc := enc) (C := Try.checked) false ⟨#[], #[.agg #[.int .i64 0, .slice none 0 0, .slice none 0 0], .agg #[.int .i64 0, .slice none 0 0, .slice none 0 0]], []⟩ 8 (by kernel_rfl) (by kernel_rfl) (by kernel_rfl) (by kernel_rfl)) ?_
  intro W base args ds gs before hval0 hW hcnd hsz0 _
  have hsz : (DataW.weightsEach Try.prog (Try.f4.params.toList ++ Rows.dependsBothSpec.plain.varTypes Try.prog) (ds ++ gs)).all (· ≤ reachBytes) = true := hsz0
  have hval : ∀ (j : Nat) t v, Try.f4.params[j]? = some t → args[j]? = some v → Value.okWide Try.prog W .any base t v := hval0
  have hW' := hW
  obtain ⟨p, q, hA0, hV, rfl, hfz, hnd⟩ := hW
  have hA : DataW.TrodAll enc Try.prog W 0 (fun _ => true) true Try.f4.params.toList args.toList ds p := hA0
  rw [Try.params4] at hA hval hsz
  obtain ⟨v0, vs0, d0, ds0, p0, q0, hargs, rfl, rfl, h0, r0⟩ := trodAll_cons hA
  obtain ⟨v1, vs1, d1, ds1, p1, q1, rfl, rfl, rfl, h1, r1⟩ := trodAll_cons r0
  obtain ⟨rfl, rfl, rfl⟩ := trodAll_nil r1
  obtain rfl : args = #[v0, v1] := by cases args; simp_all
  obtain ⟨rfl, rfl⟩ := trodVars_none hV
  clear hA0 hval0 hsz0
  have k0 := h0
  have lt0 : ∀ x ∈ p0, x.block < W.heap.size := fun x hx => by have := hW'.lt x (by simp [hx]); simpa using this
  have k1 := h1
  have lt1 : ∀ x ∈ p1, x.block < W.heap.size := fun x hx => by have := hW'.lt x (by simp [hx]); simpa using this
  obtain ⟨cs0, rfl, op0⟩ := open_agg (j := 0) Try.structGr (hval 0 25 v0 rfl rfl) h0 (fun b o hm => hfz b o (by simp [hm])) hsz rfl rfl
  obtain ⟨g0, ga0, gb0, rfl, gi0, gn0, gs0, w0⟩ := op_gramZ op0
  obtain ⟨cs1, rfl, op1⟩ := open_agg (j := 1) Try.structGr (hval 1 25 v1 rfl rfl) h1 (fun b o hm => hfz b o (by simp [hm])) hsz rfl rfl
  obtain ⟨g1, ga1, gb1, rfl, gi1, gn1, gs1, w1⟩ := op_gramZ op1
  refine (dependsBoth_walk W g0 ga0 gb0 gi0 gn0 gs0 w0 g1 ga1 gb1 gi1 gn1 gs1 w1).mono fun e W' ⟨he, bel⟩ => ?_
  subst he
  exact ⟨_, rfl, _, _, _, [], _, [], hW', trodAll_mk1 (shut_bool Try.underlying4 _), (trodAll_cons_mk (Below.trod Try.laidOutB (by kernel_rfl) (of_decide_eq_true (by kernel_rfl)) k0 bel lt0) (trodAll_cons_mk (Below.trod Try.laidOutB (by kernel_rfl) (of_decide_eq_true (by kernel_rfl)) k1 bel lt1) trodAll_mk0)), rfl, bel.frame _, fun h => by cases h⟩

set_option maxHeartbeats 8000000 in
theorem dependsBoth_closed : joinedFacts Try.checked.prog 4 Try.f4 Rows.dependsBothSpec Rows.dependsBothRow = true := by
  unfold joinedFacts
  iterate 31 (refine and_ok ?_ ?_)
  all_goals first | (with_reducible exact enter_ok) | (rw [lifts_no]; rfl) | (rw [make_cut]; rfl) | as_aux_lemma => kernel_rfl
theorem dependsBoth_holds : Rows.DependsBothSaid :=
  OpenClaim.holds_of_wide 4 Try.f4 rfl rfl rfl rfl rfl rfl rfl ⟨rfl, rfl, rfl, rfl, rfl⟩ rfl rfl rfl rfl rfl (by kernel_rfl) Try.func4 dependsBoth_closed
    (of_decide_eq_true (by kernel_rfl)) (by unfold Func.isWrapper; first | (rw [if_pos (by decide +kernel)]; kernel_rfl) | (rw [if_neg (by decide +kernel)]; exact ⟨rfl, rfl⟩))
    (fun os started H enc _ => dependsBoth_lifted os started H enc)
#print axioms dependsBoth_holds
end Go.Proofs.Ytdoibpgkfdpbdaa
