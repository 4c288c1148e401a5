/- BuildRows: names stand in the row of their definitions, rules in that of alternatives, texts are bytes one by one: at every argument that memory holds, with no other condition. -/
import Derived.Test.YtlgmnhgfcijafaaBrW
import Derived.Test.YtlgmnhgfcijafaaGramAwake
import Derived.Test.YtlgmnhgfcijafaaLawOpen
namespace Go.Proofs.Ytlgmnhgfcijafaa
set_option linter.unusedVariables false
set_option linter.unusedSimpArgs false
open Go.ChangeShapes Go.WideShapes Go.ChangeAt Go.RowKit

theorem nmQ_size : ∀ m, (nmQ m).size ≤ 20
  | 0 => by decide
  | 1 => by decide
  | _ + 2 => by show (1 : Nat) ≤ 20; decide
theorem sizedQ (T : ByteArray) (hT : T.size ≤ 20) {K : Nat → Nat} (hK : ∀ i, 1 ≤ K i ∧ K i ≤ 4) {s : Nat} : Sized (rawQ T K s) := by
  have hd : ∀ d, d ∈ (rawQ T K s).defs → ∃ i, d = defQ T i (K i) := fun d h => by
    have h' : d ∈ defsQ T K 3 := h
    unfold defsQ at h'
    obtain ⟨i, _, rfl⟩ := List.mem_map.1 h'
    exact ⟨i, rfl⟩
  have ha : ∀ i (a : List Cj), a ∈ (defQ T i (K i)).alts → ∃ j, a = altQ T i j := fun i a h => by
    have h' : a ∈ (List.range (K i)).map (altQ T i) := h
    obtain ⟨j, _, rfl⟩ := List.mem_map.1 h'
    exact ⟨j, rfl⟩
  refine ⟨fun d h1 a h2 c h3 x h4 => ?_, fun d h1 => ?_, fun x hx => ?_, ?_, ?_, fun d h1 a h2 => ?_⟩
  · obtain ⟨i, rfl⟩ := hd d h1
    obtain ⟨j, rfl⟩ := ha i a h2
    have h3' : c ∈ [(⟨ngQ j, itsQ T i j⟩ : Cj)] := h3
    rw [List.mem_singleton] at h3'
    subst h3'
    have h4' : x ∈ [(⟨1, T, 0, 0⟩ : It), ⟨0, nmQ ((i + j) % 3), 0, 0⟩, ⟨2, ⟨#[]⟩, (j : Int), 9⟩] := h4
    simp only [List.mem_cons, List.not_mem_nil, or_false] at h4'
    rcases h4' with rfl | rfl | rfl
    · show T.size ≤ _; omega
    · have := nmQ_size ((i + j) % 3); show (nmQ _).size ≤ _; omega
    · show (0 : Nat) ≤ _; omega
  · obtain ⟨i, rfl⟩ := hd d h1
    have := nmQ_size i
    show (nmQ i).size ≤ _
    omega
  · have hx' : x ∈ [nmQ s] := hx
    rw [List.mem_singleton] at hx'
    subst hx'
    have := nmQ_size s
    omega
  · show (3 : Nat) ≤ _; omega
  · show (rulesT nmsQ (defsQ T K 3)).length ≤ _
    rw [rulesQ T K hK]
    have := rusQ_len T hK 3
    omega
  · obtain ⟨i, rfl⟩ := hd d h1
    obtain ⟨j, rfl⟩ := ha i a h2
    show (1 : Nat) ≤ _; omega
theorem kQ_of {zs : List Int} {i : Nat} {z : Int} (h : zs[i]? = some z) : ∃ n : Nat, bits .and .i64 z 3 = (n : Int) ∧ n < 4 ∧ kQ zs i = 1 + n := by
  obtain ⟨n, h1, h2⟩ := and3B z
  refine ⟨n, h2, h1, ?_⟩
  unfold kQ
  rw [h]
  show 1 + (bits .and .i64 z 3).toNat = _
  rw [h2]
  rfl
theorem buildRows_walk (W : World) (v : Value) (zs : List Int) (row : IRow W v zs) (wz : ∀ z, z ∈ zs → (Lit.int .i64 z).wf = true) (hz : zs.length * 8 ≤ 140737488351232) (s : ByteArray) (hs : s.size ≤ 140737488351232) (a : Int) (wa : (Lit.int .i64 a).wf = true) :
    Calls Try.prog 3 #[v, .string s, .int .i64 a] W fun e W' => e = .returned (.bool true) ∧ Below W.heap.size W W' := by
  obtain ⟨pv, cv, hv⟩ : ∃ p c, v = .slice p zs.length c := by obtain ⟨p, c, e, _⟩ := row; exact ⟨p, c, e⟩
  subst hv
  obtain ⟨T, hT, hTs⟩ : ∃ T : ByteArray, T.size ≤ 20 ∧ ((20 < s.size ∧ T = s.extract 0 20) ∨ (¬ 20 < s.size ∧ T = s)) := by
    by_cases h : 20 < s.size
    · exact ⟨s.extract 0 20, by simp [ByteArray.size_extract]; omega, Or.inl ⟨h, rfl⟩⟩
    · exact ⟨s, by omega, Or.inr ⟨h, rfl⟩⟩
  refine buildRows_core W s hs a pv zs.length cv (kQ zs) (kQ_lim zs) hz T hT hTs (fun i hi w' hb => ?_) (fun i hi => ?_) (fun w => (awake4_any w).mono fun e w' h => ⟨h.1, h.2⟩) (fun V v1 v2 sx hsx h1 h2 => ?_) (fun g a1 a2 b1 b2 w h1 h2 => (sameGram_yes g a1 a2 b1 b2 w h1 h2).mono fun e w' h => ⟨h.1, h.2⟩)
  · obtain ⟨p, c, e, _, h⟩ := row.keep hb
    injection e with e1
    subst e1
    obtain ⟨z, hz⟩ : ∃ z, zs[i]? = some z := ⟨_, List.getElem?_eq_getElem hi⟩
    obtain ⟨g, o, e2, _, h2⟩ := h i z hz
    obtain ⟨n, k1, k2, k3⟩ := kQ_of hz
    exact ⟨g, o, z, n, e2, h2, k1, k2, k3⟩
  · unfold kQ
    rw [List.getElem?_eq_none (by omega)]
  · have h := build_any (rawQ T (kQ zs) sx) v1 v2 V h1 h2 (sizedQ T hT (kQ_lim zs))
    rw [buildQ T hT (kQ_lim zs) hsx] at h
    refine h.mono ?_
    rintro e w' ⟨p1, c1, p2, c2, F', rfl, hF, hg, hb⟩
    exact ⟨p1, c1, p2, c2, rfl, ⟨Reads.keep hg.1 ⟨Nat.le_refl _, fun _ _ => rfl⟩ (fun _ _ => trivial), hg.2.keep ⟨Nat.le_refl _, fun _ _ => rfl⟩ (fun _ _ => trivial)⟩, hb⟩

set_option linter.unusedVariables false
theorem buildRows_own : ownKnob Try.prog.godebug = none := by kernel_rfl
set_option maxRecDepth 100000 in
theorem buildRows_lifted (os : Os) (started : os.Started) (H : Type) (enc : TypeId × Value → H) :
    ReturnsInHanded {} Try.checked os 3 .any (Rows.buildRowsSpec.pre6 enc Try.prog Try.f3 Rows.buildRowsRow.domain false) (Rows.buildRowsSpec.post enc Try.prog Try.f3 false true false false) := by
  refine returnsInHanded_of_change_sized (C := Try.checked) buildRows_own started (by kernel_rfl) Try.func3
    (ChangeSpec.witness6 (enc := enc) (C := Try.checked) false ⟨#[], #[.slice none 0 0, .string ⟨#[]⟩, .int .i64 0], []⟩ 8 (by kernel_rfl) (by kernel_rfl) (by kernel_rfl) (by kernel_rfl)) ?_
  intro W base args ds gs before hval0 hW hcnd hsz0 _
  have hsz : (DataW.weightsEach Try.prog (Try.f3.params.toList ++ Rows.buildRowsSpec.plain.varTypes Try.prog) (ds ++ gs)).all (· ≤ reachBytes) = true := hsz0
  have hval : ∀ (j : Nat) t v, Try.f3.params[j]? = some t → args[j]? = some v → Value.okWide Try.prog W .any base t v := hval0
  have hW' := hW
  obtain ⟨p, q, hA0, hV, rfl, hfz, hnd⟩ := hW
  have hA : DataW.TrodAll enc Try.prog W 0 (fun _ => true) true Try.f3.params.toList args.toList ds p := hA0
  rw [Try.params3] at hA hval hsz
  obtain ⟨v0, vs0, d0, ds0, p0, q0, hargs, rfl, rfl, h0, r0⟩ := trodAll_cons hA
  obtain ⟨v1, vs1, d1, ds1, p1, q1, rfl, rfl, rfl, h1, r1⟩ := trodAll_cons r0
  obtain ⟨v2, vs2, d2, ds2, p2, q2, rfl, rfl, rfl, h2, r2⟩ := trodAll_cons r1
  obtain ⟨rfl, rfl, rfl⟩ := trodAll_nil r2
  obtain rfl : args = #[v0, v1, v2] := by cases args; simp_all
  obtain ⟨rfl, rfl⟩ := trodVars_none hV
  clear hA0 hval0 hsz0
  have k0 := h0
  have lt0 : ∀ x ∈ p0, x.block < W.heap.size := fun x hx => by have := hW'.lt x (by simp [hx]); simpa using this
  have k1 := h1
  have lt1 : ∀ x ∈ p1, x.block < W.heap.size := fun x hx => by have := hW'.lt x (by simp [hx]); simpa using this
  have k2 := h2
  have lt2 : ∀ x ∈ p2, x.block < W.heap.size := fun x hx => by have := hW'.lt x (by simp [hx]); simpa using this
  obtain ⟨zs0, row0, w0, hd0⟩ := open_irow Try.underlying22 (hval 0 22 v0 rfl rfl) h0
  have z0 := irow_reach hsz (j := 0) (t := 22) rfl rfl Try.underlying22 hd0
  obtain ⟨a1, rfl, rfl, rfl, -⟩ := ChangeMaps.open_string Try.underlying9 (hval 1 9 v1 rfl rfl) h1
  have w1 := str_reach hsz (j := 1) (t := 9) (s := a1) rfl rfl
  obtain ⟨a2, rfl, rfl, rfl, w2⟩ := open_int Try.underlying3 (hval 2 3 v2 rfl rfl) h2
  refine (buildRows_walk W v0 zs0 row0 w0 z0 a1 w1 a2 w2).mono fun e W' ⟨he, bel⟩ => ?_
  subst he
  exact ⟨_, rfl, _, _, _, [], _, [], hW', trodAll_mk1 (shut_bool Try.underlying4 _), (trodAll_cons_mk (Below.trod Try.laidOutB (by kernel_rfl) (of_decide_eq_true (by kernel_rfl)) k0 bel lt0) (trodAll_cons_mk (Below.trod Try.laidOutB (by kernel_rfl) (of_decide_eq_true (by kernel_rfl)) k1 bel lt1) (trodAll_cons_mk (Below.trod Try.laidOutB (by kernel_rfl) (of_decide_eq_true (by kernel_rfl)) k2 bel lt2) trodAll_mk0))), rfl, bel.frame _, fun h => by cases h⟩

set_option maxHeartbeats 8000000 in
theorem buildRows_closed : joinedFacts Try.checked.prog 3 Try.f3 Rows.buildRowsSpec Rows.buildRowsRow = true := by
  unfold joinedFacts
  iterate 31 (refine and_ok ?_ ?_)
  all_goals first | (with_reducible exact enter_ok) | (rw [lifts_no]; rfl) | (rw [make_cut]; rfl) | as_aux_lemma => kernel_rfl
theorem buildRows_holds : Rows.BuildRowsSaid :=
  OpenClaim.holds_of_wide 3 Try.f3 rfl rfl rfl rfl rfl rfl rfl ⟨rfl, rfl, rfl, rfl, rfl⟩ rfl rfl rfl rfl rfl (by kernel_rfl) Try.func3 buildRows_closed
    (of_decide_eq_true (by kernel_rfl)) (by unfold Func.isWrapper; first | (rw [if_pos (by decide +kernel)]; kernel_rfl) | (rw [if_neg (by decide +kernel)]; exact ⟨rfl, rfl⟩))
    (fun os started H enc _ => buildRows_lifted os started H enc)
#print axioms buildRows_holds
end Go.Proofs.Ytlgmnhgfcijafaa
