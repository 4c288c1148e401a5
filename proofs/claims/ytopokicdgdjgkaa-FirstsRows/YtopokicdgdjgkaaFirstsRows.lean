/- FirstsRows: a row of names begins with the bytes of those up to the first one that may not come to nothing; behind the last one, and behind the start, stands the end: at every argument that a machine can hold. -/
import Derived.Test.YtopokicdgdjgkaaFirstsRowsW
import Derived.Test.YtopokicdgdjgkaaGs
namespace Go.Proofs.Ytopokicdgdjgkaa
set_option linter.unusedVariables false
set_option linter.unusedSimpArgs false
open Go.ChangeShapes Go.WideShapes Go.ChangeAt Go.RowKit

theorem and1V (x : Int) : ∃ n : Nat, n < 2 ∧ bits .and .i64 x 1 = (n : Int) := by
  have h : (BitVec.ofInt 64 x &&& BitVec.ofInt 64 1).toNat < 2 := by
    rw [BitVec.toNat_and]
    exact Nat.lt_of_le_of_lt Nat.and_le_right (by decide)
  refine ⟨_, h, ?_⟩
  show IntKind.i64.wrap ((BitVec.ofInt 64 x &&& BitVec.ofInt 64 1).toNat : Int) = _
  generalize (BitVec.ofInt 64 x &&& BitVec.ofInt 64 1).toNat = n at h
  rw [IntKind.wrap_i64]; omega
def bitT (zs : List Int) (i : Nat) : Bool := match zs[i]? with
  | some z => decide (bits .and .i64 z 1 = 1)
  | none => false
theorem firstsRows_walk (W : World) (v : Value) (zs : List Int) (row : IRow W v zs) (_ : ∀ z ∈ zs, (Lit.int .i64 z).wf = true) (hz : zs.length * 8 ≤ 140737488351232) :
    Calls Try.prog 3 #[v] W fun e W' => e = .returned (.bool true) ∧ Below W.heap.size W W' := by
  obtain ⟨pv, cv, hv⟩ : ∃ p c, v = .slice p zs.length c := by obtain ⟨p, c, e, _⟩ := row; exact ⟨p, c, e⟩
  subst hv
  obtain ⟨k, hk⟩ : ∃ k, k = min zs.length 20 := ⟨_, rfl⟩
  have hk21 : k < 21 := by omega
  obtain ⟨T, hTe⟩ : ∃ T, T = bitT zs := ⟨_, rfl⟩
  have hM := gK_may T hk21
  have hS := gK_short T hk21
  have hn : ∀ s, s ∈ (gK T k).names → s.size ≤ maxLen := small_names (namesR_small k hk21)
  have hl : (gK T k).names.length = k + 1 := namesR_len k
  have hf := gK_fst T k
  refine firstsRows_core W pv zs.length cv T hz (fun i hi w' hb => ?_) k (k + 1) hk rfl (fun v1 v2 w hg => ?_) (fun v1 v2 w hg => ?_) (fun v1 v2 w hg => ?_)
  · obtain ⟨p, c, e, _, h⟩ := row.keep hb
    injection e with e1
    subst e1
    obtain ⟨z, hz⟩ : ∃ z, zs[i]? = some z := ⟨_, List.getElem?_eq_getElem hi⟩
    obtain ⟨g, o, e2, hg, h2⟩ := h i z hz
    refine ⟨g, o, z, e2, h2, hg, ?_⟩
    obtain ⟨n, hn, e3⟩ := and1V z
    have e4 : bitT zs i = decide (bits .and .i64 z 1 = 1) := by unfold bitT; rw [hz]
    rw [hTe, e4]
    by_cases h1 : bits .and .i64 z 1 = 1
    · rw [h1]; rfl
    · rw [decide_eq_false h1, if_neg (by decide), e3]
      rw [e3] at h1
      omega
  · refine (empty_ok (gK T k) v1 v2 w hg hn hS hM).mono ?_
    rintro e w' ⟨eb, E, h1, h2, h3, h4, h5⟩
    rw [emp_same h4.out hf.eo] at h3
    rw [hl] at h1 h3
    exact ⟨eb, h1, h3.out.cell (k := 0) (by omega), h5⟩
  · refine (fst_ok (gK T k) v1 v2 w hg hn hS hM).mono ?_
    rintro e w' ⟨bb, E, B, h1, h2, h3, h4, h5⟩
    obtain ⟨-, s1, s2⟩ := fst_same h4.out hf
    rw [hl] at h1 h3
    refine ⟨bb, h1, fun j hj => ?_, h5⟩
    have h6 := h3.out.cell (k := 0) (j := j) (by omega) hj
    rw [(s1 0).anti (s2 0) j hj, Nat.zero_mul, Nat.zero_add] at h6
    exact h6
  · refine (follow_ok (gK T k) v1 v2 w hg hn hS hM).mono ?_
    rintro e w' ⟨fb, E, B, D, h1, h2, h3, h4, h5, h6⟩
    obtain ⟨o1, o2, o3⟩ := h5.out
    obtain ⟨q1, q2, q3⟩ := gK_fol h4.out.ok o2 o3
    rw [hl] at h1 h3
    have c := fun i j hi hj => FoAt.cell (w := w') (b := fb) h3.out (i := i) (j := j) hi hj
    refine ⟨fb, h1, ⟨fun j hj => ?_, ?_, ?_⟩, h6⟩
    · have h7 := c 0 j (by omega) (by omega)
      rw [Nat.zero_mul, Nat.zero_add] at h7
      rw [h7]
      unfold foV
      rw [if_neg (by omega), q2 j hj]; rfl
    · have h7 := c 0 4 (by omega) (by omega)
      rw [Nat.zero_mul, Nat.zero_add] at h7
      rw [h7]
      show some (Value.bool (D 0).2) = _
      rw [q1]
    · have h7 := c k 4 (by omega) (by omega)
      rw [h7]
      show some (Value.bool (D k).2) = _
      rw [q3]

set_option linter.unusedVariables false
theorem firstsRows_own : ownKnob Try.prog.godebug = none := by kernel_rfl
set_option maxRecDepth 100000 in
theorem firstsRows_lifted (os : Os) (started : os.Started) (H : Type) (enc : TypeId × Value → H) :
    ReturnsInHanded {} Try.checked os 3 .any (Rows.firstsRowsSpec.pre6 enc Try.prog Try.f3 Rows.firstsRowsRow.domain false) (Rows.firstsRowsSpec.post enc Try.prog Try.f3 false true false false) := by
  refine returnsInHanded_of_change_sized (C := Try.checked) firstsRows_own started (by kernel_rfl) Try.func3
    (ChangeSpec.witness6 (enc := enc) (C := Try.checked) false ⟨#[], #[.slice none 0 0], []⟩ 8 (by kernel_rfl) (by kernel_rfl) (by kernel_rfl) (by kernel_rfl)) ?_
  intro W base args ds gs before hval0 hW hcnd hsz0 _
  have hsz : (DataW.weightsEach Try.prog (Try.f3.params.toList ++ Rows.firstsRowsSpec.plain.varTypes Try.prog) (ds ++ gs)).all (· ≤ reachBytes) = true := hsz0
  have hval : ∀ (j : Nat) t v, Try.f3.params[j]? = some t → args[j]? = some v → Value.okWide Try.prog W .any base t v := hval0
  have hW' := hW
  obtain ⟨p, q, hA0, hV, rfl, hfz, hnd⟩ := hW
  have hA : DataW.TrodAll enc Try.prog W 0 (fun _ => true) true Try.f3.params.toList args.toList ds p := hA0
  rw [Try.params3] at hA hval hsz
  obtain ⟨v0, vs0, d0, ds0, p0, q0, hargs, rfl, rfl, h0, r0⟩ := trodAll_cons hA
  obtain ⟨rfl, rfl, rfl⟩ := trodAll_nil r0
  obtain rfl : args = #[v0] := by cases args; simp_all
  obtain ⟨rfl, rfl⟩ := trodVars_none hV
  clear hA0 hval0 hsz0
  have k0 := h0
  have lt0 : ∀ x ∈ p0, x.block < W.heap.size := fun x hx => by have := hW'.lt x (by simp [hx]); simpa using this
  obtain ⟨zs0, row0, w0, hd0⟩ := open_irow Try.underlying22 (hval 0 22 v0 rfl rfl) h0
  have z0 := irow_reach hsz (j := 0) (t := 22) rfl rfl Try.underlying22 hd0
  refine (firstsRows_walk W v0 zs0 row0 w0 z0).mono fun e W' ⟨he, bel⟩ => ?_
  subst he
  exact ⟨_, rfl, _, _, _, [], _, [], hW', trodAll_mk1 (shut_bool Try.underlying4 _), (trodAll_cons_mk (Below.trod Try.laidOutB (by kernel_rfl) (of_decide_eq_true (by kernel_rfl)) k0 bel lt0) trodAll_mk0), rfl, bel.frame _, fun h => by cases h⟩

set_option maxHeartbeats 8000000 in
theorem firstsRows_closed : joinedFacts Try.checked.prog 3 Try.f3 Rows.firstsRowsSpec Rows.firstsRowsRow = true := by
  unfold joinedFacts
  iterate 31 (refine and_ok ?_ ?_)
  all_goals first | (with_reducible exact enter_ok) | (rw [lifts_no]; rfl) | (rw [make_cut]; rfl) | as_aux_lemma => kernel_rfl
theorem firstsRows_holds : Rows.FirstsRowsSaid :=
  OpenClaim.holds_of_wide 3 Try.f3 rfl rfl rfl rfl rfl rfl rfl ⟨rfl, rfl, rfl, rfl, rfl⟩ rfl rfl rfl rfl rfl (by kernel_rfl) Try.func3 firstsRows_closed
    (of_decide_eq_true (by kernel_rfl)) (by unfold Func.isWrapper; first | (rw [if_pos (by decide +kernel)]; kernel_rfl) | (rw [if_neg (by decide +kernel)]; exact ⟨rfl, rfl⟩))
    (fun os started H enc _ => firstsRows_lifted os started H enc)
#print axioms firstsRows_holds
end Go.Proofs.Ytopokicdgdjgkaa
