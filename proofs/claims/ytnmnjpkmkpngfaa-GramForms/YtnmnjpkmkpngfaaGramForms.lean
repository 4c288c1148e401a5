/- GramForms: a grammar of two names that breaks just one condition may not be, whichever: at every argument, with no condition. -/
import Derived.Test.YtnmnjpkmkpngfaaGForms2
import Derived.PlainAid
namespace Go.Proofs.Ytnmnjpkmkpngfaa
set_option linter.unusedVariables false
open Go.ChangeShapes Go.WideShapes Go.ChangeAt Go.RowKit

theorem mask63 (x : Int) : ∃ n : Nat, n ≤ 63 ∧ bits .and .i64 x 63 = (n : Int) := by
  have h : (BitVec.ofInt 64 x &&& BitVec.ofInt 64 63).toNat ≤ 63 := by
    rw [BitVec.toNat_and]
    exact Nat.le_trans Nat.and_le_right (by decide)
  refine ⟨_, h, ?_⟩
  show IntKind.i64.wrap ((BitVec.ofInt 64 x &&& BitVec.ofInt 64 63).toNat : Int) = _
  generalize (BitVec.ofInt 64 x &&& BitVec.ofInt 64 63).toNat = n at h
  rw [IntKind.wrap_i64]; omega
theorem tmod18 (x : Int) : ∃ k : Nat, k < 18 ∧ (IntKind.u64.wrap x).tmod 18 = (k : Int) := by
  have h1 : 0 ≤ IntKind.u64.wrap x := by rw [IntKind.wrap_u64]; omega
  refine ⟨(IntKind.u64.wrap x % 18).toNat, by omega, ?_⟩
  rw [Int.tmod_eq_emod_of_nonneg h1]
  omega
theorem tmod5 (m : Nat) : ∃ r : Nat, r < 5 ∧ (1 + (m : Int)).tmod 5 = (r : Int) := by
  refine ⟨((1 + (m : Int)) % 5).toNat, by omega, ?_⟩
  rw [Int.tmod_eq_emod_of_nonneg (by omega)]
  omega
theorem gramForms_walk (a0 : Int) (w0 : (Lit.int .i64 a0).wf = true) (a1 : Int) (w1 : (Lit.int .i64 a1).wf = true) (w : World) :
    Calls Try.prog 19 #[.int .i64 a0, .int .i64 a1] w fun e w' => e = .returned (.bool true) ∧ Below w.heap.size w w' := by
  obtain ⟨k, hk, ek⟩ := tmod18 a0
  obtain ⟨m, hm, em⟩ := mask63 a1
  match k, hk, ek with
  | 0, _, ek => exact gf0 a0 a1 m hm ek em w
  | 1, _, ek => exact gf1 a0 a1 m hm ek em w
  | 2, _, ek =>
    obtain ⟨r, hr, ed⟩ := tmod5 m
    match r, hr, ed with
    | 0, _, ed => exact gf2_0 a0 a1 m hm ek em ed w
    | 1, _, ed => exact gf2_1 a0 a1 m hm ek em ed w
    | 2, _, ed => exact gf2_2 a0 a1 m hm ek em ed w
    | 3, _, ed => exact gf2_3 a0 a1 m hm ek em ed w
    | 4, _, ed => exact gf2_4 a0 a1 m hm ek em ed w
    | n + 5, h, _ => exact absurd h (by omega)
  | 3, _, ek => exact gf3 a0 a1 m hm ek em w
  | 4, _, ek => exact gf4 a0 a1 m hm ek em w
  | 5, _, ek => exact gf5 a0 a1 m hm ek em w
  | 6, _, ek => exact gf6 a0 a1 m hm ek em w
  | 7, _, ek => exact gf7 a0 a1 m hm ek em w
  | 8, _, ek => exact gf8 a0 a1 m hm ek em w
  | 9, _, ek => exact gf9 a0 a1 m hm ek em w
  | 10, _, ek => exact gf10 a0 a1 m hm ek em w
  | 11, _, ek => exact gf11 a0 a1 m hm ek em w
  | 12, _, ek => exact gf12 a0 a1 m hm ek em w
  | 13, _, ek => exact gf13 a0 a1 m hm ek em w
  | 14, _, ek => exact gf14 a0 a1 m hm ek em w
  | 15, _, ek => exact gf15 a0 a1 m hm ek em w
  | 16, _, ek => exact gf16 a0 a1 m hm ek em w
  | 17, _, ek => exact gf17 a0 a1 m hm ek em w
  | n + 18, h, _ => exact absurd h (by omega)

set_option linter.unusedVariables false
theorem gramForms_own : ownKnob Try.prog.godebug = none := by kernel_rfl
set_option maxRecDepth 100000 in
theorem gramForms_lifted (os : Os) (started : os.Started) (H : Type) (enc : TypeId × Value → H) :
    ReturnsInHanded {} Try.checked os 19 .any (Rows.gramFormsSpec.pre6 enc Try.prog Try.f19 Rows.gramFormsRow.domain false) (Rows.gramFormsSpec.post enc Try.prog Try.f19 false true false false) := by
  refine returnsInHanded_of_change (C := Try.checked) gramForms_own started (by kernel_rfl) Try.func19
    (ChangeSpec.witness6 (enc := enc) (C := Try.checked) false ⟨#[], #[.int .i64 0, .int .i64 0], []⟩ 8 (by kernel_rfl) (by kernel_rfl) (by kernel_rfl) (by kernel_rfl)) ?_
  intro W base args ds gs before hval0 hW hcnd _
  have hval : ∀ (j : Nat) t v, Try.f19.params[j]? = some t → args[j]? = some v → Value.okWide Try.prog W .any base t v := hval0
  have hW' := hW
  obtain ⟨p, q, hA0, hV, rfl, hfz, hnd⟩ := hW
  have hA : DataW.TrodAll enc Try.prog W 0 (fun _ => true) true Try.f19.params.toList args.toList ds p := hA0
  rw [Try.params19] at hA hval
  obtain ⟨v0, vs0, d0, ds0, p0, q0, hargs, rfl, rfl, h0, r0⟩ := trodAll_cons hA
  obtain ⟨v1, vs1, d1, ds1, p1, q1, rfl, rfl, rfl, h1, r1⟩ := trodAll_cons r0
  obtain ⟨rfl, rfl, rfl⟩ := trodAll_nil r1
  obtain rfl : args = #[v0, v1] := by cases args; simp_all
  obtain ⟨rfl, rfl⟩ := trodVars_none hV
  obtain ⟨a0, rfl, rfl, rfl, w0⟩ := open_int Try.underlying3 (hval 0 3 v0 rfl rfl) h0
  obtain ⟨a1, rfl, rfl, rfl, w1⟩ := open_int Try.underlying3 (hval 1 3 v1 rfl rfl) h1
  clear hA0 hval0
  refine (gramForms_walk a0 w0 a1 w1 W).mono fun e W' ⟨he, bel⟩ => ?_
  subst he
  exact ⟨_, rfl, _, _, _, [], _, [], hW', trodAll_mk1 (shut_bool Try.underlying4 _), (trodAll_cons_mk (shut_int Try.underlying3 w0) (trodAll_cons_mk (shut_int Try.underlying3 w1) trodAll_mk0)), rfl, bel.frame _, fun h => by cases h⟩

theorem gramForms_holds : Rows.GramFormsSaid :=
  OpenClaim.holds_of_wide 19 Try.f19 rfl rfl rfl rfl rfl rfl rfl ⟨rfl, rfl, rfl, rfl, rfl⟩ rfl rfl rfl rfl rfl (by kernel_rfl) Try.func19 (by kernel_rfl)
    (of_decide_eq_true (by kernel_rfl)) (by unfold Func.isWrapper; first | (rw [if_pos (by decide +kernel)]; kernel_rfl) | (rw [if_neg (by decide +kernel)]; exact ⟨rfl, rfl⟩))
    (fun os started H enc _ => gramForms_lifted os started H enc)
#print axioms gramForms_holds
end Go.Proofs.Ytnmnjpkmkpngfaa
