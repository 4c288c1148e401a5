/- ParseWrong: texts that are none are told as errors, each at its place: at every argument, with no condition. -/
import Derived.Test.YtjfdgdjfgiifeaaNoteAwake
import Derived.Test.YtjfdgdjfgiifeaaLexWrong
import Derived.Test.YtjfdgdjfgiifeaaLawOpen
namespace Go.Proofs.Ytjfdgdjfgiifeaa
set_option linter.unusedVariables false
open Go.ChangeShapes Go.WideShapes Go.ChangeAt Go.RowKit

def pw : Nat → ByteArray
  | 0 => ⟨#[83]⟩
  | 1 => ⟨#[83, 32, 61]⟩
  | 2 => ⟨#[83, 32, 61, 32, 59]⟩
  | 3 => ⟨#[83, 32, 61, 32, 97]⟩
  | 4 => ⟨#[83, 32, 61, 32, 97, 32, 124, 59]⟩
  | 5 => ⟨#[83, 32, 61, 32, 97, 32, 38, 59]⟩
  | 6 => ⟨#[83, 32, 61, 32, 126, 59]⟩
  | 7 => ⟨#[83, 32, 61, 32, 126, 126, 97, 59]⟩
  | 8 => ⟨#[61, 32, 97, 59]⟩
  | 9 => ⟨#[115, 116, 97, 114, 116, 59]⟩
  | 10 => ⟨#[115, 116, 97, 114, 116, 32, 83]⟩
  | 11 => ⟨#[115, 116, 97, 114, 116, 32, 83, 32, 61, 32, 97, 59]⟩
  | 12 => ⟨#[115, 116, 97, 114, 116, 32, 115, 116, 97, 114, 116, 59]⟩
  | 13 => ⟨#[83, 32, 61, 32, 97, 59, 32, 59]⟩
  | 14 => ⟨#[83, 32, 61, 32, 97, 32, 61, 32, 98, 59]⟩
  | 15 => ⟨#[83, 32, 61, 32, 97, 32, 126, 98, 59]⟩
  | 16 => ⟨#[83, 32, 61, 32, 124, 32, 97, 59]⟩
  | 17 => ⟨#[34, 97, 34, 32, 61, 32, 98, 59]⟩
  | 18 => ⟨#[83, 32, 39, 97, 39, 59]⟩
  | 19 => ⟨#[97, 32, 36]⟩
  | _ => ⟨#[]⟩
def pwA : Nat → Nat
  | 0 => 1
  | 1 => 3
  | 2 => 4
  | 3 => 5
  | 4 => 7
  | 5 => 7
  | 6 => 5
  | 7 => 5
  | 8 => 0
  | 9 => 5
  | 10 => 7
  | 11 => 8
  | 12 => 6
  | 13 => 7
  | 14 => 6
  | 15 => 6
  | 16 => 4
  | 17 => 0
  | 18 => 2
  | 19 => 2
  | _ => 0
def pwArr : Array Value := #[.string ⟨#[83]⟩, .string ⟨#[83, 32, 61]⟩, .string ⟨#[83, 32, 61, 32, 59]⟩, .string ⟨#[83, 32, 61, 32, 97]⟩, .string ⟨#[83, 32, 61, 32, 97, 32, 124, 59]⟩, .string ⟨#[83, 32, 61, 32, 97, 32, 38, 59]⟩, .string ⟨#[83, 32, 61, 32, 126, 59]⟩, .string ⟨#[83, 32, 61, 32, 126, 126, 97, 59]⟩, .string ⟨#[61, 32, 97, 59]⟩, .string ⟨#[115, 116, 97, 114, 116, 59]⟩, .string ⟨#[115, 116, 97, 114, 116, 32, 83]⟩, .string ⟨#[115, 116, 97, 114, 116, 32, 83, 32, 61, 32, 97, 59]⟩, .string ⟨#[115, 116, 97, 114, 116, 32, 115, 116, 97, 114, 116, 59]⟩, .string ⟨#[83, 32, 61, 32, 97, 59, 32, 59]⟩, .string ⟨#[83, 32, 61, 32, 97, 32, 61, 32, 98, 59]⟩, .string ⟨#[83, 32, 61, 32, 97, 32, 126, 98, 59]⟩, .string ⟨#[83, 32, 61, 32, 124, 32, 97, 59]⟩, .string ⟨#[34, 97, 34, 32, 61, 32, 98, 59]⟩, .string ⟨#[83, 32, 39, 97, 39, 59]⟩, .string ⟨#[97, 32, 36]⟩]
def paArr : Array Value := #[.int .i64 1, .int .i64 3, .int .i64 4, .int .i64 5, .int .i64 7, .int .i64 7, .int .i64 5, .int .i64 5, .int .i64 0, .int .i64 5, .int .i64 7, .int .i64 8, .int .i64 6, .int .i64 7, .int .i64 6, .int .i64 6, .int .i64 4, .int .i64 0, .int .i64 2, .int .i64 2]
theorem pwArr_at (k : Nat) (hk : k < 20) : pwArr[k]? = some (.string (pw k)) := by
  match k, hk with
  | 0, _ => rfl
  | 1, _ => rfl
  | 2, _ => rfl
  | 3, _ => rfl
  | 4, _ => rfl
  | 5, _ => rfl
  | 6, _ => rfl
  | 7, _ => rfl
  | 8, _ => rfl
  | 9, _ => rfl
  | 10, _ => rfl
  | 11, _ => rfl
  | 12, _ => rfl
  | 13, _ => rfl
  | 14, _ => rfl
  | 15, _ => rfl
  | 16, _ => rfl
  | 17, _ => rfl
  | 18, _ => rfl
  | 19, _ => rfl
  | k + 20, h => exact absurd h (by omega)
theorem paArr_at (k : Nat) (hk : k < 20) : paArr[k]? = some (.int .i64 (pwA k : Int)) := by
  match k, hk with
  | 0, _ => rfl
  | 1, _ => rfl
  | 2, _ => rfl
  | 3, _ => rfl
  | 4, _ => rfl
  | 5, _ => rfl
  | 6, _ => rfl
  | 7, _ => rfl
  | 8, _ => rfl
  | 9, _ => rfl
  | 10, _ => rfl
  | 11, _ => rfl
  | 12, _ => rfl
  | 13, _ => rfl
  | 14, _ => rfl
  | 15, _ => rfl
  | 16, _ => rfl
  | 17, _ => rfl
  | 18, _ => rfl
  | 19, _ => rfl
  | k + 20, h => exact absurd h (by omega)
def errP : Pres → Option (Nat × Nat)
  | .error e => some e
  | .ok _ => none
theorem errP_some {r : Pres} {x : Nat × Nat} (h : errP r = some x) : r = .error x := by
  cases r with
  | ok l => cases h
  | error e => injection h with h; rw [h]
theorem pw_all : ∀ k : Fin 20, errP (parseT (pw k.val)) = some (pwA k.val, 300) := by decide +kernel

set_option maxHeartbeats 4000000 in
set_option maxRecDepth 100000 in
theorem pwrong_core (a0 : Int) (k : Nat) (hk : k < 20) (ek : wrap64 ((IntKind.u64.wrap a0).tmod 20) = (k : Int)) (w : World) :
    Calls Try.prog 13 #[.int .i64 a0] w fun e w' => e = .returned (.bool true) ∧ Below w.heap.size w w' := by
  have psz : (pw k).size ≤ 20 := by
    have : ∀ k : Fin 20, (pw k.val).size ≤ 20 := by decide
    exact this ⟨k, hk⟩
  have PX := fun w => parse_err (errP_some (pw_all ⟨k, hk⟩)) (by show (pw k).size ≤ _; unfold maxLen; omega) w
  simp only at PX
  have hc1 : ∀ (wa : World) (o : Obj), ((wa.alloc (.cells pwArr 9)).alloc o : World).cell? ⟨wa.heap.size, k, none⟩ = some (.string (pw k)) := fun wa o => (World.cell?_alloc_past _ _ _ (by simp)).trans ((World.cell?_alloc_at _ _ _ _ rfl).trans (pwArr_at k hk))
  have hc2 : ∀ (wa : World) (o : Obj) (w1 : World), Below ((wa.alloc o).alloc (.cells paArr 3) : World).heap.size ((wa.alloc o).alloc (.cells paArr 3)) w1 → w1.cell? ⟨wa.heap.size + 1, k, none⟩ = some (.int .i64 (pwA k : Int)) ∧ wa.heap.size + 1 < w1.heap.size := fun wa o w1 hb => by
    have hz : ((wa.alloc o).alloc (.cells paArr 3) : World).heap.size = wa.heap.size + 2 := by simp
    have hs := hb.size
    rw [hz] at hs
    exact ⟨(hb.cell (p := ⟨_, _, none⟩) (by rw [hz]; show wa.heap.size + 1 < _; omega)).trans ((World.cell?_alloc_at _ _ _ _ (by simp)).trans (paArr_at k hk)), by omega⟩
  have hc3 := pwArr_at k hk
  have hc4 := paArr_at k hk
  have HC2 := hc2
  simp only [pwArr] at hc1 hc3
  simp only [paArr] at hc2 hc4
  generalize pw k = u at *
  generalize pwA k = v at *
  clear hc2
  have HC : Hid (∀ (wa : World) (o : Obj) (w1 : World), Below ((wa.alloc o).alloc (.cells paArr 3) : World).heap.size ((wa.alloc o).alloc (.cells paArr 3)) w1 → w1.cell? ⟨wa.heap.size + 1, k, none⟩ = some (.int .i64 (v : Int)) ∧ wa.heap.size + 1 < w1.heap.size) := HC2
  clear HC2
  go_enter Try.func13, Try.ntmps13
  go_wp2_with (first | (go_at_call 26; refine (awake3_any _).mono ?_; rintro e wa ⟨rfl, ha⟩; have B0 : Hid (Below w.heap.size w wa) := ha; clear ha) | (go_at_call 22; refine (PX _).mono ?_; rintro e w1 ⟨p1, c1, p2, c2, rfl, b1⟩; obtain ⟨x1, hs1⟩ := HC.out wa _ w1 b1; have B1 : Hid (Below w.heap.size w w1) := (B0.out.trans ((bel2 wa _ _).mono B0.out.size)).trans (b1.mono (Nat.le_trans (B0.out.trans ((bel2 wa _ _).mono B0.out.size)).size (Nat.le_refl _))); clear b1) | (go_at_call 20; refine (num_any _ _).mono ?_; rintro e wn ⟨rfl, rfl⟩))
  all_goals go_ret
  all_goals exact ⟨rfl, B1.out.alloc B1.out.size _⟩
theorem parseWrong_walk (w : World) (a0 : Int) (w0 : (Lit.int .i64 a0).wf = true) :
    Calls Try.prog 13 #[.int .i64 a0] w fun e w' => e = .returned (.bool true) ∧ Below w.heap.size w w' := by
  obtain ⟨k, hk, ek⟩ := tmod20 a0 w0
  exact pwrong_core a0 k hk ek w

set_option linter.unusedVariables false
theorem parseWrong_own : ownKnob Try.prog.godebug = none := by kernel_rfl
set_option maxRecDepth 100000 in
theorem parseWrong_lifted (os : Os) (started : os.Started) (H : Type) (enc : TypeId × Value → H) :
    ReturnsInHanded {} Try.checked os 13 .any (Rows.parseWrongSpec.pre6 enc Try.prog Try.f13 Rows.parseWrongRow.domain false) (Rows.parseWrongSpec.post enc Try.prog Try.f13 false true false false) := by
  refine returnsInHanded_of_change_sized (C := Try.checked) parseWrong_own started (by kernel_rfl) Try.func13
    (ChangeSpec.witness6 (enc := enc) (C := Try.checked) false ⟨#[], #[.int .i64 0], []⟩ 8 (by kernel_rfl) (by kernel_rfl) (by kernel_rfl) (by kernel_rfl)) ?_
  intro W base args ds gs before hval0 hW hcnd hsz0 _
  have hsz : (DataW.weightsEach Try.prog (Try.f13.params.toList ++ Rows.parseWrongSpec.plain.varTypes Try.prog) (ds ++ gs)).all (· ≤ reachBytes) = true := hsz0
  have hval : ∀ (j : Nat) t v, Try.f13.params[j]? = some t → args[j]? = some v → Value.okWide Try.prog W .any base t v := hval0
  have hW' := hW
  obtain ⟨p, q, hA0, hV, rfl, hfz, hnd⟩ := hW
  have hA : DataW.TrodAll enc Try.prog W 0 (fun _ => true) true Try.f13.params.toList args.toList ds p := hA0
  rw [Try.params13] at hA hval hsz
  obtain ⟨v0, vs0, d0, ds0, p0, q0, hargs, rfl, rfl, h0, r0⟩ := trodAll_cons hA
  obtain ⟨rfl, rfl, rfl⟩ := trodAll_nil r0
  obtain rfl : args = #[v0] := by cases args; simp_all
  obtain ⟨rfl, rfl⟩ := trodVars_none hV
  clear hA0 hval0 hsz0
  have k0 := h0
  have lt0 : ∀ x ∈ p0, x.block < W.heap.size := fun x hx => by have := hW'.lt x (by simp [hx]); simpa using this
  obtain ⟨a0, rfl, rfl, rfl, w0⟩ := open_int Try.underlying3 (hval 0 3 v0 rfl rfl) h0
  refine (parseWrong_walk W a0 w0).mono fun e W' ⟨he, bel⟩ => ?_
  subst he
  exact ⟨_, rfl, _, _, _, [], _, [], hW', trodAll_mk1 (shut_bool Try.underlying4 _), (trodAll_cons_mk (Below.trod Try.laidOutB (by kernel_rfl) (of_decide_eq_true (by kernel_rfl)) k0 bel lt0) trodAll_mk0), rfl, bel.frame _, fun h => by cases h⟩

theorem parseWrong_holds : Rows.ParseWrongSaid :=
  OpenClaim.holds_of_wide 13 Try.f13 rfl rfl rfl rfl rfl rfl rfl ⟨rfl, rfl, rfl, rfl, rfl⟩ rfl rfl rfl rfl rfl (by kernel_rfl) Try.func13 (by kernel_rfl)
    (of_decide_eq_true (by kernel_rfl)) (by unfold Func.isWrapper; first | (rw [if_pos (by decide +kernel)]; kernel_rfl) | (rw [if_neg (by decide +kernel)]; exact ⟨rfl, rfl⟩))
    (fun os started H enc _ => parseWrong_lifted os started H enc)
#print axioms parseWrong_holds
end Go.Proofs.Ytjfdgdjfgiifeaa
