/- LexWrong: what begins no token, and what is not closed, is told as an error at its place: at every argument, with no condition. -/
import Derived.Test.YtjfdgdjfgiifeaaLexAwake
namespace Go.Proofs.Ytjfdgdjfgiifeaa
set_option linter.unusedVariables false
open Go.ChangeShapes Go.WideShapes Go.ChangeAt Go.RowKit

theorem and3 (x : Int) : ∃ n : Nat, n ≤ 3 ∧ bits .and .i64 x 3 = (n : Int) := by
  have h : (BitVec.ofInt 64 x &&& BitVec.ofInt 64 3).toNat ≤ 3 := by
    rw [BitVec.toNat_and]
    exact Nat.le_trans Nat.and_le_right (by decide)
  refine ⟨_, h, ?_⟩
  show IntKind.i64.wrap ((BitVec.ofInt 64 x &&& BitVec.ofInt 64 3).toNat : Int) = _
  generalize (BitVec.ofInt 64 x &&& BitVec.ofInt 64 3).toNat = n at h
  rw [IntKind.wrap_i64]; omega
theorem and7 (x : Int) : ∃ n : Nat, n ≤ 7 ∧ bits .and .i64 x 7 = (n : Int) := by
  have h : (BitVec.ofInt 64 x &&& BitVec.ofInt 64 7).toNat ≤ 7 := by
    rw [BitVec.toNat_and]
    exact Nat.le_trans Nat.and_le_right (by decide)
  refine ⟨_, h, ?_⟩
  show IntKind.i64.wrap ((BitVec.ofInt 64 x &&& BitVec.ofInt 64 7).toNat : Int) = _
  generalize (BitVec.ofInt 64 x &&& BitVec.ofInt 64 7).toNat = n at h
  rw [IntKind.wrap_i64]; omega
theorem and63 (x : Int) : ∃ n : Nat, n ≤ 63 ∧ bits .and .i64 x 63 = (n : Int) := by
  have h : (BitVec.ofInt 64 x &&& BitVec.ofInt 64 63).toNat ≤ 63 := by
    rw [BitVec.toNat_and]
    exact Nat.le_trans Nat.and_le_right (by decide)
  refine ⟨_, h, ?_⟩
  show IntKind.i64.wrap ((BitVec.ofInt 64 x &&& BitVec.ofInt 64 63).toNat : Int) = _
  generalize (BitVec.ofInt 64 x &&& BitVec.ofInt 64 63).toNat = n at h
  rw [IntKind.wrap_i64]; omega
theorem and255 (x : Int) : ∃ n : Nat, n ≤ 255 ∧ bits .and .i64 x 255 = (n : Int) := by
  have h : (BitVec.ofInt 64 x &&& BitVec.ofInt 64 255).toNat ≤ 255 := by
    rw [BitVec.toNat_and]
    exact Nat.le_trans Nat.and_le_right (by decide)
  refine ⟨_, h, ?_⟩
  show IntKind.i64.wrap ((BitVec.ofInt 64 x &&& BitVec.ofInt 64 255).toNat : Int) = _
  generalize (BitVec.ofInt 64 x &&& BitVec.ofInt 64 255).toNat = n at h
  rw [IntKind.wrap_i64]; omega
def wl : Nat → ByteArray
  | 0 => ⟨#[36]⟩
  | 1 => ⟨#[57, 97]⟩
  | 2 => ⟨#[46]⟩
  | 3 => ⟨#[40]⟩
  | 4 => ⟨#[0]⟩
  | 5 => ⟨#[255]⟩
  | 6 => ⟨#[34]⟩
  | 7 => ⟨#[34, 97]⟩
  | 8 => ⟨#[34, 92, 113, 34]⟩
  | 9 => ⟨#[34, 92, 120, 52, 34]⟩
  | 10 => ⟨#[34, 92, 120, 52, 71, 34]⟩
  | 11 => ⟨#[34, 10, 34]⟩
  | 12 => ⟨#[39, 39]⟩
  | 13 => ⟨#[39, 97, 98, 39]⟩
  | 14 => ⟨#[39, 97]⟩
  | 15 => ⟨#[39, 97, 39, 46, 46]⟩
  | 16 => ⟨#[39, 97, 39, 46, 46, 98]⟩
  | 17 => ⟨#[39, 97, 39, 46, 46, 39, 39]⟩
  | 18 => ⟨#[39, 92, 39]⟩
  | 19 => ⟨#[34, 127, 34]⟩
  | _ => ⟨#[]⟩
def wArr : Array Value := #[Value.string ⟨#[36]⟩, Value.string ⟨#[57, 97]⟩, Value.string ⟨#[46]⟩, Value.string ⟨#[40]⟩, Value.string ⟨#[0]⟩, Value.string ⟨#[255]⟩, Value.string ⟨#[34]⟩, Value.string ⟨#[34, 97]⟩, Value.string ⟨#[34, 92, 113, 34]⟩, Value.string ⟨#[34, 92, 120, 52, 34]⟩, Value.string ⟨#[34, 92, 120, 52, 71, 34]⟩, Value.string ⟨#[34, 10, 34]⟩, Value.string ⟨#[39, 39]⟩, Value.string ⟨#[39, 97, 98, 39]⟩, Value.string ⟨#[39, 97]⟩, Value.string ⟨#[39, 97, 39, 46, 46]⟩, Value.string ⟨#[39, 97, 39, 46, 46, 98]⟩, Value.string ⟨#[39, 97, 39, 46, 46, 39, 39]⟩, Value.string ⟨#[39, 92, 39]⟩, Value.string ⟨#[34, 127, 34]⟩]
theorem wArr_at (k : Nat) (hk : k < 20) : wArr[k]? = some (.string (wl k)) := by
  match k, hk with
  | 0, _ => rfl
  | 1, _ => rfl
  | 2, _ => rfl
  | 3, _ => rfl
  | 4, _ => rfl
  | 5, _ => rfl
  | 6, _ => rfl
  | 7, _ => rfl
  | 8, _ => rfl
  | 9, _ => rfl
  | 10, _ => rfl
  | 11, _ => rfl
  | 12, _ => rfl
  | 13, _ => rfl
  | 14, _ => rfl
  | 15, _ => rfl
  | 16, _ => rfl
  | 17, _ => rfl
  | 18, _ => rfl
  | 19, _ => rfl
  | k + 20, h => exact absurd h (by omega)
def rep : Nat → ByteArray
  | 0 => ⟨#[]⟩
  | j + 1 => rep j ++ ⟨#[97, 32]⟩
theorem rep_size : ∀ j, (rep j).size = 2 * j
  | 0 => rfl
  | j + 1 => by
    show (rep j ++ _).size = _
    rw [ByteArray.size_append, rep_size j]; show 2 * j + 2 = _; omega
def errOf : Res → Option (Nat × Nat)
  | .error e => some e
  | .ok _ => none
theorem errOf_some {r : Res} {x : Nat × Nat} (h : errOf r = some x) : r = .error x := by
  cases r with
  | ok l => cases h
  | error e => injection h with h; rw [h]
def wE (k : Nat) : Nat := if k < 6 then 200 else 201
theorem wrong_all : ∀ m : Fin 8, ∀ k : Fin 20, errOf (lexT (rep m.val ++ wl k.val)) = some (2 * m.val, wE k.val) := by decide +kernel

set_option maxHeartbeats 4000000 in
set_option maxRecDepth 100000 in
theorem wrong_core (a0 a1 : Int) (k m : Nat) (hk : k < 20) (hm : m < 8) (ek : wrap64 ((IntKind.u64.wrap a0).tmod 20) = (k : Int)) (em : bits .and .i64 a1 7 = (m : Int)) (w : World) :
    Calls Try.prog 8 #[.int .i64 a0, .int .i64 a1] w fun e w' => e = .returned (.bool true) ∧ Below w.heap.size w w' := by
  have hsz := rep_size m
  have HL : Hid (lexT (rep m ++ wl k) = .error (2 * m, wE k)) := errOf_some (wrong_all ⟨m, hm⟩ ⟨k, hk⟩)
  have hz2 : (rep m ++ wl k).size ≤ maxLen := by
    have : ∀ k : Fin 20, (wl k.val).size ≤ 10 := by decide
    have := this ⟨k, hk⟩
    rw [ByteArray.size_append, hsz]; unfold maxLen; simp only at this; omega
  have LX := fun w => lex_err HL.out hz2 w
  have wsz : (wl k).size ≤ 10 := by
    have : ∀ k : Fin 20, (wl k.val).size ≤ 10 := by decide
    exact this ⟨k, hk⟩
  have hc : ∀ wa : World, (wa.alloc (.cells wArr 9)).cell? ⟨wa.heap.size, k, none⟩ = some (.string (wl k)) := fun wa => (World.cell?_alloc_at _ _ _ _ rfl).trans (wArr_at k hk)
  have hc2 := wArr_at k hk
  simp only [wArr] at hc hc2
  clear hz2
  generalize hwl : wl k = u at *
  have WE : Hid (wE k = if k < 6 then 200 else 201) := rfl
  generalize wE k = q at *
  clear hwl HL
  go_enter Try.func8, Try.ntmps8
  go_wp2_with (go_at_call 21; refine (awake_any _).mono ?_; rintro e wa ⟨rfl, ha⟩)
  go_loop [7, 8] (fun t i => ∃ j : Nat, j ≤ m ∧ i = .int .i64 j ∧ t = .string (rep j)) (fun _ i => m - (intOf i).toNat)
  case atStart => exact ⟨0, Nat.zero_le _, rfl, rfl⟩
  case round =>
    obtain ⟨j, hj, rfl, rfl⟩ := hrel
    by_cases hlt : j < m
    · have hs := rep_size j
      go_wp2
      go_round
      case rel => exact ⟨j + 1, by omega, by go_num, rfl⟩
      case measure => simp [intOf]; omega
    · obtain rfl : j = m := by omega
      by_cases h6 : k < 6
      · obtain rfl : q = 200 := by rw [WE.out, if_pos h6]
        clear WE
        go_wp2_with (first | (go_at_call 17; refine (LX _).mono ?_; rintro e wb ⟨q1, c1, rfl, hb⟩) | (go_at_call 20; refine (num_any _ _).mono ?_; rintro e wn ⟨rfl, rfl⟩))
        all_goals go_ret
        all_goals exact ⟨rfl, (ha.alloc ha.size _).trans (hb.mono (Nat.le_trans ha.size (le_alloc _ _)))⟩
      · obtain rfl : q = 201 := by rw [WE.out, if_neg h6]
        clear WE
        go_wp2_with (first | (go_at_call 17; refine (LX _).mono ?_; rintro e wb ⟨q1, c1, rfl, hb⟩) | (go_at_call 20; refine (num_any _ _).mono ?_; rintro e wn ⟨rfl, rfl⟩))
        all_goals go_ret
        all_goals exact ⟨rfl, (ha.alloc ha.size _).trans (hb.mono (Nat.le_trans ha.size (le_alloc _ _)))⟩

theorem tmod20 (x : Int) (h : (Lit.int .i64 x).wf = true) : ∃ k : Nat, k < 20 ∧ wrap64 ((IntKind.u64.wrap x).tmod 20) = (k : Int) := by
  have h1 : 0 ≤ IntKind.u64.wrap x := by rw [IntKind.wrap_u64]; omega
  refine ⟨(IntKind.u64.wrap x % 20).toNat, by omega, ?_⟩
  rw [Int.tmod_eq_emod_of_nonneg h1, ← PlainAid.i64_is, IntKind.wrap_i64]
  omega
theorem lexWrong_walk (a0 : Int) (w0 : (Lit.int .i64 a0).wf = true) (a1 : Int) (w1 : (Lit.int .i64 a1).wf = true) (w : World) :
    Calls Try.prog 8 #[.int .i64 a0, .int .i64 a1] w fun e w' => e = .returned (.bool true) ∧ Below w.heap.size w w' := by
  obtain ⟨k, hk, ek⟩ := tmod20 a0 w0
  obtain ⟨m, hm, em⟩ := and7 a1
  exact wrong_core a0 a1 k m hk (by omega) ek em w

set_option linter.unusedVariables false
theorem lexWrong_own : ownKnob Try.prog.godebug = none := by kernel_rfl
set_option maxRecDepth 100000 in
theorem lexWrong_lifted (os : Os) (started : os.Started) (H : Type) (enc : TypeId × Value → H) :
    ReturnsInHanded {} Try.checked os 8 .any (Rows.lexWrongSpec.pre6 enc Try.prog Try.f8 Rows.lexWrongRow.domain false) (Rows.lexWrongSpec.post enc Try.prog Try.f8 false true false false) := by
  refine returnsInHanded_of_change (C := Try.checked) lexWrong_own started (by kernel_rfl) Try.func8
    (ChangeSpec.witness6 (enc := enc) (C := Try.checked) false ⟨#[], #[.int .i64 0, .int .i64 0], []⟩ 8 (by kernel_rfl) (by kernel_rfl) (by kernel_rfl) (by kernel_rfl)) ?_
  intro W base args ds gs before hval0 hW hcnd _
  have hval : ∀ (j : Nat) t v, Try.f8.params[j]? = some t → args[j]? = some v → Value.okWide Try.prog W .any base t v := hval0
  have hW' := hW
  obtain ⟨p, q, hA0, hV, rfl, hfz, hnd⟩ := hW
  have hA : DataW.TrodAll enc Try.prog W 0 (fun _ => true) true Try.f8.params.toList args.toList ds p := hA0
  rw [Try.params8] at hA hval
  obtain ⟨v0, vs0, d0, ds0, p0, q0, hargs, rfl, rfl, h0, r0⟩ := trodAll_cons hA
  obtain ⟨v1, vs1, d1, ds1, p1, q1, rfl, rfl, rfl, h1, r1⟩ := trodAll_cons r0
  obtain ⟨rfl, rfl, rfl⟩ := trodAll_nil r1
  obtain rfl : args = #[v0, v1] := by cases args; simp_all
  obtain ⟨rfl, rfl⟩ := trodVars_none hV
  obtain ⟨a0, rfl, rfl, rfl, w0⟩ := open_int Try.underlying3 (hval 0 3 v0 rfl rfl) h0
  obtain ⟨a1, rfl, rfl, rfl, w1⟩ := open_int Try.underlying3 (hval 1 3 v1 rfl rfl) h1
  clear hA0 hval0
  refine (lexWrong_walk a0 w0 a1 w1 W).mono fun e W' ⟨he, bel⟩ => ?_
  subst he
  exact ⟨_, rfl, _, _, _, [], _, [], hW', trodAll_mk1 (shut_bool Try.underlying4 _), (trodAll_cons_mk (shut_int Try.underlying3 w0) (trodAll_cons_mk (shut_int Try.underlying3 w1) trodAll_mk0)), rfl, bel.frame _, fun h => by cases h⟩

theorem lexWrong_holds : Rows.LexWrongSaid :=
  OpenClaim.holds_of_wide 8 Try.f8 rfl rfl rfl rfl rfl rfl rfl ⟨rfl, rfl, rfl, rfl, rfl⟩ rfl rfl rfl rfl rfl (by kernel_rfl) Try.func8 (by kernel_rfl)
    (of_decide_eq_true (by kernel_rfl)) (by unfold Func.isWrapper; first | (rw [if_pos (by decide +kernel)]; kernel_rfl) | (rw [if_neg (by decide +kernel)]; exact ⟨rfl, rfl⟩))
    (fun os started H enc _ => lexWrong_lifted os started H enc)
#print axioms lexWrong_holds
end Go.Proofs.Ytjfdgdjfgiifeaa
