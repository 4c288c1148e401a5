/- LexNames: a name is as long as it may be, what stands behind it begins anew, a longer one is an error: at every argument, with no condition. -/
import Derived.Test.YtjfdgdjfgiifeaaLexJoins
import Derived.Test.YtjfdgdjfgiifeaaLexWrong
import Derived.Test.YtjfdgdjfgiifeaaLexWord
namespace Go.Proofs.Ytjfdgdjfgiifeaa
set_option linter.unusedVariables false
open Go.ChangeShapes Go.WideShapes Go.ChangeAt Go.RowKit

theorem conv_one (w : World) (b : Int) : (convert 35 9 (.slice (some ⟨w.heap.size, 0, none⟩) 1 1)).run Try.prog (w.alloc (.cells #[.int .u8 b] 5)) = .ok (.string (strOf [b])) (w.alloc (.cells #[.int .u8 b] 5)) :=
  conv_row (rd := [b]) (base := 0) (n := 1) ⟨rfl, .inr ⟨w.heap.size, 1, _, rfl, Nat.zero_le _, heap_alloc_new w _, Nat.le_refl _, by unfold maxLen; omega, rfl, rfl⟩⟩
theorem six (q : Nat) (h : q < 6) : q = 0 ∨ q = 1 ∨ q = 2 ∨ q = 3 ∨ q = 4 ∨ q = 5 := by omega

set_option maxHeartbeats 4000000 in
set_option maxRecDepth 100000 in
theorem names_core (a0 a1 : Int) (k c m : Nat) (hk1 : k ≤ m + 1) (hk3 : m + 1 ≤ k) (hk2 : m ≤ 63) (hc : c ≤ 3) (ek : bits .and .i64 a0 63 = (m : Int)) (ec : bits .and .i64 a1 3 = (c : Int)) (w : World) :
    Calls Try.prog 7 #[.int .i64 a0, .int .i64 a1] w fun e w' => e = .returned (.bool true) ∧ Below w.heap.size w w' := by
  have hcv := conv_one
  go_enter Try.func7, Try.ntmps7
  go_wp2_with (go_at_call 21; refine (awake_any _).mono ?_; rintro e wa ⟨rfl, ha⟩)
  go_loopw [6, 7] (fun t i wr => ∃ j : Nat, j ≤ k ∧ i = .int .i64 j ∧ t = .string (nm c j) ∧ Below w.heap.size w wr) (fun _ i _ => k - (intOf i).toNat)
  case atStart => exact ⟨0, Nat.zero_le _, rfl, rfl, ha⟩
  case round =>
    obtain ⟨j, hj, rfl, rfl, hB⟩ := hrel
    have BB : Hid (Below w.heap.size w wr) := hB
    have hsz := nm_size c j
    have hszw : w.heap.size ≤ wr.heap.size := hB.size
    clear hB
    by_cases hlt : j < k
    · obtain ⟨q, hq⟩ : ∃ q, q = (j + c) % 6 := ⟨_, rfl⟩
      have e2 : (((j : Int) + (c : Int)) % 6) = (q : Int) := by omega
      have NM : Hid (nm c (j + 1) = nm c j ++ strOf [sx q]) := by show _ = _; rw [hq]; rfl
      have s1 : ∀ b : Int, (strOf [b]).size = 1 := fun b => rfl
      have h6 := six q (by omega)
      clear hq
      rcases h6 with rfl | rfl | rfl | rfl | rfl | rfl
      all_goals
        go_wp2
        go_roundw
        case rel => exact ⟨j + 1, by omega, by go_num, congrArg Value.string NM.out.symm, BB.out.alloc hszw _⟩
        case measure => simp [intOf]; omega
    · obtain rfl : j = k := by omega
      have NF : nmF c j = ⟨#[110]⟩ ++ (nm c j).extract 1 (nm c j).size := rfl
      have NL := names_lex c j (by omega) (by omega)
      have NS := nmF_size c j (by omega)
      rw [hsz] at NF
      have NE : ((nm c j).extract 1 j).size = j - 1 := by rw [NF] at NS; rw [ByteArray.size_append] at NS; have : (⟨#[110]⟩ : ByteArray).size = 1 := rfl; omega
      by_cases h32 : 32 < j
      · rw [if_pos h32] at NL
        have L1 := fun w => lex_err NL (by unfold maxLen; simp only [ByteArray.size_append, NS]; show 1 + j + 1 ≤ _; omega) w
        rw [NF] at L1
        have h32' : (32 : Int) < 1 + (m : Int) := by omega
        clear NL NS NF
        go_wp2_with fail
        generalize (nm c j).extract 1 j = X at L1 NE ⊢
        refine (L1 _).mono ?_
        rintro e w1 ⟨q1, c1, rfl, b1⟩
        have B1 : Hid (Below w.heap.size w w1) := BB.out.trans (b1.mono BB.out.size)
        clear b1
        go_wp2_with (first | (go_at_call 20; refine (num_any _ _).mono ?_; rintro e wn ⟨rfl, rfl⟩))
        all_goals go_ret
        all_goals exact ⟨rfl, B1.out⟩
      · rw [if_neg h32] at NL
        have L1 := fun w => lex_ok NL (by unfold maxLen; simp only [ByteArray.size_append, NS]; show 1 + j + 1 ≤ _; omega) w
        have LN : ([⟨0, 1, nmF c j, 0, 0⟩, ⟨8, j + 1, ⟨#[]⟩, 0, 0⟩] : List Tok).length = 2 := rfl
        rw [LN] at L1
        rw [NF] at L1
        have h32' : ¬ (32 : Int) < 1 + (m : Int) := by omega
        have CS : Hid (∀ X : ByteArray, #[Value.int .i64 0, .int .i64 1, .string (⟨#[110]⟩ ++ X), .int .i64 0, .int .i64 0, .int .i64 8, .int .i64 (1 + (1 + (m : Int))), .string ⟨#[]⟩, .int .i64 0, .int .i64 0] = (toksV [⟨0, 1, ⟨#[110]⟩ ++ X, 0, 0⟩, ⟨8, j + 1, ⟨#[]⟩, 0, 0⟩]).toArray) := fun X => by
          rw [show (1 + (1 + (m : Int))) = ((j + 1 : Nat) : Int) by omega]; rfl
        clear NL NS NF LN
        go_wp2_with fail
        generalize (nm c j).extract 1 j = X at L1 NE ⊢
        refine (L1 _).mono ?_
        rintro e w1 ⟨q1, c1, rfl, t1, b1⟩
        have B1 : Hid (Below w.heap.size w w1) := BB.out.trans (b1.mono BB.out.size)
        have T1 : Hid (TRow w1 (.slice q1 2 c1) [⟨0, 1, ⟨#[110]⟩ ++ X, 0, 0⟩, ⟨8, j + 1, ⟨#[]⟩, 0, 0⟩]) := t1
        clear b1 t1
        go_wp2_with (first | (go_at_call 20; refine (num_any _ _).mono ?_; rintro e wn ⟨rfl, rfl⟩) | (go_at_call 19; refine (same_yes _ _ _ _ (T1.out.keep (bel1 _ _)) (TRow.laid _ _ _ _ (CS.out X) _ rfl _ _ rfl) (by show 2 ≤ _; omega)).mono ?_; rintro e w5 ⟨rfl, b5⟩; have B5 : Hid (Below w.heap.size w w5) := (B1.out.alloc B1.out.size _).trans (b5.mono (Nat.le_trans B1.out.size (le_alloc _ _))); clear b5))
        all_goals go_ret
        all_goals exact ⟨rfl, B5.out⟩
theorem lexNames_walk (w : World) (a0 : Int) (w0 : (Lit.int .i64 a0).wf = true) (a1 : Int) (w1 : (Lit.int .i64 a1).wf = true) :
    Calls Try.prog 7 #[.int .i64 a0, .int .i64 a1] w fun e w' => e = .returned (.bool true) ∧ Below w.heap.size w w' := by
  obtain ⟨m, hm, em⟩ := and63 a0
  obtain ⟨c, hc, ec⟩ := and3 a1
  exact names_core a0 a1 (m + 1) c m (Nat.le_refl _) (Nat.le_refl _) hm hc em ec w

set_option linter.unusedVariables false
theorem lexNames_own : ownKnob Try.prog.godebug = none := by kernel_rfl
set_option maxRecDepth 100000 in
theorem lexNames_lifted (os : Os) (started : os.Started) (H : Type) (enc : TypeId × Value → H) :
    ReturnsInHanded {} Try.checked os 7 .any (Rows.lexNamesSpec.pre6 enc Try.prog Try.f7 Rows.lexNamesRow.domain false) (Rows.lexNamesSpec.post enc Try.prog Try.f7 false true false false) := by
  refine returnsInHanded_of_change_sized (C := Try.checked) lexNames_own started (by kernel_rfl) Try.func7
    (ChangeSpec.witness6 (enc := enc) (C := Try.checked) false ⟨#[], #[.int .i64 0, .int .i64 0], []⟩ 8 (by kernel_rfl) (by kernel_rfl) (by kernel_rfl) (by kernel_rfl)) ?_
  intro W base args ds gs before hval0 hW hcnd hsz0 _
  have hsz : (DataW.weightsEach Try.prog (Try.f7.params.toList ++ Rows.lexNamesSpec.plain.varTypes Try.prog) (ds ++ gs)).all (· ≤ reachBytes) = true := hsz0
  have hval : ∀ (j : Nat) t v, Try.f7.params[j]? = some t → args[j]? = some v → Value.okWide Try.prog W .any base t v := hval0
  have hW' := hW
  obtain ⟨p, q, hA0, hV, rfl, hfz, hnd⟩ := hW
  have hA : DataW.TrodAll enc Try.prog W 0 (fun _ => true) true Try.f7.params.toList args.toList ds p := hA0
  rw [Try.params7] at hA hval hsz
  obtain ⟨v0, vs0, d0, ds0, p0, q0, hargs, rfl, rfl, h0, r0⟩ := trodAll_cons hA
  obtain ⟨v1, vs1, d1, ds1, p1, q1, rfl, rfl, rfl, h1, r1⟩ := trodAll_cons r0
  obtain ⟨rfl, rfl, rfl⟩ := trodAll_nil r1
  obtain rfl : args = #[v0, v1] := by cases args; simp_all
  obtain ⟨rfl, rfl⟩ := trodVars_none hV
  clear hA0 hval0 hsz0
  have k0 := h0
  have lt0 : ∀ x ∈ p0, x.block < W.heap.size := fun x hx => by have := hW'.lt x (by simp [hx]); simpa using this
  have k1 := h1
  have lt1 : ∀ x ∈ p1, x.block < W.heap.size := fun x hx => by have := hW'.lt x (by simp [hx]); simpa using this
  obtain ⟨a0, rfl, rfl, rfl, w0⟩ := open_int Try.underlying3 (hval 0 3 v0 rfl rfl) h0
  obtain ⟨a1, rfl, rfl, rfl, w1⟩ := open_int Try.underlying3 (hval 1 3 v1 rfl rfl) h1
  refine (lexNames_walk W a0 w0 a1 w1).mono fun e W' ⟨he, bel⟩ => ?_
  subst he
  exact ⟨_, rfl, _, _, _, [], _, [], hW', trodAll_mk1 (shut_bool Try.underlying4 _), (trodAll_cons_mk (Below.trod Try.laidOutB (by kernel_rfl) (of_decide_eq_true (by kernel_rfl)) k0 bel lt0) (trodAll_cons_mk (Below.trod Try.laidOutB (by kernel_rfl) (of_decide_eq_true (by kernel_rfl)) k1 bel lt1) trodAll_mk0)), rfl, bel.frame _, fun h => by cases h⟩

theorem lexNames_holds : Rows.LexNamesSaid :=
  OpenClaim.holds_of_wide 7 Try.f7 rfl rfl rfl rfl rfl rfl rfl ⟨rfl, rfl, rfl, rfl, rfl⟩ rfl rfl rfl rfl rfl (by kernel_rfl) Try.func7 (by kernel_rfl)
    (of_decide_eq_true (by kernel_rfl)) (by unfold Func.isWrapper; first | (rw [if_pos (by decide +kernel)]; kernel_rfl) | (rw [if_neg (by decide +kernel)]; exact ⟨rfl, rfl⟩))
    (fun os started H enc _ => lexNames_lifted os started H enc)
#print axioms lexNames_holds
end Go.Proofs.Ytjfdgdjfgiifeaa
