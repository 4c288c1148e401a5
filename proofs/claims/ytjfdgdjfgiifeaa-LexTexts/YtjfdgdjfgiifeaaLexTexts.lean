/- LexTexts: any bytes in quotes, each as its two digits, are a text of these; a byte and itself are a range: at every argument, with no condition. -/
import Derived.Test.YtjfdgdjfgiifeaaLexNames
import Derived.Test.YtjfdgdjfgiifeaaLexQuo
namespace Go.Proofs.Ytjfdgdjfgiifeaa
set_option linter.unusedVariables false
open Go.ChangeShapes Go.WideShapes Go.ChangeAt Go.RowKit

theorem conv_two (w : World) (b c : Int) : (convert 35 9 (.slice (some ⟨w.heap.size, 0, none⟩) 2 2)).run Try.prog (w.alloc (.cells #[.int .u8 b, .int .u8 c] 5)).drew = .ok (.string (strOf [b, c])) (w.alloc (.cells #[.int .u8 b, .int .u8 c] 5)).drew := by
  have h : (w.alloc (.cells #[.int .u8 b, .int .u8 c] 5)).ownsRow 0 5 1 (.slice (some ⟨w.heap.size, 0, none⟩) 2 2) 2 (bytesV [b, c]) := ⟨rfl, .inr ⟨w.heap.size, 2, _, rfl, Nat.zero_le _, heap_alloc_new w _, Nat.le_refl _, by unfold maxLen; omega, rfl, rfl⟩⟩
  exact conv_row h.drew

set_option maxHeartbeats 4000000 in
set_option maxRecDepth 100000 in
theorem texts_core (w : World) (s : ByteArray) (hs : s.size ≤ 2000) (a1 : Int) (k p q : Nat) (hk : k ≤ 255) (ek : bits .and .i64 a1 255 = (k : Int)) (hp : p < 16) (hq : q < 16) (ep : (k : Int) / 16 = (p : Int)) (eq : (k : Int) % 16 = (q : Int)) :
    Calls Try.prog 5 #[.string s, .int .i64 a1] w fun e w' => e = .returned (.bool true) ∧ Below w.heap.size w w' := by
  have hcv := conv_two
  have s2 : ∀ b c : Int, (strOf [b, c]).size = 2 := fun _ _ => rfl
  have hb := PlainAid.get_bt s
  have hA := PlainAid.get_bt ALL
  simp only [ALL] at hA
  go_enter Try.func5, Try.ntmps5
  go_wp2_with (go_at_call 21; refine (awake_any _).mono ?_; rintro e wa ⟨rfl, ha⟩)
  go_loopw [6, 7] (fun t i wr => ∃ j : Nat, j ≤ s.size ∧ i = .int .i64 j ∧ t = .string (tx s j) ∧ Below w.heap.size w wr) (fun _ i _ => s.size - (intOf i).toNat)
  case atStart => exact ⟨0, Nat.zero_le _, rfl, rfl, ha⟩
  case round =>
    obtain ⟨j, hj, rfl, rfl, hB⟩ := hrel
    have BB : Hid (Below w.heap.size w wr) := hB
    have hsz := tx_size s j
    have hszw : w.heap.size ≤ wr.heap.size := hB.size
    clear hB
    by_cases hlt : j < s.size
    · have u0 := PlainAid.bt_nonneg s j
      have u1 := PlainAid.bt_le s j
      have TX : Hid (tx s (j + 1) = (tx s j ++ ⟨#[92, 120]⟩) ++ strOf [PlainAid.bt ALL (hi4 s j), PlainAid.bt ALL (lo4 s j)]) := rfl
      have e1 : PlainAid.bt s j / 16 = (hi4 s j : Int) := by unfold hi4; omega
      have e2 : PlainAid.bt s j % 16 = (lo4 s j : Int) := by unfold lo4; omega
      have l1 := hi4_lt s j
      have l2 := lo4_lt s j
      generalize hi4 s j = h at *
      generalize lo4 s j = l at *
      go_wp2
      go_region
      all_goals go_wp2
      all_goals
        go_roundw
        case rel => exact ⟨j + 1, by omega, by go_num, congrArg Value.string TX.out.symm, (BB.out.alloc hszw _).drew⟩
        case measure => simp [intOf]; omega
    · obtain rfl : j = s.size := by omega
      have NL := texts_lex s p q hp hq hs
      have l5 : (tx s s.size).size ≤ 8001 := by omega
      have L1 := fun w => lex_ok NL (by unfold maxLen; simp only [ByteArray.size_append, rgX_size]; show (tx s s.size).size + 1 + 6 + 2 + 6 ≤ _; omega) w
      have LN : ([⟨1, 0, s, 0, 0⟩, ⟨2, (tx s s.size).size + 1, ⟨#[]⟩, 16 * (p : Int) + (q : Int), 16 * (p : Int) + (q : Int)⟩] : List Tok).length = 2 := rfl
      rw [LN] at L1
      simp only [rgX, two, ALL] at L1
      have EK : Hid (16 * (p : Int) + (q : Int) = (k : Int)) := by show _ = _; omega
      rw [EK.out] at L1
      have CS : Hid (∀ X : ByteArray, #[Value.int .i64 1, .int .i64 0, .string s, .int .i64 0, .int .i64 0, .int .i64 2, .int .i64 ((X.size : Int) + 1), .string ⟨#[]⟩, .int .i64 (k : Int), .int .i64 (k : Int)] = (toksV [⟨1, 0, s, 0, 0⟩, ⟨2, X.size + 1, ⟨#[]⟩, (k : Int), (k : Int)⟩]).toArray) := fun X => rfl
      clear NL LN hsz
      generalize tx s s.size = X at *
      go_wp2
      go_region
      all_goals
        go_wp2_with (first | (go_at_call 17; refine (L1 _).mono ?_; rintro e w1 ⟨q1, c1, rfl, t1, b1⟩; have B1 : Hid (Below w.heap.size w w1) := ((BB.out.alloc hszw _).drew).trans (b1.mono ((BB.out.alloc hszw _).drew).size); have T1 : Hid (TRow w1 (.slice q1 2 c1) [⟨1, 0, s, 0, 0⟩, ⟨2, X.size + 1, ⟨#[]⟩, (k : Int), (k : Int)⟩]) := t1; clear b1 t1) | (go_at_call 20; refine (num_any _ _).mono ?_; rintro e wn ⟨rfl, rfl⟩) | (go_at_call 19; refine (same_yes _ _ _ _ (T1.out.keep (bel1 _ _)) (TRow.laid _ _ _ _ (CS.out X) _ rfl _ _ rfl) (by show 2 ≤ _; omega)).mono ?_; rintro e w5 ⟨rfl, b5⟩; have B5 : Hid (Below w.heap.size w w5) := (B1.out.alloc B1.out.size _).trans (b5.mono (Nat.le_trans B1.out.size (le_alloc _ _))); clear b5))
        all_goals go_ret
        all_goals exact ⟨rfl, B5.out⟩
set_option maxHeartbeats 4000000 in
theorem texts_long (w : World) (s : ByteArray) (hs : s.size ≤ 140737488351232) (hl : 2000 < s.size) (a1 : Int) :
    Calls Try.prog 5 #[.string s, .int .i64 a1] w fun e w' => e = .returned (.bool true) ∧ Below w.heap.size w w' := by
  go_enter Try.func5, Try.ntmps5
  go_wp2_with (go_at_call 21; refine (awake_any _).mono ?_; rintro e wa ⟨rfl, ha⟩)
  go_ret
  exact ⟨rfl, ha⟩
theorem lexTexts_walk (w : World) (s : ByteArray) (hs : s.size ≤ 140737488351232) (a1 : Int) (w1 : (Lit.int .i64 a1).wf = true) :
    Calls Try.prog 5 #[.string s, .int .i64 a1] w fun e w' => e = .returned (.bool true) ∧ Below w.heap.size w w' := by
  by_cases hl : 2000 < s.size
  · exact texts_long w s hs hl a1
  · obtain ⟨k, hk, ek⟩ := and255 a1
    exact texts_core w s (by omega) a1 k (k / 16) (k % 16) hk ek (by omega) (by omega) (by omega) (by omega)

set_option linter.unusedVariables false
theorem lexTexts_own : ownKnob Try.prog.godebug = none := by kernel_rfl
set_option maxRecDepth 100000 in
theorem lexTexts_lifted (os : Os) (started : os.Started) (H : Type) (enc : TypeId × Value → H) :
    ReturnsInHanded {} Try.checked os 5 .any (Rows.lexTextsSpec.pre6 enc Try.prog Try.f5 Rows.lexTextsRow.domain false) (Rows.lexTextsSpec.post enc Try.prog Try.f5 false true false false) := by
  refine returnsInHanded_of_change_sized (C := Try.checked) lexTexts_own started (by kernel_rfl) Try.func5
    (ChangeSpec.witness6 (enc := enc) (C := Try.checked) false ⟨#[], #[.string ⟨#[]⟩, .int .i64 0], []⟩ 8 (by kernel_rfl) (by kernel_rfl) (by kernel_rfl) (by kernel_rfl)) ?_
  intro W base args ds gs before hval0 hW hcnd hsz0 _
  have hsz : (DataW.weightsEach Try.prog (Try.f5.params.toList ++ Rows.lexTextsSpec.plain.varTypes Try.prog) (ds ++ gs)).all (· ≤ reachBytes) = true := hsz0
  have hval : ∀ (j : Nat) t v, Try.f5.params[j]? = some t → args[j]? = some v → Value.okWide Try.prog W .any base t v := hval0
  have hW' := hW
  obtain ⟨p, q, hA0, hV, rfl, hfz, hnd⟩ := hW
  have hA : DataW.TrodAll enc Try.prog W 0 (fun _ => true) true Try.f5.params.toList args.toList ds p := hA0
  rw [Try.params5] at hA hval hsz
  obtain ⟨v0, vs0, d0, ds0, p0, q0, hargs, rfl, rfl, h0, r0⟩ := trodAll_cons hA
  obtain ⟨v1, vs1, d1, ds1, p1, q1, rfl, rfl, rfl, h1, r1⟩ := trodAll_cons r0
  obtain ⟨rfl, rfl, rfl⟩ := trodAll_nil r1
  obtain rfl : args = #[v0, v1] := by cases args; simp_all
  obtain ⟨rfl, rfl⟩ := trodVars_none hV
  clear hA0 hval0 hsz0
  have k0 := h0
  have lt0 : ∀ x ∈ p0, x.block < W.heap.size := fun x hx => by have := hW'.lt x (by simp [hx]); simpa using this
  have k1 := h1
  have lt1 : ∀ x ∈ p1, x.block < W.heap.size := fun x hx => by have := hW'.lt x (by simp [hx]); simpa using this
  obtain ⟨a0, rfl, rfl, rfl, -⟩ := ChangeMaps.open_string Try.underlying9 (hval 0 9 v0 rfl rfl) h0
  have w0 := str_reach hsz (j := 0) (t := 9) (s := a0) rfl rfl
  obtain ⟨a1, rfl, rfl, rfl, w1⟩ := open_int Try.underlying3 (hval 1 3 v1 rfl rfl) h1
  refine (lexTexts_walk W a0 w0 a1 w1).mono fun e W' ⟨he, bel⟩ => ?_
  subst he
  exact ⟨_, rfl, _, _, _, [], _, [], hW', trodAll_mk1 (shut_bool Try.underlying4 _), (trodAll_cons_mk (Below.trod Try.laidOutB (by kernel_rfl) (of_decide_eq_true (by kernel_rfl)) k0 bel lt0) (trodAll_cons_mk (Below.trod Try.laidOutB (by kernel_rfl) (of_decide_eq_true (by kernel_rfl)) k1 bel lt1) trodAll_mk0)), rfl, bel.frame _, fun h => by cases h⟩

theorem lexTexts_holds : Rows.LexTextsSaid :=
  OpenClaim.holds_of_wide 5 Try.f5 rfl rfl rfl rfl rfl rfl rfl ⟨rfl, rfl, rfl, rfl, rfl⟩ rfl rfl rfl rfl rfl (by kernel_rfl) Try.func5 (by kernel_rfl)
    (of_decide_eq_true (by kernel_rfl)) (by unfold Func.isWrapper; first | (rw [if_pos (by decide +kernel)]; kernel_rfl) | (rw [if_neg (by decide +kernel)]; exact ⟨rfl, rfl⟩))
    (fun os started H enc _ => lexTexts_lifted os started H enc)
#print axioms lexTexts_holds
end Go.Proofs.Ytjfdgdjfgiifeaa
