/- Lexes: of every text the program's Lex hands back what the document's own Lex does: tokens, an error's place and number: at every argument, with no condition. -/
import Derived.Test.YtjfdgdjfgiifeaaLexDoc
import Derived.Test.YtjfdgdjfgiifeaaLexAwake
import Derived.Test.YtjfdgdjfgiifeaaLexJoin
import Derived.Test.YtjfdgdjfgiifeaaLawOpen
namespace Go.Proofs.Ytjfdgdjfgiifeaa
set_option linter.unusedVariables false
open Go.ChangeShapes Go.WideShapes Go.ChangeAt Go.RowKit

theorem lexS_len (b : Nat → Int) (n : Nat) : ∀ f k l, lexS b n f k = .ok l → k ≤ n → l.length ≤ n - k
  | 0, k, l, h, _ => by injection h with h; subst h; simp
  | f + 1, k, l, h, hk => by
    have h' : (if n ≤ skp b n false k then Except.ok [] else match tokF b n (skp b n false k) with
      | .ok (t, to) => Res.cons t (lexS b n f to)
      | .error true => .error (skp b n false k, 201)
      | .error false => .error (skp b n false k, 200)) = .ok l := h
    by_cases h1 : n ≤ skp b n false k
    · rw [if_pos h1] at h'; injection h' with h'; subst h'; simp
    · rw [if_neg h1] at h'
      have hge := skp_ge b n false k
      rcases hg : tokF b n (skp b n false k) with (_ | _) | ⟨t, to⟩
      · rw [hg] at h'; cases h'
      · rw [hg] at h'; cases h'
      · rw [hg] at h'
        have hto := tokF_to (by omega) hg
        have h2 : Res.cons t (lexS b n f to) = .ok l := h'
        cases hg2 : lexS b n f to with
        | error e => rw [hg2] at h2; cases h2
        | ok l2 =>
          rw [hg2] at h2
          obtain rfl : t :: l2 = l := by injection h2
          have := lexS_len b n f to l2 hg2 hto.2
          simp only [List.length_cons]; omega
theorem lexT_len (s : ByteArray) : (lexAns (lexT s)).1.length ≤ 65536 := by
  cases h : lexT s with
  | error e => exact Nat.zero_le _
  | ok l =>
    show l.length ≤ 65536
    by_cases hs : 65536 < s.size
    · rw [lexT, lexB, if_pos hs] at h; cases h
    · rw [lexT, lexB, if_neg hs] at h
      have := lexS_len _ _ _ _ _ h (Nat.zero_le _)
      omega

set_option maxHeartbeats 4000000 in
set_option maxRecDepth 100000 in
theorem lexes_walk (w : World) (s : ByteArray) (hs : s.size ≤ 140737488351232) :
    Calls Try.prog 3 #[.string s] w fun e w' => e = .returned (.bool true) ∧ Below w.heap.size w w' := by
  have hm : s.size ≤ maxLen := by unfold maxLen; omega
  have L1 := fun w => lex_any s w hm
  have L2 := fun w => rlex_any s w hm
  have hl := lexT_len s
  unfold LexEnd at L1 L2
  generalize (lexAns (lexT s)).1 = l at L1 L2 hl
  generalize (lexAns (lexT s)).2.1 = p at L1 L2
  generalize (lexAns (lexT s)).2.2 = x at L1 L2
  have HL : Hid (l.length ≤ 65536) := hl
  clear hl
  go_enter Try.func3, Try.ntmps3
  go_wp2_with (first | (go_at_call 17; refine (L1 _).mono ?_; rintro e w1 ⟨v1, rfl, o1, b1⟩; have T1 := TRow.of o1; have TT1 : Hid (TRow w1 v1 l) := T1; have B1 : Hid (Below w.heap.size w w1) := b1; clear o1 T1 b1) | (go_at_call 18; refine (L2 _).mono ?_; rintro e w2 ⟨v2, rfl, o2, b2⟩; have T2 := TRow.of o2; have TT2 : Hid (TRow w2 v2 l) := T2; have TT3 : Hid (TRow w2 v1 l) := TT1.out.keep b2; have B2 : Hid (Below w.heap.size w w2) := B1.out.trans (b2.mono B1.out.size); clear o2 T2 b2) | (go_at_call 19; refine (same_yes _ _ l _ TT3.out TT2.out HL.out).mono ?_; rintro e w3 ⟨rfl, b3⟩; have B3 : Hid (Below w.heap.size w w3) := B2.out.trans (b3.mono B2.out.size); clear b3) | (go_at_call 20; refine (num_any _ _).mono ?_; rintro e wn ⟨rfl, rfl⟩) | (go_at_call 21; refine (awake_any _).mono ?_; rintro e wa ⟨rfl, ha⟩))
  all_goals go_ret
  all_goals exact ⟨rfl, B3.out.trans (ha.mono B3.out.size)⟩

set_option linter.unusedVariables false
theorem lexes_own : ownKnob Try.prog.godebug = none := by kernel_rfl
set_option maxRecDepth 100000 in
theorem lexes_lifted (os : Os) (started : os.Started) (H : Type) (enc : TypeId × Value → H) :
    ReturnsInHanded {} Try.checked os 3 .any (Rows.lexesSpec.pre6 enc Try.prog Try.f3 Rows.lexesRow.domain false) (Rows.lexesSpec.post enc Try.prog Try.f3 false true false false) := by
  refine returnsInHanded_of_change_sized (C := Try.checked) lexes_own started (by kernel_rfl) Try.func3
    (ChangeSpec.witness6 (enc := enc) (C := Try.checked) false ⟨#[], #[.string ⟨#[]⟩], []⟩ 8 (by kernel_rfl) (by kernel_rfl) (by kernel_rfl) (by kernel_rfl)) ?_
  intro W base args ds gs before hval0 hW hcnd hsz0 _
  have hsz : (DataW.weightsEach Try.prog (Try.f3.params.toList ++ Rows.lexesSpec.plain.varTypes Try.prog) (ds ++ gs)).all (· ≤ reachBytes) = true := hsz0
  have hval : ∀ (j : Nat) t v, Try.f3.params[j]? = some t → args[j]? = some v → Value.okWide Try.prog W .any base t v := hval0
  have hW' := hW
  obtain ⟨p, q, hA0, hV, rfl, hfz, hnd⟩ := hW
  have hA : DataW.TrodAll enc Try.prog W 0 (fun _ => true) true Try.f3.params.toList args.toList ds p := hA0
  rw [Try.params3] at hA hval hsz
  obtain ⟨v0, vs0, d0, ds0, p0, q0, hargs, rfl, rfl, h0, r0⟩ := trodAll_cons hA
  obtain ⟨rfl, rfl, rfl⟩ := trodAll_nil r0
  obtain rfl : args = #[v0] := by cases args; simp_all
  obtain ⟨rfl, rfl⟩ := trodVars_none hV
  clear hA0 hval0 hsz0
  have k0 := h0
  have lt0 : ∀ x ∈ p0, x.block < W.heap.size := fun x hx => by have := hW'.lt x (by simp [hx]); simpa using this
  obtain ⟨a0, rfl, rfl, rfl, -⟩ := ChangeMaps.open_string Try.underlying9 (hval 0 9 v0 rfl rfl) h0
  have w0 := str_reach hsz (j := 0) (t := 9) (s := a0) rfl rfl
  refine (lexes_walk W a0 w0).mono fun e W' ⟨he, bel⟩ => ?_
  subst he
  exact ⟨_, rfl, _, _, _, [], _, [], hW', trodAll_mk1 (shut_bool Try.underlying4 _), (trodAll_cons_mk (Below.trod Try.laidOutB (by kernel_rfl) (of_decide_eq_true (by kernel_rfl)) k0 bel lt0) trodAll_mk0), rfl, bel.frame _, fun h => by cases h⟩

theorem lexes_holds : Rows.LexesSaid :=
  OpenClaim.holds_of_wide 3 Try.f3 rfl rfl rfl rfl rfl rfl rfl ⟨rfl, rfl, rfl, rfl, rfl⟩ rfl rfl rfl rfl rfl (by kernel_rfl) Try.func3 (by kernel_rfl)
    (of_decide_eq_true (by kernel_rfl)) (by unfold Func.isWrapper; first | (rw [if_pos (by decide +kernel)]; kernel_rfl) | (rw [if_neg (by decide +kernel)]; exact ⟨rfl, rfl⟩))
    (fun os started H enc _ => lexes_lifted os started H enc)
#print axioms lexes_holds
end Go.Proofs.Ytjfdgdjfgiifeaa
