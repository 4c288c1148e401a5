/- LexPlaces: tokens begin one behind the other, within the text, at a byte of theirs: at every argument, with no condition. -/
import Derived.Test.YtjfdgdjfgiifeaaLexJoins
namespace Go.Proofs.Ytjfdgdjfgiifeaa
set_option linter.unusedVariables false
open Go.ChangeShapes Go.WideShapes Go.ChangeAt Go.RowKit

/-- What is known of a token, by its kind. -/
theorem Begun.ways {b : Nat → Int} {n lo : Nat} {t : Tok} (h : Begun b n lo t) :
    (t.kind = 0 ∧ 0 < t.text.size ∧ PlainAid.bt t.text 0 = b t.pl) ∨ (t.kind = 1 ∧ b t.pl = 34) ∨ (t.kind = 2 ∧ b t.pl = 39) ∨ (t.kind = 3 ∧ b t.pl = 115) ∨ (t.kind = 4 ∧ b t.pl = 61) ∨ (t.kind = 5 ∧ b t.pl = 124) ∨ (t.kind = 6 ∧ b t.pl = 38) ∨ (t.kind = 7 ∧ b t.pl = 126) ∨ (t.kind = 8 ∧ b t.pl = 59) := by
  have hk := h.kd
  by_cases e0 : t.kind = 0
  · exact Or.inl ⟨e0, h.h0 e0⟩
  refine Or.inr ?_
  by_cases e1 : t.kind = 1
  · exact Or.inl ⟨e1, h.h1 e1⟩
  refine Or.inr ?_
  by_cases e2 : t.kind = 2
  · exact Or.inl ⟨e2, h.h2 e2⟩
  refine Or.inr ?_
  by_cases e3 : t.kind = 3
  · exact Or.inl ⟨e3, h.h3 e3⟩
  refine Or.inr ?_
  by_cases e4 : t.kind = 4
  · exact Or.inl ⟨e4, h.h4 e4⟩
  refine Or.inr ?_
  by_cases e5 : t.kind = 5
  · exact Or.inl ⟨e5, h.h5 e5⟩
  refine Or.inr ?_
  by_cases e6 : t.kind = 6
  · exact Or.inl ⟨e6, h.h6 e6⟩
  refine Or.inr ?_
  by_cases e7 : t.kind = 7
  · exact Or.inl ⟨e7, h.h7 e7⟩
  · have e8 : t.kind = 8 := by omega
    exact Or.inr ⟨e8, h.h8 e8⟩

theorem text_ne {t : ByteArray} (h : 0 < t.size) : ¬ t.toList = [] ∧ t.toList.isEmpty = false := by
  obtain ⟨⟨l⟩⟩ := t
  rw [ByteArray.toList_mk]
  cases l with
  | nil => exact absurd h (Nat.lt_irrefl _)
  | cons c l => exact ⟨by simp, rfl⟩

set_option maxHeartbeats 40000000 in
set_option maxRecDepth 100000 in
theorem places_ok (w : World) (s : ByteArray) (l : List Tok) (hA : lexT s = .ok l) :
    Calls Try.prog 9 #[.string s] w fun e w' => e = .returned (.bool true) ∧ Below w.heap.size w w' := by
  obtain ⟨rb, hs⟩ := lexT_row hA
  have L1 := fun w => lex_ok hA (by unfold maxLen; omega) w
  have ll := lexT_ok_len hA
  have RB : Hid (Row (PlainAid.bt s) s.size 0 l) := rb
  clear hA rb
  go_enter Try.func9, Try.ntmps9
  simp only [List.append]
  go_wp2_with (first | (go_at_call 21; refine (awake_any _).mono ?_; rintro e wa ⟨rfl, ha⟩; have B0 : Hid (Below w.heap.size w wa) := ha; clear ha) | (go_at_call 17; refine (L1 _).mono ?_; rintro e w1 ⟨q1, c1, rfl, t1, b1⟩; have B1 : Hid (Below w.heap.size w w1) := B0.out.trans (b1.mono B0.out.size); have T1 : Hid (TRow w1 (.slice q1 l.length c1) l) := t1; clear b1 t1) | (go_at_call 20; refine (num_any _ _).mono ?_; rintro e wn ⟨rfl, rfl⟩))
  go_loopw [6, 7] (fun x i wr => ∃ (k : Nat) (z : Int), k ≤ l.length ∧ i = .int .i64 k ∧ x = .int .i64 z ∧ -1 ≤ z ∧ z ≤ 65536 ∧ (∀ u, l[k]? = some u → z < (u.pl : Int)) ∧ Below w1.heap.size w1 wr) (fun _ i _ => l.length - (intOf i).toNat)
  case atStart => exact ⟨0, -1, by omega, rfl, rfl, by omega, by omega, fun u _ => by omega, Below.refl _ _⟩
  case round =>
    obtain ⟨k, z, hk, rfl, rfl, hz1, hz2, hz3, hW⟩ := hrel
    have HW : Hid (Below w1.heap.size w1 wr) := hW
    have hsz : w1.heap.size ≤ wr.heap.size := hW.size
    by_cases hlt : k < l.length
    · obtain ⟨u, hu⟩ : ∃ u, l[k]? = some u := ⟨_, List.getElem?_eq_getElem hlt⟩
      obtain ⟨g1, hp, hg1, a0, a1, a2, a3, a4⟩ := (T1.out.keep hW).cells hu
      have hzu := hz3 u hu
      obtain ⟨hbg, hnx⟩ := RB.out.at hu
      have hpl := hbg.hi
      have NX : Hid (∀ u', l[k + 1]? = some u' → u.pl < u'.pl) := hnx
      have hb := PlainAid.get_bt s
      have hways := hbg.ways
      subst hp
      obtain ⟨kind, pl, text, lo, hi⟩ := u
      simp only at a0 a1 a2 a3 a4 hzu hpl hways
      clear hu hW hbg hnx hz3
      rcases hways with ⟨e0, e1, e2⟩ | ⟨e0, e1⟩ | ⟨e0, e1⟩ | ⟨e0, e1⟩ | ⟨e0, e1⟩ | ⟨e0, e1⟩ | ⟨e0, e1⟩ | ⟨e0, e1⟩ | ⟨e0, e1⟩
      · subst e0
        have hbt := PlainAid.get_bt text
        obtain ⟨n1, n2⟩ := text_ne e1
        go_wp2
        go_roundw
        case rel => exact ⟨k + 1, (pl : Int), by omega, by go_num, rfl, by omega, by omega, fun u' hu' => by have h := NX.out u' hu'; simp only at h; omega, HW.out.alloc hsz _⟩
        case measure => simp [intOf]; omega
      all_goals
        subst e0
        go_wp2
        go_roundw
        case rel => exact ⟨k + 1, (pl : Int), by omega, by go_num, rfl, by omega, by omega, fun u' hu' => by have h := NX.out u' hu'; simp only at h; omega, HW.out.alloc hsz _⟩
        case measure => simp [intOf]; omega
    · obtain rfl : k = l.length := by omega
      go_wp2
      go_ret
      exact ⟨rfl, B1.out.trans (HW.out.mono B1.out.size)⟩

set_option maxHeartbeats 4000000 in
set_option maxRecDepth 100000 in
theorem places_no (w : World) (s : ByteArray) (hs : s.size ≤ 140737488351232) (p x : Nat) (hA : lexT s = .error (p, x)) :
    Calls Try.prog 9 #[.string s] w fun e w' => e = .returned (.bool true) ∧ Below w.heap.size w w' := by
  have hx : ((x : Int) != 0) = true := by rcases lexT_err hA with e | e <;> subst e <;> rfl
  have L1 := fun w => lex_err hA (by unfold maxLen; omega) w
  clear hA
  go_enter Try.func9, Try.ntmps9
  go_wp2_with (first | (go_at_call 21; refine (awake_any _).mono ?_; rintro e wa ⟨rfl, ha⟩; have B0 : Hid (Below w.heap.size w wa) := ha; clear ha) | (go_at_call 17; refine (L1 _).mono ?_; rintro e w1 ⟨q1, c1, rfl, b1⟩; have B1 : Hid (Below w.heap.size w w1) := B0.out.trans (b1.mono B0.out.size); clear b1) | (go_at_call 20; refine (num_any _ _).mono ?_; rintro e wn ⟨rfl, rfl⟩))
  all_goals go_ret
  all_goals exact ⟨rfl, B1.out⟩
theorem lexPlaces_walk (w : World) (s : ByteArray) (hs : s.size ≤ 140737488351232) :
    Calls Try.prog 9 #[.string s] w fun e w' => e = .returned (.bool true) ∧ Below w.heap.size w w' := by
  cases hA : lexT s with
  | error e => exact places_no w s hs e.1 e.2 hA
  | ok l => exact places_ok w s l hA

set_option linter.unusedVariables false
theorem lexPlaces_own : ownKnob Try.prog.godebug = none := by kernel_rfl
set_option maxRecDepth 100000 in
theorem lexPlaces_lifted (os : Os) (started : os.Started) (H : Type) (enc : TypeId × Value → H) :
    ReturnsInHanded {} Try.checked os 9 .any (Rows.lexPlacesSpec.pre6 enc Try.prog Try.f9 Rows.lexPlacesRow.domain false) (Rows.lexPlacesSpec.post enc Try.prog Try.f9 false true false false) := by
  refine returnsInHanded_of_change_sized (C := Try.checked) lexPlaces_own started (by kernel_rfl) Try.func9
    (ChangeSpec.witness6 (enc := enc) (C := Try.checked) false ⟨#[], #[.string ⟨#[]⟩], []⟩ 8 (by kernel_rfl) (by kernel_rfl) (by kernel_rfl) (by kernel_rfl)) ?_
  intro W base args ds gs before hval0 hW hcnd hsz0 _
  have hsz : (DataW.weightsEach Try.prog (Try.f9.params.toList ++ Rows.lexPlacesSpec.plain.varTypes Try.prog) (ds ++ gs)).all (· ≤ reachBytes) = true := hsz0
  have hval : ∀ (j : Nat) t v, Try.f9.params[j]? = some t → args[j]? = some v → Value.okWide Try.prog W .any base t v := hval0
  have hW' := hW
  obtain ⟨p, q, hA0, hV, rfl, hfz, hnd⟩ := hW
  have hA : DataW.TrodAll enc Try.prog W 0 (fun _ => true) true Try.f9.params.toList args.toList ds p := hA0
  rw [Try.params9] at hA hval hsz
  obtain ⟨v0, vs0, d0, ds0, p0, q0, hargs, rfl, rfl, h0, r0⟩ := trodAll_cons hA
  obtain ⟨rfl, rfl, rfl⟩ := trodAll_nil r0
  obtain rfl : args = #[v0] := by cases args; simp_all
  obtain ⟨rfl, rfl⟩ := trodVars_none hV
  clear hA0 hval0 hsz0
  have k0 := h0
  have lt0 : ∀ x ∈ p0, x.block < W.heap.size := fun x hx => by have := hW'.lt x (by simp [hx]); simpa using this
  obtain ⟨a0, rfl, rfl, rfl, -⟩ := ChangeMaps.open_string Try.underlying9 (hval 0 9 v0 rfl rfl) h0
  have w0 := str_reach hsz (j := 0) (t := 9) (s := a0) rfl rfl
  refine (lexPlaces_walk W a0 w0).mono fun e W' ⟨he, bel⟩ => ?_
  subst he
  exact ⟨_, rfl, _, _, _, [], _, [], hW', trodAll_mk1 (shut_bool Try.underlying4 _), (trodAll_cons_mk (Below.trod Try.laidOutB (by kernel_rfl) (of_decide_eq_true (by kernel_rfl)) k0 bel lt0) trodAll_mk0), rfl, bel.frame _, fun h => by cases h⟩

theorem lexPlaces_holds : Rows.LexPlacesSaid :=
  OpenClaim.holds_of_wide 9 Try.f9 rfl rfl rfl rfl rfl rfl rfl ⟨rfl, rfl, rfl, rfl, rfl⟩ rfl rfl rfl rfl rfl (by kernel_rfl) Try.func9 (by kernel_rfl)
    (of_decide_eq_true (by kernel_rfl)) (by unfold Func.isWrapper; first | (rw [if_pos (by decide +kernel)]; kernel_rfl) | (rw [if_neg (by decide +kernel)]; exact ⟨rfl, rfl⟩))
    (fun os started H enc _ => lexPlaces_lifted os started H enc)
#print axioms lexPlaces_holds
end Go.Proofs.Ytjfdgdjfgiifeaa
