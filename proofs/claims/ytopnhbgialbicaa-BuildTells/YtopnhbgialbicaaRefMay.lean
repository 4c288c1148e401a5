/- The document's own tests of a grammar's parts: symbolMay, find, nameMay. -/
import Derived.Test.YtopnhbgialbicaaGramMay
import Derived.Test.YtopnhbgialbicaaLexRef
import Derived.Test.YtopnhbgialbicaaRefMayP
namespace Go.Proofs.Ytopnhbgialbicaa
set_option linter.unusedVariables false
open Go.ChangeShapes Go.WideShapes Go.ChangeAt Go.RowKit

set_option maxHeartbeats 2000000 in
theorem symbolMay_ref (nm lo hi : Int) (k : Nat) (w : World) : Calls Try.prog 36 #[.agg #[.int .i64 nm, .int .i64 lo, .int .i64 hi], .int .i64 (k : Int)] w fun e w' => e = .returned (.bool (maySym k ⟨nm, lo, hi⟩)) ∧ Below w.heap.size w w' := by
  by_cases h0 : nm = -1
  · subst h0
    have E : maySym k ⟨-1, lo, hi⟩ = (decide (0 ≤ lo) && (decide (lo ≤ hi) && decide (hi ≤ 255))) := rfl
    rw [E]
    by_cases h1 : 0 ≤ lo
    · by_cases h2 : lo ≤ hi
      · by_cases h3 : hi ≤ 255
        · rw [show (decide (0 ≤ lo) && (decide (lo ≤ hi) && decide (hi ≤ 255))) = true by simp [h1, h2, h3]]
          go_enter Try.func36, Try.ntmps36
          go_wp2
          go_ret
          exact ⟨rfl, bel1 _ _⟩
        · rw [show (decide (0 ≤ lo) && (decide (lo ≤ hi) && decide (hi ≤ 255))) = false by simp [h1, h2, h3]]
          go_enter Try.func36, Try.ntmps36
          go_wp2
          go_ret
          exact ⟨rfl, bel1 _ _⟩
      · rw [show (decide (0 ≤ lo) && (decide (lo ≤ hi) && decide (hi ≤ 255))) = false by simp [h1, h2]]
        go_enter Try.func36, Try.ntmps36
        go_wp2
        go_ret
        exact ⟨rfl, bel1 _ _⟩
    · rw [show (decide (0 ≤ lo) && (decide (lo ≤ hi) && decide (hi ≤ 255))) = false by simp [h1]]
      go_enter Try.func36, Try.ntmps36
      go_wp2
      go_ret
      exact ⟨rfl, bel1 _ _⟩
  · have E : maySym k ⟨nm, lo, hi⟩ = (isNum nm k && (decide (lo = 0) && decide (hi = 0))) := by unfold maySym; rw [if_neg h0]
    rw [E]
    have h0' : (nm == -1) = false := by simp [h0]
    by_cases g1 : 0 ≤ nm
    · by_cases g2 : nm < (k : Int)
      · by_cases h1 : lo = 0
        · by_cases h2 : hi = 0
          · rw [show (isNum nm k && (decide (lo = 0) && decide (hi = 0))) = true by simp [isNum, g1, g2, h1, h2]]
            go_enter Try.func36, Try.ntmps36
            go_wp2
            go_ret
            exact ⟨rfl, bel1 _ _⟩
          · have h2' : (hi == 0) = false := by simp [h2]
            rw [show (isNum nm k && (decide (lo = 0) && decide (hi = 0))) = false by simp [isNum, g1, g2, h1, h2]]
            go_enter Try.func36, Try.ntmps36
            go_wp2
            go_ret
            exact ⟨rfl, bel1 _ _⟩
        · have h1' : (lo == 0) = false := by simp [h1]
          rw [show (isNum nm k && (decide (lo = 0) && decide (hi = 0))) = false by simp [isNum, g1, g2, h1]]
          go_enter Try.func36, Try.ntmps36
          go_wp2
          go_ret
          exact ⟨rfl, bel1 _ _⟩
      · rw [show (isNum nm k && (decide (lo = 0) && decide (hi = 0))) = false by simp [isNum, g1, g2]]
        go_enter Try.func36, Try.ntmps36
        go_wp2
        go_ret
        exact ⟨rfl, bel1 _ _⟩
    · rw [show (isNum nm k && (decide (lo = 0) && decide (hi = 0))) = false by simp [isNum, g1]]
      go_enter Try.func36, Try.ntmps36
      go_wp2
      go_ret
      exact ⟨rfl, bel1 _ _⟩

theorem place_take {l : List ByteArray} {s : ByteArray} : ∀ {k : Nat}, place (l.take k) s = none → ∀ t, l[k]? = some t → t = s → place l s = some k := by
  induction l with
  | nil => intro k _ t h; simp at h
  | cons a l ih =>
    intro k h t ht e
    cases k with
    | zero =>
      simp at ht
      unfold place; rw [ht, if_pos e]
    | succ k =>
      rw [List.take_succ_cons] at h
      unfold place at h ⊢
      by_cases ea : a = s
      · rw [if_pos ea] at h; simp at h
      · rw [if_neg ea] at h ⊢
        rw [Option.map_eq_none_iff] at h
        rw [ih h t (by simpa using ht) e]; rfl
theorem place_next {l : List ByteArray} {s : ByteArray} {k : Nat} {t : ByteArray} (h : place (l.take k) s = none) (ht : l[k]? = some t) (hne : t ≠ s) : place (l.take (k + 1)) s = none := by
  rw [List.take_add_one, ht]
  show place (l.take k ++ [t]) s = none
  rw [place_snoc, h]
  simp [hne]
set_option maxHeartbeats 2000000 in
theorem find_ref (v : Value) (l : List ByteArray) (s : ByteArray) (w : World) {F : Nat → Prop} (ha : IsTexts w F v l) : Calls Try.prog 21 #[v, .string s] w fun e w' => e = .returned (.int .i64 (findT l s)) ∧ w = w' := by
  obtain ⟨p, cp, rfl, hm, hca⟩ := ha
  replace hm := hm.1
  unfold maxLen at hm
  have HA : Hid (0 < l.length → ∃ g o, p = some ⟨g, o, none⟩ ∧ F g ∧ g < w.heap.size ∧ (∀ j c, (txV l)[j]? = some c → w.cell? ⟨g, o + j, none⟩ = some c) ∧ ∀ j, j < ((txV l)).length → w.frozen? ⟨g, o + j, none⟩ = false) := hca
  obtain ⟨R, hR⟩ : ∃ R, R = findT l s := ⟨_, rfl⟩
  have HR : Hid (R = findT l s) := hR
  rw [← hR]
  clear hca hR
  go_enter Try.func21, Try.ntmps21
  go_wp2
  go_loopw [5] (fun i wr => ∃ k : Nat, k ≤ l.length ∧ i = .int .i64 k ∧ wr = w ∧ Hid (place (l.take k) s = none)) (fun i _ => l.length - (intOf i).toNat)
  case atStart => exact ⟨0, by omega, rfl, rfl, rfl⟩
  case round =>
    obtain ⟨k, hk, rfl, rfl, HT⟩ := hrel
    by_cases hlt : k < l.length
    · obtain ⟨g1, o1, hp, -, hg1, ca, -⟩ := HA.out (by omega)
      subst hp
      obtain ⟨t, ht⟩ : ∃ t, l[k]? = some t := ⟨_, List.getElem?_eq_getElem hlt⟩
      have a0 := ca k (.string t) (by simp [txV, ht])
      by_cases e : t = s
      · have HN : Hid (R = (k : Int)) := by show _ = _; rw [HR.out]; unfold findT; rw [place_take HT.out t ht e]
        subst e
        clear ca ht hg1
        go_wp2
        go_ret
        exact ⟨by rw [HN.out]; rfl, rfl⟩
      · have HN : Hid (place (l.take (k + 1)) s = none) := place_next HT.out ht e
        have he : (t.toList == s.toList) = false := by rw [beq_eq_false_iff_ne]; exact fun h => e (ba_inj h)
        clear ca ht hg1
        go_wp2
        go_roundw
        case rel => exact ⟨k + 1, by omega, by go_num, trivial, HN⟩
        case measure => simp [intOf]; omega
    · obtain rfl : k = l.length := by omega
      have HN : Hid (R = -1) := by
        show _ = _
        have := HT.out
        rw [List.take_length] at this
        rw [HR.out]; unfold findT; rw [this]
      go_wp2
      go_ret
      exact ⟨by rw [HN.out]; rfl, rfl⟩
set_option maxHeartbeats 2000000 in
theorem nameMay_ref (s : ByteArray) (hs : s.size ≤ maxLen) (w : World) : Calls Try.prog 20 #[.string s] w fun e w' => e = .returned (.bool (nameMayD s)) ∧ w = w' := by
  unfold maxLen at hs
  have hA := PlainAid.get_bt s
  have u0 := PlainAid.bt_nonneg s
  have u1 := PlainAid.bt_le s
  by_cases h1 : 1 ≤ s.size
  · by_cases h2 : s.size ≤ 32
    · cases h3 : (s.toList == [115, 116, 97, 114, 116]) with
      | true =>
        rw [show nameMayD s = false by simp [nameMayD, h1, h2, h3]]
        go_enter Try.func20, Try.ntmps20
        go_wp2
        go_ret
        exact ⟨rfl, rfl⟩
      | false =>
        cases h4 : letB (PlainAid.bt s 0) with
        | false =>
          rw [show nameMayD s = false by simp [nameMayD, h1, h2, h3, h4]]
          have LT : ∀ w, Calls Try.prog 34 #[.int .u8 (PlainAid.bt s 0)] w fun e w' => e = .returned (.bool false) ∧ w = w' := fun w => by have := letter_any (PlainAid.bt s 0) w (u0 0) (u1 0); rwa [h4] at this
          go_enter Try.func20, Try.ntmps20
          go_wp2_with (go_at_call 34; refine (LT _).mono ?_; rintro e wn ⟨rfl, rfl⟩)
          go_ret
          exact ⟨rfl, rfl⟩
        | true =>
          obtain ⟨R, hR⟩ : ∃ R, R = nameMayD s := ⟨_, rfl⟩
          have HR : Hid (R = (List.range s.size).all fun j => letB (PlainAid.bt s j) || digB (PlainAid.bt s j)) := by show _ = _; rw [hR]; simp [nameMayD, h1, h2, h3, h4]
          rw [← hR]
          have LT : ∀ w, Calls Try.prog 34 #[.int .u8 (PlainAid.bt s 0)] w fun e w' => e = .returned (.bool true) ∧ w = w' := fun w => by have := letter_any (PlainAid.bt s 0) w (u0 0) (u1 0); rwa [h4] at this
          clear hR h4
          go_enter Try.func20, Try.ntmps20
          go_wp2_with (go_at_call 34; refine (LT _).mono ?_; rintro e wn ⟨rfl, rfl⟩)
          go_loopw [3] (fun i wr => ∃ k : Nat, k ≤ s.size ∧ i = .int .i64 k ∧ wr = w ∧ Hid (∀ j, j < k → (letB (PlainAid.bt s j) || digB (PlainAid.bt s j)) = true)) (fun i _ => s.size - (intOf i).toNat)
          case atStart => exact ⟨0, by omega, rfl, rfl, fun j hj => absurd hj (Nat.not_lt_zero _)⟩
          case round =>
            obtain ⟨k, hk, rfl, rfl, HT⟩ := hrel
            by_cases hlt : k < s.size
            · have L1 := fun w => letter_any (PlainAid.bt s k) w (u0 k) (u1 k)
              have D1 := fun w => digit_any (PlainAid.bt s k) w
              have HN : Hid ((letB (PlainAid.bt s k) || digB (PlainAid.bt s k)) = true → ∀ j, j < k + 1 → (letB (PlainAid.bt s j) || digB (PlainAid.bt s j)) = true) := fun h j hj => by
                by_cases e : j = k
                · rw [e]; exact h
                · exact HT.out j (by omega)
              have HM : Hid ((letB (PlainAid.bt s k) || digB (PlainAid.bt s k)) = false → R = false) := fun h => by
                rw [HR.out, List.all_eq_false]
                exact ⟨k, List.mem_range.2 hlt, by rw [h]; decide⟩
              cases hl : letB (PlainAid.bt s k) with
              | true =>
                rw [hl] at L1 HN
                have HN' : Hid (∀ j, j < k + 1 → (letB (PlainAid.bt s j) || digB (PlainAid.bt s j)) = true) := HN.out rfl
                clear HN HM hl D1 LT
                go_wp2_with (go_at_call 34; refine (L1 _).mono ?_; rintro e wn ⟨rfl, rfl⟩)
                go_roundw
                case rel => exact ⟨k + 1, by omega, by go_num, trivial, HN'⟩
                case measure => simp [intOf]; omega
              | false =>
                cases hd : digB (PlainAid.bt s k) with
                | true =>
                  rw [hl] at L1 HN
                  rw [hd] at D1 HN
                  have HN' : Hid (∀ j, j < k + 1 → (letB (PlainAid.bt s j) || digB (PlainAid.bt s j)) = true) := HN.out rfl
                  clear HN HM hl hd LT
                  go_wp2_with (first | (go_at_call 34; refine (L1 _).mono ?_; rintro e wn ⟨rfl, rfl⟩) | (go_at_call 35; refine (D1 _).mono ?_; rintro e wn ⟨rfl, rfl⟩))
                  go_roundw
                  case rel => exact ⟨k + 1, by omega, by go_num, trivial, HN'⟩
                  case measure => simp [intOf]; omega
                | false =>
                  rw [hl] at L1 HM
                  rw [hd] at D1 HM
                  have HM' : Hid (R = false) := HM.out rfl
                  clear HN HM hl hd LT
                  go_wp2_with (first | (go_at_call 34; refine (L1 _).mono ?_; rintro e wn ⟨rfl, rfl⟩) | (go_at_call 35; refine (D1 _).mono ?_; rintro e wn ⟨rfl, rfl⟩))
                  go_ret
                  exact ⟨by rw [HM'.out]; rfl, rfl⟩
            · obtain rfl : k = s.size := by omega
              have HM' : Hid (R = true) := by
                show _ = _
                rw [HR.out, List.all_eq_true]
                exact fun j hj => HT.out j (List.mem_range.1 hj)
              go_wp2
              go_ret
              exact ⟨by rw [HM'.out]; rfl, rfl⟩
    · rw [show nameMayD s = false by simp [nameMayD, h2]]
      go_enter Try.func20, Try.ntmps20
      go_wp2
      go_ret
      exact ⟨rfl, rfl⟩
  · rw [show nameMayD s = false by simp [nameMayD, h1]]
    go_enter Try.func20, Try.ntmps20
    go_wp2
    go_ret
    exact ⟨rfl, rfl⟩
end Go.Proofs.Ytopnhbgialbicaa
