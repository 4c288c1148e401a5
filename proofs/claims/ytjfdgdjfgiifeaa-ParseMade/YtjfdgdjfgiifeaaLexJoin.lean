/- The tokens of a text behind which a blank and another text stand: its own, then those of the other one, so many places on. No program in sight. -/
import Derived.Test.YtjfdgdjfgiifeaaLexShift
namespace Go.Proofs.Ytjfdgdjfgiifeaa

def blankI (c : Int) : Prop := c = 9 ∨ c = 10 ∨ c = 13 ∨ c = 32

/-- b' goes on behind b's n bytes with a blank; a comment at the end of b is ended by it. -/
structure Goes (b b' : Nat → Int) (n n' : Nat) : Prop where
  eq : ∀ j, j < n → b' j = b j
  bl : blankI (b' n)
  lt : n < n'
  cm : b' n = 10 ∨ ∀ j, j < n → b j ≠ 35

theorem Goes.not {b b' : Nat → Int} {n n' : Nat} (h : Goes b b' n n') : b' n ≠ 35 ∧ b' n ≠ 46 ∧ (letB (b' n) || digB (b' n)) = false := by
  have := h.bl
  unfold blankI at this
  refine ⟨by omega, by omega, ?_⟩
  rcases this with e | e | e | e <;> rw [e] <;> rfl

theorem skp_join {b b' : Nat → Int} {n n' : Nat} (h : Goes b b' n n') : ∀ m c k, n = k + m → (c = true → b' n = 10) →
    (skp b n c k < n → skp b' n' c k = skp b n c k) ∧ (n ≤ skp b n c k → skp b' n' c k = skp b' n' false (n + 1))
  | 0, c, k, e, hc => by
    obtain rfl : n = k := by omega
    rw [skp_end b n c n (Nat.le_refl _)]
    refine ⟨fun x => by omega, fun _ => ?_⟩
    have hl := h.lt
    cases c with
    | true => rw [skp_true _ _ _ hl, if_pos (hc rfl)]
    | false => rw [skp_false _ _ _ hl, if_neg h.not.1, if_pos (show b' n = 9 ∨ b' n = 10 ∨ b' n = 13 ∨ b' n = 32 from h.bl)]
  | m + 1, c, k, e, hc => by
    have hk : k < n := by omega
    have hk' : k < n' := by have := h.lt; omega
    have hb := h.eq k hk
    cases c with
    | true =>
      rw [skp_true _ _ _ hk, skp_true _ _ _ hk', hb]
      by_cases e1 : b k = 10
      · rw [if_pos e1, if_pos e1]; exact skp_join h m false (k + 1) (by omega) (fun x => by cases x)
      · rw [if_neg e1, if_neg e1]; exact skp_join h m true (k + 1) (by omega) hc
    | false =>
      rw [skp_false _ _ _ hk, skp_false _ _ _ hk', hb]
      by_cases e1 : b k = 35
      · rw [if_pos e1, if_pos e1]
        refine skp_join h m true (k + 1) (by omega) (fun _ => ?_)
        rcases h.cm with e2 | e2
        · exact e2
        · exact absurd e1 (e2 k hk)
      · rw [if_neg e1, if_neg e1]
        by_cases e2 : b k = 9 ∨ b k = 10 ∨ b k = 13 ∨ b k = 32
        · rw [if_pos e2, if_pos e2]; exact skp_join h m false (k + 1) (by omega) (fun x => by cases x)
        · rw [if_neg e2, if_neg e2]; exact ⟨fun _ => rfl, fun x => by omega⟩

theorem nameE_join {b b' : Nat → Int} {n n' : Nat} (h : Goes b b' n n') : ∀ m k, n = k + m → nameE b' n' k = nameE b n k
  | 0, k, e => by
    obtain rfl : n = k := by omega
    rw [nameE_end b n n (Nat.le_refl _), nameE_out b' n' n h.lt h.not.2.2]
  | m + 1, k, e => by
    have hk : k < n := by omega
    have hk' : k < n' := by have := h.lt; omega
    have hb := h.eq k hk
    by_cases hl : (letB (b k) || digB (b k)) = true
    · rw [nameE_in b n k hk hl, nameE_in b' n' k hk' (by rw [hb]; exact hl)]; exact nameE_join h m (k + 1) (by omega)
    · have hl := Bool.eq_false_iff.2 hl
      rw [nameE_out b n k hk hl, nameE_out b' n' k hk' (by rw [hb]; exact hl)]
theorem cut_join {b b' : Nat → Int} {n n' : Nat} (h : Goes b b' n n') (k e : Nat) (he : e ≤ n) : cut b' k e = cut b k e := by
  unfold cut
  apply List.map_congr_left
  intro j hj
  exact h.eq _ (by have := List.mem_range.1 hj; omega)
theorem signF_join {b b' : Nat → Int} {n n' : Nat} (h : Goes b b' n n') {k : Nat} {q c : Int} {to : Nat} (hs : signF b n k q = some (c, to)) : signF b' n' k q = some (c, to) := by
  have hl := h.lt
  unfold signF at hs ⊢
  by_cases h1 : n ≤ k ∨ b k < 32 ∨ 126 < b k ∨ b k = q
  · rw [if_pos h1] at hs; cases hs
  · rw [if_neg h1] at hs
    rw [h.eq k (by omega), if_neg (by omega)]
    by_cases h2 : b k ≠ 92
    · rw [if_pos h2] at hs; rw [if_pos h2]; exact hs
    · rw [if_neg h2] at hs; rw [if_neg h2]
      by_cases h3 : n ≤ k + 1
      · rw [if_pos h3] at hs; cases hs
      · rw [if_neg h3] at hs
        rw [if_neg (by omega), h.eq (k + 1) (by omega)]
        by_cases h4 : b (k + 1) = 92 ∨ b (k + 1) = 34 ∨ b (k + 1) = 39
        · rw [if_pos h4] at hs; rw [if_pos h4]; exact hs
        · rw [if_neg h4] at hs; rw [if_neg h4]
          by_cases h5 : b (k + 1) ≠ 120 ∨ n ≤ k + 3 ∨ hexF (b (k + 2)) < 0 ∨ hexF (b (k + 3)) < 0
          · rw [if_pos h5] at hs; cases hs
          · rw [if_neg h5] at hs
            rw [h.eq (k + 2) (by omega), h.eq (k + 3) (by omega), if_neg (by omega)]
            exact hs
theorem textS_join {b b' : Nat → Int} {n n' : Nat} (h : Goes b b' n n') : ∀ f k acc l to, textS b n f k acc = some (l, to) → k ≤ n → textF b' n' k acc = some (l, to)
  | 0, _, _, _, _, hs, _ => by cases hs
  | f + 1, k, acc, l, to, hs, hk => by
    have hl := h.lt
    have hs' : (if k < n ∧ b k = 34 then some (acc, k + 1) else match signF b n k 34 with
      | none => none
      | some (c, to) => textS b n f to (acc ++ [c])) = some (l, to) := hs
    rw [textF_eq b' n' k acc (by omega)]
    by_cases h1 : k < n ∧ b k = 34
    · rw [if_pos h1] at hs'
      rw [if_pos ⟨by omega, by rw [h.eq k h1.1]; exact h1.2⟩]; exact hs'
    · rw [if_neg h1] at hs'
      cases hg : signF b n k 34 with
      | none => rw [hg] at hs'; cases hs'
      | some x =>
        obtain ⟨c, t⟩ := x
        have h2 := signF_to hg
        rw [hg] at hs'
        rw [if_neg (by intro hh; exact h1 ⟨by omega, by rw [← h.eq k (by omega)]; exact hh.2⟩), signF_join h hg]
        exact textS_join h f t (acc ++ [c]) l to hs' h2.2
theorem half_join {b b' : Nat → Int} {n n' : Nat} (h : Goes b b' n n') {k : Nat} {c : Int} {to : Nat} (hs : half b n k = some (c, to)) : half b' n' k = some (c, to) := by
  have hl := h.lt
  unfold half at hs ⊢
  cases hg : signF b n k 39 with
  | none => rw [hg] at hs; cases hs
  | some x =>
    obtain ⟨c', t⟩ := x
    rw [hg] at hs
    rw [signF_join h hg]
    have hs' : (if n ≤ t ∨ b t ≠ 39 then none else some (c', t + 1)) = some (c, to) := hs
    show (if n' ≤ t ∨ b' t ≠ 39 then none else some (c', t + 1)) = some (c, to)
    by_cases h1 : n ≤ t ∨ b t ≠ 39
    · rw [if_pos h1] at hs'; cases hs'
    · rw [if_neg h1] at hs'
      rw [h.eq t (by omega), if_neg (by omega)]; exact hs'
theorem dotsB_join {b b' : Nat → Int} {n n' : Nat} (h : Goes b b' n n') {k : Nat} (hk : k ≤ n) : dotsB b' n' k = dotsB b n k := by
  have hl := h.lt
  have h4 := h.not.2.1
  unfold dotsB
  by_cases e : k + 1 < n
  · rw [h.eq k (by omega), h.eq (k + 1) e, decide_eq_true e, decide_eq_true (show k + 1 < n' by omega)]
  · rw [decide_eq_false e]
    by_cases e1 : k = n
    · subst e1; rw [decide_eq_false h4]; simp
    · obtain rfl : n = k + 1 := by omega
      rw [decide_eq_false h4]; simp
theorem tokF_join {b b' : Nat → Int} {n n' : Nat} (h : Goes b b' n n') {k : Nat} (hk : k < n) {t : Tok} {to : Nat} (hs : tokF b n k = .ok (t, to)) : tokF b' n' k = .ok (t, to) := by
  have hl := h.lt
  unfold tokF at hs ⊢
  rw [h.eq k hk]
  by_cases h1 : letB (b k) = true
  · rw [if_pos h1] at hs ⊢
    unfold nameG at hs ⊢
    rw [nameE_join h (n - k) k (by omega), cut_join h _ _ (nameE_le b n k (by omega))]
    exact hs
  · rw [if_neg h1] at hs ⊢
    by_cases h2 : b k = 34
    · rw [if_pos h2] at hs ⊢
      unfold textG at hs ⊢
      cases hg : textF b n (k + 1) [] with
      | none => rw [hg] at hs; cases hs
      | some x =>
        obtain ⟨l, t'⟩ := x
        rw [hg] at hs
        rw [textS_join h _ _ _ _ _ hg (by omega)]
        exact hs
    · rw [if_neg h2] at hs ⊢
      by_cases h3 : b k = 39
      · rw [if_pos h3] at hs ⊢
        unfold rangeG rangeF at hs ⊢
        cases hg : half b n (k + 1) with
        | none => rw [hg] at hs; cases hs
        | some x =>
          obtain ⟨c, t1⟩ := x
          have ht1 := half_to hg
          rw [hg] at hs
          rw [half_join h hg]
          simp only [dots, dotsB_join h ht1.2] at hs ⊢
          by_cases h4 : dotsB b n t1 = true
          · simp only [if_pos h4, oneF_half] at hs ⊢
            by_cases h5 : n ≤ t1 + 2 ∨ b (t1 + 2) ≠ 39
            · rw [if_pos h5] at hs; cases hs
            · rw [if_neg h5] at hs
              rw [h.eq (t1 + 2) (by omega), if_neg (by omega)]
              cases hg2 : half b n (t1 + 2 + 1) with
              | none => rw [hg2] at hs; cases hs
              | some y =>
                rw [hg2] at hs
                rw [half_join h hg2]
                exact hs
          · simp only [if_neg h4] at hs ⊢; exact hs
      · rw [if_neg h3] at hs ⊢; exact hs
theorem lexK_join {b b' : Nat → Int} {n n' : Nat} (h : Goes b b' n n') : ∀ m k l, n ≤ k + m → k ≤ n → lexK b n k = .ok l → lexK b' n' k = Res.pre l (lexK b' n' (n + 1)) := by
  have hl := h.lt
  intro m
  induction m with
  | zero =>
    intro k l hm hk hs
    obtain rfl : k = n := by omega
    rw [lexK_eq b k k hk, lexA, if_pos (skp_ge _ _ _ _)] at hs
    injection hs with hs
    subst hs
    rw [Res.pre_nil, lexK_eq b' n' k (by omega), lexK_eq b' n' (k + 1) (by omega), (skp_join h 0 false k rfl (fun x => by cases x)).2 (skp_ge _ _ _ _)]
  | succ m ih =>
    intro k l hm hk hs
    rw [lexK_eq b n k hk, lexA] at hs
    have hj := skp_join h (n - k) false k (by omega) (fun x => by cases x)
    rw [lexK_eq b' n' k (by omega)]
    by_cases h1 : n ≤ skp b n false k
    · rw [if_pos h1] at hs
      injection hs with hs
      subst hs
      rw [Res.pre_nil, hj.2 h1, ← lexK_eq b' n' (n + 1) (by omega)]
    · rw [if_neg h1] at hs
      rw [hj.1 (by omega), lexA, if_neg (by omega)]
      have hge := skp_ge b n false k
      rcases hg : tokF b n (skp b n false k) with (_ | _) | ⟨t, to⟩
      · rw [hg] at hs; cases hs
      · rw [hg] at hs; cases hs
      · rw [hg] at hs
        rw [tokF_join h (by omega) hg]
        have hto := tokF_to (by omega) hg
        have hs' : Res.cons t (lexK b n to) = .ok l := hs
        cases hg2 : lexK b n to with
        | error e => rw [hg2] at hs'; cases hs'
        | ok l2 =>
          rw [hg2] at hs'
          obtain rfl : t :: l2 = l := by injection hs'
          show Res.cons t (lexK b' n' to) = _
          rw [ih to l2 (by omega) hto.2 hg2]
          cases lexK b' n' (n + 1) <;> rfl

theorem bt_left (s x : ByteArray) (j : Nat) (h : j < s.size) : PlainAid.bt (s ++ x) j = PlainAid.bt s j := by
  unfold PlainAid.bt
  rw [dif_pos h, dif_pos (by rw [ByteArray.size_append]; omega)]
  rw [ByteArray.getElem_append_left h]
theorem bt_right (s x : ByteArray) (j : Nat) : PlainAid.bt (s ++ x) (j + s.size) = PlainAid.bt x j := by
  unfold PlainAid.bt
  by_cases h : j < x.size
  · rw [dif_pos h, dif_pos (by rw [ByteArray.size_append]; omega)]
    rw [ByteArray.getElem_append_right (by omega)]
    congr 3; omega
  · rw [dif_neg h, dif_neg (by rw [ByteArray.size_append]; omega)]

/-- A text, a blank, another text. -/
theorem lex_join (s x : ByteArray) (c : UInt8) (hc : blankI (c.toNat : Int)) (hm : c = 10 ∨ ∀ j, j < s.size → PlainAid.bt s j ≠ 35) (l : List Tok) (h : lexT s = .ok l) (hz : s.size + 1 + x.size ≤ 65536) :
    lexT (s ++ ⟨#[c]⟩ ++ x) = Res.pre l (Res.sh (s.size + 1) (lexT x)) := by
  have e0 : (s ++ ⟨#[c]⟩ : ByteArray).size = s.size + 1 := by rw [ByteArray.size_append]; rfl
  have e1 : (s ++ ⟨#[c]⟩ ++ x).size = x.size + (s.size + 1) := by rw [ByteArray.size_append, e0]; omega
  have hbn : PlainAid.bt (s ++ ⟨#[c]⟩ ++ x) s.size = (c.toNat : Int) := by
    rw [bt_left _ _ _ (by omega)]
    have := bt_right s ⟨#[c]⟩ 0
    rw [Nat.zero_add] at this
    rw [this]; rfl
  have hs : ¬ 65536 < s.size := by omega
  have hx : ¬ 65536 < x.size := by omega
  have E0 : lexT s = lexK (PlainAid.bt s) s.size 0 := if_neg hs
  have E1 : lexT x = lexK (PlainAid.bt x) x.size 0 := if_neg hx
  have E2 : lexT (s ++ ⟨#[c]⟩ ++ x) = lexK (PlainAid.bt (s ++ ⟨#[c]⟩ ++ x)) (s ++ ⟨#[c]⟩ ++ x).size 0 := if_neg (by omega)
  have hg : Goes (PlainAid.bt s) (PlainAid.bt (s ++ ⟨#[c]⟩ ++ x)) s.size (s ++ ⟨#[c]⟩ ++ x).size := by
    refine ⟨fun j hj => ?_, by rw [hbn]; exact hc, by omega, ?_⟩
    · rw [bt_left _ _ _ (by omega), bt_left _ _ _ hj]
    · rcases hm with e | e
      · left; rw [hbn, e]; rfl
      · exact Or.inr e
  rw [E0] at h
  rw [E1, E2, lexK_join hg s.size 0 l (by omega) (by omega) h]
  congr 1
  have hb : ∀ j, PlainAid.bt (s ++ ⟨#[c]⟩ ++ x) (j + (s.size + 1)) = PlainAid.bt x j := fun j => by
    have := bt_right (s ++ ⟨#[c]⟩) x j
    rw [e0] at this
    exact this
  have := lexK_sh hb x.size 0
  rw [Nat.zero_add] at this
  rw [e1]
  exact this
end Go.Proofs.Ytjfdgdjfgiifeaa
