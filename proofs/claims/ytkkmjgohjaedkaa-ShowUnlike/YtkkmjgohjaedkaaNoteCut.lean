/- A text that is cut: where it still parses, its tokens and declarations are a beginning of the whole's. No program in sight. -/
import Derived.Test.YtkkmjgohjaedkaaNotePl
import Derived.Test.YtkkmjgohjaedkaaLexPlac
namespace Go.Proofs.Ytkkmjgohjaedkaa

/-- b has n bytes, of which b' has the first n'. -/
structure Cut (b b' : Nat → Int) (n n' : Nat) : Prop where
  eq : ∀ j, j < n' → b' j = b j
  le : n' ≤ n
theorem skp_cut {b b' : Nat → Int} {n n' : Nat} (h : Cut b b' n n') : ∀ m c k, n' = k + m → skp b' n' c k < n' → skp b n c k = skp b' n' c k
  | 0, c, k, e, hs => by
    rw [skp_end b' n' c k (by omega)] at hs; omega
  | m + 1, c, k, e, hs => by
    have hk' : k < n' := by omega
    have hk : k < n := by have := h.le; omega
    have hb := h.eq k hk'
    cases c with
    | true =>
      rw [skp_true _ _ _ hk'] at hs ⊢
      rw [skp_true _ _ _ hk]
      rw [hb] at hs ⊢
      by_cases e1 : b k = 10
      · rw [if_pos e1] at hs ⊢; rw [if_pos e1]; exact skp_cut h m false (k + 1) (by omega) hs
      · rw [if_neg e1] at hs ⊢; rw [if_neg e1]; exact skp_cut h m true (k + 1) (by omega) hs
    | false =>
      rw [skp_false _ _ _ hk'] at hs ⊢
      rw [skp_false _ _ _ hk]
      rw [hb] at hs ⊢
      by_cases e1 : b k = 35
      · rw [if_pos e1] at hs ⊢; rw [if_pos e1]; exact skp_cut h m true (k + 1) (by omega) hs
      · rw [if_neg e1] at hs ⊢; rw [if_neg e1]
        by_cases e2 : b k = 9 ∨ b k = 10 ∨ b k = 13 ∨ b k = 32
        · rw [if_pos e2] at hs ⊢; rw [if_pos e2]; exact skp_cut h m false (k + 1) (by omega) hs
        · rw [if_neg e2]; rw [if_neg e2]
theorem nameE_cut {b b' : Nat → Int} {n n' : Nat} (h : Cut b b' n n') : ∀ m k, n' = k + m → nameE b' n' k < n' → nameE b n k = nameE b' n' k
  | 0, k, e, hs => by rw [nameE_end b' n' k (by omega)] at hs; omega
  | m + 1, k, e, hs => by
    have hk' : k < n' := by omega
    have hk : k < n := by have := h.le; omega
    have hb := h.eq k hk'
    by_cases hl : (letB (b' k) || digB (b' k)) = true
    · rw [nameE_in b' n' k hk' hl] at hs ⊢
      rw [nameE_in b n k hk (by rw [← hb]; exact hl)]
      exact nameE_cut h m (k + 1) (by omega) hs
    · have hl := Bool.eq_false_iff.2 hl
      rw [nameE_out b' n' k hk' hl, nameE_out b n k hk (by rw [← hb]; exact hl)]
theorem cut_cut {b b' : Nat → Int} {n n' : Nat} (h : Cut b b' n n') (k e : Nat) (he : e ≤ n') : cut b k e = cut b' k e := by
  unfold cut
  apply List.map_congr_left
  intro j hj
  exact (h.eq _ (by have := List.mem_range.1 hj; omega)).symm
theorem signF_cut {b b' : Nat → Int} {n n' : Nat} (h : Cut b b' n n') {k : Nat} {q c : Int} {to : Nat} (hs : signF b' n' k q = some (c, to)) : signF b n k q = some (c, to) := by
  have hl := h.le
  unfold signF at hs ⊢
  by_cases h1 : n' ≤ k ∨ b' k < 32 ∨ 126 < b' k ∨ b' k = q
  · rw [if_pos h1] at hs; cases hs
  · rw [if_neg h1] at hs
    have e0 := h.eq k (by omega)
    rw [← e0, if_neg (by omega)]
    by_cases h2 : b' k ≠ 92
    · rw [if_pos h2] at hs; rw [if_pos h2]; exact hs
    · rw [if_neg h2] at hs; rw [if_neg h2]
      by_cases h3 : n' ≤ k + 1
      · rw [if_pos h3] at hs; cases hs
      · rw [if_neg h3] at hs
        rw [if_neg (by omega), ← h.eq (k + 1) (by omega)]
        by_cases h4 : b' (k + 1) = 92 ∨ b' (k + 1) = 34 ∨ b' (k + 1) = 39
        · rw [if_pos h4] at hs; rw [if_pos h4]; exact hs
        · rw [if_neg h4] at hs; rw [if_neg h4]
          by_cases h5 : b' (k + 1) ≠ 120 ∨ n' ≤ k + 3 ∨ hexF (b' (k + 2)) < 0 ∨ hexF (b' (k + 3)) < 0
          · rw [if_pos h5] at hs; cases hs
          · rw [if_neg h5] at hs
            rw [← h.eq (k + 2) (by omega), ← h.eq (k + 3) (by omega), if_neg (by omega)]
            exact hs
theorem textS_cut {b b' : Nat → Int} {n n' : Nat} (h : Cut b b' n n') : ∀ f k acc l to, textS b' n' f k acc = some (l, to) → k ≤ n' → textF b n k acc = some (l, to)
  | 0, _, _, _, _, hs, _ => by cases hs
  | f + 1, k, acc, l, to, hs, hk => by
    have hl := h.le
    have hs' : (if k < n' ∧ b' k = 34 then some (acc, k + 1) else match signF b' n' k 34 with
      | none => none
      | some (c, to) => textS b' n' f to (acc ++ [c])) = some (l, to) := hs
    rw [textF_eq b n k acc (by omega)]
    by_cases h1 : k < n' ∧ b' k = 34
    · rw [if_pos h1] at hs'
      rw [if_pos ⟨by omega, by rw [← h.eq k h1.1]; exact h1.2⟩]; exact hs'
    · rw [if_neg h1] at hs'
      cases hg : signF b' n' k 34 with
      | none => rw [hg] at hs'; cases hs'
      | some x =>
        obtain ⟨c, t⟩ := x
        have h2 := signF_to hg
        rw [hg] at hs'
        rw [if_neg (by intro hh; exact h1 ⟨by omega, by rw [h.eq k (by omega)]; exact hh.2⟩), signF_cut h hg]
        exact textS_cut h f t (acc ++ [c]) l to hs' h2.2
theorem half_cut {b b' : Nat → Int} {n n' : Nat} (h : Cut b b' n n') {k : Nat} {c : Int} {to : Nat} (hs : half b' n' k = some (c, to)) : half b n k = some (c, to) := by
  have hl := h.le
  unfold half at hs ⊢
  cases hg : signF b' n' k 39 with
  | none => rw [hg] at hs; cases hs
  | some x =>
    obtain ⟨c', t⟩ := x
    rw [hg] at hs
    rw [signF_cut h hg]
    have hs' : (if n' ≤ t ∨ b' t ≠ 39 then none else some (c', t + 1)) = some (c, to) := hs
    show (if n ≤ t ∨ b t ≠ 39 then none else some (c', t + 1)) = some (c, to)
    by_cases h1 : n' ≤ t ∨ b' t ≠ 39
    · rw [if_pos h1] at hs'; cases hs'
    · rw [if_neg h1] at hs'
      rw [← h.eq t (by omega), if_neg (by omega)]; exact hs'
/-- A token that does not reach the cut, and behind which no dot stands; or a mark. -/
theorem tokF_cut {b b' : Nat → Int} {n n' : Nat} (h : Cut b b' n n') {k : Nat} (hk : k < n') {t : Tok} {to : Nat} (hs : tokF b' n' k = .ok (t, to)) (hw : (to < n' ∧ b' to ≠ 46) ∨ b' k = 59) : tokF b n k = .ok (t, to) := by
  have hl := h.le
  unfold tokF at hs ⊢
  rw [← h.eq k hk]
  by_cases h1 : letB (b' k) = true
  · rw [if_pos h1] at hs ⊢
    unfold nameG at hs ⊢
    have hw' : to < n' := by
      rcases hw with hw | hw
      · exact hw.1
      · rw [hw] at h1; cases h1
    by_cases h32 : 32 < nameE b' n' k - k
    · rw [if_pos h32] at hs; cases hs
    · rw [if_neg h32] at hs
      obtain ⟨_, e2⟩ := got_inj hs
      have hE := nameE_cut h (n' - k) k (by omega) (by omega)
      rw [hE, if_neg h32, cut_cut h _ _ (by omega)]
      exact hs
  · rw [if_neg h1] at hs ⊢
    by_cases h2 : b' k = 34
    · rw [if_pos h2] at hs ⊢
      unfold textG at hs ⊢
      cases hg : textF b' n' (k + 1) [] with
      | none => rw [hg] at hs; cases hs
      | some x =>
        obtain ⟨l, t'⟩ := x
        rw [hg] at hs
        rw [textS_cut h _ _ _ _ _ hg (by omega)]
        exact hs
    · rw [if_neg h2] at hs ⊢
      by_cases h3 : b' k = 39
      · rw [if_pos h3] at hs ⊢
        have hw' : to < n' ∧ b' to ≠ 46 := by
          rcases hw with hw | hw
          · exact hw
          · omega
        unfold rangeG rangeF at hs ⊢
        cases hg : half b' n' (k + 1) with
        | none => rw [hg] at hs; cases hs
        | some x =>
          obtain ⟨c, t1⟩ := x
          have ht1 := half_to hg
          rw [hg] at hs
          rw [half_cut h hg]
          by_cases h4 : dots b' n' t1
          · obtain ⟨d1, d2, d3⟩ := dots_parts h4
            have h4' : dots b n t1 := dots_mk ⟨by omega, by rw [← h.eq t1 (by omega)]; exact d2, by rw [← h.eq (t1 + 1) (by omega)]; exact d3⟩
            simp only [if_pos h4, if_pos h4', oneF_half] at hs ⊢
            by_cases h5 : n' ≤ t1 + 2 ∨ b' (t1 + 2) ≠ 39
            · rw [if_pos h5] at hs; cases hs
            · rw [if_neg h5] at hs
              rw [← h.eq (t1 + 2) (by omega), if_neg (by omega)]
              cases hg2 : half b' n' (t1 + 2 + 1) with
              | none => rw [hg2] at hs; cases hs
              | some y =>
                rw [hg2] at hs
                rw [half_cut h hg2]
                exact hs
          · simp only [if_neg h4] at hs
            obtain ⟨_, e2⟩ := got_inj hs
            have h4' : ¬ dots b n t1 := fun hd => by
              obtain ⟨d1, d2, d3⟩ := dots_parts hd
              rw [← h.eq t1 (by omega)] at d2
              subst e2
              exact hw'.2 d2
            simp only [if_neg h4']
            exact hs
      · rw [if_neg h3] at hs ⊢; exact hs
/-- Tokens of a beginning that end with a mark, or none. -/
theorem lexK_cut {b b' : Nat → Int} {n n' : Nat} (h : Cut b b' n n') (hb : ∀ j, 0 ≤ b' j ∧ b' j ≤ 255) : ∀ m k l, n' ≤ k + m → k ≤ n' → lexK b' n' k = .ok l → (∀ t, l.getLast? = some t → t.kind = 8) → ∃ q, q ≤ n ∧ lexK b n k = Res.pre l (lexK b n q) := by
  have hl := h.le
  intro m
  induction m with
  | zero =>
    intro k l hm hk hs _
    obtain rfl : k = n' := by omega
    rw [lexK_eq b' k k hk, lexA, if_pos (skp_ge _ _ _ _)] at hs
    injection hs with hs
    subst hs
    exact ⟨k, by omega, (Res.pre_nil _).symm⟩
  | succ m ih =>
    intro k l hm hk hs hlast
    rw [lexK_eq b' n' k hk, lexA] at hs
    by_cases h1 : n' ≤ skp b' n' false k
    · rw [if_pos h1] at hs
      injection hs with hs
      subst hs
      exact ⟨k, by omega, (Res.pre_nil _).symm⟩
    · rw [if_neg h1] at hs
      have hge := skp_ge b' n' false k
      have hsk := skp_cut h (n' - k) false k (by omega) (by omega)
      rcases hg : tokF b' n' (skp b' n' false k) with (_ | _) | ⟨t, to⟩
      · rw [hg] at hs; cases hs
      · rw [hg] at hs; cases hs
      · rw [hg] at hs
        have hto := tokF_to (by omega) hg
        obtain ⟨hpl, hbg⟩ := tokF_begun hb (by omega) hg
        have hs' : Res.cons t (lexK b' n' to) = .ok l := hs
        cases hg2 : lexK b' n' to with
        | error e => rw [hg2] at hs'; cases hs'
        | ok l2 =>
          rw [hg2] at hs'
          obtain rfl : t :: l2 = l := by injection hs'
          have hw : (to < n' ∧ b' to ≠ 46) ∨ b' (skp b' n' false k) = 59 := by
            cases l2 with
            | nil =>
              right
              have := hbg.h8 (hlast t (by simp))
              rw [← hpl]; exact this
            | cons u l3 =>
              left
              rw [lexK_eq b' n' to hto.2, lexA] at hg2
              by_cases h2 : n' ≤ skp b' n' false to
              · rw [if_pos h2] at hg2; cases hg2
              · have hge2 := skp_ge b' n' false to
                refine ⟨by omega, fun hd => ?_⟩
                rw [if_neg h2] at hg2
                have hst : skp b' n' false to = to := by rw [skp_false b' n' to (by omega), if_neg (by omega), if_neg (by omega)]
                rw [hst] at hg2
                have hT : tokF b' n' to = .error false := by unfold tokF; rw [hd]; rfl
                rw [hT] at hg2
                cases hg2
          have hl2 : ∀ u, l2.getLast? = some u → u.kind = 8 := fun u hu => hlast u (by rw [List.getLast?_cons, hu]; rfl)
          obtain ⟨q, hq, e⟩ := ih to l2 (by omega) hto.2 hg2 hl2
          refine ⟨q, hq, ?_⟩
          rw [lexK_eq b n k (by omega), hsk, lexA, if_neg (by omega), tokF_cut h (by omega) hg hw]
          show Res.cons t (lexK b n to) = _
          rw [e]
          cases lexK b n q <;> rfl
theorem feed_app (l m : List Tok) : ∀ p q : Pm, feed p l = .ok q → feed p (l ++ m) = feed q m := by
  induction l with
  | nil => intro p q h; injection h with h; subst h; rfl
  | cons t l ih =>
    intro p q h
    have h' : (match take p t with
      | none => Except.error t.pl
      | some r => feed r l) = .ok q := h
    show (match take p t with
      | none => Except.error t.pl
      | some r => feed r (l ++ m)) = _
    cases ht : take p t with
    | none => rw [ht] at h'; cases h'
    | some r => rw [ht] at h'; exact ih r q h'
/-- What was declared stays. -/
structure Grew (p q : Pm) : Prop where
  s : ∃ x, q.starts = p.starts ++ x
  d : ∃ x, q.defs = p.defs ++ x
theorem tItem_grew {p q : Pm} {t : Tok} (e : tItem p t = some q) : Grew p q := by
  unfold tItem at e
  split at e
  · injection e with e; subst e; exact ⟨⟨[], (List.append_nil _).symm⟩, ⟨[], (List.append_nil _).symm⟩⟩
  · cases e
theorem take_grew {p q : Pm} {t : Tok} (e : take p t = some q) : Grew p q := by
  unfold take at e
  match hs : p.st with
  | 0 =>
    rw [hs] at e
    have e' : take0 p t = some q := e
    unfold take0 at e'
    split at e'
    · injection e' with e'; subst e'; exact ⟨⟨[], (List.append_nil _).symm⟩, ⟨[], (List.append_nil _).symm⟩⟩
    · split at e'
      · injection e' with e'; subst e'; exact ⟨⟨[], (List.append_nil _).symm⟩, ⟨[], (List.append_nil _).symm⟩⟩
      · cases e'
  | 1 =>
    rw [hs] at e
    have e' : take1 p t = some q := e
    unfold take1 at e'
    split at e'
    · injection e' with e'; subst e'; exact ⟨⟨[], (List.append_nil _).symm⟩, ⟨[], (List.append_nil _).symm⟩⟩
    · cases e'
  | 2 =>
    rw [hs] at e
    have e' : take2 p t = some q := e
    unfold take2 at e'
    split at e'
    · injection e' with e'; subst e'; exact ⟨⟨_, rfl⟩, ⟨[], (List.append_nil _).symm⟩⟩
    · cases e'
  | 3 =>
    rw [hs] at e
    have e' : take3 p t = some q := e
    unfold take3 at e'
    split at e'
    · injection e' with e'; subst e'; exact ⟨⟨[], (List.append_nil _).symm⟩, ⟨[], (List.append_nil _).symm⟩⟩
    · cases e'
  | 4 =>
    rw [hs] at e
    have e' : take4 p t = some q := e
    unfold take4 at e'
    split at e'
    · injection e' with e'; subst e'; exact ⟨⟨[], (List.append_nil _).symm⟩, ⟨[], (List.append_nil _).symm⟩⟩
    · exact tItem_grew e'
  | 5 => rw [hs] at e; exact tItem_grew e
  | m + 6 =>
    rw [hs] at e
    have e' : take6 p t = some q := e
    unfold take6 at e'
    split at e'
    · injection e' with e'; subst e'; exact ⟨⟨[], (List.append_nil _).symm⟩, ⟨[], (List.append_nil _).symm⟩⟩
    · split at e'
      · injection e' with e'; subst e'; exact ⟨⟨[], (List.append_nil _).symm⟩, ⟨[], (List.append_nil _).symm⟩⟩
      · split at e'
        · injection e' with e'; subst e'; exact ⟨⟨[], (List.append_nil _).symm⟩, ⟨_, rfl⟩⟩
        · exact tItem_grew e'
theorem feed_grew (l : List Tok) : ∀ p q : Pm, feed p l = .ok q → Grew p q := by
  induction l with
  | nil => intro p q h; injection h with h; subst h; exact ⟨⟨[], (List.append_nil _).symm⟩, ⟨[], (List.append_nil _).symm⟩⟩
  | cons t l ih =>
    intro p q h
    have h' : (match take p t with
      | none => Except.error t.pl
      | some r => feed r l) = .ok q := h
    cases ht : take p t with
    | none => rw [ht] at h'; cases h'
    | some r =>
      rw [ht] at h'
      obtain ⟨⟨x1, e1⟩, ⟨y1, f1⟩⟩ := take_grew ht
      obtain ⟨⟨x2, e2⟩, ⟨y2, f2⟩⟩ := ih r q h'
      exact ⟨⟨x1 ++ x2, by rw [e2, e1, List.append_assoc]⟩, ⟨y1 ++ y2, by rw [f2, f1, List.append_assoc]⟩⟩
/-- The token that ends a declaration is TokSemi. -/
theorem take_zero {p q : Pm} {t : Tok} (e : take p t = some q) (h0 : q.st = 0) : t.kind = 8 := by
  unfold take at e
  have hit : ∀ {q : Pm}, tItem p t = some q → q.st = 0 → t.kind = 8 := fun {q} e h0 => by
    unfold tItem at e
    split at e
    · injection e with e; subst e; simp at h0
    · cases e
  match hs : p.st with
  | 0 =>
    rw [hs] at e
    have e' : take0 p t = some q := e
    unfold take0 at e'
    split at e'
    · injection e' with e'; subst e'; simp [Pm.to] at h0
    · split at e'
      · injection e' with e'; subst e'; simp at h0
      · cases e'
  | 1 =>
    rw [hs] at e
    have e' : take1 p t = some q := e
    unfold take1 at e'
    split at e'
    · injection e' with e'; subst e'; simp at h0
    · cases e'
  | 2 =>
    rw [hs] at e
    have e' : take2 p t = some q := e
    unfold take2 at e'
    split at e'
    · assumption
    · cases e'
  | 3 =>
    rw [hs] at e
    have e' : take3 p t = some q := e
    unfold take3 at e'
    split at e'
    · injection e' with e'; subst e'; simp [Pm.to] at h0
    · cases e'
  | 4 =>
    rw [hs] at e
    have e' : take4 p t = some q := e
    unfold take4 at e'
    split at e'
    · injection e' with e'; subst e'; simp at h0
    · exact hit e' h0
  | 5 => rw [hs] at e; exact hit e h0
  | m + 6 =>
    rw [hs] at e
    have e' : take6 p t = some q := e
    unfold take6 at e'
    split at e'
    · injection e' with e'; subst e'; simp [Pm.to] at h0
    · split at e'
      · injection e' with e'; subst e'; simp [Pm.to] at h0
      · split at e'
        · assumption
        · exact hit e' h0
theorem feed_last (l : List Tok) : ∀ p q : Pm, feed p l = .ok q → q.st = 0 → ∀ t, l.getLast? = some t → t.kind = 8 := by
  induction l with
  | nil => intro p q _ _ t h; simp at h
  | cons a l ih =>
    intro p q h h0 t ht
    have h' : (match take p a with
      | none => Except.error a.pl
      | some r => feed r l) = .ok q := h
    cases hk : take p a with
    | none => rw [hk] at h'; cases h'
    | some r =>
      rw [hk] at h'
      cases l with
      | nil =>
        injection h' with h'
        subst h'
        obtain rfl : a = t := by simpa using ht
        exact take_zero hk h0
      | cons c l => exact ih r q h' h0 t (by rw [List.getLast?_cons_cons] at ht; exact ht)
end Go.Proofs.Ytkkmjgohjaedkaa
