import Derived.Test.YtkkmjgohjaedkaaLexTok
/- The tokens of a text that stands behind another one are its own, so many places on. No program in sight. -/
namespace Go.Proofs.Ytkkmjgohjaedkaa

def Tok.sh (d : Nat) (t : Tok) : Tok := ⟨t.kind, t.pl + d, t.text, t.lo, t.hi⟩
def Res.sh (d : Nat) : Res → Res
  | .ok l => .ok (l.map (Tok.sh d))
  | .error (p, e) => .error (p + d, e)
def Got.sh (d : Nat) : Got → Got
  | .ok (t, to) => .ok (t.sh d, to + d)
  | .error e => .error e
def osh {α : Type} (d : Nat) : Option (α × Nat) → Option (α × Nat)
  | none => none
  | some (c, t) => some (c, t + d)
theorem Res.sh_cons (d : Nat) (t : Tok) (r : Res) : Res.sh d (Res.cons t r) = Res.cons (t.sh d) (Res.sh d r) := by
  cases r with
  | ok l => rfl
  | error e => rfl
theorem Res.sh_pre (d : Nat) (l : List Tok) (r : Res) : Res.sh d (Res.pre l r) = Res.pre (l.map (Tok.sh d)) (Res.sh d r) := by
  cases r with
  | ok m => simp [Res.pre, Res.sh]
  | error e => rfl
theorem Res.sh_sh (d c : Nat) (r : Res) : Res.sh d (Res.sh c r) = Res.sh (c + d) r := by
  cases r with
  | ok l => simp [Res.sh, Tok.sh, Nat.add_assoc]
  | error e => simp [Res.sh, Nat.add_assoc]
theorem Res.sh_zero (r : Res) : Res.sh 0 r = r := by
  cases r with
  | ok l => simp only [Res.sh]; congr 1; induction l with
    | nil => rfl
    | cons t l ih => rw [List.map_cons, ih]; rfl
  | error e => rfl
theorem Res.pre_pre (l m : List Tok) (r : Res) : Res.pre l (Res.pre m r) = Res.pre (l ++ m) r := by
  cases r with
  | ok x => simp [Res.pre]
  | error e => rfl

theorem skipS_sh (b b' : Nat → Int) (d n : Nat) (hb : ∀ j, b' (j + d) = b j) : ∀ f c k, skipS b' (n + d) f c (k + d) = skipS b n f c k + d
  | 0, c, k => by cases c <;> rfl
  | f + 1, true, k => by
    show (if b' (k + d) = 10 then skipS b' (n + d) f false (k + d + 1) else skipS b' (n + d) f true (k + d + 1)) = (if b k = 10 then skipS b n f false (k + 1) else skipS b n f true (k + 1)) + d
    rw [hb, show k + d + 1 = k + 1 + d by omega, skipS_sh b b' d n hb f false (k + 1), skipS_sh b b' d n hb f true (k + 1)]
    split <;> rfl
  | f + 1, false, k => by
    show (if b' (k + d) = 35 then skipS b' (n + d) f true (k + d + 1) else if b' (k + d) = 9 ∨ b' (k + d) = 10 ∨ b' (k + d) = 13 ∨ b' (k + d) = 32 then skipS b' (n + d) f false (k + d + 1) else k + d) = (if b k = 35 then skipS b n f true (k + 1) else if b k = 9 ∨ b k = 10 ∨ b k = 13 ∨ b k = 32 then skipS b n f false (k + 1) else k) + d
    rw [hb, show k + d + 1 = k + 1 + d by omega, skipS_sh b b' d n hb f false (k + 1), skipS_sh b b' d n hb f true (k + 1)]
    split
    · rfl
    · split <;> rfl
theorem skp_sh {b b' : Nat → Int} {d : Nat} (hb : ∀ j, b' (j + d) = b j) (n : Nat) (c : Bool) (k : Nat) : skp b' (n + d) c (k + d) = skp b n c k + d := by
  unfold skp
  rw [show n + d - (k + d) = n - k by omega]
  exact skipS_sh b b' d n hb _ c k
theorem nameS_sh (b b' : Nat → Int) (d : Nat) (hb : ∀ j, b' (j + d) = b j) : ∀ f k, nameS b' f (k + d) = nameS b f k + d
  | 0, k => rfl
  | f + 1, k => by
    show (if letB (b' (k + d)) || digB (b' (k + d)) then nameS b' f (k + d + 1) else k + d) = (if letB (b k) || digB (b k) then nameS b f (k + 1) else k) + d
    rw [hb, show k + d + 1 = k + 1 + d by omega, nameS_sh b b' d hb f (k + 1)]
    split <;> rfl
theorem nameE_sh {b b' : Nat → Int} {d : Nat} (hb : ∀ j, b' (j + d) = b j) (n k : Nat) : nameE b' (n + d) (k + d) = nameE b n k + d := by
  unfold nameE
  rw [show n + d - (k + d) = n - k by omega]
  exact nameS_sh b b' d hb _ k
theorem cut_sh {b b' : Nat → Int} {d : Nat} (hb : ∀ j, b' (j + d) = b j) (k e : Nat) : cut b' (k + d) (e + d) = cut b k e := by
  unfold cut
  rw [show e + d - (k + d) = e - k by omega]
  apply List.map_congr_left
  intro j _
  show b' (k + d + j) = b (k + j)
  rw [show k + d + j = k + j + d by omega, hb]
theorem signF_sh {b b' : Nat → Int} {d : Nat} (hb : ∀ j, b' (j + d) = b j) (n k : Nat) (q : Int) : signF b' (n + d) (k + d) q = osh d (signF b n k q) := by
  have e0 := hb k
  have e1 : b' (k + d + 1) = b (k + 1) := by rw [← hb (k + 1), show k + 1 + d = k + d + 1 by omega]
  have e2 : b' (k + d + 2) = b (k + 2) := by rw [← hb (k + 2), show k + 2 + d = k + d + 2 by omega]
  have e3 : b' (k + d + 3) = b (k + 3) := by rw [← hb (k + 3), show k + 3 + d = k + d + 3 by omega]
  unfold signF
  rw [e0, e1, e2, e3]
  simp only [show (n + d ≤ k + d) ↔ (n ≤ k) by omega, show (n + d ≤ k + d + 1) ↔ (n ≤ k + 1) by omega, show (n + d ≤ k + d + 3) ↔ (n ≤ k + 3) by omega]
  by_cases h1 : n ≤ k ∨ b k < 32 ∨ 126 < b k ∨ b k = q
  · rw [if_pos h1, if_pos h1]; rfl
  · rw [if_neg h1, if_neg h1]
    by_cases h2 : b k ≠ 92
    · rw [if_pos h2, if_pos h2]; show _ = some _; rw [show k + 1 + d = k + d + 1 by omega]
    · rw [if_neg h2, if_neg h2]
      by_cases h3 : n ≤ k + 1
      · rw [if_pos h3, if_pos h3]; rfl
      · rw [if_neg h3, if_neg h3]
        by_cases h4 : b (k + 1) = 92 ∨ b (k + 1) = 34 ∨ b (k + 1) = 39
        · rw [if_pos h4, if_pos h4]; show _ = some _; rw [show k + 2 + d = k + d + 2 by omega]
        · rw [if_neg h4, if_neg h4]
          by_cases h5 : b (k + 1) ≠ 120 ∨ n ≤ k + 3 ∨ hexF (b (k + 2)) < 0 ∨ hexF (b (k + 3)) < 0
          · rw [if_pos h5, if_pos h5]; rfl
          · rw [if_neg h5, if_neg h5]; show _ = some _; rw [show k + 4 + d = k + d + 4 by omega]
theorem textS_sh (b b' : Nat → Int) (d n : Nat) (hb : ∀ j, b' (j + d) = b j) : ∀ f k acc, textS b' (n + d) f (k + d) acc = osh d (textS b n f k acc)
  | 0, _, _ => rfl
  | f + 1, k, acc => by
    show (if k + d < n + d ∧ b' (k + d) = 34 then some (acc, k + d + 1) else match signF b' (n + d) (k + d) 34 with
      | none => none
      | some (c, to) => textS b' (n + d) f to (acc ++ [c])) = osh d (if k < n ∧ b k = 34 then some (acc, k + 1) else match signF b n k 34 with
      | none => none
      | some (c, to) => textS b n f to (acc ++ [c]))
    rw [hb, signF_sh hb]
    simp only [show (k + d < n + d) ↔ (k < n) by omega]
    by_cases h : k < n ∧ b k = 34
    · rw [if_pos h, if_pos h]; show _ = some _; rw [show k + 1 + d = k + d + 1 by omega]
    · rw [if_neg h, if_neg h]
      cases signF b n k 34 with
      | none => rfl
      | some x => exact textS_sh b b' d n hb f x.2 (acc ++ [x.1])
theorem textF_sh {b b' : Nat → Int} {d : Nat} (hb : ∀ j, b' (j + d) = b j) (n k : Nat) (acc : List Int) : textF b' (n + d) (k + d) acc = osh d (textF b n k acc) := by
  unfold textF
  rw [show n + d + 1 - (k + d) = n + 1 - k by omega]
  exact textS_sh b b' d n hb _ k acc
theorem half_sh {b b' : Nat → Int} {d : Nat} (hb : ∀ j, b' (j + d) = b j) (n k : Nat) : half b' (n + d) (k + d) = osh d (half b n k) := by
  unfold half
  rw [signF_sh hb]
  cases signF b n k 39 with
  | none => rfl
  | some x =>
    obtain ⟨c, to⟩ := x
    show (if n + d ≤ to + d ∨ b' (to + d) ≠ 39 then none else some (c, to + d + 1)) = osh d (if n ≤ to ∨ b to ≠ 39 then none else some (c, to + 1))
    rw [hb]
    simp only [show (n + d ≤ to + d) ↔ (n ≤ to) by omega]
    split
    · rfl
    · show _ = some _; rw [show to + 1 + d = to + d + 1 by omega]
theorem oneF_sh {b b' : Nat → Int} {d : Nat} (hb : ∀ j, b' (j + d) = b j) (n k : Nat) : oneF b' (n + d) (k + d) = osh d (oneF b n k) := by
  rw [oneF_half, oneF_half, hb, show k + d + 1 = k + 1 + d by omega, half_sh hb]
  simp only [show (n + d ≤ k + d) ↔ (n ≤ k) by omega]
  split <;> rfl
theorem dotsB_sh {b b' : Nat → Int} {d : Nat} (hb : ∀ j, b' (j + d) = b j) (n k : Nat) : dotsB b' (n + d) (k + d) = dotsB b n k := by
  unfold dotsB
  rw [hb, show k + d + 1 = k + 1 + d by omega, hb]
  simp only [show (k + 1 + d < n + d) ↔ (k + 1 < n) by omega]
theorem rangeG_sh {b b' : Nat → Int} {d : Nat} (hb : ∀ j, b' (j + d) = b j) (n k : Nat) : rangeG b' (n + d) (k + d) = Got.sh d (rangeG b n k) := by
  unfold rangeG rangeF
  rw [show k + d + 1 = k + 1 + d by omega, half_sh hb]
  cases half b n (k + 1) with
  | none => rfl
  | some x =>
    obtain ⟨c, to⟩ := x
    simp only [osh, dots, dotsB_sh hb, show to + d + 2 = to + 2 + d by omega, oneF_sh hb]
    by_cases h : dotsB b n to = true
    · simp only [if_pos h]
      cases oneF b n (to + 2) with
      | none => rfl
      | some y => rfl
    · simp only [if_neg h]; rfl
theorem textG_sh {b b' : Nat → Int} {d : Nat} (hb : ∀ j, b' (j + d) = b j) (n k : Nat) : textG b' (n + d) (k + d) = Got.sh d (textG b n k) := by
  unfold textG
  rw [show k + d + 1 = k + 1 + d by omega, textF_sh hb]
  cases textF b n (k + 1) [] with
  | none => rfl
  | some x => rfl
theorem nameT_sh (d k : Nat) (l : List Int) : nameT (k + d) l = (nameT k l).sh d := by
  unfold nameT; split <;> rfl
theorem nameG_sh {b b' : Nat → Int} {d : Nat} (hb : ∀ j, b' (j + d) = b j) (n k : Nat) : nameG b' (n + d) (k + d) = Got.sh d (nameG b n k) := by
  unfold nameG
  rw [nameE_sh hb, cut_sh hb, nameT_sh, show nameE b n k + d - (k + d) = nameE b n k - k by omega]
  split <;> rfl
theorem tokF_sh {b b' : Nat → Int} {d : Nat} (hb : ∀ j, b' (j + d) = b j) (n k : Nat) : tokF b' (n + d) (k + d) = Got.sh d (tokF b n k) := by
  unfold tokF
  rw [hb, nameG_sh hb, textG_sh hb, rangeG_sh hb]
  split
  · rfl
  · split
    · rfl
    · split
      · rfl
      · split
        · show Except.ok _ = Except.ok _; rw [show k + 1 + d = k + d + 1 by omega]; rfl
        · rfl
theorem lexS_sh (b b' : Nat → Int) (d n : Nat) (hb : ∀ j, b' (j + d) = b j) : ∀ f k, lexS b' (n + d) f (k + d) = Res.sh d (lexS b n f k)
  | 0, _ => rfl
  | f + 1, k => by
    show (if n + d ≤ skp b' (n + d) false (k + d) then _ else match tokF b' (n + d) (skp b' (n + d) false (k + d)) with
      | .ok (t, to) => Res.cons t (lexS b' (n + d) f to)
      | .error true => .error (skp b' (n + d) false (k + d), 201)
      | .error false => .error (skp b' (n + d) false (k + d), 200)) = Res.sh d (if n ≤ skp b n false k then _ else match tokF b n (skp b n false k) with
      | .ok (t, to) => Res.cons t (lexS b n f to)
      | .error true => .error (skp b n false k, 201)
      | .error false => .error (skp b n false k, 200))
    rw [skp_sh hb, tokF_sh hb]
    simp only [show (n + d ≤ skp b n false k + d) ↔ (n ≤ skp b n false k) by omega]
    split
    · rfl
    · rcases tokF b n (skp b n false k) with (_ | _) | ⟨t, to⟩
      · rfl
      · rfl
      · show Res.cons (t.sh d) (lexS b' (n + d) f (to + d)) = _
        rw [lexS_sh b b' d n hb f to, ← Res.sh_cons]
theorem lexK_sh {b b' : Nat → Int} {d : Nat} (hb : ∀ j, b' (j + d) = b j) (n k : Nat) : lexK b' (n + d) (k + d) = Res.sh d (lexK b n k) := by
  unfold lexK
  rw [show n + d + 1 - (k + d) = n + 1 - k by omega]
  exact lexS_sh b b' d n hb _ k
end Go.Proofs.Ytkkmjgohjaedkaa
/- The tokens of a text behind which a blank and another text stand: its own, then those of the other one, so many places on. No program in sight. -/
namespace Go.Proofs.Ytkkmjgohjaedkaa

def blankI (c : Int) : Prop := c = 9 ∨ c = 10 ∨ c = 13 ∨ c = 32

/-- b' goes on behind b's n bytes with a blank; a comment at the end of b is ended by it. -/
structure Goes (b b' : Nat → Int) (n n' : Nat) : Prop where
  eq : ∀ j, j < n → b' j = b j
  bl : blankI (b' n)
  lt : n < n'
  cm : b' n = 10 ∨ ∀ j, j < n → b j ≠ 35

theorem Goes.not {b b' : Nat → Int} {n n' : Nat} (h : Goes b b' n n') : b' n ≠ 35 ∧ b' n ≠ 46 ∧ (letB (b' n) || digB (b' n)) = false := by
  have := h.bl
  unfold blankI at this
  refine ⟨by omega, by omega, ?_⟩
  rcases this with e | e | e | e <;> rw [e] <;> rfl

theorem skp_join {b b' : Nat → Int} {n n' : Nat} (h : Goes b b' n n') : ∀ m c k, n = k + m → (c = true → b' n = 10) →
    (skp b n c k < n → skp b' n' c k = skp b n c k) ∧ (n ≤ skp b n c k → skp b' n' c k = skp b' n' false (n + 1))
  | 0, c, k, e, hc => by
    obtain rfl : n = k := by omega
    rw [skp_end b n c n (Nat.le_refl _)]
    refine ⟨fun x => by omega, fun _ => ?_⟩
    have hl := h.lt
    cases c with
    | true => rw [skp_true _ _ _ hl, if_pos (hc rfl)]
    | false => rw [skp_false _ _ _ hl, if_neg h.not.1, if_pos (show b' n = 9 ∨ b' n = 10 ∨ b' n = 13 ∨ b' n = 32 from h.bl)]
  | m + 1, c, k, e, hc => by
    have hk : k < n := by omega
    have hk' : k < n' := by have := h.lt; omega
    have hb := h.eq k hk
    cases c with
    | true =>
      rw [skp_true _ _ _ hk, skp_true _ _ _ hk', hb]
      by_cases e1 : b k = 10
      · rw [if_pos e1, if_pos e1]; exact skp_join h m false (k + 1) (by omega) (fun x => by cases x)
      · rw [if_neg e1, if_neg e1]; exact skp_join h m true (k + 1) (by omega) hc
    | false =>
      rw [skp_false _ _ _ hk, skp_false _ _ _ hk', hb]
      by_cases e1 : b k = 35
      · rw [if_pos e1, if_pos e1]
        refine skp_join h m true (k + 1) (by omega) (fun _ => ?_)
        rcases h.cm with e2 | e2
        · exact e2
        · exact absurd e1 (e2 k hk)
      · rw [if_neg e1, if_neg e1]
        by_cases e2 : b k = 9 ∨ b k = 10 ∨ b k = 13 ∨ b k = 32
        · rw [if_pos e2, if_pos e2]; exact skp_join h m false (k + 1) (by omega) (fun x => by cases x)
        · rw [if_neg e2, if_neg e2]; exact ⟨fun _ => rfl, fun x => by omega⟩

theorem nameE_join {b b' : Nat → Int} {n n' : Nat} (h : Goes b b' n n') : ∀ m k, n = k + m → nameE b' n' k = nameE b n k
  | 0, k, e => by
    obtain rfl : n = k := by omega
    rw [nameE_end b n n (Nat.le_refl _), nameE_out b' n' n h.lt h.not.2.2]
  | m + 1, k, e => by
    have hk : k < n := by omega
    have hk' : k < n' := by have := h.lt; omega
    have hb := h.eq k hk
    by_cases hl : (letB (b k) || digB (b k)) = true
    · rw [nameE_in b n k hk hl, nameE_in b' n' k hk' (by rw [hb]; exact hl)]; exact nameE_join h m (k + 1) (by omega)
    · have hl := Bool.eq_false_iff.2 hl
      rw [nameE_out b n k hk hl, nameE_out b' n' k hk' (by rw [hb]; exact hl)]
theorem cut_join {b b' : Nat → Int} {n n' : Nat} (h : Goes b b' n n') (k e : Nat) (he : e ≤ n) : cut b' k e = cut b k e := by
  unfold cut
  apply List.map_congr_left
  intro j hj
  exact h.eq _ (by have := List.mem_range.1 hj; omega)
theorem signF_join {b b' : Nat → Int} {n n' : Nat} (h : Goes b b' n n') {k : Nat} {q c : Int} {to : Nat} (hs : signF b n k q = some (c, to)) : signF b' n' k q = some (c, to) := by
  have hl := h.lt
  unfold signF at hs ⊢
  by_cases h1 : n ≤ k ∨ b k < 32 ∨ 126 < b k ∨ b k = q
  · rw [if_pos h1] at hs; cases hs
  · rw [if_neg h1] at hs
    rw [h.eq k (by omega), if_neg (by omega)]
    by_cases h2 : b k ≠ 92
    · rw [if_pos h2] at hs; rw [if_pos h2]; exact hs
    · rw [if_neg h2] at hs; rw [if_neg h2]
      by_cases h3 : n ≤ k + 1
      · rw [if_pos h3] at hs; cases hs
      · rw [if_neg h3] at hs
        rw [if_neg (by omega), h.eq (k + 1) (by omega)]
        by_cases h4 : b (k + 1) = 92 ∨ b (k + 1) = 34 ∨ b (k + 1) = 39
        · rw [if_pos h4] at hs; rw [if_pos h4]; exact hs
        · rw [if_neg h4] at hs; rw [if_neg h4]
          by_cases h5 : b (k + 1) ≠ 120 ∨ n ≤ k + 3 ∨ hexF (b (k + 2)) < 0 ∨ hexF (b (k + 3)) < 0
          · rw [if_pos h5] at hs; cases hs
          · rw [if_neg h5] at hs
            rw [h.eq (k + 2) (by omega), h.eq (k + 3) (by omega), if_neg (by omega)]
            exact hs
theorem textS_join {b b' : Nat → Int} {n n' : Nat} (h : Goes b b' n n') : ∀ f k acc l to, textS b n f k acc = some (l, to) → k ≤ n → textF b' n' k acc = some (l, to)
  | 0, _, _, _, _, hs, _ => by cases hs
  | f + 1, k, acc, l, to, hs, hk => by
    have hl := h.lt
    have hs' : (if k < n ∧ b k = 34 then some (acc, k + 1) else match signF b n k 34 with
      | none => none
      | some (c, to) => textS b n f to (acc ++ [c])) = some (l, to) := hs
    rw [textF_eq b' n' k acc (by omega)]
    by_cases h1 : k < n ∧ b k = 34
    · rw [if_pos h1] at hs'
      rw [if_pos ⟨by omega, by rw [h.eq k h1.1]; exact h1.2⟩]; exact hs'
    · rw [if_neg h1] at hs'
      cases hg : signF b n k 34 with
      | none => rw [hg] at hs'; cases hs'
      | some x =>
        obtain ⟨c, t⟩ := x
        have h2 := signF_to hg
        rw [hg] at hs'
        rw [if_neg (by intro hh; exact h1 ⟨by omega, by rw [← h.eq k (by omega)]; exact hh.2⟩), signF_join h hg]
        exact textS_join h f t (acc ++ [c]) l to hs' h2.2
theorem half_join {b b' : Nat → Int} {n n' : Nat} (h : Goes b b' n n') {k : Nat} {c : Int} {to : Nat} (hs : half b n k = some (c, to)) : half b' n' k = some (c, to) := by
  have hl := h.lt
  unfold half at hs ⊢
  cases hg : signF b n k 39 with
  | none => rw [hg] at hs; cases hs
  | some x =>
    obtain ⟨c', t⟩ := x
    rw [hg] at hs
    rw [signF_join h hg]
    have hs' : (if n ≤ t ∨ b t ≠ 39 then none else some (c', t + 1)) = some (c, to) := hs
    show (if n' ≤ t ∨ b' t ≠ 39 then none else some (c', t + 1)) = some (c, to)
    by_cases h1 : n ≤ t ∨ b t ≠ 39
    · rw [if_pos h1] at hs'; cases hs'
    · rw [if_neg h1] at hs'
      rw [h.eq t (by omega), if_neg (by omega)]; exact hs'
theorem dotsB_join {b b' : Nat → Int} {n n' : Nat} (h : Goes b b' n n') {k : Nat} (hk : k ≤ n) : dotsB b' n' k = dotsB b n k := by
  have hl := h.lt
  have h4 := h.not.2.1
  unfold dotsB
  by_cases e : k + 1 < n
  · rw [h.eq k (by omega), h.eq (k + 1) e, decide_eq_true e, decide_eq_true (show k + 1 < n' by omega)]
  · rw [decide_eq_false e]
    by_cases e1 : k = n
    · subst e1; rw [decide_eq_false h4]; simp
    · obtain rfl : n = k + 1 := by omega
      rw [decide_eq_false h4]; simp
theorem tokF_join {b b' : Nat → Int} {n n' : Nat} (h : Goes b b' n n') {k : Nat} (hk : k < n) {t : Tok} {to : Nat} (hs : tokF b n k = .ok (t, to)) : tokF b' n' k = .ok (t, to) := by
  have hl := h.lt
  unfold tokF at hs ⊢
  rw [h.eq k hk]
  by_cases h1 : letB (b k) = true
  · rw [if_pos h1] at hs ⊢
    unfold nameG at hs ⊢
    rw [nameE_join h (n - k) k (by omega), cut_join h _ _ (nameE_le b n k (by omega))]
    exact hs
  · rw [if_neg h1] at hs ⊢
    by_cases h2 : b k = 34
    · rw [if_pos h2] at hs ⊢
      unfold textG at hs ⊢
      cases hg : textF b n (k + 1) [] with
      | none => rw [hg] at hs; cases hs
      | some x =>
        obtain ⟨l, t'⟩ := x
        rw [hg] at hs
        rw [textS_join h _ _ _ _ _ hg (by omega)]
        exact hs
    · rw [if_neg h2] at hs ⊢
      by_cases h3 : b k = 39
      · rw [if_pos h3] at hs ⊢
        unfold rangeG rangeF at hs ⊢
        cases hg : half b n (k + 1) with
        | none => rw [hg] at hs; cases hs
        | some x =>
          obtain ⟨c, t1⟩ := x
          have ht1 := half_to hg
          rw [hg] at hs
          rw [half_join h hg]
          simp only [dots, dotsB_join h ht1.2] at hs ⊢
          by_cases h4 : dotsB b n t1 = true
          · simp only [if_pos h4, oneF_half] at hs ⊢
            by_cases h5 : n ≤ t1 + 2 ∨ b (t1 + 2) ≠ 39
            · rw [if_pos h5] at hs; cases hs
            · rw [if_neg h5] at hs
              rw [h.eq (t1 + 2) (by omega), if_neg (by omega)]
              cases hg2 : half b n (t1 + 2 + 1) with
              | none => rw [hg2] at hs; cases hs
              | some y =>
                rw [hg2] at hs
                rw [half_join h hg2]
                exact hs
          · simp only [if_neg h4] at hs ⊢; exact hs
      · rw [if_neg h3] at hs ⊢; exact hs
theorem lexK_join {b b' : Nat → Int} {n n' : Nat} (h : Goes b b' n n') : ∀ m k l, n ≤ k + m → k ≤ n → lexK b n k = .ok l → lexK b' n' k = Res.pre l (lexK b' n' (n + 1)) := by
  have hl := h.lt
  intro m
  induction m with
  | zero =>
    intro k l hm hk hs
    obtain rfl : k = n := by omega
    rw [lexK_eq b k k hk, lexA, if_pos (skp_ge _ _ _ _)] at hs
    injection hs with hs
    subst hs
    rw [Res.pre_nil, lexK_eq b' n' k (by omega), lexK_eq b' n' (k + 1) (by omega), (skp_join h 0 false k rfl (fun x => by cases x)).2 (skp_ge _ _ _ _)]
  | succ m ih =>
    intro k l hm hk hs
    rw [lexK_eq b n k hk, lexA] at hs
    have hj := skp_join h (n - k) false k (by omega) (fun x => by cases x)
    rw [lexK_eq b' n' k (by omega)]
    by_cases h1 : n ≤ skp b n false k
    · rw [if_pos h1] at hs
      injection hs with hs
      subst hs
      rw [Res.pre_nil, hj.2 h1, ← lexK_eq b' n' (n + 1) (by omega)]
    · rw [if_neg h1] at hs
      rw [hj.1 (by omega), lexA, if_neg (by omega)]
      have hge := skp_ge b n false k
      rcases hg : tokF b n (skp b n false k) with (_ | _) | ⟨t, to⟩
      · rw [hg] at hs; cases hs
      · rw [hg] at hs; cases hs
      · rw [hg] at hs
        rw [tokF_join h (by omega) hg]
        have hto := tokF_to (by omega) hg
        have hs' : Res.cons t (lexK b n to) = .ok l := hs
        cases hg2 : lexK b n to with
        | error e => rw [hg2] at hs'; cases hs'
        | ok l2 =>
          rw [hg2] at hs'
          obtain rfl : t :: l2 = l := by injection hs'
          show Res.cons t (lexK b' n' to) = _
          rw [ih to l2 (by omega) hto.2 hg2]
          cases lexK b' n' (n + 1) <;> rfl

theorem bt_left (s x : ByteArray) (j : Nat) (h : j < s.size) : PlainAid.bt (s ++ x) j = PlainAid.bt s j := by
  unfold PlainAid.bt
  rw [dif_pos h, dif_pos (by rw [ByteArray.size_append]; omega)]
  rw [ByteArray.getElem_append_left h]
theorem bt_right (s x : ByteArray) (j : Nat) : PlainAid.bt (s ++ x) (j + s.size) = PlainAid.bt x j := by
  unfold PlainAid.bt
  by_cases h : j < x.size
  · rw [dif_pos h, dif_pos (by rw [ByteArray.size_append]; omega)]
    rw [ByteArray.getElem_append_right (by omega)]
    congr 3; omega
  · rw [dif_neg h, dif_neg (by rw [ByteArray.size_append]; omega)]

/-- A text, a blank, another text. -/
theorem lex_join (s x : ByteArray) (c : UInt8) (hc : blankI (c.toNat : Int)) (hm : c = 10 ∨ ∀ j, j < s.size → PlainAid.bt s j ≠ 35) (l : List Tok) (h : lexT s = .ok l) (hz : s.size + 1 + x.size ≤ 65536) :
    lexT (s ++ ⟨#[c]⟩ ++ x) = Res.pre l (Res.sh (s.size + 1) (lexT x)) := by
  have e0 : (s ++ ⟨#[c]⟩ : ByteArray).size = s.size + 1 := by rw [ByteArray.size_append]; rfl
  have e1 : (s ++ ⟨#[c]⟩ ++ x).size = x.size + (s.size + 1) := by rw [ByteArray.size_append, e0]; omega
  have hbn : PlainAid.bt (s ++ ⟨#[c]⟩ ++ x) s.size = (c.toNat : Int) := by
    rw [bt_left _ _ _ (by omega)]
    have := bt_right s ⟨#[c]⟩ 0
    rw [Nat.zero_add] at this
    rw [this]; rfl
  have hs : ¬ 65536 < s.size := by omega
  have hx : ¬ 65536 < x.size := by omega
  have E0 : lexT s = lexK (PlainAid.bt s) s.size 0 := if_neg hs
  have E1 : lexT x = lexK (PlainAid.bt x) x.size 0 := if_neg hx
  have E2 : lexT (s ++ ⟨#[c]⟩ ++ x) = lexK (PlainAid.bt (s ++ ⟨#[c]⟩ ++ x)) (s ++ ⟨#[c]⟩ ++ x).size 0 := if_neg (by omega)
  have hg : Goes (PlainAid.bt s) (PlainAid.bt (s ++ ⟨#[c]⟩ ++ x)) s.size (s ++ ⟨#[c]⟩ ++ x).size := by
    refine ⟨fun j hj => ?_, by rw [hbn]; exact hc, by omega, ?_⟩
    · rw [bt_left _ _ _ (by omega), bt_left _ _ _ hj]
    · rcases hm with e | e
      · left; rw [hbn, e]; rfl
      · exact Or.inr e
  rw [E0] at h
  rw [E1, E2, lexK_join hg s.size 0 l (by omega) (by omega) h]
  congr 1
  have hb : ∀ j, PlainAid.bt (s ++ ⟨#[c]⟩ ++ x) (j + (s.size + 1)) = PlainAid.bt x j := fun j => by
    have := bt_right (s ++ ⟨#[c]⟩) x j
    rw [e0] at this
    exact this
  have := lexK_sh hb x.size 0
  rw [Nat.zero_add] at this
  rw [e1]
  exact this
end Go.Proofs.Ytkkmjgohjaedkaa
