import Derived.Test.YtopnhbgialbicaaLexTok
import Derived.KernelRfl
import Derived.Test.YtopnhbgialbicaaLexPlac
import Derived.Test.YtopnhbgialbicaaGramPl
import Derived.Test.YtopnhbgialbicaaNotePl
/- The tokens of a text that stands behind another one are its own, so many places on. No program in sight. -/
namespace Go.Proofs.Ytopnhbgialbicaa

def Tok.sh (d : Nat) (t : Tok) : Tok := ⟨t.kind, t.pl + d, t.text, t.lo, t.hi⟩
def Res.sh (d : Nat) : Res → Res
  | .ok l => .ok (l.map (Tok.sh d))
  | .error (p, e) => .error (p + d, e)
def Got.sh (d : Nat) : Got → Got
  | .ok (t, to) => .ok (t.sh d, to + d)
  | .error e => .error e
def osh {α : Type} (d : Nat) : Option (α × Nat) → Option (α × Nat)
  | none => none
  | some (c, t) => some (c, t + d)
theorem Res.sh_cons (d : Nat) (t : Tok) (r : Res) : Res.sh d (Res.cons t r) = Res.cons (t.sh d) (Res.sh d r) := by
  cases r with
  | ok l => rfl
  | error e => rfl
theorem Res.sh_pre (d : Nat) (l : List Tok) (r : Res) : Res.sh d (Res.pre l r) = Res.pre (l.map (Tok.sh d)) (Res.sh d r) := by
  cases r with
  | ok m => simp [Res.pre, Res.sh]
  | error e => rfl
theorem Res.sh_sh (d c : Nat) (r : Res) : Res.sh d (Res.sh c r) = Res.sh (c + d) r := by
  cases r with
  | ok l => simp [Res.sh, Tok.sh, Nat.add_assoc]
  | error e => simp [Res.sh, Nat.add_assoc]
theorem Res.sh_zero (r : Res) : Res.sh 0 r = r := by
  cases r with
  | ok l => simp only [Res.sh]; congr 1; induction l with
    | nil => rfl
    | cons t l ih => rw [List.map_cons, ih]; rfl
  | error e => rfl
theorem Res.pre_pre (l m : List Tok) (r : Res) : Res.pre l (Res.pre m r) = Res.pre (l ++ m) r := by
  cases r with
  | ok x => simp [Res.pre]
  | error e => rfl

theorem skipS_sh (b b' : Nat → Int) (d n : Nat) (hb : ∀ j, b' (j + d) = b j) : ∀ f c k, skipS b' (n + d) f c (k + d) = skipS b n f c k + d
  | 0, c, k => by cases c <;> rfl
  | f + 1, true, k => by
    show (if b' (k + d) = 10 then skipS b' (n + d) f false (k + d + 1) else skipS b' (n + d) f true (k + d + 1)) = (if b k = 10 then skipS b n f false (k + 1) else skipS b n f true (k + 1)) + d
    rw [hb, show k + d + 1 = k + 1 + d by omega, skipS_sh b b' d n hb f false (k + 1), skipS_sh b b' d n hb f true (k + 1)]
    split <;> rfl
  | f + 1, false, k => by
    show (if b' (k + d) = 35 then skipS b' (n + d) f true (k + d + 1) else if b' (k + d) = 9 ∨ b' (k + d) = 10 ∨ b' (k + d) = 13 ∨ b' (k + d) = 32 then skipS b' (n + d) f false (k + d + 1) else k + d) = (if b k = 35 then skipS b n f true (k + 1) else if b k = 9 ∨ b k = 10 ∨ b k = 13 ∨ b k = 32 then skipS b n f false (k + 1) else k) + d
    rw [hb, show k + d + 1 = k + 1 + d by omega, skipS_sh b b' d n hb f false (k + 1), skipS_sh b b' d n hb f true (k + 1)]
    split
    · rfl
    · split <;> rfl
theorem skp_sh {b b' : Nat → Int} {d : Nat} (hb : ∀ j, b' (j + d) = b j) (n : Nat) (c : Bool) (k : Nat) : skp b' (n + d) c (k + d) = skp b n c k + d := by
  unfold skp
  rw [show n + d - (k + d) = n - k by omega]
  exact skipS_sh b b' d n hb _ c k
theorem nameS_sh (b b' : Nat → Int) (d : Nat) (hb : ∀ j, b' (j + d) = b j) : ∀ f k, nameS b' f (k + d) = nameS b f k + d
  | 0, k => rfl
  | f + 1, k => by
    show (if letB (b' (k + d)) || digB (b' (k + d)) then nameS b' f (k + d + 1) else k + d) = (if letB (b k) || digB (b k) then nameS b f (k + 1) else k) + d
    rw [hb, show k + d + 1 = k + 1 + d by omega, nameS_sh b b' d hb f (k + 1)]
    split <;> rfl
theorem nameE_sh {b b' : Nat → Int} {d : Nat} (hb : ∀ j, b' (j + d) = b j) (n k : Nat) : nameE b' (n + d) (k + d) = nameE b n k + d := by
  unfold nameE
  rw [show n + d - (k + d) = n - k by omega]
  exact nameS_sh b b' d hb _ k
theorem cut_sh {b b' : Nat → Int} {d : Nat} (hb : ∀ j, b' (j + d) = b j) (k e : Nat) : cut b' (k + d) (e + d) = cut b k e := by
  unfold cut
  rw [show e + d - (k + d) = e - k by omega]
  apply List.map_congr_left
  intro j _
  show b' (k + d + j) = b (k + j)
  rw [show k + d + j = k + j + d by omega, hb]
theorem signF_sh {b b' : Nat → Int} {d : Nat} (hb : ∀ j, b' (j + d) = b j) (n k : Nat) (q : Int) : signF b' (n + d) (k + d) q = osh d (signF b n k q) := by
  have e0 := hb k
  have e1 : b' (k + d + 1) = b (k + 1) := by rw [← hb (k + 1), show k + 1 + d = k + d + 1 by omega]
  have e2 : b' (k + d + 2) = b (k + 2) := by rw [← hb (k + 2), show k + 2 + d = k + d + 2 by omega]
  have e3 : b' (k + d + 3) = b (k + 3) := by rw [← hb (k + 3), show k + 3 + d = k + d + 3 by omega]
  unfold signF
  rw [e0, e1, e2, e3]
  simp only [show (n + d ≤ k + d) ↔ (n ≤ k) by omega, show (n + d ≤ k + d + 1) ↔ (n ≤ k + 1) by omega, show (n + d ≤ k + d + 3) ↔ (n ≤ k + 3) by omega]
  by_cases h1 : n ≤ k ∨ b k < 32 ∨ 126 < b k ∨ b k = q
  · rw [if_pos h1, if_pos h1]; rfl
  · rw [if_neg h1, if_neg h1]
    by_cases h2 : b k ≠ 92
    · rw [if_pos h2, if_pos h2]; show _ = some _; rw [show k + 1 + d = k + d + 1 by omega]
    · rw [if_neg h2, if_neg h2]
      by_cases h3 : n ≤ k + 1
      · rw [if_pos h3, if_pos h3]; rfl
      · rw [if_neg h3, if_neg h3]
        by_cases h4 : b (k + 1) = 92 ∨ b (k + 1) = 34 ∨ b (k + 1) = 39
        · rw [if_pos h4, if_pos h4]; show _ = some _; rw [show k + 2 + d = k + d + 2 by omega]
        · rw [if_neg h4, if_neg h4]
          by_cases h5 : b (k + 1) ≠ 120 ∨ n ≤ k + 3 ∨ hexF (b (k + 2)) < 0 ∨ hexF (b (k + 3)) < 0
          · rw [if_pos h5, if_pos h5]; rfl
          · rw [if_neg h5, if_neg h5]; show _ = some _; rw [show k + 4 + d = k + d + 4 by omega]
theorem textS_sh (b b' : Nat → Int) (d n : Nat) (hb : ∀ j, b' (j + d) = b j) : ∀ f k acc, textS b' (n + d) f (k + d) acc = osh d (textS b n f k acc)
  | 0, _, _ => rfl
  | f + 1, k, acc => by
    show (if k + d < n + d ∧ b' (k + d) = 34 then some (acc, k + d + 1) else match signF b' (n + d) (k + d) 34 with
      | none => none
      | some (c, to) => textS b' (n + d) f to (acc ++ [c])) = osh d (if k < n ∧ b k = 34 then some (acc, k + 1) else match signF b n k 34 with
      | none => none
      | some (c, to) => textS b n f to (acc ++ [c]))
    rw [hb, signF_sh hb]
    simp only [show (k + d < n + d) ↔ (k < n) by omega]
    by_cases h : k < n ∧ b k = 34
    · rw [if_pos h, if_pos h]; show _ = some _; rw [show k + 1 + d = k + d + 1 by omega]
    · rw [if_neg h, if_neg h]
      cases signF b n k 34 with
      | none => rfl
      | some x => exact textS_sh b b' d n hb f x.2 (acc ++ [x.1])
theorem textF_sh {b b' : Nat → Int} {d : Nat} (hb : ∀ j, b' (j + d) = b j) (n k : Nat) (acc : List Int) : textF b' (n + d) (k + d) acc = osh d (textF b n k acc) := by
  unfold textF
  rw [show n + d + 1 - (k + d) = n + 1 - k by omega]
  exact textS_sh b b' d n hb _ k acc
theorem half_sh {b b' : Nat → Int} {d : Nat} (hb : ∀ j, b' (j + d) = b j) (n k : Nat) : half b' (n + d) (k + d) = osh d (half b n k) := by
  unfold half
  rw [signF_sh hb]
  cases signF b n k 39 with
  | none => rfl
  | some x =>
    obtain ⟨c, to⟩ := x
    show (if n + d ≤ to + d ∨ b' (to + d) ≠ 39 then none else some (c, to + d + 1)) = osh d (if n ≤ to ∨ b to ≠ 39 then none else some (c, to + 1))
    rw [hb]
    simp only [show (n + d ≤ to + d) ↔ (n ≤ to) by omega]
    split
    · rfl
    · show _ = some _; rw [show to + 1 + d = to + d + 1 by omega]
theorem oneF_sh {b b' : Nat → Int} {d : Nat} (hb : ∀ j, b' (j + d) = b j) (n k : Nat) : oneF b' (n + d) (k + d) = osh d (oneF b n k) := by
  rw [oneF_half, oneF_half, hb, show k + d + 1 = k + 1 + d by omega, half_sh hb]
  simp only [show (n + d ≤ k + d) ↔ (n ≤ k) by omega]
  split <;> rfl
theorem dotsB_sh {b b' : Nat → Int} {d : Nat} (hb : ∀ j, b' (j + d) = b j) (n k : Nat) : dotsB b' (n + d) (k + d) = dotsB b n k := by
  unfold dotsB
  rw [hb, show k + d + 1 = k + 1 + d by omega, hb]
  simp only [show (k + 1 + d < n + d) ↔ (k + 1 < n) by omega]
theorem rangeG_sh {b b' : Nat → Int} {d : Nat} (hb : ∀ j, b' (j + d) = b j) (n k : Nat) : rangeG b' (n + d) (k + d) = Got.sh d (rangeG b n k) := by
  unfold rangeG rangeF
  rw [show k + d + 1 = k + 1 + d by omega, half_sh hb]
  cases half b n (k + 1) with
  | none => rfl
  | some x =>
    obtain ⟨c, to⟩ := x
    simp only [osh, dots, dotsB_sh hb, show to + d + 2 = to + 2 + d by omega, oneF_sh hb]
    by_cases h : dotsB b n to = true
    · simp only [if_pos h]
      cases oneF b n (to + 2) with
      | none => rfl
      | some y => rfl
    · simp only [if_neg h]; rfl
theorem textG_sh {b b' : Nat → Int} {d : Nat} (hb : ∀ j, b' (j + d) = b j) (n k : Nat) : textG b' (n + d) (k + d) = Got.sh d (textG b n k) := by
  unfold textG
  rw [show k + d + 1 = k + 1 + d by omega, textF_sh hb]
  cases textF b n (k + 1) [] with
  | none => rfl
  | some x => rfl
theorem nameT_sh (d k : Nat) (l : List Int) : nameT (k + d) l = (nameT k l).sh d := by
  unfold nameT; split <;> rfl
theorem nameG_sh {b b' : Nat → Int} {d : Nat} (hb : ∀ j, b' (j + d) = b j) (n k : Nat) : nameG b' (n + d) (k + d) = Got.sh d (nameG b n k) := by
  unfold nameG
  rw [nameE_sh hb, cut_sh hb, nameT_sh, show nameE b n k + d - (k + d) = nameE b n k - k by omega]
  split <;> rfl
theorem tokF_sh {b b' : Nat → Int} {d : Nat} (hb : ∀ j, b' (j + d) = b j) (n k : Nat) : tokF b' (n + d) (k + d) = Got.sh d (tokF b n k) := by
  unfold tokF
  rw [hb, nameG_sh hb, textG_sh hb, rangeG_sh hb]
  split
  · rfl
  · split
    · rfl
    · split
      · rfl
      · split
        · show Except.ok _ = Except.ok _; rw [show k + 1 + d = k + d + 1 by omega]; rfl
        · rfl
theorem lexS_sh (b b' : Nat → Int) (d n : Nat) (hb : ∀ j, b' (j + d) = b j) : ∀ f k, lexS b' (n + d) f (k + d) = Res.sh d (lexS b n f k)
  | 0, _ => rfl
  | f + 1, k => by
    show (if n + d ≤ skp b' (n + d) false (k + d) then _ else match tokF b' (n + d) (skp b' (n + d) false (k + d)) with
      | .ok (t, to) => Res.cons t (lexS b' (n + d) f to)
      | .error true => .error (skp b' (n + d) false (k + d), 201)
      | .error false => .error (skp b' (n + d) false (k + d), 200)) = Res.sh d (if n ≤ skp b n false k then _ else match tokF b n (skp b n false k) with
      | .ok (t, to) => Res.cons t (lexS b n f to)
      | .error true => .error (skp b n false k, 201)
      | .error false => .error (skp b n false k, 200))
    rw [skp_sh hb, tokF_sh hb]
    simp only [show (n + d ≤ skp b n false k + d) ↔ (n ≤ skp b n false k) by omega]
    split
    · rfl
    · rcases tokF b n (skp b n false k) with (_ | _) | ⟨t, to⟩
      · rfl
      · rfl
      · show Res.cons (t.sh d) (lexS b' (n + d) f (to + d)) = _
        rw [lexS_sh b b' d n hb f to, ← Res.sh_cons]
theorem lexK_sh {b b' : Nat → Int} {d : Nat} (hb : ∀ j, b' (j + d) = b j) (n k : Nat) : lexK b' (n + d) (k + d) = Res.sh d (lexK b n k) := by
  unfold lexK
  rw [show n + d + 1 - (k + d) = n + 1 - k by omega]
  exact lexS_sh b b' d n hb _ k
end Go.Proofs.Ytopnhbgialbicaa
/- The tokens of a text behind which a blank and another text stand: its own, then those of the other one, so many places on. No program in sight. -/
namespace Go.Proofs.Ytopnhbgialbicaa

def blankI (c : Int) : Prop := c = 9 ∨ c = 10 ∨ c = 13 ∨ c = 32

/-- b' goes on behind b's n bytes with a blank; a comment at the end of b is ended by it. -/
structure Goes (b b' : Nat → Int) (n n' : Nat) : Prop where
  eq : ∀ j, j < n → b' j = b j
  bl : blankI (b' n)
  lt : n < n'
  cm : b' n = 10 ∨ ∀ j, j < n → b j ≠ 35

theorem Goes.not {b b' : Nat → Int} {n n' : Nat} (h : Goes b b' n n') : b' n ≠ 35 ∧ b' n ≠ 46 ∧ (letB (b' n) || digB (b' n)) = false := by
  have := h.bl
  unfold blankI at this
  refine ⟨by omega, by omega, ?_⟩
  rcases this with e | e | e | e <;> rw [e] <;> rfl

theorem skp_join {b b' : Nat → Int} {n n' : Nat} (h : Goes b b' n n') : ∀ m c k, n = k + m → (c = true → b' n = 10) →
    (skp b n c k < n → skp b' n' c k = skp b n c k) ∧ (n ≤ skp b n c k → skp b' n' c k = skp b' n' false (n + 1))
  | 0, c, k, e, hc => by
    obtain rfl : n = k := by omega
    rw [skp_end b n c n (Nat.le_refl _)]
    refine ⟨fun x => by omega, fun _ => ?_⟩
    have hl := h.lt
    cases c with
    | true => rw [skp_true _ _ _ hl, if_pos (hc rfl)]
    | false => rw [skp_false _ _ _ hl, if_neg h.not.1, if_pos (show b' n = 9 ∨ b' n = 10 ∨ b' n = 13 ∨ b' n = 32 from h.bl)]
  | m + 1, c, k, e, hc => by
    have hk : k < n := by omega
    have hk' : k < n' := by have := h.lt; omega
    have hb := h.eq k hk
    cases c with
    | true =>
      rw [skp_true _ _ _ hk, skp_true _ _ _ hk', hb]
      by_cases e1 : b k = 10
      · rw [if_pos e1, if_pos e1]; exact skp_join h m false (k + 1) (by omega) (fun x => by cases x)
      · rw [if_neg e1, if_neg e1]; exact skp_join h m true (k + 1) (by omega) hc
    | false =>
      rw [skp_false _ _ _ hk, skp_false _ _ _ hk', hb]
      by_cases e1 : b k = 35
      · rw [if_pos e1, if_pos e1]
        refine skp_join h m true (k + 1) (by omega) (fun _ => ?_)
        rcases h.cm with e2 | e2
        · exact e2
        · exact absurd e1 (e2 k hk)
      · rw [if_neg e1, if_neg e1]
        by_cases e2 : b k = 9 ∨ b k = 10 ∨ b k = 13 ∨ b k = 32
        · rw [if_pos e2, if_pos e2]; exact skp_join h m false (k + 1) (by omega) (fun x => by cases x)
        · rw [if_neg e2, if_neg e2]; exact ⟨fun _ => rfl, fun x => by omega⟩

theorem nameE_join {b b' : Nat → Int} {n n' : Nat} (h : Goes b b' n n') : ∀ m k, n = k + m → nameE b' n' k = nameE b n k
  | 0, k, e => by
    obtain rfl : n = k := by omega
    rw [nameE_end b n n (Nat.le_refl _), nameE_out b' n' n h.lt h.not.2.2]
  | m + 1, k, e => by
    have hk : k < n := by omega
    have hk' : k < n' := by have := h.lt; omega
    have hb := h.eq k hk
    by_cases hl : (letB (b k) || digB (b k)) = true
    · rw [nameE_in b n k hk hl, nameE_in b' n' k hk' (by rw [hb]; exact hl)]; exact nameE_join h m (k + 1) (by omega)
    · have hl := Bool.eq_false_iff.2 hl
      rw [nameE_out b n k hk hl, nameE_out b' n' k hk' (by rw [hb]; exact hl)]
theorem cut_join {b b' : Nat → Int} {n n' : Nat} (h : Goes b b' n n') (k e : Nat) (he : e ≤ n) : cut b' k e = cut b k e := by
  unfold cut
  apply List.map_congr_left
  intro j hj
  exact h.eq _ (by have := List.mem_range.1 hj; omega)
theorem signF_join {b b' : Nat → Int} {n n' : Nat} (h : Goes b b' n n') {k : Nat} {q c : Int} {to : Nat} (hs : signF b n k q = some (c, to)) : signF b' n' k q = some (c, to) := by
  have hl := h.lt
  unfold signF at hs ⊢
  by_cases h1 : n ≤ k ∨ b k < 32 ∨ 126 < b k ∨ b k = q
  · rw [if_pos h1] at hs; cases hs
  · rw [if_neg h1] at hs
    rw [h.eq k (by omega), if_neg (by omega)]
    by_cases h2 : b k ≠ 92
    · rw [if_pos h2] at hs; rw [if_pos h2]; exact hs
    · rw [if_neg h2] at hs; rw [if_neg h2]
      by_cases h3 : n ≤ k + 1
      · rw [if_pos h3] at hs; cases hs
      · rw [if_neg h3] at hs
        rw [if_neg (by omega), h.eq (k + 1) (by omega)]
        by_cases h4 : b (k + 1) = 92 ∨ b (k + 1) = 34 ∨ b (k + 1) = 39
        · rw [if_pos h4] at hs; rw [if_pos h4]; exact hs
        · rw [if_neg h4] at hs; rw [if_neg h4]
          by_cases h5 : b (k + 1) ≠ 120 ∨ n ≤ k + 3 ∨ hexF (b (k + 2)) < 0 ∨ hexF (b (k + 3)) < 0
          · rw [if_pos h5] at hs; cases hs
          · rw [if_neg h5] at hs
            rw [h.eq (k + 2) (by omega), h.eq (k + 3) (by omega), if_neg (by omega)]
            exact hs
theorem textS_join {b b' : Nat → Int} {n n' : Nat} (h : Goes b b' n n') : ∀ f k acc l to, textS b n f k acc = some (l, to) → k ≤ n → textF b' n' k acc = some (l, to)
  | 0, _, _, _, _, hs, _ => by cases hs
  | f + 1, k, acc, l, to, hs, hk => by
    have hl := h.lt
    have hs' : (if k < n ∧ b k = 34 then some (acc, k + 1) else match signF b n k 34 with
      | none => none
      | some (c, to) => textS b n f to (acc ++ [c])) = some (l, to) := hs
    rw [textF_eq b' n' k acc (by omega)]
    by_cases h1 : k < n ∧ b k = 34
    · rw [if_pos h1] at hs'
      rw [if_pos ⟨by omega, by rw [h.eq k h1.1]; exact h1.2⟩]; exact hs'
    · rw [if_neg h1] at hs'
      cases hg : signF b n k 34 with
      | none => rw [hg] at hs'; cases hs'
      | some x =>
        obtain ⟨c, t⟩ := x
        have h2 := signF_to hg
        rw [hg] at hs'
        rw [if_neg (by intro hh; exact h1 ⟨by omega, by rw [← h.eq k (by omega)]; exact hh.2⟩), signF_join h hg]
        exact textS_join h f t (acc ++ [c]) l to hs' h2.2
theorem half_join {b b' : Nat → Int} {n n' : Nat} (h : Goes b b' n n') {k : Nat} {c : Int} {to : Nat} (hs : half b n k = some (c, to)) : half b' n' k = some (c, to) := by
  have hl := h.lt
  unfold half at hs ⊢
  cases hg : signF b n k 39 with
  | none => rw [hg] at hs; cases hs
  | some x =>
    obtain ⟨c', t⟩ := x
    rw [hg] at hs
    rw [signF_join h hg]
    have hs' : (if n ≤ t ∨ b t ≠ 39 then none else some (c', t + 1)) = some (c, to) := hs
    show (if n' ≤ t ∨ b' t ≠ 39 then none else some (c', t + 1)) = some (c, to)
    by_cases h1 : n ≤ t ∨ b t ≠ 39
    · rw [if_pos h1] at hs'; cases hs'
    · rw [if_neg h1] at hs'
      rw [h.eq t (by omega), if_neg (by omega)]; exact hs'
theorem dotsB_join {b b' : Nat → Int} {n n' : Nat} (h : Goes b b' n n') {k : Nat} (hk : k ≤ n) : dotsB b' n' k = dotsB b n k := by
  have hl := h.lt
  have h4 := h.not.2.1
  unfold dotsB
  by_cases e : k + 1 < n
  · rw [h.eq k (by omega), h.eq (k + 1) e, decide_eq_true e, decide_eq_true (show k + 1 < n' by omega)]
  · rw [decide_eq_false e]
    by_cases e1 : k = n
    · subst e1; rw [decide_eq_false h4]; simp
    · obtain rfl : n = k + 1 := by omega
      rw [decide_eq_false h4]; simp
theorem tokF_join {b b' : Nat → Int} {n n' : Nat} (h : Goes b b' n n') {k : Nat} (hk : k < n) {t : Tok} {to : Nat} (hs : tokF b n k = .ok (t, to)) : tokF b' n' k = .ok (t, to) := by
  have hl := h.lt
  unfold tokF at hs ⊢
  rw [h.eq k hk]
  by_cases h1 : letB (b k) = true
  · rw [if_pos h1] at hs ⊢
    unfold nameG at hs ⊢
    rw [nameE_join h (n - k) k (by omega), cut_join h _ _ (nameE_le b n k (by omega))]
    exact hs
  · rw [if_neg h1] at hs ⊢
    by_cases h2 : b k = 34
    · rw [if_pos h2] at hs ⊢
      unfold textG at hs ⊢
      cases hg : textF b n (k + 1) [] with
      | none => rw [hg] at hs; cases hs
      | some x =>
        obtain ⟨l, t'⟩ := x
        rw [hg] at hs
        rw [textS_join h _ _ _ _ _ hg (by omega)]
        exact hs
    · rw [if_neg h2] at hs ⊢
      by_cases h3 : b k = 39
      · rw [if_pos h3] at hs ⊢
        unfold rangeG rangeF at hs ⊢
        cases hg : half b n (k + 1) with
        | none => rw [hg] at hs; cases hs
        | some x =>
          obtain ⟨c, t1⟩ := x
          have ht1 := half_to hg
          rw [hg] at hs
          rw [half_join h hg]
          simp only [dots, dotsB_join h ht1.2] at hs ⊢
          by_cases h4 : dotsB b n t1 = true
          · simp only [if_pos h4, oneF_half] at hs ⊢
            by_cases h5 : n ≤ t1 + 2 ∨ b (t1 + 2) ≠ 39
            · rw [if_pos h5] at hs; cases hs
            · rw [if_neg h5] at hs
              rw [h.eq (t1 + 2) (by omega), if_neg (by omega)]
              cases hg2 : half b n (t1 + 2 + 1) with
              | none => rw [hg2] at hs; cases hs
              | some y =>
                rw [hg2] at hs
                rw [half_join h hg2]
                exact hs
          · simp only [if_neg h4] at hs ⊢; exact hs
      · rw [if_neg h3] at hs ⊢; exact hs
theorem lexK_join {b b' : Nat → Int} {n n' : Nat} (h : Goes b b' n n') : ∀ m k l, n ≤ k + m → k ≤ n → lexK b n k = .ok l → lexK b' n' k = Res.pre l (lexK b' n' (n + 1)) := by
  have hl := h.lt
  intro m
  induction m with
  | zero =>
    intro k l hm hk hs
    obtain rfl : k = n := by omega
    rw [lexK_eq b k k hk, lexA, if_pos (skp_ge _ _ _ _)] at hs
    injection hs with hs
    subst hs
    rw [Res.pre_nil, lexK_eq b' n' k (by omega), lexK_eq b' n' (k + 1) (by omega), (skp_join h 0 false k rfl (fun x => by cases x)).2 (skp_ge _ _ _ _)]
  | succ m ih =>
    intro k l hm hk hs
    rw [lexK_eq b n k hk, lexA] at hs
    have hj := skp_join h (n - k) false k (by omega) (fun x => by cases x)
    rw [lexK_eq b' n' k (by omega)]
    by_cases h1 : n ≤ skp b n false k
    · rw [if_pos h1] at hs
      injection hs with hs
      subst hs
      rw [Res.pre_nil, hj.2 h1, ← lexK_eq b' n' (n + 1) (by omega)]
    · rw [if_neg h1] at hs
      rw [hj.1 (by omega), lexA, if_neg (by omega)]
      have hge := skp_ge b n false k
      rcases hg : tokF b n (skp b n false k) with (_ | _) | ⟨t, to⟩
      · rw [hg] at hs; cases hs
      · rw [hg] at hs; cases hs
      · rw [hg] at hs
        rw [tokF_join h (by omega) hg]
        have hto := tokF_to (by omega) hg
        have hs' : Res.cons t (lexK b n to) = .ok l := hs
        cases hg2 : lexK b n to with
        | error e => rw [hg2] at hs'; cases hs'
        | ok l2 =>
          rw [hg2] at hs'
          obtain rfl : t :: l2 = l := by injection hs'
          show Res.cons t (lexK b' n' to) = _
          rw [ih to l2 (by omega) hto.2 hg2]
          cases lexK b' n' (n + 1) <;> rfl

theorem bt_left (s x : ByteArray) (j : Nat) (h : j < s.size) : PlainAid.bt (s ++ x) j = PlainAid.bt s j := by
  unfold PlainAid.bt
  rw [dif_pos h, dif_pos (by rw [ByteArray.size_append]; omega)]
  rw [ByteArray.getElem_append_left h]
theorem bt_right (s x : ByteArray) (j : Nat) : PlainAid.bt (s ++ x) (j + s.size) = PlainAid.bt x j := by
  unfold PlainAid.bt
  by_cases h : j < x.size
  · rw [dif_pos h, dif_pos (by rw [ByteArray.size_append]; omega)]
    rw [ByteArray.getElem_append_right (by omega)]
    congr 3; omega
  · rw [dif_neg h, dif_neg (by rw [ByteArray.size_append]; omega)]

/-- A text, a blank, another text. -/
theorem lex_join (s x : ByteArray) (c : UInt8) (hc : blankI (c.toNat : Int)) (hm : c = 10 ∨ ∀ j, j < s.size → PlainAid.bt s j ≠ 35) (l : List Tok) (h : lexT s = .ok l) (hz : s.size + 1 + x.size ≤ 65536) :
    lexT (s ++ ⟨#[c]⟩ ++ x) = Res.pre l (Res.sh (s.size + 1) (lexT x)) := by
  have e0 : (s ++ ⟨#[c]⟩ : ByteArray).size = s.size + 1 := by rw [ByteArray.size_append]; rfl
  have e1 : (s ++ ⟨#[c]⟩ ++ x).size = x.size + (s.size + 1) := by rw [ByteArray.size_append, e0]; omega
  have hbn : PlainAid.bt (s ++ ⟨#[c]⟩ ++ x) s.size = (c.toNat : Int) := by
    rw [bt_left _ _ _ (by omega)]
    have := bt_right s ⟨#[c]⟩ 0
    rw [Nat.zero_add] at this
    rw [this]; rfl
  have hs : ¬ 65536 < s.size := by omega
  have hx : ¬ 65536 < x.size := by omega
  have E0 : lexT s = lexK (PlainAid.bt s) s.size 0 := if_neg hs
  have E1 : lexT x = lexK (PlainAid.bt x) x.size 0 := if_neg hx
  have E2 : lexT (s ++ ⟨#[c]⟩ ++ x) = lexK (PlainAid.bt (s ++ ⟨#[c]⟩ ++ x)) (s ++ ⟨#[c]⟩ ++ x).size 0 := if_neg (by omega)
  have hg : Goes (PlainAid.bt s) (PlainAid.bt (s ++ ⟨#[c]⟩ ++ x)) s.size (s ++ ⟨#[c]⟩ ++ x).size := by
    refine ⟨fun j hj => ?_, by rw [hbn]; exact hc, by omega, ?_⟩
    · rw [bt_left _ _ _ (by omega), bt_left _ _ _ hj]
    · rcases hm with e | e
      · left; rw [hbn, e]; rfl
      · exact Or.inr e
  rw [E0] at h
  rw [E1, E2, lexK_join hg s.size 0 l (by omega) (by omega) h]
  congr 1
  have hb : ∀ j, PlainAid.bt (s ++ ⟨#[c]⟩ ++ x) (j + (s.size + 1)) = PlainAid.bt x j := fun j => by
    have := bt_right (s ++ ⟨#[c]⟩) x j
    rw [e0] at this
    exact this
  have := lexK_sh hb x.size 0
  rw [Nat.zero_add] at this
  rw [e1]
  exact this
end Go.Proofs.Ytopnhbgialbicaa
/- Texts put together of pieces, each with its tokens. No program in sight. -/
namespace Go.Proofs.Ytopnhbgialbicaa

/-- s has the tokens l, and whatever stands behind it has its own. -/
def Told (s : ByteArray) (l : List Tok) : Prop := ∀ x : ByteArray, s.size + x.size ≤ 65536 → lexT (s ++ x) = Res.pre l (Res.sh s.size (lexT x))
theorem Told.nil : Told ⟨#[]⟩ [] := fun x _ => by
  rw [show (⟨#[]⟩ : ByteArray) ++ x = x from ByteArray.empty_append, Res.pre_nil]; exact (Res.sh_zero _).symm
theorem Told.app {s p : ByteArray} {l m : List Tok} (hs : Told s l) (hp : Told p m) : Told (s ++ p) (l ++ m.map (Tok.sh s.size)) := fun x hx => by
  rw [ByteArray.size_append] at hx
  rw [ByteArray.append_assoc, hs (p ++ x) (by rw [ByteArray.size_append]; omega), hp x (by omega), Res.sh_pre, Res.pre_pre, Res.sh_sh, ByteArray.size_append, Nat.add_comm p.size]
theorem Told.join {s : ByteArray} {l : List Tok} (c : UInt8) (hc : blankI (c.toNat : Int)) (hm : c = 10 ∨ ∀ j, j < s.size → PlainAid.bt s j ≠ 35) (h : lexT s = .ok l) : Told (s ++ ⟨#[c]⟩) l := fun x hx => by
  have e : (s ++ ⟨#[c]⟩ : ByteArray).size = s.size + 1 := by rw [ByteArray.size_append]; rfl
  rw [e] at hx ⊢
  exact lex_join s x c hc hm l h hx
theorem lexT_none : lexT ⟨#[]⟩ = .ok [] := by kernel_rfl
theorem Told.out {s : ByteArray} {l : List Tok} (h : Told s l) (hs : s.size ≤ 65536) : lexT s = .ok l := by
  have := h ⟨#[]⟩ (by show s.size + 0 ≤ _; omega)
  rw [show s ++ (⟨#[]⟩ : ByteArray) = s from ByteArray.append_empty, lexT_none] at this
  rw [this]; simp [Res.sh, Res.pre]

def pcT : Nat → ByteArray
  | 0 => ⟨#[97, 98]⟩
  | 1 => ⟨#[34, 120, 92, 92, 121, 34]⟩
  | 2 => ⟨#[39, 97, 39, 46, 46, 39, 92, 120, 55, 102, 39]⟩
  | 3 => ⟨#[115, 116, 97, 114, 116]⟩
  | 4 => ⟨#[61]⟩
  | 5 => ⟨#[124]⟩
  | 6 => ⟨#[38]⟩
  | 7 => ⟨#[126]⟩
  | _ => ⟨#[59]⟩
def pcK : Nat → Tok
  | 0 => ⟨0, 0, ⟨#[97, 98]⟩, 0, 0⟩
  | 1 => ⟨1, 0, ⟨#[120, 92, 121]⟩, 0, 0⟩
  | 2 => ⟨2, 0, ⟨#[]⟩, 97, 127⟩
  | 3 => ⟨3, 0, ⟨#[]⟩, 0, 0⟩
  | 4 => ⟨4, 0, ⟨#[]⟩, 0, 0⟩
  | 5 => ⟨5, 0, ⟨#[]⟩, 0, 0⟩
  | 6 => ⟨6, 0, ⟨#[]⟩, 0, 0⟩
  | 7 => ⟨7, 0, ⟨#[]⟩, 0, 0⟩
  | _ => ⟨8, 0, ⟨#[]⟩, 0, 0⟩
def spT : Nat → ByteArray
  | 0 => ⟨#[32]⟩
  | 1 => ⟨#[10]⟩
  | _ => ⟨#[35, 10]⟩
theorem pc_lex : ∀ k, lexT (pcT k) = .ok [pcK k]
  | 0 => by kernel_rfl
  | 1 => by kernel_rfl
  | 2 => by kernel_rfl
  | 3 => by kernel_rfl
  | 4 => by kernel_rfl
  | 5 => by kernel_rfl
  | 6 => by kernel_rfl
  | 7 => by kernel_rfl
  | _ + 8 => by kernel_rfl
theorem pc_lex2 : ∀ k, lexT (pcT k ++ ⟨#[35]⟩) = .ok [pcK k]
  | 0 => by kernel_rfl
  | 1 => by kernel_rfl
  | 2 => by kernel_rfl
  | 3 => by kernel_rfl
  | 4 => by kernel_rfl
  | 5 => by kernel_rfl
  | 6 => by kernel_rfl
  | 7 => by kernel_rfl
  | _ + 8 => by kernel_rfl
theorem pc_size (k : Nat) : (pcT k).size ≤ 11 := by
  match k with
  | 0 | 1 | 2 | 3 | 4 | 5 | 6 | 7 => decide
  | _ + 8 => exact (by decide : (⟨#[59]⟩ : ByteArray).size ≤ 11)
theorem pc_hash (k : Nat) : ∀ j, j < (pcT k).size → PlainAid.bt (pcT k) j ≠ 35 := by
  have h : ∀ k : Fin 9, ∀ j : Fin 11, PlainAid.bt (pcT k.val) j.val ≠ 35 := by decide
  intro j hj
  have hs := pc_size k
  by_cases hk : k < 9
  · exact h ⟨k, hk⟩ ⟨j, by omega⟩
  · have e : pcT k = pcT 8 := by
      match k, hk with
      | k + 9, _ => rfl
      | 0, h | 1, h | 2, h | 3, h | 4, h | 5, h | 6, h | 7, h | 8, h => exact absurd (by omega) h
    rw [e]
    exact h ⟨8, by omega⟩ ⟨j, by omega⟩
theorem pc_told (k r : Nat) : Told (pcT k ++ spT r) [pcK k] := by
  match r with
  | 0 => exact Told.join 32 (Or.inr (Or.inr (Or.inr rfl))) (Or.inr (pc_hash k)) (pc_lex k)
  | 1 => exact Told.join 10 (Or.inr (Or.inl rfl)) (Or.inl rfl) (pc_lex k)
  | r + 2 =>
    have h := Told.join 10 (Or.inr (Or.inl rfl)) (Or.inl rfl) (pc_lex2 k)
    rw [ByteArray.append_assoc] at h
    exact h
theorem sp_size (r : Nat) : (spT r).size ≤ 2 := by
  match r with
  | 0 | 1 => decide
  | _ + 2 => exact (by decide : (⟨#[35, 10]⟩ : ByteArray).size ≤ 2)
theorem pcK_sh (k d : Nat) : (pcK k).sh d = ⟨(pcK k).kind, d, (pcK k).text, (pcK k).lo, (pcK k).hi⟩ := by
  unfold Tok.sh
  have : (pcK k).pl = 0 := by
    match k with
    | 0 | 1 | 2 | 3 | 4 | 5 | 6 | 7 => rfl
    | _ + 8 => rfl
  rw [this, Nat.zero_add]
end Go.Proofs.Ytopnhbgialbicaa
/- A name alone, with a mark behind it. No program in sight. -/
namespace Go.Proofs.Ytopnhbgialbicaa

def nmB (c : Int) : Bool := letB c || digB c
theorem nameE_run (b : Nat → Int) (n e : Nat) (he : e < n) (hb : nmB (b e) = false) : ∀ m k, e = k + m → (∀ j, k ≤ j → j < e → nmB (b j) = true) → nameE b n k = e
  | 0, k, h, _ => by
    obtain rfl : e = k := by omega
    exact nameE_out b n e he hb
  | m + 1, k, h, hj => by
    rw [nameE_in b n k (by omega) (hj k (Nat.le_refl _) (by omega))]
    exact nameE_run b n e he hb m (k + 1) (by omega) (fun j h1 h2 => hj j (by omega) h2)
theorem strOf_whole (s x : ByteArray) : strOf (cut (PlainAid.bt (s ++ x)) 0 s.size) = s := by
  apply ByteArray.ext
  apply Array.ext
  · simp [strOf, cut]
  · intro i h1 h2
    have hi : i < s.size := h2
    simp only [strOf, cut, List.getElem_toArray, List.getElem_map, List.getElem_range]
    rw [Nat.zero_add, bt_left s x i hi]
    unfold PlainAid.bt
    rw [dif_pos hi]
    simp
    rfl
theorem nmB_let {c : Int} (h : letB c = true) : c ≠ 35 ∧ ¬ (c = 9 ∨ c = 10 ∨ c = 13 ∨ c = 32) := by
  unfold letB at h
  simp only [Bool.or_eq_true, Bool.and_eq_true, decide_eq_true_eq] at h
  omega
theorem skp_stay {b : Nat → Int} {n k : Nat} (h : k < n) (h1 : b k ≠ 35) (h2 : ¬ (b k = 9 ∨ b k = 10 ∨ b k = 13 ∨ b k = 32)) : skp b n false k = k := by
  rw [skp_false b n k h, if_neg h1, if_neg h2]
/-- A name and a mark. -/
theorem word_lex (u : ByteArray) (h0 : 0 < u.size) (hl : letB (PlainAid.bt u 0) = true) (hs : PlainAid.bt u 0 ≠ 115) (hall : ∀ j, j < u.size → nmB (PlainAid.bt u j) = true) (hz : u.size ≤ 65000) :
    lexT (u ++ ⟨#[59]⟩) = if 32 < u.size then .error (0, 201) else .ok [⟨0, 0, u, 0, 0⟩, ⟨8, u.size, ⟨#[]⟩, 0, 0⟩] := by
  have hsz : (u ++ ⟨#[59]⟩ : ByteArray).size = u.size + 1 := by rw [ByteArray.size_append]; rfl
  have hb : ∀ j, j < u.size → PlainAid.bt (u ++ ⟨#[59]⟩) j = PlainAid.bt u j := fun j hj => bt_left _ _ _ hj
  have he : PlainAid.bt (u ++ ⟨#[59]⟩) u.size = 59 := by
    have := bt_right u ⟨#[59]⟩ 0
    rw [Nat.zero_add] at this
    rw [this]; rfl
  have hB := fun j => (⟨PlainAid.bt_nonneg (u ++ ⟨#[59]⟩) j, PlainAid.bt_le (u ++ ⟨#[59]⟩) j⟩ : 0 ≤ PlainAid.bt (u ++ ⟨#[59]⟩) j ∧ PlainAid.bt (u ++ ⟨#[59]⟩) j ≤ 255)
  have hw := strOf_whole u ⟨#[59]⟩
  have E : lexT (u ++ ⟨#[59]⟩) = lexK (PlainAid.bt (u ++ ⟨#[59]⟩)) (u.size + 1) 0 := by
    rw [lexT, lexB, if_neg (by omega), hsz]
  rw [E]
  generalize PlainAid.bt (u ++ ⟨#[59]⟩) = b at *
  have hl0 : letB (b 0) = true := by rw [hb 0 h0]; exact hl
  obtain ⟨n1, n2⟩ := nmB_let hl0
  rw [lexK_eq b _ 0 (Nat.zero_le _), skp_stay (by omega) n1 n2, lexA, if_neg (by omega)]
  have hE : nameE b (u.size + 1) 0 = u.size := nameE_run b (u.size + 1) u.size (by omega) (by rw [he]; rfl) u.size 0 (by omega) (fun j _ hj => by rw [hb j hj]; exact hall j hj)
  have hT : tokF b (u.size + 1) 0 = if 32 < u.size then .error true else .ok (⟨0, 0, u, 0, 0⟩, u.size) := by
    unfold tokF
    rw [if_pos hl0, nameG, hE]
    by_cases h32 : 32 < u.size
    · rw [if_pos (by omega), if_pos h32]
    · rw [if_neg (by omega), if_neg h32]
      have hn : isStart (cut b 0 u.size) = false := by
        cases hst : isStart (cut b 0 u.size) with
        | false => rfl
        | true =>
          rw [cut_cons b 0 _ h0] at hst
          have := start_head _ _ (hB 0) hst
          rw [hb 0 h0] at this
          exact absurd this hs
      unfold nameT
      rw [if_neg (by rw [hn]; simp), hw]
  rw [hT]
  by_cases h32 : 32 < u.size
  · rw [if_pos h32, if_pos h32]
  · rw [if_neg h32, if_neg h32]
    show Res.cons _ (lexK b (u.size + 1) u.size) = _
    rw [lexK_eq b _ _ (by omega), skp_stay (by omega) (by omega) (by omega), lexA, if_neg (by omega)]
    have hT2 : tokF b (u.size + 1) u.size = .ok (⟨8, u.size, ⟨#[]⟩, 0, 0⟩, u.size + 1) := by
      unfold tokF
      rw [he]
      rfl
    rw [hT2]
    show Res.cons _ (Res.cons _ (lexK b (u.size + 1) (u.size + 1))) = _
    rw [lexK_eq b _ _ (Nat.le_refl _), skp_end b _ _ _ (Nat.le_refl _), lexA, if_pos (Nat.le_refl _)]
    rfl

def sx : Nat → Int
  | 0 => 97
  | 1 => 90
  | 2 => 95
  | 3 => 113
  | 4 => 48
  | _ => 57
def nm (c : Nat) : Nat → ByteArray
  | 0 => ⟨#[]⟩
  | j + 1 => nm c j ++ strOf [sx ((j + c) % 6)]
theorem nm_size (c : Nat) : ∀ j, (nm c j).size = j
  | 0 => rfl
  | j + 1 => by
    show (nm c j ++ _).size = _
    rw [ByteArray.size_append, nm_size c j]; rfl
theorem sx_nm (q : Nat) : nmB (sx q) = true ∧ 0 ≤ sx q ∧ sx q ≤ 255 := by
  match q with
  | 0 | 1 | 2 | 3 | 4 => exact ⟨rfl, by decide, by decide⟩
  | _ + 5 => exact ⟨rfl, (by decide : (0 : Int) ≤ 57), (by decide : (57 : Int) ≤ 255)⟩
theorem nm_all (c : Nat) : ∀ k j, j < k → nmB (PlainAid.bt (nm c k) j) = true
  | 0, j, h => by omega
  | k + 1, j, h => by
    show nmB (PlainAid.bt (nm c k ++ _) j) = true
    by_cases e : j < k
    · rw [bt_left _ _ _ (by rw [nm_size]; exact e)]; exact nm_all c k j e
    · obtain rfl : j = k := by omega
      have h1 := bt_right (nm c j) (strOf [sx ((j + c) % 6)]) 0
      rw [Nat.zero_add, nm_size] at h1
      have hx := sx_nm ((j + c) % 6)
      rw [h1, (strOf_head _ [] hx.2).2]
      exact hx.1
def nmF (c k : Nat) : ByteArray := ⟨#[110]⟩ ++ (nm c k).extract 1 (nm c k).size
theorem nmF_size (c k : Nat) (hk : 1 ≤ k) : (nmF c k).size = k := by
  unfold nmF
  rw [ByteArray.size_append, ByteArray.size_extract, nm_size]
  show 1 + (min k k - 1) = k
  omega
theorem nmF_bt0 (c k : Nat) : PlainAid.bt (nmF c k) 0 = 110 := by
  unfold nmF
  rw [bt_left _ _ _ (by decide)]; rfl
theorem nmF_all (c k : Nat) (hk : 1 ≤ k) (j : Nat) (hj : j < k) : nmB (PlainAid.bt (nmF c k) j) = true := by
  match j, hj with
  | 0, _ => rw [nmF_bt0]; rfl
  | j + 1, hj =>
    unfold nmF
    have h := bt_right ⟨#[110]⟩ ((nm c k).extract 1 (nm c k).size) j
    have h' : PlainAid.bt (⟨#[110]⟩ ++ (nm c k).extract 1 (nm c k).size) (j + 1) = PlainAid.bt ((nm c k).extract 1 (nm c k).size) j := h
    rw [h']
    have hx : PlainAid.bt ((nm c k).extract 1 (nm c k).size) j = PlainAid.bt (nm c k) (j + 1) := by
      unfold PlainAid.bt
      rw [dif_pos (by rw [ByteArray.size_extract, nm_size]; omega), dif_pos (by rw [nm_size]; omega)]
      congr 2
      rw [ByteArray.getElem_extract]
      congr 1; omega
    rw [hx]
    exact nm_all c k (j + 1) hj
theorem names_lex (c k : Nat) (hk : 1 ≤ k) (hk2 : k ≤ 64) : lexT ((⟨#[32]⟩ ++ nmF c k) ++ ⟨#[59]⟩) = if 32 < k then .error (1, 201) else .ok [⟨0, 1, nmF c k, 0, 0⟩, ⟨8, k + 1, ⟨#[]⟩, 0, 0⟩] := by
  have hs := nmF_size c k hk
  have h := word_lex (nmF c k) (by omega) (by rw [nmF_bt0]; rfl) (by rw [nmF_bt0]; decide) (fun j hj => nmF_all c k hk j (by omega)) (by omega)
  have hj := lex_join ⟨#[]⟩ (nmF c k ++ ⟨#[59]⟩) 32 (Or.inr (Or.inr (Or.inr rfl))) (Or.inr fun j hj => absurd hj (Nat.not_lt_zero _)) [] lexT_none (by rw [ByteArray.size_append, hs]; show 0 + 1 + (k + 1) ≤ _; omega)
  rw [show (⟨#[]⟩ : ByteArray) ++ ⟨#[32]⟩ = ⟨#[32]⟩ from ByteArray.empty_append] at hj
  rw [ByteArray.append_assoc, hj, h, hs]
  by_cases h32 : 32 < k
  · rw [if_pos h32, if_pos h32]; rfl
  · rw [if_neg h32, if_neg h32]; rfl
end Go.Proofs.Ytopnhbgialbicaa
/- A text in quotes and a range, each byte as its two digits: what they are told as, whatever stands behind. No program in sight. -/
namespace Go.Proofs.Ytopnhbgialbicaa

/-- A piece that is one token, whatever stands behind it. -/
theorem told_tok (p : ByteArray) (t : Tok) (h0 : 0 < p.size) (h1 : PlainAid.bt p 0 ≠ 35) (h2 : ¬ (PlainAid.bt p 0 = 9 ∨ PlainAid.bt p 0 = 10 ∨ PlainAid.bt p 0 = 13 ∨ PlainAid.bt p 0 = 32))
    (h : ∀ (b : Nat → Int) (n : Nat), (∀ j, j < p.size → b j = PlainAid.bt p j) → p.size ≤ n → tokF b n 0 = .ok (t, p.size)) : Told p [t] := fun x hx => by
  have hz : (p ++ x).size = x.size + p.size := by rw [ByteArray.size_append]; omega
  have E1 : lexT (p ++ x) = lexK (PlainAid.bt (p ++ x)) (x.size + p.size) 0 := by rw [lexT, lexB, if_neg (by omega), hz]
  have E2 : lexT x = lexK (PlainAid.bt x) x.size 0 := by rw [lexT, lexB, if_neg (by omega)]
  have hb : ∀ j, j < p.size → PlainAid.bt (p ++ x) j = PlainAid.bt p j := fun j hj => bt_left _ _ _ hj
  have hs := lexK_sh (b := PlainAid.bt x) (b' := PlainAid.bt (p ++ x)) (d := p.size) (fun j => bt_right p x j) x.size 0
  rw [Nat.zero_add] at hs
  rw [E1, E2, lexK_eq _ _ 0 (Nat.zero_le _), skp_stay (by omega) (by rw [hb 0 h0]; exact h1) (by rw [hb 0 h0]; exact h2), lexA, if_neg (by omega), h _ _ hb (by omega)]
  show Res.cons t (lexK _ _ p.size) = _
  rw [hs]
  cases lexK (PlainAid.bt x) x.size 0 <;> rfl

def ALL : ByteArray := ⟨#[48, 49, 50, 51, 52, 53, 54, 55, 56, 57, 97, 98, 99, 100, 101, 102]⟩
theorem ALL_hex (q : Nat) (h : q < 16) : hexF (PlainAid.bt ALL q) = (q : Int) ∧ 0 ≤ PlainAid.bt ALL q ∧ PlainAid.bt ALL q ≤ 255 := by
  have : ∀ q : Fin 16, hexF (PlainAid.bt ALL q.val) = (q.val : Int) ∧ 0 ≤ PlainAid.bt ALL q.val ∧ PlainAid.bt ALL q.val ≤ 255 := by decide
  exact this ⟨q, h⟩
def hi4 (s : ByteArray) (j : Nat) : Nat := (PlainAid.bt s j).toNat / 16
def lo4 (s : ByteArray) (j : Nat) : Nat := (PlainAid.bt s j).toNat % 16
theorem hi4_lt (s : ByteArray) (j : Nat) : hi4 s j < 16 := by have := PlainAid.bt_le s j; have := PlainAid.bt_nonneg s j; unfold hi4; omega
theorem lo4_lt (s : ByteArray) (j : Nat) : lo4 s j < 16 := by unfold lo4; omega
theorem hilo (s : ByteArray) (j : Nat) : 16 * (hi4 s j : Int) + (lo4 s j : Int) = PlainAid.bt s j := by have := PlainAid.bt_nonneg s j; unfold hi4 lo4; omega
def two (p q : Nat) : ByteArray := strOf [PlainAid.bt ALL p, PlainAid.bt ALL q]
theorem two_size (p q : Nat) : (two p q).size = 2 := rfl
theorem two_bt (p q : Nat) (hp : p < 16) (hq : q < 16) : PlainAid.bt (two p q) 0 = PlainAid.bt ALL p ∧ PlainAid.bt (two p q) 1 = PlainAid.bt ALL q := by
  have h : ∀ p q : Fin 16, PlainAid.bt (two p.val q.val) 0 = PlainAid.bt ALL p.val ∧ PlainAid.bt (two p.val q.val) 1 = PlainAid.bt ALL q.val := by decide +kernel
  exact h ⟨p, hp⟩ ⟨q, hq⟩
def tx (s : ByteArray) : Nat → ByteArray
  | 0 => ⟨#[34]⟩
  | j + 1 => (tx s j ++ ⟨#[92, 120]⟩) ++ two (hi4 s j) (lo4 s j)
theorem tx_size (s : ByteArray) : ∀ j, (tx s j).size = 1 + 4 * j
  | 0 => rfl
  | j + 1 => by
    show ((tx s j ++ _) ++ _).size = _
    rw [ByteArray.size_append, ByteArray.size_append, tx_size s j, two_size]
    show 1 + 4 * j + 2 + 2 = _
    omega
theorem bt_mid (a x y : ByteArray) (k : Nat) (h : k < x.size) : PlainAid.bt ((a ++ x) ++ y) (a.size + k) = PlainAid.bt x k := by
  rw [bt_left _ _ _ (by rw [ByteArray.size_append]; omega), Nat.add_comm]
  exact bt_right a x k
theorem bt_last (a x y : ByteArray) (k : Nat) : PlainAid.bt ((a ++ x) ++ y) (a.size + x.size + k) = PlainAid.bt y k := by
  have := bt_right (a ++ x) y k
  rw [ByteArray.size_append] at this
  rw [Nat.add_comm]; exact this
theorem tx_bt (s : ByteArray) : ∀ j, PlainAid.bt (tx s j) 0 = 34 ∧ ∀ i, i < j → PlainAid.bt (tx s j) (1 + 4 * i) = 92 ∧ PlainAid.bt (tx s j) (2 + 4 * i) = 120 ∧ PlainAid.bt (tx s j) (3 + 4 * i) = PlainAid.bt ALL (hi4 s i) ∧ PlainAid.bt (tx s j) (4 + 4 * i) = PlainAid.bt ALL (lo4 s i)
  | 0 => ⟨rfl, fun i h => by omega⟩
  | j + 1 => by
    obtain ⟨h0, h1⟩ := tx_bt s j
    have hs := tx_size s j
    have hl : ∀ k, k < 1 + 4 * j → PlainAid.bt (tx s (j + 1)) k = PlainAid.bt (tx s j) k := fun k hk => by
      show PlainAid.bt ((tx s j ++ _) ++ _) k = _
      rw [bt_left _ _ _ (by rw [ByteArray.size_append]; omega), bt_left _ _ _ (by omega)]
    refine ⟨(hl 0 (by omega)).trans h0, fun i hi => ?_⟩
    by_cases e : i < j
    · obtain ⟨a, b, c, d⟩ := h1 i e
      exact ⟨(hl _ (by omega)).trans a, (hl _ (by omega)).trans b, (hl _ (by omega)).trans c, (hl _ (by omega)).trans d⟩
    · obtain rfl : i = j := by omega
      have m := bt_mid (tx s i) ⟨#[92, 120]⟩ (two (hi4 s i) (lo4 s i))
      have l := bt_last (tx s i) ⟨#[92, 120]⟩ (two (hi4 s i) (lo4 s i))
      have z : (⟨#[92, 120]⟩ : ByteArray).size = 2 := rfl
      obtain ⟨t0, t1⟩ := two_bt (hi4 s i) (lo4 s i) (hi4_lt s i) (lo4_lt s i)
      rw [hs] at m l
      rw [z] at l
      show PlainAid.bt ((tx s i ++ _) ++ _) _ = _ ∧ PlainAid.bt ((tx s i ++ _) ++ _) _ = _ ∧ PlainAid.bt ((tx s i ++ _) ++ _) _ = _ ∧ PlainAid.bt ((tx s i ++ _) ++ _) _ = _
      refine ⟨?_, ?_, ?_, ?_⟩
      · exact (m 0 (by decide)).trans rfl
      · rw [show 2 + 4 * i = 1 + 4 * i + 1 by omega]; exact (m 1 (by decide)).trans rfl
      · rw [show 3 + 4 * i = 1 + 4 * i + 2 + 0 by omega]; exact (l 0).trans t0
      · rw [show 4 + 4 * i = 1 + 4 * i + 2 + 1 by omega]; exact (l 1).trans t1
/-- One byte as its two digits. -/
theorem signF_hex (b : Nat → Int) (n k p q : Nat) (quote : Int) (hq : quote = 34 ∨ quote = 39) (hp : p < 16) (hq' : q < 16) (hn : k + 3 < n) (h0 : b k = 92) (h1 : b (k + 1) = 120) (h2 : b (k + 2) = PlainAid.bt ALL p) (h3 : b (k + 3) = PlainAid.bt ALL q) :
    signF b n k quote = some (16 * (p : Int) + (q : Int), k + 4) := by
  have e2 := (ALL_hex p hp).1
  have e3 := (ALL_hex q hq').1
  unfold signF
  rw [if_neg (by omega), if_neg (by omega), if_neg (by omega), if_neg (by omega), h2, h3, e2, e3, if_neg (by omega)]
theorem tx_text (s : ByteArray) (b : Nat → Int) (n : Nat) (hb : ∀ j, j < 1 + 4 * s.size → b j = PlainAid.bt (tx s s.size) j) (he : b (1 + 4 * s.size) = 34) (hn : 1 + 4 * s.size < n) :
    ∀ m i acc, s.size = i + m → textF b n (1 + 4 * i) acc = some (acc ++ (List.range m).map (fun k => PlainAid.bt s (i + k)), 2 + 4 * s.size)
  | 0, i, acc, h => by
    obtain rfl : i = s.size := by omega
    rw [textF_eq b n _ acc (by omega), if_pos ⟨hn, he⟩, show 1 + 4 * s.size + 1 = 2 + 4 * s.size by omega]
    simp
  | m + 1, i, acc, h => by
    obtain ⟨c0, c1, c2, c3⟩ := (tx_bt s s.size).2 i (by omega)
    rw [← hb _ (by omega)] at c0 c1 c2 c3
    have hx := signF_hex b n (1 + 4 * i) (hi4 s i) (lo4 s i) 34 (Or.inl rfl) (hi4_lt s i) (lo4_lt s i) (by omega) c0 (by rw [show 1 + 4 * i + 1 = 2 + 4 * i by omega]; exact c1) (by rw [show 1 + 4 * i + 2 = 3 + 4 * i by omega]; exact c2) (by rw [show 1 + 4 * i + 3 = 4 + 4 * i by omega]; exact c3)
    rw [textF_eq b n _ acc (by omega), if_neg (by rw [c0]; omega), hx]
    show textF b n (1 + 4 * i + 4) (acc ++ [_]) = _
    rw [show 1 + 4 * i + 4 = 1 + 4 * (i + 1) by omega, tx_text s b n hb he hn m (i + 1) _ (by omega), hilo, List.range_succ_eq_map, List.map_cons, List.map_map, List.append_assoc]
    congr 2
    simp only [List.cons_append, List.nil_append, Nat.add_zero]
    congr 2
    apply List.map_congr_left
    intro k _
    show PlainAid.bt s (i + 1 + k) = PlainAid.bt s (i + (k + 1))
    rw [show i + 1 + k = i + (k + 1) by omega]
theorem strOf_bt (s : ByteArray) : strOf ((List.range s.size).map (fun k => PlainAid.bt s (0 + k))) = s := by
  have := strOf_whole s ⟨#[]⟩
  rw [show s ++ (⟨#[]⟩ : ByteArray) = s from ByteArray.append_empty] at this
  exact this
theorem tx_told (s : ByteArray) : Told (tx s s.size ++ ⟨#[34]⟩) [⟨1, 0, s, 0, 0⟩] := by
  have hs := tx_size s s.size
  have hz : (tx s s.size ++ ⟨#[34]⟩ : ByteArray).size = 2 + 4 * s.size := by rw [ByteArray.size_append, hs]; show 1 + 4 * s.size + 1 = _; omega
  have hl : ∀ j, j < 1 + 4 * s.size → PlainAid.bt (tx s s.size ++ ⟨#[34]⟩) j = PlainAid.bt (tx s s.size) j := fun j hj => bt_left _ _ _ (by omega)
  have he : PlainAid.bt (tx s s.size ++ ⟨#[34]⟩) (1 + 4 * s.size) = 34 := by
    have := bt_right (tx s s.size) ⟨#[34]⟩ 0
    rw [hs, Nat.zero_add] at this
    rw [this]; rfl
  have h0 := (tx_bt s s.size).1
  refine told_tok _ _ (by omega) (by rw [hl 0 (by omega), h0]; decide) (by rw [hl 0 (by omega), h0]; decide) (fun b n hb hn => ?_)
  rw [hz] at hb hn ⊢
  have b0 : b 0 = 34 := by rw [hb 0 (by omega), hl 0 (by omega), h0]
  unfold tokF
  rw [b0, if_neg (by decide), if_pos rfl, textG]
  have ht := tx_text s b n (fun j hj => by rw [hb j (by omega), hl j hj]) (by rw [hb _ (by omega), he]) (by omega) s.size 0 [] (by omega)
  rw [show 1 + 4 * 0 = 0 + 1 from rfl] at ht
  rw [ht]
  simp only [List.nil_append]
  rw [strOf_bt]
def rgX (p q : Nat) : ByteArray := (⟨#[39, 92, 120]⟩ ++ two p q) ++ ⟨#[39]⟩
theorem rgX_size (p q : Nat) : (rgX p q).size = 6 := rfl
theorem rgX_bt (p q : Nat) (hp : p < 16) (hq : q < 16) : PlainAid.bt (rgX p q) 0 = 39 ∧ PlainAid.bt (rgX p q) 1 = 92 ∧ PlainAid.bt (rgX p q) 2 = 120 ∧ PlainAid.bt (rgX p q) 3 = PlainAid.bt ALL p ∧ PlainAid.bt (rgX p q) 4 = PlainAid.bt ALL q ∧ PlainAid.bt (rgX p q) 5 = 39 := by
  have h : ∀ p q : Fin 16, PlainAid.bt (rgX p.val q.val) 0 = 39 ∧ PlainAid.bt (rgX p.val q.val) 1 = 92 ∧ PlainAid.bt (rgX p.val q.val) 2 = 120 ∧ PlainAid.bt (rgX p.val q.val) 3 = PlainAid.bt ALL p.val ∧ PlainAid.bt (rgX p.val q.val) 4 = PlainAid.bt ALL q.val ∧ PlainAid.bt (rgX p.val q.val) 5 = 39 := by decide +kernel
  exact h ⟨p, hp⟩ ⟨q, hq⟩
def rgP (p q : Nat) : ByteArray := (rgX p q ++ ⟨#[46, 46]⟩) ++ rgX p q
theorem rgP_size (p q : Nat) : (rgP p q).size = 14 := rfl
theorem half_hex (b : Nat → Int) (n k p q : Nat) (hp : p < 16) (hq' : q < 16) (hn : k + 4 < n) (h0 : b k = 92) (h1 : b (k + 1) = 120) (h2 : b (k + 2) = PlainAid.bt ALL p) (h3 : b (k + 3) = PlainAid.bt ALL q) (h4 : b (k + 4) = 39) :
    half b n k = some (16 * (p : Int) + (q : Int), k + 5) := by
  unfold half
  rw [signF_hex b n k p q 39 (Or.inr rfl) hp hq' (by omega) h0 h1 h2 h3]
  show (if n ≤ k + 4 ∨ b (k + 4) ≠ 39 then none else some (_, k + 4 + 1)) = _
  rw [if_neg (by rw [h4]; omega)]
theorem rg_told (p q : Nat) (hp : p < 16) (hq : q < 16) : Told (rgP p q) [⟨2, 0, ⟨#[]⟩, 16 * (p : Int) + (q : Int), 16 * (p : Int) + (q : Int)⟩] := by
  obtain ⟨x0, x1, x2, x3, x4, x5⟩ := rgX_bt p q hp hq
  have hz := rgP_size p q
  have zx := rgX_size p q
  have l : ∀ k, k < 6 → PlainAid.bt (rgP p q) k = PlainAid.bt (rgX p q) k := fun k hk => by
    unfold rgP
    rw [bt_left _ _ _ (by rw [ByteArray.size_append]; omega), bt_left _ _ _ (by omega)]
  have m := bt_mid (rgX p q) ⟨#[46, 46]⟩ (rgX p q)
  have r := bt_last (rgX p q) ⟨#[46, 46]⟩ (rgX p q)
  have z2 : (⟨#[46, 46]⟩ : ByteArray).size = 2 := rfl
  rw [zx] at m r
  rw [z2] at r
  have m0 : PlainAid.bt (rgP p q) 6 = 46 := (m 0 (by decide)).trans rfl
  have m1 : PlainAid.bt (rgP p q) 7 = 46 := (m 1 (by decide)).trans rfl
  refine told_tok _ _ (by omega) (by rw [l 0 (by omega), x0]; decide) (by rw [l 0 (by omega), x0]; decide) (fun b n hb hn => ?_)
  rw [hz] at hb hn ⊢
  have b0 : b 0 = 39 := by rw [hb 0 (by omega), l 0 (by omega), x0]
  have b1 : b 1 = 92 := by rw [hb 1 (by omega), l 1 (by omega), x1]
  have b2 : b 2 = 120 := by rw [hb 2 (by omega), l 2 (by omega), x2]
  have b3 : b 3 = PlainAid.bt ALL p := by rw [hb 3 (by omega), l 3 (by omega), x3]
  have b4 : b 4 = PlainAid.bt ALL q := by rw [hb 4 (by omega), l 4 (by omega), x4]
  have b5 : b 5 = 39 := by rw [hb 5 (by omega), l 5 (by omega), x5]
  have b6 : b 6 = 46 := by rw [hb 6 (by omega), m0]
  have b7 : b 7 = 46 := by rw [hb 7 (by omega), m1]
  have b8 : b 8 = 39 := by rw [hb 8 (by omega)]; exact (r 0).trans x0
  have b9 : b 9 = 92 := by rw [hb 9 (by omega)]; exact (r 1).trans x1
  have b10 : b 10 = 120 := by rw [hb 10 (by omega)]; exact (r 2).trans x2
  have b11 : b 11 = PlainAid.bt ALL p := by rw [hb 11 (by omega)]; exact (r 3).trans x3
  have b12 : b 12 = PlainAid.bt ALL q := by rw [hb 12 (by omega)]; exact (r 4).trans x4
  have b13 : b 13 = 39 := by rw [hb 13 (by omega)]; exact (r 5).trans x5
  unfold tokF
  rw [b0, if_neg (by decide), if_neg (by decide), if_pos rfl, rangeG, rangeF, half_hex b n (0 + 1) p q hp hq (by omega) b1 b2 b3 b4 b5]
  have hd : dots b n 6 := dots_mk ⟨by omega, b6, b7⟩
  have ho : oneF b n (6 + 2) = some (16 * (p : Int) + (q : Int), 14) := by
    rw [oneF_half, if_neg (by rw [b8]; omega), half_hex b n (6 + 2 + 1) p q hp hq (by omega) b9 b10 b11 b12 b13]
  show (match (if dots b n 6 then match oneF b n (6 + 2) with
      | none => none
      | some (d, to2) => some (16 * (p : Int) + (q : Int), d, to2)
    else some (16 * (p : Int) + (q : Int), 16 * (p : Int) + (q : Int), 6)) with
    | none => Got.noText
    | some (c, d, to) => Got.tok ⟨2, 0, ⟨#[]⟩, c, d⟩ to) = _
  rw [if_pos hd, ho]
/-- The whole. -/
theorem texts_lex (s : ByteArray) (p q : Nat) (hp : p < 16) (hq : q < 16) (hs : s.size ≤ 2000) :
    lexT ((((tx s s.size ++ ⟨#[34]⟩) ++ rgX p q) ++ ⟨#[46, 46]⟩) ++ rgX p q) = .ok [⟨1, 0, s, 0, 0⟩, ⟨2, (tx s s.size).size + 1, ⟨#[]⟩, 16 * (p : Int) + (q : Int), 16 * (p : Int) + (q : Int)⟩] := by
  have h := (tx_told s).app (rg_told p q hp hq)
  have hz : (tx s s.size ++ ⟨#[34]⟩ : ByteArray).size = (tx s s.size).size + 1 := by rw [ByteArray.size_append]; rfl
  have h2 := h.out (by rw [ByteArray.size_append, hz, tx_size, rgP_size]; omega)
  rw [hz] at h2
  have e : (((tx s s.size ++ ⟨#[34]⟩) ++ rgX p q) ++ ⟨#[46, 46]⟩) ++ rgX p q = (tx s s.size ++ ⟨#[34]⟩) ++ rgP p q := by
    unfold rgP; simp only [ByteArray.append_assoc]
  rw [e, h2]
  simp [Tok.sh]
end Go.Proofs.Ytopnhbgialbicaa
/- A grammar's text, as a plain function. No program in sight. -/
namespace Go.Proofs.Ytopnhbgialbicaa
set_option linter.unusedVariables false

def hexT (n : Nat) : UInt8 := if n < 10 then UInt8.ofNat (48 + n) else UInt8.ofNat (87 + n)
def escT (q c : UInt8) : List UInt8 :=
  if c.toNat < 32 ∨ 126 < c.toNat then [92, 120, hexT (c.toNat / 16), hexT (c.toNat % 16)]
  else if c = q ∨ c = 92 then [92, c] else [c]
def quoT (q : UInt8) (l : List UInt8) : List UInt8 := [q] ++ l.flatMap (escT q) ++ [q]
/-- A part of a conjunct: a text, a range, a name. -/
abbrev Part := List UInt8 ⊕ ((UInt8 × UInt8) ⊕ ByteArray)
def byteOf (n : Int) : UInt8 := UInt8.ofNat n.toNat
def addT : List Part → UInt8 → List Part
  | [], c => [.inl [c]]
  | [.inl l], c => [.inl (l ++ [c])]
  | [p], c => [p, .inl [c]]
  | p :: q :: ps, c => p :: addT (q :: ps) c
def symP (names : List ByteArray) (ps : List Part) (s : Sy) : List Part :=
  if s.name ≠ -1 then ps ++ [.inr (.inr (names.getD s.name.toNat ⟨#[]⟩))]
  else if s.lo ≠ s.hi then ps ++ [.inr (.inl (byteOf s.lo, byteOf s.hi))]
  else addT ps (byteOf s.lo)
def partsT (names : List ByteArray) (l : List Sy) : List Part := if l.isEmpty then [.inl []] else l.foldl (symP names) []
def partT : Part → List UInt8
  | .inl l => quoT 34 l
  | .inr (.inl (a, b)) => quoT 39 [a] ++ [46, 46] ++ quoT 39 [b]
  | .inr (.inr s) => s.data.toList
/-- n things with the same between any two of them. -/
def joinN (between : List UInt8) (t : Nat → List UInt8) : Nat → List UInt8
  | 0 => []
  | k + 1 => joinN between t k ++ (if 0 < k then between else []) ++ t k
def partAt (l : List Part) (i : Nat) : List UInt8 := partT (l.getD i (.inl []))
def conjT (names : List ByteArray) (c : Cn) : List UInt8 := (if c.neg then [126] else []) ++ joinN [32] (partAt (partsT names c.seq)) (partsT names c.seq).length
def conjAt (names : List ByteArray) (l : List Cn) (i : Nat) : List UInt8 := conjT names (l.getD i ⟨false, []⟩)
def conjsT (names : List ByteArray) (l : List Cn) : List UInt8 := joinN [32, 38, 32] (conjAt names l) l.length
def ruleAt (names : List ByteArray) (l : List Ru) (i : Nat) : List UInt8 := conjsT names (l.getD i ⟨0, []⟩).conj
def altsT (names : List ByteArray) (l : List Ru) : List UInt8 := joinN [32, 124, 32] (ruleAt names l) l.length
def rulesOfT (l : List Ru) (k : Nat) : List Ru := l.filter fun r => decide (r.head = (k : Int))
def defT (names : List ByteArray) (rules : List Ru) (k : Nat) : List UInt8 :=
  (names.getD k ⟨#[]⟩).data.toList ++ [32, 61, 32] ++ altsT names (rulesOfT rules k) ++ [59, 10]
def defsT (names : List ByteArray) (rules : List Ru) : Nat → List UInt8
  | 0 => []
  | k + 1 => defsT names rules k ++ defT names rules k
def showL (g : Gr) : List UInt8 := [115, 116, 97, 114, 116, 32] ++ (g.names.getD g.start.toNat ⟨#[]⟩).data.toList ++ [59, 10] ++ defsT g.names g.rules g.names.length
def showT (g : Gr) : ByteArray := ⟨(showL g).toArray⟩

theorem escT_len (q c : UInt8) : (escT q c).length ≤ 4 := by
  unfold escT; split
  · simp
  · split <;> simp
theorem flat_len {α : Type} (f : α → List UInt8) (m : Nat) (h : ∀ a, (f a).length ≤ m) : ∀ l : List α, (l.flatMap f).length ≤ l.length * m
  | [] => by simp
  | a :: l => by
    have := flat_len f m h l
    have := h a
    rw [List.flatMap_cons, List.length_append, List.length_cons, Nat.succ_mul]; omega
theorem quoT_len (q : UInt8) (l : List UInt8) : (quoT q l).length ≤ l.length * 4 + 2 := by
  have := flat_len (escT q) 4 (escT_len q) l
  simp only [quoT, List.length_append, List.length_cons, List.length_nil]; omega
theorem joinN_len (b : List UInt8) (t : Nat → List UInt8) (m : Nat) : ∀ n, (∀ i, i < n → (t i).length ≤ m) → (joinN b t n).length ≤ n * (b.length + m)
  | 0, _ => by simp [joinN]
  | n + 1, h => by
    have h1 := joinN_len b t m n (fun i hi => h i (by omega))
    have h2 := h n (by omega)
    have h3 : (if 0 < n then b else []).length ≤ b.length := by split <;> simp
    simp only [joinN, List.length_append, Nat.succ_mul]; omega
theorem joinN_mono (b : List UInt8) (t : Nat → List UInt8) : ∀ n k, k ≤ n → (joinN b t k).length ≤ (joinN b t n).length
  | 0, k, h => by obtain rfl : k = 0 := by omega
                  exact Nat.le_refl _
  | n + 1, k, h => by
    by_cases e : k = n + 1
    · subst e; exact Nat.le_refl _
    · have := joinN_mono b t n k (by omega)
      simp only [joinN, List.length_append]; omega
theorem joinN_congr (b : List UInt8) (t t' : Nat → List UInt8) : ∀ n, (∀ i, i < n → t i = t' i) → joinN b t n = joinN b t' n
  | 0, _ => rfl
  | n + 1, h => by simp only [joinN]; rw [joinN_congr b t t' n (fun i hi => h i (by omega)), h n (by omega)]
theorem addT_snoc : ∀ (ps : List Part) (p : Part) (c : UInt8), addT (ps ++ [p]) c = match p with | .inl l => ps ++ [.inl (l ++ [c])] | _ => ps ++ [p, .inl [c]]
  | [], .inl l, c => rfl
  | [], .inr x, c => rfl
  | q :: ps, p, c => by
    have h := addT_snoc ps p c
    cases ps with
    | nil =>
      simp only [List.nil_append, List.cons_append] at h ⊢
      cases p <;> simp only [addT] at h ⊢ <;> rfl
    | cons r ps =>
      simp only [List.cons_append] at h ⊢
      simp only [addT]
      rw [h]
      cases p <;> rfl
theorem byteOf_nat {n : Int} (h0 : 0 ≤ n) (h1 : n ≤ 255) : ((byteOf n).toNat : Int) = n := by
  unfold byteOf
  rw [UInt8.toNat_ofNat']
  omega
end Go.Proofs.Ytopnhbgialbicaa
/- A text that is cut: where it still parses, its tokens and declarations are a beginning of the whole's. No program in sight. -/
namespace Go.Proofs.Ytopnhbgialbicaa

/-- b has n bytes, of which b' has the first n'. -/
structure Cut (b b' : Nat → Int) (n n' : Nat) : Prop where
  eq : ∀ j, j < n' → b' j = b j
  le : n' ≤ n
theorem skp_cut {b b' : Nat → Int} {n n' : Nat} (h : Cut b b' n n') : ∀ m c k, n' = k + m → skp b' n' c k < n' → skp b n c k = skp b' n' c k
  | 0, c, k, e, hs => by
    rw [skp_end b' n' c k (by omega)] at hs; omega
  | m + 1, c, k, e, hs => by
    have hk' : k < n' := by omega
    have hk : k < n := by have := h.le; omega
    have hb := h.eq k hk'
    cases c with
    | true =>
      rw [skp_true _ _ _ hk'] at hs ⊢
      rw [skp_true _ _ _ hk]
      rw [hb] at hs ⊢
      by_cases e1 : b k = 10
      · rw [if_pos e1] at hs ⊢; rw [if_pos e1]; exact skp_cut h m false (k + 1) (by omega) hs
      · rw [if_neg e1] at hs ⊢; rw [if_neg e1]; exact skp_cut h m true (k + 1) (by omega) hs
    | false =>
      rw [skp_false _ _ _ hk'] at hs ⊢
      rw [skp_false _ _ _ hk]
      rw [hb] at hs ⊢
      by_cases e1 : b k = 35
      · rw [if_pos e1] at hs ⊢; rw [if_pos e1]; exact skp_cut h m true (k + 1) (by omega) hs
      · rw [if_neg e1] at hs ⊢; rw [if_neg e1]
        by_cases e2 : b k = 9 ∨ b k = 10 ∨ b k = 13 ∨ b k = 32
        · rw [if_pos e2] at hs ⊢; rw [if_pos e2]; exact skp_cut h m false (k + 1) (by omega) hs
        · rw [if_neg e2]; rw [if_neg e2]
theorem nameE_cut {b b' : Nat → Int} {n n' : Nat} (h : Cut b b' n n') : ∀ m k, n' = k + m → nameE b' n' k < n' → nameE b n k = nameE b' n' k
  | 0, k, e, hs => by rw [nameE_end b' n' k (by omega)] at hs; omega
  | m + 1, k, e, hs => by
    have hk' : k < n' := by omega
    have hk : k < n := by have := h.le; omega
    have hb := h.eq k hk'
    by_cases hl : (letB (b' k) || digB (b' k)) = true
    · rw [nameE_in b' n' k hk' hl] at hs ⊢
      rw [nameE_in b n k hk (by rw [← hb]; exact hl)]
      exact nameE_cut h m (k + 1) (by omega) hs
    · have hl := Bool.eq_false_iff.2 hl
      rw [nameE_out b' n' k hk' hl, nameE_out b n k hk (by rw [← hb]; exact hl)]
theorem cut_cut {b b' : Nat → Int} {n n' : Nat} (h : Cut b b' n n') (k e : Nat) (he : e ≤ n') : cut b k e = cut b' k e := by
  unfold cut
  apply List.map_congr_left
  intro j hj
  exact (h.eq _ (by have := List.mem_range.1 hj; omega)).symm
theorem signF_cut {b b' : Nat → Int} {n n' : Nat} (h : Cut b b' n n') {k : Nat} {q c : Int} {to : Nat} (hs : signF b' n' k q = some (c, to)) : signF b n k q = some (c, to) := by
  have hl := h.le
  unfold signF at hs ⊢
  by_cases h1 : n' ≤ k ∨ b' k < 32 ∨ 126 < b' k ∨ b' k = q
  · rw [if_pos h1] at hs; cases hs
  · rw [if_neg h1] at hs
    have e0 := h.eq k (by omega)
    rw [← e0, if_neg (by omega)]
    by_cases h2 : b' k ≠ 92
    · rw [if_pos h2] at hs; rw [if_pos h2]; exact hs
    · rw [if_neg h2] at hs; rw [if_neg h2]
      by_cases h3 : n' ≤ k + 1
      · rw [if_pos h3] at hs; cases hs
      · rw [if_neg h3] at hs
        rw [if_neg (by omega), ← h.eq (k + 1) (by omega)]
        by_cases h4 : b' (k + 1) = 92 ∨ b' (k + 1) = 34 ∨ b' (k + 1) = 39
        · rw [if_pos h4] at hs; rw [if_pos h4]; exact hs
        · rw [if_neg h4] at hs; rw [if_neg h4]
          by_cases h5 : b' (k + 1) ≠ 120 ∨ n' ≤ k + 3 ∨ hexF (b' (k + 2)) < 0 ∨ hexF (b' (k + 3)) < 0
          · rw [if_pos h5] at hs; cases hs
          · rw [if_neg h5] at hs
            rw [← h.eq (k + 2) (by omega), ← h.eq (k + 3) (by omega), if_neg (by omega)]
            exact hs
theorem textS_cut {b b' : Nat → Int} {n n' : Nat} (h : Cut b b' n n') : ∀ f k acc l to, textS b' n' f k acc = some (l, to) → k ≤ n' → textF b n k acc = some (l, to)
  | 0, _, _, _, _, hs, _ => by cases hs
  | f + 1, k, acc, l, to, hs, hk => by
    have hl := h.le
    have hs' : (if k < n' ∧ b' k = 34 then some (acc, k + 1) else match signF b' n' k 34 with
      | none => none
      | some (c, to) => textS b' n' f to (acc ++ [c])) = some (l, to) := hs
    rw [textF_eq b n k acc (by omega)]
    by_cases h1 : k < n' ∧ b' k = 34
    · rw [if_pos h1] at hs'
      rw [if_pos ⟨by omega, by rw [← h.eq k h1.1]; exact h1.2⟩]; exact hs'
    · rw [if_neg h1] at hs'
      cases hg : signF b' n' k 34 with
      | none => rw [hg] at hs'; cases hs'
      | some x =>
        obtain ⟨c, t⟩ := x
        have h2 := signF_to hg
        rw [hg] at hs'
        rw [if_neg (by intro hh; exact h1 ⟨by omega, by rw [h.eq k (by omega)]; exact hh.2⟩), signF_cut h hg]
        exact textS_cut h f t (acc ++ [c]) l to hs' h2.2
theorem half_cut {b b' : Nat → Int} {n n' : Nat} (h : Cut b b' n n') {k : Nat} {c : Int} {to : Nat} (hs : half b' n' k = some (c, to)) : half b n k = some (c, to) := by
  have hl := h.le
  unfold half at hs ⊢
  cases hg : signF b' n' k 39 with
  | none => rw [hg] at hs; cases hs
  | some x =>
    obtain ⟨c', t⟩ := x
    rw [hg] at hs
    rw [signF_cut h hg]
    have hs' : (if n' ≤ t ∨ b' t ≠ 39 then none else some (c', t + 1)) = some (c, to) := hs
    show (if n ≤ t ∨ b t ≠ 39 then none else some (c', t + 1)) = some (c, to)
    by_cases h1 : n' ≤ t ∨ b' t ≠ 39
    · rw [if_pos h1] at hs'; cases hs'
    · rw [if_neg h1] at hs'
      rw [← h.eq t (by omega), if_neg (by omega)]; exact hs'
/-- A token that does not reach the cut, and behind which no dot stands; or a mark. -/
theorem tokF_cut {b b' : Nat → Int} {n n' : Nat} (h : Cut b b' n n') {k : Nat} (hk : k < n') {t : Tok} {to : Nat} (hs : tokF b' n' k = .ok (t, to)) (hw : (to < n' ∧ b' to ≠ 46) ∨ b' k = 59) : tokF b n k = .ok (t, to) := by
  have hl := h.le
  unfold tokF at hs ⊢
  rw [← h.eq k hk]
  by_cases h1 : letB (b' k) = true
  · rw [if_pos h1] at hs ⊢
    unfold nameG at hs ⊢
    have hw' : to < n' := by
      rcases hw with hw | hw
      · exact hw.1
      · rw [hw] at h1; cases h1
    by_cases h32 : 32 < nameE b' n' k - k
    · rw [if_pos h32] at hs; cases hs
    · rw [if_neg h32] at hs
      obtain ⟨_, e2⟩ := got_inj hs
      have hE := nameE_cut h (n' - k) k (by omega) (by omega)
      rw [hE, if_neg h32, cut_cut h _ _ (by omega)]
      exact hs
  · rw [if_neg h1] at hs ⊢
    by_cases h2 : b' k = 34
    · rw [if_pos h2] at hs ⊢
      unfold textG at hs ⊢
      cases hg : textF b' n' (k + 1) [] with
      | none => rw [hg] at hs; cases hs
      | some x =>
        obtain ⟨l, t'⟩ := x
        rw [hg] at hs
        rw [textS_cut h _ _ _ _ _ hg (by omega)]
        exact hs
    · rw [if_neg h2] at hs ⊢
      by_cases h3 : b' k = 39
      · rw [if_pos h3] at hs ⊢
        have hw' : to < n' ∧ b' to ≠ 46 := by
          rcases hw with hw | hw
          · exact hw
          · omega
        unfold rangeG rangeF at hs ⊢
        cases hg : half b' n' (k + 1) with
        | none => rw [hg] at hs; cases hs
        | some x =>
          obtain ⟨c, t1⟩ := x
          have ht1 := half_to hg
          rw [hg] at hs
          rw [half_cut h hg]
          by_cases h4 : dots b' n' t1
          · obtain ⟨d1, d2, d3⟩ := dots_parts h4
            have h4' : dots b n t1 := dots_mk ⟨by omega, by rw [← h.eq t1 (by omega)]; exact d2, by rw [← h.eq (t1 + 1) (by omega)]; exact d3⟩
            simp only [if_pos h4, if_pos h4', oneF_half] at hs ⊢
            by_cases h5 : n' ≤ t1 + 2 ∨ b' (t1 + 2) ≠ 39
            · rw [if_pos h5] at hs; cases hs
            · rw [if_neg h5] at hs
              rw [← h.eq (t1 + 2) (by omega), if_neg (by omega)]
              cases hg2 : half b' n' (t1 + 2 + 1) with
              | none => rw [hg2] at hs; cases hs
              | some y =>
                rw [hg2] at hs
                rw [half_cut h hg2]
                exact hs
          · simp only [if_neg h4] at hs
            obtain ⟨_, e2⟩ := got_inj hs
            have h4' : ¬ dots b n t1 := fun hd => by
              obtain ⟨d1, d2, d3⟩ := dots_parts hd
              rw [← h.eq t1 (by omega)] at d2
              subst e2
              exact hw'.2 d2
            simp only [if_neg h4']
            exact hs
      · rw [if_neg h3] at hs ⊢; exact hs
/-- Tokens of a beginning that end with a mark, or none. -/
theorem lexK_cut {b b' : Nat → Int} {n n' : Nat} (h : Cut b b' n n') (hb : ∀ j, 0 ≤ b' j ∧ b' j ≤ 255) : ∀ m k l, n' ≤ k + m → k ≤ n' → lexK b' n' k = .ok l → (∀ t, l.getLast? = some t → t.kind = 8) → ∃ q, q ≤ n ∧ lexK b n k = Res.pre l (lexK b n q) := by
  have hl := h.le
  intro m
  induction m with
  | zero =>
    intro k l hm hk hs _
    obtain rfl : k = n' := by omega
    rw [lexK_eq b' k k hk, lexA, if_pos (skp_ge _ _ _ _)] at hs
    injection hs with hs
    subst hs
    exact ⟨k, by omega, (Res.pre_nil _).symm⟩
  | succ m ih =>
    intro k l hm hk hs hlast
    rw [lexK_eq b' n' k hk, lexA] at hs
    by_cases h1 : n' ≤ skp b' n' false k
    · rw [if_pos h1] at hs
      injection hs with hs
      subst hs
      exact ⟨k, by omega, (Res.pre_nil _).symm⟩
    · rw [if_neg h1] at hs
      have hge := skp_ge b' n' false k
      have hsk := skp_cut h (n' - k) false k (by omega) (by omega)
      rcases hg : tokF b' n' (skp b' n' false k) with (_ | _) | ⟨t, to⟩
      · rw [hg] at hs; cases hs
      · rw [hg] at hs; cases hs
      · rw [hg] at hs
        have hto := tokF_to (by omega) hg
        obtain ⟨hpl, hbg⟩ := tokF_begun hb (by omega) hg
        have hs' : Res.cons t (lexK b' n' to) = .ok l := hs
        cases hg2 : lexK b' n' to with
        | error e => rw [hg2] at hs'; cases hs'
        | ok l2 =>
          rw [hg2] at hs'
          obtain rfl : t :: l2 = l := by injection hs'
          have hw : (to < n' ∧ b' to ≠ 46) ∨ b' (skp b' n' false k) = 59 := by
            cases l2 with
            | nil =>
              right
              have := hbg.h8 (hlast t (by simp))
              rw [← hpl]; exact this
            | cons u l3 =>
              left
              rw [lexK_eq b' n' to hto.2, lexA] at hg2
              by_cases h2 : n' ≤ skp b' n' false to
              · rw [if_pos h2] at hg2; cases hg2
              · have hge2 := skp_ge b' n' false to
                refine ⟨by omega, fun hd => ?_⟩
                rw [if_neg h2] at hg2
                have hst : skp b' n' false to = to := by rw [skp_false b' n' to (by omega), if_neg (by omega), if_neg (by omega)]
                rw [hst] at hg2
                have hT : tokF b' n' to = .error false := by unfold tokF; rw [hd]; rfl
                rw [hT] at hg2
                cases hg2
          have hl2 : ∀ u, l2.getLast? = some u → u.kind = 8 := fun u hu => hlast u (by rw [List.getLast?_cons, hu]; rfl)
          obtain ⟨q, hq, e⟩ := ih to l2 (by omega) hto.2 hg2 hl2
          refine ⟨q, hq, ?_⟩
          rw [lexK_eq b n k (by omega), hsk, lexA, if_neg (by omega), tokF_cut h (by omega) hg hw]
          show Res.cons t (lexK b n to) = _
          rw [e]
          cases lexK b n q <;> rfl
theorem feed_app (l m : List Tok) : ∀ p q : Pm, feed p l = .ok q → feed p (l ++ m) = feed q m := by
  induction l with
  | nil => intro p q h; injection h with h; subst h; rfl
  | cons t l ih =>
    intro p q h
    have h' : (match take p t with
      | none => Except.error t.pl
      | some r => feed r l) = .ok q := h
    show (match take p t with
      | none => Except.error t.pl
      | some r => feed r (l ++ m)) = _
    cases ht : take p t with
    | none => rw [ht] at h'; cases h'
    | some r => rw [ht] at h'; exact ih r q h'
/-- What was declared stays. -/
structure Grew (p q : Pm) : Prop where
  s : ∃ x, q.starts = p.starts ++ x
  d : ∃ x, q.defs = p.defs ++ x
theorem tItem_grew {p q : Pm} {t : Tok} (e : tItem p t = some q) : Grew p q := by
  unfold tItem at e
  split at e
  · injection e with e; subst e; exact ⟨⟨[], (List.append_nil _).symm⟩, ⟨[], (List.append_nil _).symm⟩⟩
  · cases e
theorem take_grew {p q : Pm} {t : Tok} (e : take p t = some q) : Grew p q := by
  unfold take at e
  match hs : p.st with
  | 0 =>
    rw [hs] at e
    have e' : take0 p t = some q := e
    unfold take0 at e'
    split at e'
    · injection e' with e'; subst e'; exact ⟨⟨[], (List.append_nil _).symm⟩, ⟨[], (List.append_nil _).symm⟩⟩
    · split at e'
      · injection e' with e'; subst e'; exact ⟨⟨[], (List.append_nil _).symm⟩, ⟨[], (List.append_nil _).symm⟩⟩
      · cases e'
  | 1 =>
    rw [hs] at e
    have e' : take1 p t = some q := e
    unfold take1 at e'
    split at e'
    · injection e' with e'; subst e'; exact ⟨⟨[], (List.append_nil _).symm⟩, ⟨[], (List.append_nil _).symm⟩⟩
    · cases e'
  | 2 =>
    rw [hs] at e
    have e' : take2 p t = some q := e
    unfold take2 at e'
    split at e'
    · injection e' with e'; subst e'; exact ⟨⟨_, rfl⟩, ⟨[], (List.append_nil _).symm⟩⟩
    · cases e'
  | 3 =>
    rw [hs] at e
    have e' : take3 p t = some q := e
    unfold take3 at e'
    split at e'
    · injection e' with e'; subst e'; exact ⟨⟨[], (List.append_nil _).symm⟩, ⟨[], (List.append_nil _).symm⟩⟩
    · cases e'
  | 4 =>
    rw [hs] at e
    have e' : take4 p t = some q := e
    unfold take4 at e'
    split at e'
    · injection e' with e'; subst e'; exact ⟨⟨[], (List.append_nil _).symm⟩, ⟨[], (List.append_nil _).symm⟩⟩
    · exact tItem_grew e'
  | 5 => rw [hs] at e; exact tItem_grew e
  | m + 6 =>
    rw [hs] at e
    have e' : take6 p t = some q := e
    unfold take6 at e'
    split at e'
    · injection e' with e'; subst e'; exact ⟨⟨[], (List.append_nil _).symm⟩, ⟨[], (List.append_nil _).symm⟩⟩
    · split at e'
      · injection e' with e'; subst e'; exact ⟨⟨[], (List.append_nil _).symm⟩, ⟨[], (List.append_nil _).symm⟩⟩
      · split at e'
        · injection e' with e'; subst e'; exact ⟨⟨[], (List.append_nil _).symm⟩, ⟨_, rfl⟩⟩
        · exact tItem_grew e'
theorem feed_grew (l : List Tok) : ∀ p q : Pm, feed p l = .ok q → Grew p q := by
  induction l with
  | nil => intro p q h; injection h with h; subst h; exact ⟨⟨[], (List.append_nil _).symm⟩, ⟨[], (List.append_nil _).symm⟩⟩
  | cons t l ih =>
    intro p q h
    have h' : (match take p t with
      | none => Except.error t.pl
      | some r => feed r l) = .ok q := h
    cases ht : take p t with
    | none => rw [ht] at h'; cases h'
    | some r =>
      rw [ht] at h'
      obtain ⟨⟨x1, e1⟩, ⟨y1, f1⟩⟩ := take_grew ht
      obtain ⟨⟨x2, e2⟩, ⟨y2, f2⟩⟩ := ih r q h'
      exact ⟨⟨x1 ++ x2, by rw [e2, e1, List.append_assoc]⟩, ⟨y1 ++ y2, by rw [f2, f1, List.append_assoc]⟩⟩
/-- The token that ends a declaration is TokSemi. -/
theorem take_zero {p q : Pm} {t : Tok} (e : take p t = some q) (h0 : q.st = 0) : t.kind = 8 := by
  unfold take at e
  have hit : ∀ {q : Pm}, tItem p t = some q → q.st = 0 → t.kind = 8 := fun {q} e h0 => by
    unfold tItem at e
    split at e
    · injection e with e; subst e; simp at h0
    · cases e
  match hs : p.st with
  | 0 =>
    rw [hs] at e
    have e' : take0 p t = some q := e
    unfold take0 at e'
    split at e'
    · injection e' with e'; subst e'; simp [Pm.to] at h0
    · split at e'
      · injection e' with e'; subst e'; simp at h0
      · cases e'
  | 1 =>
    rw [hs] at e
    have e' : take1 p t = some q := e
    unfold take1 at e'
    split at e'
    · injection e' with e'; subst e'; simp at h0
    · cases e'
  | 2 =>
    rw [hs] at e
    have e' : take2 p t = some q := e
    unfold take2 at e'
    split at e'
    · assumption
    · cases e'
  | 3 =>
    rw [hs] at e
    have e' : take3 p t = some q := e
    unfold take3 at e'
    split at e'
    · injection e' with e'; subst e'; simp [Pm.to] at h0
    · cases e'
  | 4 =>
    rw [hs] at e
    have e' : take4 p t = some q := e
    unfold take4 at e'
    split at e'
    · injection e' with e'; subst e'; simp at h0
    · exact hit e' h0
  | 5 => rw [hs] at e; exact hit e h0
  | m + 6 =>
    rw [hs] at e
    have e' : take6 p t = some q := e
    unfold take6 at e'
    split at e'
    · injection e' with e'; subst e'; simp [Pm.to] at h0
    · split at e'
      · injection e' with e'; subst e'; simp [Pm.to] at h0
      · split at e'
        · assumption
        · exact hit e' h0
theorem feed_last (l : List Tok) : ∀ p q : Pm, feed p l = .ok q → q.st = 0 → ∀ t, l.getLast? = some t → t.kind = 8 := by
  induction l with
  | nil => intro p q _ _ t h; simp at h
  | cons a l ih =>
    intro p q h h0 t ht
    have h' : (match take p a with
      | none => Except.error a.pl
      | some r => feed r l) = .ok q := h
    cases hk : take p a with
    | none => rw [hk] at h'; cases h'
    | some r =>
      rw [hk] at h'
      cases l with
      | nil =>
        injection h' with h'
        subst h'
        obtain rfl : a = t := by simpa using ht
        exact take_zero hk h0
      | cons c l => exact ih r q h' h0 t (by rw [List.getLast?_cons_cons] at ht; exact ht)
end Go.Proofs.Ytopnhbgialbicaa
/- Parts of a row that may be: known names, ends that are not crossed. No program in sight. -/
namespace Go.Proofs.Ytopnhbgialbicaa
set_option linter.unusedVariables false

theorem getD_mem {α : Type} {l : List α} {i : Nat} (d : α) (h : i < l.length) : l.getD i d ∈ l := by
  rw [List.getD, List.getElem?_eq_getElem h]; exact List.getElem_mem h
/-- A part that is good: a known name, ends that are not crossed. -/
def GoodP (names : List ByteArray) (p : Part) : Prop := (∀ s, p = .inr (.inr s) → s ∈ names) ∧ ∀ a c, p = .inr (.inl (a, c)) → a.toNat ≤ c.toNat
theorem good_add (names : List ByteArray) (c : UInt8) : ∀ ps : List Part, (∀ p, p ∈ ps → GoodP names p) → ∀ p, p ∈ addT ps c → GoodP names p
  | [], _, p, hp => by
    obtain rfl : p = .inl [c] := by simpa [addT] using hp
    exact ⟨fun s e => (by cases e), fun a c e => (by cases e)⟩
  | [.inl l], _, p, hp => by
    obtain rfl : p = .inl (l ++ [c]) := by simpa [addT] using hp
    exact ⟨fun s e => (by cases e), fun a c e => (by cases e)⟩
  | [.inr x], h, p, hp => by
    have hp' : p = .inr x ∨ p = .inl [c] := by simpa [addT] using hp
    rcases hp' with rfl | rfl
    · exact h _ (by simp)
    · exact ⟨fun s e => (by cases e), fun a c e => (by cases e)⟩
  | q :: r :: ps, h, p, hp => by
    have hp' : p ∈ q :: addT (r :: ps) c := by simpa only [addT] using hp
    rcases List.mem_cons.1 hp' with e | e
    · subst e; exact h _ List.mem_cons_self
    · exact good_add names c (r :: ps) (fun x hx => h x (List.mem_cons_of_mem _ hx)) p e
theorem good_sym {names : List ByteArray} {s : Sy} (hs : maySym names.length s = true) (ps : List Part) (h : ∀ p, p ∈ ps → GoodP names p) : ∀ p, p ∈ symP names ps s → GoodP names p := by
  obtain ⟨nm, lo, hi⟩ := s
  intro p hp
  unfold maySym at hs
  unfold symP at hp
  simp only at hs hp
  by_cases e : nm = -1
  · rw [if_pos e] at hs
    simp only [Bool.and_eq_true, decide_eq_true_eq] at hs
    rw [if_neg (by simpa using e)] at hp
    by_cases e2 : lo = hi
    · rw [if_neg (by simpa using e2)] at hp
      exact good_add names _ ps h p hp
    · rw [if_pos e2] at hp
      rcases List.mem_append.1 hp with e3 | e3
      · exact h p e3
      · obtain rfl : p = .inr (.inl (byteOf lo, byteOf hi)) := by simpa using e3
        refine ⟨fun s e => (by cases e), fun a c e => ?_⟩
        injection e with e; injection e with e; injection e with e4 e5
        subst e4 e5
        have h1 := byteOf_nat (n := lo) (by omega) (by omega)
        have h2 := byteOf_nat (n := hi) (by omega) (by omega)
        omega
  · rw [if_neg e] at hs
    simp only [isNum, Bool.and_eq_true, decide_eq_true_eq] at hs
    rw [if_pos e] at hp
    rcases List.mem_append.1 hp with e3 | e3
    · exact h p e3
    · obtain rfl : p = .inr (.inr (names.getD nm.toNat ⟨#[]⟩)) := by simpa using e3
      refine ⟨fun s e => ?_, fun a c e => (by cases e)⟩
      injection e with e; injection e with e
      subst e
      exact getD_mem _ (by omega)
theorem good_fold {names : List ByteArray} : ∀ (l : List Sy) (ps : List Part), (∀ s, s ∈ l → maySym names.length s = true) → (∀ p, p ∈ ps → GoodP names p) → ∀ p, p ∈ l.foldl (symP names) ps → GoodP names p
  | [], ps, _, h => h
  | s :: l, ps, hs, h => good_fold l _ (fun x hx => hs x (List.mem_cons_of_mem _ hx)) (good_sym (hs s List.mem_cons_self) ps h)
theorem good_parts {names : List ByteArray} {l : List Sy} (h : mayRow names.length l = true) : ∀ p, p ∈ partsT names l → GoodP names p := by
  simp only [mayRow, Bool.and_eq_true, decide_eq_true_eq, List.all_eq_true] at h
  unfold partsT
  match l, h with
  | [], _ =>
    intro p hp
    obtain rfl : p = .inl [] := by simpa using hp
    exact ⟨fun s e => (by cases e), fun a c e => (by cases e)⟩
  | s :: l, h => exact good_fold (s :: l) [] h.2 (fun p hp => by simp at hp)
def symsR (r : Ru) : Nat := (r.conj.map fun c => c.seq.length).sum
theorem mayCs_spec (K : Nat) : ∀ (l : List Cn) (n m : Nat), mayCs K n l = some m → m = n + (l.map fun c => c.seq.length).sum ∧ (n ≤ 1024 → m ≤ 1024) ∧ ∀ c, c ∈ l → mayRow K c.seq = true
  | [], n, m, h => by
    have h' : some n = some m := h
    injection h' with h'; subst h'
    exact ⟨by simp, fun h => h, fun c hc => by simp at hc⟩
  | c :: l, n, m, h => by
    unfold mayCs at h
    by_cases e : n + c.seq.length ≤ 1024 ∧ mayRow K c.seq = true
    · rw [if_pos e] at h
      obtain ⟨h1, h2, h3⟩ := mayCs_spec K l _ m h
      refine ⟨by rw [h1, List.map_cons, List.sum_cons]; omega, fun _ => h2 e.1, fun d hd => ?_⟩
      rcases List.mem_cons.1 hd with e' | e'
      · subst e'; exact e.2
      · exact h3 d e'
    · rw [if_neg e] at h; cases h
theorem mayRs_spec (K : Nat) : ∀ (l : List Ru) (n : Nat), mayRs K n l = true → n ≤ 1024 → n + (l.map symsR).sum ≤ 1024 ∧ ∀ r, r ∈ l → 1 ≤ r.conj.length ∧ r.conj.length ≤ 8 ∧ ∀ c, c ∈ r.conj → mayRow K c.seq = true
  | [], n, _, h => ⟨by simpa using h, fun r hr => by simp at hr⟩
  | x :: l, n, h, hn => by
    unfold mayRs at h
    by_cases e : 1 ≤ x.conj.length ∧ x.conj.length ≤ 8
    · rw [if_pos e] at h
      cases hc : mayCs K n x.conj with
      | none => rw [hc] at h; cases h
      | some m =>
        rw [hc] at h
        obtain ⟨h1, h2, h3⟩ := mayCs_spec K x.conj n m hc
        obtain ⟨h4, h5⟩ := mayRs_spec K l m h (h2 hn)
        refine ⟨by rw [List.map_cons, List.sum_cons]; unfold symsR at h4 ⊢; omega, fun r hr => ?_⟩
        rcases List.mem_cons.1 hr with e' | e'
        · subst e'; exact ⟨e.1, e.2, h3⟩
        · exact h5 r e'
    · rw [if_neg e] at h; cases h
/-- What the program's Show leans on. -/
structure Showable (g : Gr) : Prop where
  nm : ∀ s, s ∈ g.names → s.size ≤ 1000
  n2 : g.names.length ≤ 64
  st : 0 ≤ g.start ∧ g.start < (g.names.length : Int)
  r2 : g.rules.length ≤ 256
  ru : ∀ r, r ∈ g.rules → r.conj.length ≤ 1048576 ∧ ∀ c, c ∈ r.conj → mayRow g.names.length c.seq = true
theorem showable {g : Gr} (h : mayG g = true) : Showable g := by
  simp only [mayG, mayNames, mayRules, isNum, Bool.and_eq_true, decide_eq_true_eq, List.all_eq_true] at h
  obtain ⟨⟨h1, h2, h3, h4⟩, ⟨h5, h6⟩, h7, h8, h9, h10⟩ := h
  obtain ⟨h11, h12⟩ := mayRs_spec _ _ _ h10 (by omega)
  refine ⟨fun s hs => ?_, h2, ⟨h5, h6⟩, h9, fun r hr => ⟨by have := (h12 r hr).2.1; omega, (h12 r hr).2.2⟩⟩
  have := h3 s hs
  simp only [isNameT, Bool.and_eq_true, decide_eq_true_eq] at this
  omega
end Go.Proofs.Ytopnhbgialbicaa
/- Names by their bytes; pieces of a text and what they are told as, whatever stands behind. No program in sight. -/
namespace Go.Proofs.Ytopnhbgialbicaa
set_option linter.unusedVariables false

/-- A name, by its bytes. -/
def nameMayT (s : ByteArray) : Bool := decide (1 ≤ s.size) && (decide (s.size ≤ 32) && (!(s.toList == startB.toList) && (letB (PlainAid.bt s 0) && (List.range s.size).all fun j => nmB (PlainAid.bt s j))))
theorem nameE_all (b : Nat → Int) (n : Nat) : ∀ m k, n = k + m → (∀ j, k ≤ j → j < n → nmB (b j) = true) → nameE b n k = n
  | 0, k, e, _ => by rw [nameE_end b n k (by omega)]; omega
  | m + 1, k, e, h => by
    rw [nameE_in b n k (by omega) (h k (Nat.le_refl _) (by omega))]
    exact nameE_all b n m (k + 1) (by omega) (fun j h1 h2 => h j (by omega) h2)
theorem nameE_nm (b : Nat → Int) (n : Nat) : ∀ m k, n = k + m → nameE b n k = n → ∀ j, k ≤ j → j < n → nmB (b j) = true
  | 0, k, e, _, j, h1, h2 => by omega
  | m + 1, k, e, h, j, h1, h2 => by
    by_cases hk : (letB (b k) || digB (b k)) = true
    · by_cases ej : j = k
      · subst ej; exact hk
      · rw [nameE_in b n k (by omega) hk] at h
        exact nameE_nm b n m (k + 1) (by omega) h j (by omega) h2
    · rw [nameE_out b n k (by omega) (by simpa using hk)] at h
      omega
theorem strOf_all (s : ByteArray) : strOf (cut (PlainAid.bt s) 0 s.size) = s := by
  have := strOf_whole s ⟨#[]⟩
  rwa [show s ++ (⟨#[]⟩ : ByteArray) = s from ByteArray.append_empty] at this
theorem strOf_size (l : List Int) : (strOf l).size = l.length := by simp [strOf, ByteArray.size]
theorem nameMay_parts {s : ByteArray} (h : nameMayT s = true) : 1 ≤ s.size ∧ s.size ≤ 32 ∧ isStart (cut (PlainAid.bt s) 0 s.size) = false ∧ letB (PlainAid.bt s 0) = true ∧ ∀ j, j < s.size → nmB (PlainAid.bt s j) = true := by
  simp only [nameMayT, Bool.and_eq_true, decide_eq_true_eq, Bool.not_eq_true', List.all_eq_true, List.mem_range] at h
  obtain ⟨h1, h2, h3, h4, h5⟩ := h
  exact ⟨h1, h2, by unfold isStart; rw [strOf_all]; exact h3, h4, h5⟩
theorem lexT_name {s : ByteArray} (h : nameMayT s = true) : lexT s = .ok [⟨0, 0, s, 0, 0⟩] := by
  obtain ⟨h1, h2, h3, h4, h5⟩ := nameMay_parts h
  have hs := strOf_all s
  rw [lexT, lexB, if_neg (by omega)]
  generalize PlainAid.bt s = b at *
  obtain ⟨n1, n2⟩ := nmB_let h4
  have hE : nameE b s.size 0 = s.size := nameE_all b s.size s.size 0 (by omega) (fun j _ hj => h5 j hj)
  rw [lexK_eq b _ 0 (Nat.zero_le _), skp_stay (by omega) n1 n2, lexA, if_neg (by omega)]
  have hT : tokF b s.size 0 = .ok (⟨0, 0, s, 0, 0⟩, s.size) := by
    unfold tokF
    rw [if_pos h4, nameG, hE, if_neg (by omega)]
    unfold nameT
    rw [if_neg (by rw [h3]; simp), hs]
  rw [hT]
  show Res.cons _ (lexK b s.size s.size) = _
  rw [lexK_eq b _ _ (Nat.le_refl _), skp_end _ _ _ _ (Nat.le_refl _), lexA, if_pos (Nat.le_refl _)]
  rfl
theorem Res.cons_one {t t' : Tok} {r : Res} (h : Res.cons t r = .ok [t']) : t = t' := by
  cases r with
  | error e => cases h
  | ok l => injection h with h; injection h
theorem nameMay_of {s : ByteArray} {t : Tok} (h : lexT s = .ok [t]) (hz : s.size ≤ 32) (hk : t.kind = 0) (ht : t.text = s) : nameMayT s = true := by
  have hs := strOf_all s
  rw [lexT, lexB, if_neg (by omega), lexK_eq _ _ 0 (Nat.zero_le _)] at h
  have ha := skp_le (PlainAid.bt s) s.size false 0 (Nat.zero_le _)
  generalize hq : skp (PlainAid.bt s) s.size false 0 = a at h ha
  unfold lexA at h
  by_cases hn : s.size ≤ a
  · rw [if_pos hn] at h; injection h with h; cases h
  · rw [if_neg hn] at h
    have key : ∃ to, tokF (PlainAid.bt s) s.size a = .ok (t, to) := by
      rcases hg : tokF (PlainAid.bt s) s.size a with (_ | _) | ⟨t', to⟩
      · rw [hg] at h; cases h
      · rw [hg] at h; cases h
      · rw [hg] at h
        exact ⟨to, by rw [Res.cons_one (t := t') h]⟩
    obtain ⟨to, hT⟩ := key
    unfold tokF at hT
    by_cases hl : letB (PlainAid.bt s a) = true
    · rw [if_pos hl] at hT
      unfold nameG at hT
      by_cases h32 : 32 < nameE (PlainAid.bt s) s.size a - a
      · rw [if_pos h32] at hT; cases hT
      · rw [if_neg h32] at hT
        obtain ⟨e1, e2⟩ := got_inj hT
        unfold nameT at e1
        cases hS : isStart (cut (PlainAid.bt s) a (nameE (PlainAid.bt s) s.size a)) with
        | true =>
          rw [hS, if_pos rfl] at e1
          rw [← e1] at hk; cases hk
        | false =>
          rw [hS, if_neg (by decide)] at e1
          have hx : strOf (cut (PlainAid.bt s) a (nameE (PlainAid.bt s) s.size a)) = s := (congrArg Tok.text e1).trans ht
          have hy := congrArg ByteArray.size hx
          rw [strOf_size, cut_len] at hy
          have hle := nameE_le (PlainAid.bt s) s.size a (by omega)
          obtain rfl : a = 0 := by omega
          have hE : nameE (PlainAid.bt s) s.size 0 = s.size := by omega
          rw [hE] at hS
          unfold isStart at hS
          rw [strOf_all] at hS
          simp only [nameMayT, Bool.and_eq_true, decide_eq_true_eq, Bool.not_eq_true', List.all_eq_true, List.mem_range]
          exact ⟨by omega, hz, hS, hl, fun j hj => nameE_nm _ _ s.size 0 (by omega) hE j (Nat.zero_le _) hj⟩
    · rw [if_neg hl] at hT
      exfalso
      by_cases h34 : PlainAid.bt s a = 34
      · rw [if_pos h34] at hT
        unfold textG at hT
        split at hT
        · cases hT
        · obtain ⟨e1, e2⟩ := got_inj hT
          rw [← e1] at hk; cases hk
      · rw [if_neg h34] at hT
        by_cases h39 : PlainAid.bt s a = 39
        · rw [if_pos h39] at hT
          unfold rangeG at hT
          split at hT
          · cases hT
          · obtain ⟨e1, e2⟩ := got_inj hT
            rw [← e1] at hk; cases hk
        · rw [if_neg h39] at hT
          by_cases hm : 0 < markF (PlainAid.bt s a)
          · rw [if_pos hm] at hT
            obtain ⟨e1, e2⟩ := got_inj hT
            rw [← e1] at hk
            have hk' : (markF (PlainAid.bt s a)).toNat = 0 := hk
            omega
          · rw [if_neg hm] at hT; cases hT
theorem isName_eq (s : ByteArray) : isNameT s = nameMayT s := by
  rw [Bool.eq_iff_iff]
  constructor
  · intro h
    simp only [isNameT, Bool.and_eq_true, decide_eq_true_eq] at h
    obtain ⟨h1, h2⟩ := h
    cases hl : lexT s with
    | error e => rw [hl] at h2; cases h2
    | ok l =>
      rw [hl] at h2
      match l, h2, hl with
      | [], h2, _ => cases h2
      | _ :: _ :: _, h2, _ => cases h2
      | [t], h2, hl =>
        have h3 : (decide (t.kind = 0) && decide (t.text = s)) = true := h2
        simp only [Bool.and_eq_true, decide_eq_true_eq] at h3
        exact nameMay_of hl h1 h3.1 h3.2
  · intro h
    have h2 := (nameMay_parts h).2.1
    rw [isNameT, lexT_name h]
    simp [h2, nameL]

/-- x begins with a byte that no name has. -/
def Delim (x : ByteArray) : Prop := 0 < x.size ∧ nmB (PlainAid.bt x 0) = false
/-- s has the tokens l, and what stands behind it has its own, if it begins with a byte that no name has. -/
def ToldD (s : ByteArray) (l : List Tok) : Prop := ∀ x : ByteArray, s.size + x.size ≤ 65536 → Delim x → lexT (s ++ x) = Res.pre l (Res.sh s.size (lexT x))
theorem Told.d {s : ByteArray} {l : List Tok} (h : Told s l) : ToldD s l := fun x hx _ => h x hx
theorem Delim.app {p x : ByteArray} (h : Delim p) : Delim (p ++ x) := ⟨by rw [ByteArray.size_append]; have := h.1; omega, by rw [bt_left _ _ _ h.1]; exact h.2⟩
theorem ToldD.tell {s p : ByteArray} {l m : List Tok} (hs : ToldD s l) (hp : Told p m) (hd : Delim p) : Told (s ++ p) (l ++ m.map (Tok.sh s.size)) := fun x hx => by
  rw [ByteArray.size_append] at hx
  rw [ByteArray.append_assoc, hs (p ++ x) (by rw [ByteArray.size_append]; omega) hd.app, hp x (by omega), Res.sh_pre, Res.pre_pre, Res.sh_sh, ByteArray.size_append, Nat.add_comm p.size]
theorem ToldD.app {s p : ByteArray} {l m : List Tok} (hs : ToldD s l) (hp : ToldD p m) (hd : Delim p) : ToldD (s ++ p) (l ++ m.map (Tok.sh s.size)) := fun x hx hdx => by
  rw [ByteArray.size_append] at hx
  rw [ByteArray.append_assoc, hs (p ++ x) (by rw [ByteArray.size_append]; omega) hd.app, hp x (by omega) hdx, Res.sh_pre, Res.pre_pre, Res.sh_sh, ByteArray.size_append, Nat.add_comm p.size]
theorem Told.appD {s p : ByteArray} {l m : List Tok} (hs : Told s l) (hp : ToldD p m) : ToldD (s ++ p) (l ++ m.map (Tok.sh s.size)) := fun x hx hdx => by
  rw [ByteArray.size_append] at hx
  rw [ByteArray.append_assoc, hs (p ++ x) (by rw [ByteArray.size_append]; omega), hp x (by omega) hdx, Res.sh_pre, Res.pre_pre, Res.sh_sh, ByteArray.size_append, Nat.add_comm p.size]
theorem toldD_name {s : ByteArray} (h : nameMayT s = true) : ToldD s [⟨0, 0, s, 0, 0⟩] := fun x hx hd => by
  obtain ⟨h1, h2, h3, h4, h5⟩ := nameMay_parts h
  have hz : (s ++ x).size = x.size + s.size := by rw [ByteArray.size_append]; omega
  have E1 : lexT (s ++ x) = lexK (PlainAid.bt (s ++ x)) (x.size + s.size) 0 := by rw [lexT, lexB, if_neg (by omega), hz]
  have E2 : lexT x = lexK (PlainAid.bt x) x.size 0 := by rw [lexT, lexB, if_neg (by omega)]
  have hb : ∀ j, j < s.size → PlainAid.bt (s ++ x) j = PlainAid.bt s j := fun j hj => bt_left _ _ _ hj
  have hs := lexK_sh (b := PlainAid.bt x) (b' := PlainAid.bt (s ++ x)) (d := s.size) (fun j => bt_right s x j) x.size 0
  rw [Nat.zero_add] at hs
  have he : nmB (PlainAid.bt (s ++ x) s.size) = false := by
    have := bt_right s x 0
    rw [Nat.zero_add] at this
    rw [this]; exact hd.2
  have hw : strOf (cut (PlainAid.bt (s ++ x)) 0 s.size) = s := strOf_whole s x
  have hl0 : letB (PlainAid.bt (s ++ x) 0) = true := by rw [hb 0 (by omega)]; exact h4
  have hcut : cut (PlainAid.bt (s ++ x)) 0 s.size = cut (PlainAid.bt s) 0 s.size := by
    unfold cut
    apply List.map_congr_left
    intro j hj
    rw [List.mem_range] at hj
    exact hb _ (by omega)
  have h3' : isStart (cut (PlainAid.bt (s ++ x)) 0 s.size) = false := by rw [hcut]; exact h3
  have hall : ∀ j, j < s.size → nmB (PlainAid.bt (s ++ x) j) = true := fun j hj => by rw [hb j hj]; exact h5 j hj
  have hxp := hd.1
  rw [E1, E2]
  generalize PlainAid.bt (s ++ x) = b at *
  obtain ⟨n1, n2⟩ := nmB_let hl0
  have hE : nameE b (x.size + s.size) 0 = s.size := nameE_run b _ s.size (by omega) he s.size 0 (by omega) (fun j _ hj => hall j hj)
  rw [lexK_eq b _ 0 (Nat.zero_le _), skp_stay (by omega) n1 n2, lexA, if_neg (by omega)]
  have hT : tokF b (x.size + s.size) 0 = .ok (⟨0, 0, s, 0, 0⟩, s.size) := by
    unfold tokF
    rw [if_pos hl0, nameG, hE, if_neg (by omega)]
    unfold nameT
    rw [if_neg (by rw [h3']; simp), hw]
  rw [hT]
  show Res.cons _ (lexK b _ s.size) = _
  rw [hs]
  cases lexK (PlainAid.bt x) x.size 0 <;> rfl
end Go.Proofs.Ytopnhbgialbicaa
/- A grammar's text piece by piece: what each piece is told as. No program in sight. -/
namespace Go.Proofs.Ytopnhbgialbicaa
set_option linter.unusedVariables false

def ba (l : List UInt8) : ByteArray := ⟨l.toArray⟩
theorem ba_size (l : List UInt8) : (ba l).size = l.length := by simp [ba, ByteArray.size]
theorem ba_app (l m : List UInt8) : ba (l ++ m) = ba l ++ ba m := by
  apply ByteArray.ext
  simp [ba, ByteArray.data_append]
theorem ba_of (s : ByteArray) : ba s.data.toList = s := by
  cases s with | mk a => simp [ba]
theorem ba_bt (l : List UInt8) (k : Nat) : PlainAid.bt (ba l) k = ((l[k]?).map fun c => (c.toNat : Int)).getD 0 := by
  unfold PlainAid.bt
  by_cases h : k < l.length
  · rw [dif_pos (by rw [ba_size]; exact h), List.getElem?_eq_getElem h]; rfl
  · rw [dif_neg (by rw [ba_size]; exact h), List.getElem?_eq_none (by omega)]; rfl
theorem ba_bt_left (l m : List UInt8) (k : Nat) (h : k < l.length) : PlainAid.bt (ba (l ++ m)) k = PlainAid.bt (ba l) k := by
  rw [ba_bt, ba_bt, List.getElem?_append_left h]
theorem ba_bt_right (l m : List UInt8) (k : Nat) : PlainAid.bt (ba (l ++ m)) (l.length + k) = PlainAid.bt (ba m) k := by
  rw [ba_bt, ba_bt, List.getElem?_append_right (by omega), show l.length + k - l.length = k by omega]
/-- A token without its place. -/
def Tok.st (t : Tok) : It := ⟨(t.kind : Int), t.text, t.lo, t.hi⟩
theorem st_sh (d : Nat) (l : List Tok) : (l.map (Tok.sh d)).map Tok.st = l.map Tok.st := by
  rw [List.map_map]; rfl
def Tells (l : List UInt8) (ts : List It) : Prop := ∃ toks, Told (ba l) toks ∧ toks.map Tok.st = ts
def TellsD (l : List UInt8) (ts : List It) : Prop := ∃ toks, ToldD (ba l) toks ∧ toks.map Tok.st = ts
/-- l begins with a byte that no name has. -/
def Cutting (l : List UInt8) : Prop := ∃ c m, l = c :: m ∧ nmB (c.toNat : Int) = false
theorem Cutting.delim {l : List UInt8} (h : Cutting l) : Delim (ba l) := by
  obtain ⟨c, m, rfl, hc⟩ := h
  exact ⟨by rw [ba_size]; simp, by rw [ba_bt]; exact hc⟩
theorem Cutting.app {l m : List UInt8} (h : Cutting l) : Cutting (l ++ m) := by
  obtain ⟨c, r, rfl, hc⟩ := h
  exact ⟨c, r ++ m, rfl, hc⟩
section
variable {l m : List UInt8} {ts us : List It}
theorem Tells.d (h : Tells l ts) : TellsD l ts := by
  obtain ⟨toks, h1, h2⟩ := h
  exact ⟨toks, h1.d, h2⟩
theorem Tells.app (h : Tells l ts) (k : Tells m us) : Tells (l ++ m) (ts ++ us) := by
  obtain ⟨a, h1, h2⟩ := h
  obtain ⟨b, k1, k2⟩ := k
  refine ⟨_, by rw [ba_app]; exact h1.app k1, ?_⟩
  rw [List.map_append, st_sh, h2, k2]
theorem Tells.appD (h : Tells l ts) (k : TellsD m us) : TellsD (l ++ m) (ts ++ us) := by
  obtain ⟨a, h1, h2⟩ := h
  obtain ⟨b, k1, k2⟩ := k
  refine ⟨_, by rw [ba_app]; exact h1.appD k1, ?_⟩
  rw [List.map_append, st_sh, h2, k2]
theorem TellsD.app (h : TellsD l ts) (k : TellsD m us) (hm : Cutting m) : TellsD (l ++ m) (ts ++ us) := by
  obtain ⟨a, h1, h2⟩ := h
  obtain ⟨b, k1, k2⟩ := k
  refine ⟨_, by rw [ba_app]; exact h1.app k1 hm.delim, ?_⟩
  rw [List.map_append, st_sh, h2, k2]
theorem TellsD.tells (h : TellsD l ts) (k : Tells m us) (hm : Cutting m) : Tells (l ++ m) (ts ++ us) := by
  obtain ⟨a, h1, h2⟩ := h
  obtain ⟨b, k1, k2⟩ := k
  refine ⟨_, by rw [ba_app]; exact h1.tell k1 hm.delim, ?_⟩
  rw [List.map_append, st_sh, h2, k2]
end
theorem tells_nil : Tells [] [] := ⟨[], Told.nil, rfl⟩
theorem tells_blank : Tells [32] [] := by
  refine ⟨[], ?_, rfl⟩
  have := Told.join (s := ⟨#[]⟩) 32 (Or.inr (Or.inr (Or.inr rfl))) (Or.inr (fun j hj => absurd hj (Nat.not_lt_zero _))) lexT_none
  rwa [show (⟨#[]⟩ : ByteArray) ++ ⟨#[32]⟩ = ba [32] from ByteArray.empty_append] at this
theorem tells_line : Tells [10] [] := by
  refine ⟨[], ?_, rfl⟩
  have := Told.join (s := ⟨#[]⟩) 10 (Or.inr (Or.inl rfl)) (Or.inl rfl) lexT_none
  rwa [show (⟨#[]⟩ : ByteArray) ++ ⟨#[10]⟩ = ba [10] from ByteArray.empty_append] at this
theorem tells_mark (c : UInt8) (k : Nat) (h1 : (c.toNat : Int) ≠ 35) (h2 : ¬ ((c.toNat : Int) = 9 ∨ (c.toNat : Int) = 10 ∨ (c.toNat : Int) = 13 ∨ (c.toNat : Int) = 32)) (h : ∀ (b : Nat → Int) (n : Nat), b 0 = (c.toNat : Int) → tokF b n 0 = .ok (⟨k, 0, ⟨#[]⟩, 0, 0⟩, 1)) : Tells [c] [⟨(k : Int), ⟨#[]⟩, 0, 0⟩] :=
  ⟨_, told_tok (ba [c]) ⟨k, 0, ⟨#[]⟩, 0, 0⟩ (by rw [ba_size]; exact Nat.zero_lt_one) (by rw [ba_bt]; exact h1) (by rw [ba_bt]; exact h2) (fun b n hb hn => h b n ((hb 0 (by rw [ba_size]; exact Nat.zero_lt_one)).trans (by rw [ba_bt]; rfl))), rfl⟩
theorem tells_is : Tells [61] [⟨4, ⟨#[]⟩, 0, 0⟩] := tells_mark 61 4 (by decide) (by decide) (fun b n h => by unfold tokF; rw [h]; rfl)
theorem tells_bar : Tells [124] [⟨5, ⟨#[]⟩, 0, 0⟩] := tells_mark 124 5 (by decide) (by decide) (fun b n h => by unfold tokF; rw [h]; rfl)
theorem tells_and : Tells [38] [⟨6, ⟨#[]⟩, 0, 0⟩] := tells_mark 38 6 (by decide) (by decide) (fun b n h => by unfold tokF; rw [h]; rfl)
theorem tells_not : Tells [126] [⟨7, ⟨#[]⟩, 0, 0⟩] := tells_mark 126 7 (by decide) (by decide) (fun b n h => by unfold tokF; rw [h]; rfl)
theorem tells_semi : Tells [59] [⟨8, ⟨#[]⟩, 0, 0⟩] := tells_mark 59 8 (by decide) (by decide) (fun b n h => by unfold tokF; rw [h]; rfl)
theorem tells_start : Tells [115, 116, 97, 114, 116, 32] [⟨3, ⟨#[]⟩, 0, 0⟩] := by
  have h : lexT ⟨#[115, 116, 97, 114, 116]⟩ = .ok [⟨3, 0, ⟨#[]⟩, 0, 0⟩] := by kernel_rfl
  have h2 := Told.join 32 (Or.inr (Or.inr (Or.inr rfl))) (Or.inr (by decide)) h
  exact ⟨_, h2, rfl⟩
theorem tellsD_name {s : ByteArray} (h : nameMayT s = true) : TellsD s.data.toList [⟨0, s, 0, 0⟩] := ⟨_, by rw [ba_of]; exact toldD_name h, rfl⟩

/-- A byte as it is written within quotes is read again. -/
theorem sign_esc (q c : UInt8) (hq : q = 34 ∨ q = 39) (b : Nat → Int) (n k : Nat) (hb : ∀ j, j < (escT q c).length → b (k + j) = PlainAid.bt (ba (escT q c)) j) (hn : k + (escT q c).length ≤ n) :
    signF b n k (q.toNat : Int) = some ((c.toNat : Int), k + (escT q c).length) := by
  have hc := c.toNat_lt
  have hq34 : (q.toNat : Int) = 34 ∨ (q.toNat : Int) = 39 := by rcases hq with e | e <;> subst e <;> simp
  unfold escT at hb hn ⊢
  by_cases h1 : c.toNat < 32 ∨ 126 < c.toNat
  · rw [if_pos h1] at hb hn ⊢
    have e0 : b k = 92 := by have := hb 0 (by simp); rw [ba_bt] at this; simpa using this
    have e1 : b (k + 1) = 120 := by have := hb 1 (by simp); rw [ba_bt] at this; simpa using this
    have e2 : b (k + 2) = ((hexT (c.toNat / 16)).toNat : Int) := by have := hb 2 (by simp); rw [ba_bt] at this; simpa using this
    have e3 : b (k + 3) = ((hexT (c.toNat % 16)).toNat : Int) := by have := hb 3 (by simp); rw [ba_bt] at this; simpa using this
    have hx : ∀ m : Fin 16, hexF ((hexT m.val).toNat : Int) = (m.val : Int) := by decide
    have x2 := hx ⟨c.toNat / 16, by omega⟩
    have x3 := hx ⟨c.toNat % 16, by omega⟩
    simp only at x2 x3
    simp only [List.length_cons, List.length_nil] at hn
    unfold signF
    rw [e0, e1, e2, e3, x2, x3]
    rw [if_neg (by omega), if_neg (by simp), if_neg (by omega), if_neg (by omega), if_neg (by omega)]
    simp only [Option.some.injEq, Prod.mk.injEq]
    exact ⟨by omega, by simp⟩
  · rw [if_neg h1] at hb hn ⊢
    by_cases h2 : c = q ∨ c = 92
    · rw [if_pos h2] at hb hn ⊢
      have e0 : b k = 92 := by have := hb 0 (by simp); rw [ba_bt] at this; simpa using this
      have e1 : b (k + 1) = (c.toNat : Int) := by have := hb 1 (by simp); rw [ba_bt] at this; simpa using this
      have hc3 : (c.toNat : Int) = 92 ∨ (c.toNat : Int) = 34 ∨ (c.toNat : Int) = 39 := by
        rcases h2 with e | e
        · subst e; omega
        · subst e; left; rfl
      simp only [List.length_cons, List.length_nil] at hn
      unfold signF
      rw [e0, e1]
      rw [if_neg (by omega), if_neg (by simp), if_neg (by omega), if_pos hc3]
      simp
    · rw [if_neg h2] at hb hn ⊢
      have e0 : b k = (c.toNat : Int) := by have := hb 0 (by simp); rw [ba_bt] at this; simpa using this
      have hne : (c.toNat : Int) ≠ (q.toNat : Int) := fun e => h2 (Or.inl (UInt8.toNat_inj.1 (by omega)))
      have hne2 : (c.toNat : Int) ≠ 92 := fun e => h2 (Or.inr (UInt8.toNat_inj.1 (by show c.toNat = 92; omega)))
      simp only [List.length_cons, List.length_nil] at hn
      unfold signF
      rw [e0, if_neg (by omega), if_pos hne2]
      simp
theorem esc_head (q c : UInt8) (hq : q = 34 ∨ q = 39) : ∃ d l, escT q c = d :: l ∧ d ≠ q := by
  unfold escT
  split
  · exact ⟨_, _, rfl, by rcases hq with e | e <;> subst e <;> decide⟩
  · split
    · exact ⟨_, _, rfl, by rcases hq with e | e <;> subst e <;> decide⟩
    · next h => exact ⟨_, _, rfl, fun e => h (Or.inl e)⟩
theorem text_esc (b : Nat → Int) (n : Nat) : ∀ (l : List UInt8) (k : Nat) (acc : List Int), (∀ j, j < (l.flatMap (escT 34) ++ [34]).length → b (k + j) = PlainAid.bt (ba (l.flatMap (escT 34) ++ [34])) j) → k + (l.flatMap (escT 34) ++ [34]).length ≤ n →
    textF b n k acc = some (acc ++ l.map (fun c => (c.toNat : Int)), k + (l.flatMap (escT 34) ++ [34]).length)
  | [], k, acc, hb, hn => by
    have e0 : b k = 34 := by have := hb 0 (by simp); rw [ba_bt] at this; simpa using this
    simp only [List.flatMap_nil, List.nil_append, List.length_cons, List.length_nil] at hn ⊢
    rw [textF_eq b n k acc (by omega), if_pos ⟨by omega, e0⟩]
    simp
  | c :: l, k, acc, hb, hn => by
    obtain ⟨d, r, hd, hne⟩ := esc_head 34 c (Or.inl rfl)
    have hl0 : 0 < (escT 34 c).length := by rw [hd]; simp
    have hfl : (c :: l).flatMap (escT 34) ++ [34] = escT 34 c ++ (l.flatMap (escT 34) ++ [34]) := by rw [List.flatMap_cons, List.append_assoc]
    rw [hfl] at hb hn ⊢
    rw [List.length_append] at hb hn ⊢
    have hb1 : ∀ j, j < (escT 34 c).length → b (k + j) = PlainAid.bt (ba (escT 34 c)) j := fun j hj => by rw [hb j (by omega), ba_bt_left _ _ _ hj]
    have hb2 : ∀ j, j < (l.flatMap (escT 34) ++ [34]).length → b (k + (escT 34 c).length + j) = PlainAid.bt (ba (l.flatMap (escT 34) ++ [34])) j := fun j hj => by
      rw [Nat.add_assoc, hb _ (by omega), ba_bt_right]
    have e0 : b k ≠ 34 := by
      have := hb1 0 hl0
      rw [ba_bt, hd] at this
      have h3 : b k = (d.toNat : Int) := by simpa using this
      rw [h3]
      intro e
      exact hne (UInt8.toNat_inj.1 (by show d.toNat = 34; omega))
    have hs := sign_esc 34 c (Or.inl rfl) b n k hb1 (by omega)
    rw [textF_eq b n k acc (by omega), if_neg (by rintro ⟨_, h⟩; exact e0 h)]
    have hs' : signF b n k 34 = some ((c.toNat : Int), k + (escT 34 c).length) := hs
    rw [hs']
    show textF b n (k + (escT 34 c).length) (acc ++ [(c.toNat : Int)]) = _
    rw [text_esc b n l _ _ hb2 (by omega)]
    simp [Nat.add_assoc]
theorem strOf_bytes (l : List UInt8) : strOf (l.map fun c => (c.toNat : Int)) = ba l := by
  unfold strOf ba
  congr 2
  rw [List.map_map]
  conv => rhs; rw [← List.map_id l]
  apply List.map_congr_left
  intro c _
  show UInt8.ofNat ((c.toNat : Int).toNat) = c
  simp
theorem tells_text (l : List UInt8) : Tells (quoT 34 l) [⟨1, ba l, 0, 0⟩] := by
  refine ⟨_, told_tok (ba (quoT 34 l)) ⟨1, 0, ba l, 0, 0⟩ (by rw [ba_size]; simp [quoT]) ?_ ?_ (fun b n hb hn => ?_), rfl⟩
  · rw [ba_bt]; simp [quoT]
  · rw [ba_bt]; simp [quoT]
  · have hq : quoT 34 l = 34 :: (l.flatMap (escT 34) ++ [34]) := by simp [quoT]
    rw [ba_size] at hb hn
    rw [ba_size]
    rw [hq] at hb hn ⊢
    have b0 : b 0 = 34 := by have := hb 0 (by simp); rw [ba_bt] at this; simpa using this
    have hb2 : ∀ j, j < (l.flatMap (escT 34) ++ [34]).length → b (0 + 1 + j) = PlainAid.bt (ba (l.flatMap (escT 34) ++ [34])) j := fun j hj => by
      rw [hb _ (by simp only [List.length_cons]; omega), ba_bt, ba_bt, show 0 + 1 + j = j + 1 by omega, List.getElem?_cons_succ]
    simp only [List.length_cons] at hn ⊢
    unfold tokF
    rw [b0, if_neg (by decide), if_pos rfl, textG, text_esc b n l (0 + 1) [] hb2 (by omega)]
    show Got.tok _ _ = _
    rw [List.nil_append, strOf_bytes]
    rw [Nat.zero_add, Nat.add_comm 1]
theorem half_esc (c : UInt8) (b : Nat → Int) (n k : Nat) (hb : ∀ j, j < (escT 39 c ++ [39]).length → b (k + j) = PlainAid.bt (ba (escT 39 c ++ [39])) j) (hn : k + (escT 39 c ++ [39]).length ≤ n) :
    half b n k = some ((c.toNat : Int), k + (escT 39 c ++ [39]).length) := by
  rw [List.length_append] at hb hn ⊢
  simp only [List.length_cons, List.length_nil] at hb hn ⊢
  have hb1 : ∀ j, j < (escT 39 c).length → b (k + j) = PlainAid.bt (ba (escT 39 c)) j := fun j hj => by rw [hb j (by omega), ba_bt_left _ _ _ hj]
  have e0 : b (k + (escT 39 c).length) = 39 := by
    have := hb (escT 39 c).length (by omega)
    rw [this]
    have := ba_bt_right (escT 39 c) [39] 0
    rw [Nat.add_zero] at this
    rw [this]; rfl
  unfold half
  have hs : signF b n k 39 = some ((c.toNat : Int), k + (escT 39 c).length) := sign_esc 39 c (Or.inr rfl) b n k hb1 (by omega)
  rw [hs]
  show (if n ≤ k + (escT 39 c).length ∨ b (k + (escT 39 c).length) ≠ 39 then none else _) = _
  rw [if_neg (by rw [e0]; omega)]
  simp [Nat.add_assoc]
theorem tells_range (a c : UInt8) : Tells (quoT 39 [a] ++ [46, 46] ++ quoT 39 [c]) [⟨2, ⟨#[]⟩, (a.toNat : Int), (c.toNat : Int)⟩] := by
  have hq : quoT 39 [a] ++ [46, 46] ++ quoT 39 [c] = 39 :: ((escT 39 a ++ [39]) ++ (46 :: 46 :: 39 :: (escT 39 c ++ [39]))) := by simp [quoT]
  rw [hq]
  generalize hx : escT 39 a ++ [39] = x
  generalize hy : escT 39 c ++ [39] = y
  refine ⟨_, told_tok (ba _) ⟨2, 0, ⟨#[]⟩, (a.toNat : Int), (c.toNat : Int)⟩ (by rw [ba_size]; simp) (by rw [ba_bt]; simp) (by rw [ba_bt]; simp) (fun b n hb hn => ?_), rfl⟩
  rw [ba_size] at hb hn
  rw [ba_size]
  have hlen : (39 :: (x ++ (46 :: 46 :: 39 :: y))).length = 1 + x.length + 3 + y.length := by simp; omega
  rw [hlen] at hb hn ⊢
  have g : ∀ j, j < x.length → b (0 + 1 + j) = PlainAid.bt (ba x) j := fun j hj => by
    rw [hb _ (by omega), ba_bt, ba_bt, show 0 + 1 + j = j + 1 by omega, List.getElem?_cons_succ, List.getElem?_append_left hj]
  have g2 : ∀ j, j < y.length + 3 → b (1 + x.length + j) = PlainAid.bt (ba (46 :: 46 :: 39 :: y)) j := fun j hj => by
    rw [hb _ (by omega), ba_bt, ba_bt, show 1 + x.length + j = (x.length + j) + 1 by omega, List.getElem?_cons_succ, List.getElem?_append_right (by omega), show x.length + j - x.length = j by omega]
  have b0 : b 0 = 39 := by rw [hb 0 (by omega), ba_bt]; rfl
  have d0 : b (1 + x.length) = 46 := by have := g2 0 (by omega); rw [ba_bt] at this; simpa using this
  have d1 : b (1 + x.length + 1) = 46 := by have := g2 1 (by omega); rw [ba_bt] at this; simpa using this
  have d2 : b (1 + x.length + 2) = 39 := by have := g2 2 (by omega); rw [ba_bt] at this; simpa using this
  have g3 : ∀ j, j < y.length → b (1 + x.length + 2 + 1 + j) = PlainAid.bt (ba y) j := fun j hj => by
    rw [show 1 + x.length + 2 + 1 + j = 1 + x.length + (j + 3) by omega, g2 _ (by omega), ba_bt, ba_bt]; rfl
  subst hx hy
  have h1 := half_esc a b n (0 + 1) g (by omega)
  have h2 := half_esc c b n (1 + (escT 39 a ++ [39]).length + 2 + 1) g3 (by omega)
  have h1 : half b n (0 + 1) = some ((a.toNat : Int), 1 + (escT 39 a ++ [39]).length) := by rw [h1, Nat.zero_add]
  have hd : dots b n (1 + (escT 39 a ++ [39]).length) := dots_mk ⟨by omega, d0, d1⟩
  have ho : oneF b n (1 + (escT 39 a ++ [39]).length + 2) = some ((c.toNat : Int), 1 + (escT 39 a ++ [39]).length + 2 + 1 + (escT 39 c ++ [39]).length) := by
    rw [oneF_half, if_neg (by rw [d2]; omega), h2]
  unfold tokF
  rw [b0, if_neg (by decide), if_neg (by decide), if_pos rfl, rangeG, rangeF, h1]
  show (match (if dots b n (1 + (escT 39 a ++ [39]).length) then match oneF b n (1 + (escT 39 a ++ [39]).length + 2) with
      | none => none
      | some (d, to2) => some ((a.toNat : Int), d, to2)
    else some ((a.toNat : Int), (a.toNat : Int), 1 + (escT 39 a ++ [39]).length)) with
    | none => Got.noText
    | some (c, d, to) => Got.tok ⟨2, 0, ⟨#[]⟩, c, d⟩ to) = _
  rw [if_pos hd, ho]
end Go.Proofs.Ytopnhbgialbicaa
/- A grammar's text: what it declares. No program in sight. -/
namespace Go.Proofs.Ytopnhbgialbicaa
set_option linter.unusedVariables false

def takeI (p : Pm) (i : It) : Option Pm := take p ⟨i.kind.toNat, 0, i.text, i.lo, i.hi⟩
theorem take_st (p : Pm) (t : Tok) : take p t = takeI p t.st := by
  obtain ⟨k, pl, tx, lo, hi⟩ := t
  obtain ⟨st, a, b, c, d, e, f, g, h⟩ := p
  match st with
  | 0 => rfl
  | 1 => rfl
  | 2 => rfl
  | 3 => rfl
  | 4 => rfl
  | 5 => rfl
  | st + 6 => rfl
def feedI : Pm → List It → Option Pm
  | p, [] => some p
  | p, i :: l => match takeI p i with
    | none => none
    | some q => feedI q l
theorem feed_st : ∀ (l : List Tok) (p q : Pm), feedI p (l.map Tok.st) = some q → feed p l = .ok q
  | [], p, q, h => by
    have h' : some p = some q := h
    injection h' with h'; subst h'; rfl
  | t :: l, p, q, h => by
    have h' : (match takeI p t.st with | none => none | some q => feedI q (l.map Tok.st)) = some q := h
    unfold feed
    rw [take_st]
    cases hx : takeI p t.st with
    | none => rw [hx] at h'; cases h'
    | some r => rw [hx] at h'; exact feed_st l r q h'
theorem feedI_app : ∀ (l m : List It) (p q : Pm), feedI p l = some q → feedI p (l ++ m) = feedI q m
  | [], m, p, q, h => by
    have h' : some p = some q := h
    injection h' with h'; subst h'; rfl
  | i :: l, m, p, q, h => by
    have h' : (match takeI p i with | none => none | some q => feedI q l) = some q := h
    show (match takeI p i with | none => none | some q => feedI q (l ++ m)) = feedI q m
    cases hx : takeI p i with
    | none => rw [hx] at h'; cases h'
    | some r => rw [hx] at h'; exact feedI_app l m r q h'
theorem feedI_one (p q : Pm) (i : It) (h : takeI p i = some q) : feedI p [i] = some q := by
  show (match takeI p i with | none => none | some q => some q) = some q
  rw [h]

def itemP : Part → It
  | .inl l => ⟨1, ba l, 0, 0⟩
  | .inr (.inl (a, c)) => ⟨2, ⟨#[]⟩, (a.toNat : Int), (c.toNat : Int)⟩
  | .inr (.inr s) => ⟨0, s, 0, 0⟩
def PartOk (p : Part) : Prop := ∀ s, p = .inr (.inr s) → nameMayT s = true
theorem tellsD_part (p : Part) (h : PartOk p) : TellsD (partT p) [itemP p] := by
  match p, h with
  | .inl l, _ => exact (tells_text l).d
  | .inr (.inl (a, c)), _ => exact (tells_range a c).d
  | .inr (.inr s), h => exact tellsD_name (h s rfl)
def joinI (sep : List It) (u : Nat → List It) : Nat → List It
  | 0 => []
  | k + 1 => joinI sep u k ++ (if 0 < k then sep else []) ++ u k
theorem tellsD_join (sep : List UInt8) (si : List It) (hs : Tells sep si) (hc : Cutting sep) (t : Nat → List UInt8) (u : Nat → List It) (n : Nat) (h : ∀ i, i < n → TellsD (t i) (u i)) : ∀ k, k ≤ n → TellsD (joinN sep t k) (joinI si u k)
  | 0, _ => tells_nil.d
  | k + 1, hk => by
    have ih := tellsD_join sep si hs hc t u n h k (by omega)
    have hk' := h k (by omega)
    by_cases h0 : 0 < k
    · simp only [joinN, joinI, if_pos h0, List.append_assoc]
      exact ih.app (hs.appD hk') hc.app
    · obtain rfl : k = 0 := by omega
      simpa [joinN, joinI] using hk'
def cjOf (names : List ByteArray) (c : Cn) : Cj := ⟨c.neg, (partsT names c.seq).map itemP⟩
def conjI (names : List ByteArray) (c : Cn) : List It := (if c.neg then [⟨7, ⟨#[]⟩, 0, 0⟩] else []) ++ (partsT names c.seq).map itemP
def ConjOk (names : List ByteArray) (c : Cn) : Prop := ∀ p, p ∈ partsT names c.seq → PartOk p
theorem joinI_items (ps : List Part) : ∀ k, k ≤ ps.length → joinI [] (fun i => [itemP (ps.getD i (.inl []))]) k = (ps.take k).map itemP
  | 0, _ => by simp [joinI]
  | k + 1, hk => by
    have e : ps.take (k + 1) = ps.take k ++ [ps.getD k (.inl [])] := by rw [List.take_add_one, List.getD, List.getElem?_eq_getElem (by omega)]; rfl
    rw [joinI, joinI_items ps k (by omega), e, List.map_append]
    simp
theorem tellsD_conj (names : List ByteArray) (c : Cn) (h : ConjOk names c) : TellsD (conjT names c) (conjI names c) := by
  have h1 := tellsD_join [32] [] tells_blank ⟨32, [], rfl, rfl⟩ (partAt (partsT names c.seq)) (fun i => [itemP ((partsT names c.seq).getD i (.inl []))]) (partsT names c.seq).length (fun i hi => by
    unfold partAt
    refine tellsD_part _ (h _ ?_)
    rw [List.getD, List.getElem?_eq_getElem hi]
    exact List.getElem_mem hi) _ (Nat.le_refl _)
  rw [joinI_items _ _ (Nat.le_refl _), List.take_length] at h1
  unfold conjT conjI
  cases c.neg with
  | true => exact tells_not.appD h1
  | false => exact tells_nil.appD h1
theorem tells_amp : Tells [32, 38, 32] [⟨6, ⟨#[]⟩, 0, 0⟩] := (tells_blank.app tells_and).app tells_blank
theorem tells_or : Tells [32, 124, 32] [⟨5, ⟨#[]⟩, 0, 0⟩] := (tells_blank.app tells_bar).app tells_blank
def conjsI (names : List ByteArray) (l : List Cn) : List It := joinI [⟨6, ⟨#[]⟩, 0, 0⟩] (fun i => conjI names (l.getD i ⟨false, []⟩)) l.length
theorem tellsD_conjs (names : List ByteArray) (l : List Cn) (h : ∀ c, c ∈ l → ConjOk names c) : TellsD (conjsT names l) (conjsI names l) :=
  tellsD_join _ _ tells_amp ⟨32, _, rfl, rfl⟩ _ _ l.length (fun i hi => tellsD_conj names _ (h _ (getD_mem _ hi))) _ (Nat.le_refl _)
def altsI (names : List ByteArray) (l : List Ru) : List It := joinI [⟨5, ⟨#[]⟩, 0, 0⟩] (fun i => conjsI names (l.getD i ⟨0, []⟩).conj) l.length
theorem tellsD_alts (names : List ByteArray) (l : List Ru) (h : ∀ r, r ∈ l → ∀ c, c ∈ r.conj → ConjOk names c) : TellsD (altsT names l) (altsI names l) :=
  tellsD_join _ _ tells_or ⟨32, _, rfl, rfl⟩ _ _ l.length (fun i hi => tellsD_conjs names _ (h _ (getD_mem _ hi))) _ (Nat.le_refl _)
def defI (names : List ByteArray) (rules : List Ru) (k : Nat) : List It := [⟨0, names.getD k ⟨#[]⟩, 0, 0⟩, ⟨4, ⟨#[]⟩, 0, 0⟩] ++ altsI names (rulesOfT rules k) ++ [⟨8, ⟨#[]⟩, 0, 0⟩]
theorem tells_def (names : List ByteArray) (rules : List Ru) (k : Nat) (hn : nameMayT (names.getD k ⟨#[]⟩) = true) (h : ∀ r, r ∈ rules → ∀ c, c ∈ r.conj → ConjOk names c) : Tells (defT names rules k) (defI names rules k) := by
  have h1 : Tells [32, 61, 32] [⟨4, ⟨#[]⟩, 0, 0⟩] := (tells_blank.app tells_is).app tells_blank
  have h2 := (tellsD_name hn).tells h1 ⟨32, _, rfl, rfl⟩
  have h3 := tellsD_alts names (rulesOfT rules k) (fun r hr => h r (List.mem_filter.1 hr).1)
  have h4 : Tells [59, 10] [⟨8, ⟨#[]⟩, 0, 0⟩] := tells_semi.app tells_line
  exact (h2.appD h3).tells h4 ⟨59, _, rfl, rfl⟩
def defsI (names : List ByteArray) (rules : List Ru) : Nat → List It
  | 0 => []
  | k + 1 => defsI names rules k ++ defI names rules k
theorem tells_defs (names : List ByteArray) (rules : List Ru) (hn : ∀ s, s ∈ names → nameMayT s = true) (h : ∀ r, r ∈ rules → ∀ c, c ∈ r.conj → ConjOk names c) : ∀ k, k ≤ names.length → Tells (defsT names rules k) (defsI names rules k)
  | 0, _ => tells_nil
  | k + 1, hk => (tells_defs names rules hn h k (by omega)).app (tells_def names rules k (hn _ (getD_mem _ (by omega))) h)
def showI (g : Gr) : List It := [⟨3, ⟨#[]⟩, 0, 0⟩, ⟨0, g.names.getD g.start.toNat ⟨#[]⟩, 0, 0⟩, ⟨8, ⟨#[]⟩, 0, 0⟩] ++ defsI g.names g.rules g.names.length
theorem tells_show (g : Gr) (hs : g.start.toNat < g.names.length) (hn : ∀ s, s ∈ g.names → nameMayT s = true) (h : ∀ r, r ∈ g.rules → ∀ c, c ∈ r.conj → ConjOk g.names c) : Tells (showL g) (showI g) := by
  have h1 := tells_start.appD (tellsD_name (hn _ (getD_mem ⟨#[]⟩ hs)))
  have h4 : Tells [59, 10] [⟨8, ⟨#[]⟩, 0, 0⟩] := tells_semi.app tells_line
  exact (h1.tells h4 ⟨59, _, rfl, rfl⟩).app (tells_defs g.names g.rules hn h _ (Nat.le_refl _))

/- The parser's way through it. -/
theorem take_item (x : Part) (p : Pm) (h : p.st = 4 ∨ p.st = 5 ∨ p.st = 6) : takeI p (itemP x) = some ⟨6, p.starts, p.defs, p.start, p.name, p.alts, p.alt, p.neg, p.items ++ [itemP x]⟩ := by
  obtain ⟨st, a, b, c, d, e, f, g, i⟩ := p
  have h' : st = 4 ∨ st = 5 ∨ st = 6 := h
  match x with
  | .inl l => rcases h' with e | e | e <;> subst e <;> rfl
  | .inr (.inl (u, v)) => rcases h' with e | e | e <;> subst e <;> rfl
  | .inr (.inr s) => rcases h' with e | e | e <;> subst e <;> rfl
theorem feed_items : ∀ (ps : List Part) (p : Pm), (p.st = 4 ∨ p.st = 5 ∨ p.st = 6) → ps ≠ [] → feedI p (ps.map itemP) = some ⟨6, p.starts, p.defs, p.start, p.name, p.alts, p.alt, p.neg, p.items ++ ps.map itemP⟩
  | [], p, _, h => absurd rfl h
  | [x], p, h, _ => feedI_one _ _ _ (take_item x p h)
  | x :: y :: ps, p, h, _ => by
    show (match takeI p (itemP x) with | none => none | some q => feedI q ((y :: ps).map itemP)) = _
    rw [take_item x p h]
    show feedI _ ((y :: ps).map itemP) = _
    rw [feed_items (y :: ps) _ (Or.inr (Or.inr rfl)) (by simp)]
    simp
theorem symP_ne (names : List ByteArray) (ps : List Part) (s : Sy) : symP names ps s ≠ [] := by
  unfold symP
  split
  · simp
  · split
    · simp
    · match ps with
      | [] => simp [addT]
      | [.inl l] => simp [addT]
      | [.inr x] => simp [addT]
      | p :: q :: ps => simp [addT]
theorem foldl_ne (names : List ByteArray) : ∀ (l : List Sy) (ps : List Part), ps ≠ [] → l.foldl (symP names) ps ≠ []
  | [], ps, h => h
  | s :: l, ps, h => foldl_ne names l _ (symP_ne names ps s)
theorem partsT_ne (names : List ByteArray) (l : List Sy) : partsT names l ≠ [] := by
  unfold partsT
  match l with
  | [] => simp
  | s :: l => exact foldl_ne names l _ (symP_ne names [] s)
theorem feed_conj (names : List ByteArray) (c : Cn) (p : Pm) (hst : p.st = 4) (hneg : p.neg = false) (hit : p.items = []) :
    feedI p (conjI names c) = some ⟨6, p.starts, p.defs, p.start, p.name, p.alts, p.alt, (cjOf names c).neg, (cjOf names c).items⟩ := by
  obtain ⟨st, a, b, c', d, e, f, g, i⟩ := p
  simp only at hst hneg hit
  subst hst hneg hit
  unfold conjI cjOf
  cases c.neg with
  | true =>
    show feedI _ ([_] ++ _) = _
    rw [feedI_app [_] _ _ ⟨5, a, b, c', d, e, f, true, []⟩ rfl, feed_items _ _ (Or.inr (Or.inl rfl)) (partsT_ne _ _)]
    rfl
  | false =>
    show feedI _ ([] ++ _) = _
    rw [List.nil_append, feed_items _ _ (Or.inl rfl) (partsT_ne _ _)]
    rfl
theorem take_succ_getD {α β : Type} (f : α → β) {l : List α} {k : Nat} (d : α) (h : k < l.length) : (l.take (k + 1)).map f = (l.take k).map f ++ [f (l.getD k d)] := by
  have e : l.take (k + 1) = l.take k ++ [l.getD k d] := by rw [List.take_add_one, List.getD, List.getElem?_eq_getElem h]; rfl
  rw [e, List.map_append]; rfl
theorem feed_conjs (names : List ByteArray) (l : List Cn) (p : Pm) (hst : p.st = 4) (hneg : p.neg = false) (hit : p.items = []) : ∀ k, k < l.length →
    feedI p (joinI [⟨6, ⟨#[]⟩, 0, 0⟩] (fun i => conjI names (l.getD i ⟨false, []⟩)) (k + 1)) = some ⟨6, p.starts, p.defs, p.start, p.name, p.alts, p.alt ++ (l.take k).map (cjOf names), (cjOf names (l.getD k ⟨false, []⟩)).neg, (cjOf names (l.getD k ⟨false, []⟩)).items⟩
  | 0, hk => by
    have := feed_conj names (l.getD 0 ⟨false, []⟩) p hst hneg hit
    simpa [joinI] using this
  | k + 1, hk => by
    have ih := feed_conjs names l p hst hneg hit k (by omega)
    rw [joinI, if_pos (Nat.succ_pos k), List.append_assoc, feedI_app _ _ _ _ ih]
    rw [feedI_app [_] _ _ ⟨4, p.starts, p.defs, p.start, p.name, p.alts, (p.alt ++ (l.take k).map (cjOf names)) ++ [⟨(cjOf names (l.getD k ⟨false, []⟩)).neg, (cjOf names (l.getD k ⟨false, []⟩)).items⟩], false, []⟩ rfl, feed_conj names _ _ rfl rfl rfl]
    rw [take_succ_getD (cjOf names) ⟨false, []⟩ (by omega : k < l.length), List.append_assoc]
theorem feed_conjs_all (names : List ByteArray) (l : List Cn) (hl : l ≠ []) (p : Pm) (hst : p.st = 4) (hneg : p.neg = false) (hit : p.items = []) : ∃ a c, feedI p (conjsI names l) = some ⟨6, p.starts, p.defs, p.start, p.name, p.alts, a, c.neg, c.items⟩ ∧ a ++ [c] = p.alt ++ l.map (cjOf names) := by
  have h0 : 0 < l.length := List.length_pos_iff.2 hl
  have h := feed_conjs names l p hst hneg hit (l.length - 1) (by omega)
  rw [show l.length - 1 + 1 = l.length by omega] at h
  refine ⟨_, _, h, ?_⟩
  rw [List.append_assoc, ← take_succ_getD (cjOf names) ⟨false, []⟩ (by omega : l.length - 1 < l.length), show l.length - 1 + 1 = l.length by omega, List.take_length]
def altOf (names : List ByteArray) (r : Ru) : List Cj := r.conj.map (cjOf names)
theorem feed_alts (names : List ByteArray) (l : List Ru) (hl : ∀ r, r ∈ l → r.conj ≠ []) (p : Pm) (hst : p.st = 4) (hneg : p.neg = false) (hit : p.items = []) (halt : p.alt = []) : ∀ k, k < l.length →
    ∃ a c, feedI p (joinI [⟨5, ⟨#[]⟩, 0, 0⟩] (fun i => conjsI names (l.getD i ⟨0, []⟩).conj) (k + 1)) = some ⟨6, p.starts, p.defs, p.start, p.name, p.alts ++ (l.take k).map (altOf names), a, c.neg, c.items⟩ ∧ a ++ [c] = altOf names (l.getD k ⟨0, []⟩)
  | 0, hk => by
    obtain ⟨a, c, h1, h2⟩ := feed_conjs_all names (l.getD 0 ⟨0, []⟩).conj (hl _ (getD_mem _ hk)) p hst hneg hit
    rw [halt, List.nil_append] at h2
    exact ⟨a, c, by simpa [joinI] using h1, h2⟩
  | k + 1, hk => by
    obtain ⟨a, c, ih, h2⟩ := feed_alts names l hl p hst hneg hit halt k (by omega)
    have step : takeI ⟨6, p.starts, p.defs, p.start, p.name, p.alts ++ (l.take k).map (altOf names), a, c.neg, c.items⟩ ⟨5, ⟨#[]⟩, 0, 0⟩ = some ⟨4, p.starts, p.defs, p.start, p.name, p.alts ++ (l.take (k + 1)).map (altOf names), [], false, []⟩ := by
      rw [take_succ_getD (altOf names) ⟨0, []⟩ (by omega : k < l.length), ← List.append_assoc, ← h2]
      rfl
    obtain ⟨a', c', h3, h4⟩ := feed_conjs_all names (l.getD (k + 1) ⟨0, []⟩).conj (hl _ (getD_mem _ hk)) ⟨4, p.starts, p.defs, p.start, p.name, p.alts ++ (l.take (k + 1)).map (altOf names), [], false, []⟩ rfl rfl rfl
    refine ⟨a', c', ?_, by rw [h4]; rfl⟩
    rw [joinI, if_pos (Nat.succ_pos k), List.append_assoc, feedI_app _ _ _ _ ih, feedI_app [_] _ _ _ (feedI_one _ _ _ step), h3]
theorem feed_def (names : List ByteArray) (rules : List Ru) (k : Nat) (hl : ∀ r, r ∈ rules → r.conj ≠ []) (hk : rulesOfT rules k ≠ []) (starts : List ByteArray) (defs : List Df) (start nm : ByteArray) :
    feedI ⟨0, starts, defs, start, nm, [], [], false, []⟩ (defI names rules k) = some ⟨0, starts, defs ++ [⟨names.getD k ⟨#[]⟩, (rulesOfT rules k).map (altOf names)⟩], start, ⟨#[]⟩, [], [], false, []⟩ := by
  have h0 : 0 < (rulesOfT rules k).length := List.length_pos_iff.2 hk
  obtain ⟨a, c, h1, h2⟩ := feed_alts names (rulesOfT rules k) (fun r hr => hl r (List.mem_filter.1 hr).1) ⟨4, starts, defs, start, names.getD k ⟨#[]⟩, [], [], false, []⟩ rfl rfl rfl rfl ((rulesOfT rules k).length - 1) (by omega)
  rw [show (rulesOfT rules k).length - 1 + 1 = (rulesOfT rules k).length by omega] at h1
  unfold defI
  rw [List.append_assoc, feedI_app [_, _] _ _ ⟨4, starts, defs, start, names.getD k ⟨#[]⟩, [], [], false, []⟩ rfl]
  unfold altsI
  rw [feedI_app _ _ _ _ h1]
  refine feedI_one _ _ _ ?_
  have e : (rulesOfT rules k).map (altOf names) = ((rulesOfT rules k).take ((rulesOfT rules k).length - 1)).map (altOf names) ++ [a ++ [c]] := by
    rw [h2, ← take_succ_getD (altOf names) ⟨0, []⟩ (by omega : (rulesOfT rules k).length - 1 < _), show (rulesOfT rules k).length - 1 + 1 = (rulesOfT rules k).length by omega, List.take_length]
  rw [e]
  rfl
def dfOf (names : List ByteArray) (rules : List Ru) (k : Nat) : Df := ⟨names.getD k ⟨#[]⟩, (rulesOfT rules k).map (altOf names)⟩
theorem feed_defs (names : List ByteArray) (rules : List Ru) (hl : ∀ r, r ∈ rules → r.conj ≠ []) (hk : ∀ k, k < names.length → rulesOfT rules k ≠ []) (starts : List ByteArray) (start : ByteArray) : ∀ k, k ≤ names.length →
    ∃ nm, feedI ⟨0, starts, [], start, ⟨#[]⟩, [], [], false, []⟩ (defsI names rules k) = some ⟨0, starts, (List.range k).map (dfOf names rules), start, nm, [], [], false, []⟩
  | 0, _ => ⟨⟨#[]⟩, rfl⟩
  | k + 1, h => by
    obtain ⟨nm, ih⟩ := feed_defs names rules hl hk starts start k (by omega)
    refine ⟨⟨#[]⟩, ?_⟩
    rw [defsI, feedI_app _ _ _ _ ih, feed_def names rules k hl (hk k (by omega)), List.range_succ, List.map_append]
    rfl
def rawOf (g : Gr) : Rw := ⟨[g.names.getD g.start.toNat ⟨#[]⟩], (List.range g.names.length).map (dfOf g.names g.rules)⟩
theorem feed_show (g : Gr) (hl : ∀ r, r ∈ g.rules → r.conj ≠ []) (hk : ∀ k, k < g.names.length → rulesOfT g.rules k ≠ []) : ∃ p, feedI pm0 (showI g) = some p ∧ p.st = 0 ∧ p.starts = (rawOf g).starts ∧ p.defs = (rawOf g).defs := by
  obtain ⟨nm, h⟩ := feed_defs g.names g.rules hl hk [g.names.getD g.start.toNat ⟨#[]⟩] (g.names.getD g.start.toNat ⟨#[]⟩) g.names.length (Nat.le_refl _)
  refine ⟨⟨0, (rawOf g).starts, (rawOf g).defs, g.names.getD g.start.toNat ⟨#[]⟩, nm, [], [], false, []⟩, ?_, rfl, rfl, rfl⟩
  unfold showI
  rw [feedI_app [_, _, _] _ _ ⟨0, [g.names.getD g.start.toNat ⟨#[]⟩], [], g.names.getD g.start.toNat ⟨#[]⟩, ⟨#[]⟩, [], [], false, []⟩ rfl, h]
  rfl
end Go.Proofs.Ytopnhbgialbicaa
/- A grammar's text makes the same grammar again. No program in sight. -/
namespace Go.Proofs.Ytopnhbgialbicaa
set_option linter.unusedVariables false

/- What a grammar that may be has. -/
theorem known_of_place {l : List ByteArray} {s : ByteArray} {k : Nat} (h : place l s = some k) : known l s = true := by unfold known; rw [h]; rfl
theorem place_app (a r : List ByteArray) (s : ByteArray) (h : known a s = false) : place (a ++ s :: r) s = some a.length := by
  induction a with
  | nil => simp [place]
  | cons x a ih =>
    unfold known place at h
    by_cases e : x = s
    · rw [if_pos e] at h; cases h
    · rw [if_neg e] at h
      have h' : known a s = false := by
        unfold known
        cases hp : place a s with
        | none => rfl
        | some k => rw [hp] at h; cases h
      show (if x = s then some 0 else (place (a ++ s :: r) s).map (· + 1)) = _
      rw [if_neg e, ih h']
      simp
theorem againT_le : ∀ (l seen : List ByteArray) (i : Nat), i ≤ againT seen l i ∧ againT seen l i ≤ i + l.length
  | [], seen, i => ⟨Nat.le_refl _, Nat.le_refl _⟩
  | s :: l, seen, i => by
    show i ≤ (if known seen s = true then i else againT (seen ++ [s]) l (i + 1)) ∧ (if known seen s = true then i else againT (seen ++ [s]) l (i + 1)) ≤ _
    have := againT_le l (seen ++ [s]) (i + 1)
    split
    · simp
    · simp only [List.length_cons]; omega
theorem again_fresh : ∀ (l seen : List ByteArray) (i : Nat), againT seen l i = i + l.length → ∀ (k : Nat) (s : ByteArray), l[k]? = some s → known (seen ++ l.take k) s = false
  | [], seen, i, _, k, s, h => by simp at h
  | x :: l, seen, i, h, k, s, hk => by
    have h' : (if known seen x = true then i else againT (seen ++ [x]) l (i + 1)) = i + (l.length + 1) := h
    by_cases hx : known seen x = true
    · rw [if_pos hx] at h'; omega
    · rw [if_neg hx] at h'
      match k, hk with
      | 0, hk =>
        obtain rfl : x = s := by simpa using hk
        simpa using hx
      | k + 1, hk =>
        have := again_fresh l (seen ++ [x]) (i + 1) (by omega) k s (by simpa using hk)
        simpa using this
theorem place_at {l : List ByteArray} (h : again l = l.length) {k : Nat} (hk : k < l.length) (d : ByteArray) : place l (l.getD k d) = some k := by
  have e : l[k]? = some (l.getD k d) := by rw [List.getD, List.getElem?_eq_getElem hk]; rfl
  have h1 := again_fresh l [] 0 (by rw [Nat.zero_add]; exact h) k _ e
  rw [List.nil_append] at h1
  have h2 : l = l.take k ++ (l.getD k d) :: l.drop (k + 1) := by
    conv => lhs; rw [← List.take_append_drop k l]
    congr 1
    rw [List.drop_eq_getElem_cons hk, List.getD, List.getElem?_eq_getElem hk]; rfl
  generalize l.getD k d = s at *
  conv => lhs; rw [h2]
  rw [place_app _ _ _ h1, List.length_take]
  congr 1
  omega
theorem heads_in (K : Nat) : ∀ (l : List Ru) (last : Int), mayHeads K last l = true → ∀ r, r ∈ l → last ≤ r.head ∧ 0 ≤ r.head ∧ r.head < (K : Int)
  | [], _, _, r, h => by simp at h
  | x :: l, last, h, r, hr => by
    simp only [mayHeads, isNum, Bool.and_eq_true, Bool.or_eq_true, decide_eq_true_eq] at h
    obtain ⟨⟨h1, h2⟩, h3, h4⟩ := h
    rcases List.mem_cons.1 hr with e | e
    · subst e; omega
    · have := heads_in K l x.head h4 r e; omega
theorem heads_sorted (K : Nat) : ∀ (l : List Ru) (last : Int), mayHeads K last l = true → l.Pairwise (fun a b => a.head ≤ b.head)
  | [], _, _ => List.Pairwise.nil
  | x :: l, last, h => by
    simp only [mayHeads, isNum, Bool.and_eq_true, Bool.or_eq_true, decide_eq_true_eq] at h
    obtain ⟨_, _, h4⟩ := h
    exact List.Pairwise.cons (fun r hr => (heads_in K l x.head h4 r hr).1) (heads_sorted K l _ h4)
theorem heads_all (K : Nat) : ∀ (l : List Ru) (last : Int), mayHeads K last l = true → ∀ k : Int, last < k → k < (K : Int) → ∃ r, r ∈ l ∧ r.head = k
  | [], last, h, k, h1, h2 => by
    simp only [mayHeads, decide_eq_true_eq] at h
    omega
  | x :: l, last, h, k, h1, h2 => by
    simp only [mayHeads, isNum, Bool.and_eq_true, Bool.or_eq_true, decide_eq_true_eq] at h
    obtain ⟨_, h3, h4⟩ := h
    by_cases e : x.head = k
    · exact ⟨x, List.mem_cons_self, e⟩
    · obtain ⟨r, hr, hk⟩ := heads_all K l x.head h4 k (by omega) h2
      exact ⟨r, List.mem_cons_of_mem _ hr, hk⟩
theorem filter_join (k : Nat) : ∀ l : List Ru, l.Pairwise (fun a b => a.head ≤ b.head) →
    l.filter (fun r => decide (0 ≤ r.head ∧ r.head < (k : Int))) ++ l.filter (fun r => decide (r.head = (k : Int))) = l.filter (fun r => decide (0 ≤ r.head ∧ r.head < ((k + 1 : Nat) : Int)))
  | [], _ => rfl
  | x :: l, h => by
    obtain ⟨h1, h2⟩ := List.pairwise_cons.1 h
    have ih := filter_join k l h2
    by_cases e : x.head = (k : Int)
    · have e0 : l.filter (fun r => decide (0 ≤ r.head ∧ r.head < (k : Int))) = [] := by
        rw [List.filter_eq_nil_iff]
        intro r hr
        have := h1 r hr
        simp only [decide_eq_true_eq]; omega
      rw [e0, List.nil_append] at ih
      rw [List.filter_cons_of_neg (by simp only [decide_eq_true_eq]; omega), e0, List.nil_append, List.filter_cons_of_pos (by simp only [decide_eq_true_eq]; exact e), List.filter_cons_of_pos (by simp only [decide_eq_true_eq]; omega), ih]
    · by_cases h3 : 0 ≤ x.head ∧ x.head < (k : Int)
      · rw [List.filter_cons_of_pos (by simp only [decide_eq_true_eq]; exact h3), List.filter_cons_of_neg (by simp only [decide_eq_true_eq]; exact e), List.filter_cons_of_pos (by simp only [decide_eq_true_eq]; omega), List.cons_append, ih]
      · rw [List.filter_cons_of_neg (by simp only [decide_eq_true_eq]; exact h3), List.filter_cons_of_neg (by simp only [decide_eq_true_eq]; exact e), List.filter_cons_of_neg (by simp only [decide_eq_true_eq]; omega), ih]
theorem range_rules (l : List Ru) (h : l.Pairwise (fun a b => a.head ≤ b.head)) : ∀ k : Nat, (List.range k).flatMap (rulesOfT l) = l.filter (fun r => decide (0 ≤ r.head ∧ r.head < (k : Int)))
  | 0 => by
    symm
    simp only [List.range_zero, List.flatMap_nil]
    rw [List.filter_eq_nil_iff]
    intro r _
    simp only [decide_eq_true_eq]; omega
  | k + 1 => by
    rw [List.range_succ, List.flatMap_append, range_rules l h k, ← filter_join k l h]
    simp [rulesOfT]
/-- What a grammar has that may be. -/
structure Mays (g : Gr) : Prop where
  n1 : 1 ≤ g.names.length
  n2 : g.names.length ≤ 64
  nm : ∀ s, s ∈ g.names → nameMayT s = true
  ag : again g.names = g.names.length
  st : 0 ≤ g.start ∧ g.start < (g.names.length : Int)
  hd : mayHeads g.names.length (-1) g.rules = true
  r2 : g.rules.length ≤ 256
  sy : (g.rules.map symsR).sum ≤ 1024
  ru : ∀ r, r ∈ g.rules → 1 ≤ r.conj.length ∧ r.conj.length ≤ 8 ∧ ∀ c, c ∈ r.conj → mayRow g.names.length c.seq = true
theorem mays {g : Gr} (h : mayG g = true) : Mays g := by
  simp only [mayG, mayNames, mayRules, isNum, Bool.and_eq_true, decide_eq_true_eq, List.all_eq_true] at h
  obtain ⟨⟨h1, h2, h3, h4⟩, ⟨h5, h6⟩, h7, h8, h9, h10⟩ := h
  obtain ⟨h11, h12⟩ := mayRs_spec _ _ _ h10 (by omega)
  exact ⟨h1, h2, fun s hs => by rw [← isName_eq]; exact h3 s hs, h4, ⟨h5, h6⟩, h7, h9, by omega, h12⟩

/- The parts of a row of symbols. -/
theorem symT_name (names : List ByteArray) (s : ByteArray) : symT names (itemP (.inr (.inr s))) = [⟨numOf names s, 0, 0⟩] := rfl
theorem symT_span (names : List ByteArray) (a c : UInt8) : symT names (itemP (.inr (.inl (a, c)))) = [⟨-1, (a.toNat : Int), (c.toNat : Int)⟩] := rfl
theorem symT_text (names : List ByteArray) (l : List UInt8) : symT names (itemP (.inl l)) = l.map fun c => ⟨-1, (c.toNat : Int), (c.toNat : Int)⟩ := by
  show bytesT (ba l) = _
  simp [bytesT, ba]
theorem rowT_add (names : List ByteArray) (c : UInt8) : ∀ ps : List Part, rowT names ((addT ps c).map itemP) = rowT names (ps.map itemP) ++ [⟨-1, (c.toNat : Int), (c.toNat : Int)⟩]
  | [] => by simp [addT, rowT, symT_text]
  | [.inl l] => by simp [addT, rowT, symT_text]
  | [.inr x] => by simp [addT, rowT, symT_text]
  | p :: q :: ps => by
    have ih := rowT_add names c (q :: ps)
    simp only [addT, List.map_cons, rowT, List.flatMap_cons] at ih ⊢
    rw [ih]
    simp only [List.append_assoc]
theorem rowT_sym {names : List ByteArray} (hag : again names = names.length) {s : Sy} (h : maySym names.length s = true) (ps : List Part) : rowT names ((symP names ps s).map itemP) = rowT names (ps.map itemP) ++ [s] := by
  obtain ⟨nm, lo, hi⟩ := s
  unfold maySym at h
  unfold symP
  simp only at h ⊢
  by_cases e : nm = -1
  · rw [if_pos e] at h
    simp only [Bool.and_eq_true, decide_eq_true_eq] at h
    rw [if_neg (by simpa using e)]
    by_cases e2 : lo = hi
    · rw [if_neg (by simpa using e2), rowT_add, byteOf_nat (by omega) (by omega)]
      subst e e2; rfl
    · rw [if_pos e2, List.map_append, rowT, List.flatMap_append]
      simp only [List.map_cons, List.map_nil, List.flatMap_cons, List.flatMap_nil, List.append_nil, symT_span]
      rw [byteOf_nat (by omega) (by omega), byteOf_nat (by omega) (by omega)]
      subst e; rfl
  · rw [if_neg e] at h
    simp only [isNum, Bool.and_eq_true, decide_eq_true_eq] at h
    rw [if_pos e, List.map_append, rowT, List.flatMap_append]
    simp only [List.map_cons, List.map_nil, List.flatMap_cons, List.flatMap_nil, List.append_nil, symT_name]
    have hk : nm.toNat < names.length := by omega
    have : numOf names (names.getD nm.toNat ⟨#[]⟩) = nm := by
      unfold numOf
      rw [place_at hag hk]
      show ((nm.toNat : Nat) : Int) = nm
      omega
    rw [this]
    obtain ⟨_, h2, h3⟩ := h
    subst h2 h3; rfl
theorem rowT_fold {names : List ByteArray} (hag : again names = names.length) : ∀ (l : List Sy) (ps : List Part), (∀ s, s ∈ l → maySym names.length s = true) → rowT names ((l.foldl (symP names) ps).map itemP) = rowT names (ps.map itemP) ++ l
  | [], ps, _ => by simp
  | s :: l, ps, h => by
    rw [List.foldl_cons, rowT_fold hag l _ (fun x hx => h x (List.mem_cons_of_mem _ hx)), rowT_sym hag (h s List.mem_cons_self), List.append_assoc]
    rfl
theorem rowT_parts {names : List ByteArray} (hag : again names = names.length) {l : List Sy} (h : mayRow names.length l = true) : rowT names ((partsT names l).map itemP) = l := by
  simp only [mayRow, Bool.and_eq_true, decide_eq_true_eq, List.all_eq_true] at h
  unfold partsT
  match l, h with
  | [], _ => simp [rowT, symT_text]
  | s :: l, h => 
    show rowT names (((s :: l).foldl (symP names) []).map itemP) = _
    rw [rowT_fold hag _ _ h.2]
    rfl
theorem parts_ok {g : Gr} (m : Mays g) {r : Ru} (hr : r ∈ g.rules) {c : Cn} (hc : c ∈ r.conj) : ConjOk g.names c := fun p hp s e => m.nm s ((good_parts ((m.ru r hr).2.2 c hc) p hp).1 s e)

/- What the declarations make. -/
theorem findS_none {l : List (ByteArray × It)} (stop : Unit → It → Bool) (h : ∀ x, x ∈ l → stop () x.2 = false) : findS stop (fun _ _ => ()) () l = none := by
  induction l with
  | nil => rfl
  | cons x l ih =>
    show (if stop () x.2 = true then some x else findS stop (fun _ _ => ()) () l) = none
    rw [if_neg (by rw [h x List.mem_cons_self]; simp), ih (fun y hy => h y (List.mem_cons_of_mem _ hy))]
theorem findL_none : ∀ (l : List (ByteArray × It)) (n : Nat), n + (l.map fun x => width x.2).sum ≤ 1024 → findS stopL stepL n l = none
  | [], _, _ => rfl
  | x :: l, n, h => by
    rw [List.map_cons, List.sum_cons] at h
    show (if stopL n x.2 = true then some x else findS stopL stepL (stepL n x.2) l) = none
    rw [if_neg (by unfold stopL; simp; omega), findL_none l _ (by unfold stepL; omega)]
theorem width_eq (names : List ByteArray) (p : Part) : width (itemP p) = (symT names (itemP p)).length := by
  match p with
  | .inl l =>
    show (ba l).size = _
    rw [symT_text, List.length_map, ba_size]
  | .inr (.inl (a, c)) => rfl
  | .inr (.inr s) => rfl
theorem widths_row (names : List ByteArray) : ∀ ps : List Part, (ps.map fun p => width (itemP p)).sum = (rowT names (ps.map itemP)).length
  | [] => rfl
  | p :: ps => by
    rw [List.map_cons, List.sum_cons, widths_row names ps, width_eq names p]
    simp [rowT]
theorem mem_flat {x : ByteArray × It} {g : Gr} (h : x ∈ flat (rawOf g).defs) : ∃ r c p, r ∈ g.rules ∧ c ∈ r.conj ∧ p ∈ partsT g.names c.seq ∧ x.2 = itemP p := by
  simp only [flat, rawOf, List.mem_flatMap, List.mem_map] at h
  obtain ⟨d, ⟨k, _, rfl⟩, h⟩ := h
  simp only [flatD, dfOf, List.mem_flatMap, List.mem_map] at h
  obtain ⟨a, ⟨r, hr, rfl⟩, h⟩ := h
  simp only [flatA, altOf, List.mem_flatMap, List.mem_map] at h
  obtain ⟨c, ⟨c', hc, rfl⟩, h⟩ := h
  simp only [flatC, cjOf, List.mem_map] at h
  obtain ⟨i, ⟨p, hp, rfl⟩, rfl⟩ := h
  exact ⟨r, c', p, (List.mem_filter.1 hr).1, hc, hp, rfl⟩
theorem sum_flatMap {α β : Type} (f : α → List β) (w : β → Nat) : ∀ l : List α, ((l.flatMap f).map w).sum = (l.map fun a => ((f a).map w).sum).sum
  | [] => rfl
  | a :: l => by rw [List.flatMap_cons, List.map_append, List.sum_append, sum_flatMap f w l, List.map_cons, List.sum_cons]
theorem map_sum_congr {α : Type} {f g : α → Nat} {l : List α} (h : ∀ a, a ∈ l → f a = g a) : (l.map f).sum = (l.map g).sum := by
  rw [List.map_congr_left h]
theorem rules_back {g : Gr} (m : Mays g) : (List.range g.names.length).flatMap (rulesOfT g.rules) = g.rules := by
  rw [range_rules g.rules (heads_sorted _ _ _ m.hd), List.filter_eq_self]
  intro r hr
  have := heads_in _ _ _ m.hd r hr
  simp only [decide_eq_true_eq]; exact this.2
theorem widths_all {g : Gr} (m : Mays g) : ((flat (rawOf g).defs).map fun x => width x.2).sum = (g.rules.map symsR).sum := by
  have hc : ∀ r, r ∈ g.rules → ∀ c, c ∈ r.conj → ∀ n, ((flatC n (cjOf g.names c)).map fun x => width x.2).sum = c.seq.length := fun r hr c hc n => by
    have h1 := rowT_parts m.ag ((m.ru r hr).2.2 c hc)
    have h2 := widths_row g.names (partsT g.names c.seq)
    rw [h1] at h2
    rw [← h2]
    simp only [flatC, cjOf, List.map_map]
    rfl
  have hr : ∀ r, r ∈ g.rules → ∀ n, ((flatA n (altOf g.names r)).map fun x => width x.2).sum = symsR r := fun r hr n => by
    unfold flatA altOf symsR
    rw [sum_flatMap, List.map_map]
    exact map_sum_congr (fun c hc' => hc r hr c hc' n)
  unfold flat
  rw [sum_flatMap]
  show (((List.range g.names.length).map (dfOf g.names g.rules)).map fun d => ((flatD d).map fun x => width x.2).sum).sum = _
  rw [List.map_map]
  have hd : ∀ k, ((flatD (dfOf g.names g.rules k)).map fun x => width x.2).sum = ((rulesOfT g.rules k).map symsR).sum := fun k => by
    unfold flatD dfOf
    rw [sum_flatMap, List.map_map]
    exact map_sum_congr (fun r hr' => hr r (List.mem_filter.1 hr').1 _)
  refine (map_sum_congr (g := fun k => ((rulesOfT g.rules k).map symsR).sum) (fun k _ => hd k)).trans ?_
  rw [← sum_flatMap, rules_back m]
theorem range_getD (l : List ByteArray) : (List.range l.length).map (fun k => l.getD k ⟨#[]⟩) = l := by
  apply List.ext_getElem?
  intro i
  rw [List.getElem?_map]
  by_cases h : i < l.length
  · rw [List.getElem?_range h, List.getElem?_eq_getElem h]
    show some (l.getD i ⟨#[]⟩) = _
    rw [List.getD, List.getElem?_eq_getElem h]; rfl
  · rw [List.getElem?_eq_none (by simp; omega), List.getElem?_eq_none (by omega)]; rfl
theorem names_back (g : Gr) : namesT (rawOf g).defs = g.names := by
  unfold namesT rawOf
  rw [List.map_map]
  exact range_getD g.names
theorem gram_back {g : Gr} (m : Mays g) : gramT (rawOf g) = g := by
  have hst : g.start.toNat < g.names.length := by have := m.st; omega
  have h1 : numOf g.names (startT (rawOf g)) = g.start := by
    show (((place g.names (g.names.getD g.start.toNat ⟨#[]⟩)).getD 0 : Nat) : Int) = _
    rw [place_at m.ag hst]
    show ((g.start.toNat : Nat) : Int) = _
    have := m.st; omega
  have h2 : rulesT g.names (rawOf g).defs = g.rules := by
    unfold rulesT
    show ((List.range g.names.length).map (dfOf g.names g.rules)).flatMap (rulesD g.names) = _
    rw [List.flatMap_map]
    conv => rhs; rw [← rules_back m]
    rw [List.flatMap_def, List.flatMap_def]
    congr 1
    apply List.map_congr_left
    intro k hk
    rw [List.mem_range] at hk
    show ((rulesOfT g.rules k).map (altOf g.names)).map (ruleT g.names (g.names.getD k ⟨#[]⟩)) = rulesOfT g.rules k
    rw [List.map_map]
    conv => rhs; rw [← List.map_id (rulesOfT g.rules k)]
    apply List.map_congr_left
    intro r hr
    obtain ⟨hr1, hr2⟩ := List.mem_filter.1 hr
    have hr3 : r.head = (k : Int) := by simpa using hr2
    show (⟨numOf g.names (g.names.getD k ⟨#[]⟩), (altOf g.names r).map (cnT g.names)⟩ : Ru) = r
    have e1 : numOf g.names (g.names.getD k ⟨#[]⟩) = r.head := by
      unfold numOf
      rw [place_at m.ag hk, hr3]; rfl
    have e2 : (altOf g.names r).map (cnT g.names) = r.conj := by
      unfold altOf
      rw [List.map_map]
      conv => rhs; rw [← List.map_id r.conj]
      apply List.map_congr_left
      intro c hc
      show (⟨c.neg, rowT g.names ((partsT g.names c.seq).map itemP)⟩ : Cn) = c
      rw [rowT_parts m.ag ((m.ru r hr1).2.2 c hc)]
    rw [e1, e2]
  unfold gramT
  rw [names_back, h1, h2]
theorem build_back {g : Gr} (h : mayG g = true) : buildT (rawOf g) = .ok g := by
  have m := mays h
  have hst : g.start.toNat < g.names.length := by have := m.st; omega
  unfold buildT
  rw [names_back, m.ag, if_neg (by omega), if_neg (by intro e; exact e rfl)]
  have hu : unknownT (rawOf g) g.names = none := by
    unfold unknownT
    have h1 : (rawOf g).starts.find? (fun s => !known g.names s) = none := by
      show [g.names.getD g.start.toNat ⟨#[]⟩].find? _ = none
      rw [List.find?_eq_none]
      intro s hs
      obtain rfl : s = g.names.getD g.start.toNat ⟨#[]⟩ := by simpa using hs
      rw [known_of_place (place_at m.ag hst _)]; simp
    rw [h1]
    show (findS (stopN g.names) _ () (flat (rawOf g).defs)).map _ = none
    rw [findS_none (stopN g.names) (fun x hx => ?_)]
    · rfl
    · obtain ⟨r, c, p, hr, hc, hp, e⟩ := mem_flat hx
      rw [e]
      match p, hp with
      | .inl l, _ => rfl
      | .inr (.inl (a, c)), _ => rfl
      | .inr (.inr s), hp =>
        have hs := (good_parts ((m.ru r hr).2.2 c hc) _ hp).1 s rfl
        obtain ⟨i, hi, rfl⟩ := List.getElem_of_mem hs
        have := place_at m.ag hi ⟨#[]⟩
        have this : place g.names g.names[i] = some i := by rwa [List.getD, List.getElem?_eq_getElem hi] at this
        show (decide ((0 : Int) = 0) && !known g.names g.names[i]) = false
        rw [known_of_place this]; rfl
  have hx : crossedT (rawOf g).defs = none := by
    unfold crossedT
    rw [findS_none stopR (fun x hx => ?_)]
    · rfl
    · obtain ⟨r, c, p, hr, hc, hp, e⟩ := mem_flat hx
      rw [e]
      match p, hp with
      | .inl l, _ => rfl
      | .inr (.inl (a, b)), hp =>
        have := (good_parts ((m.ru r hr).2.2 c hc) _ hp).2 a b rfl
        show (decide ((2 : Int) = 2) && decide ((b.toNat : Int) < (a.toNat : Int))) = false
        simp; omega
      | .inr (.inr s), hp => rfl
  have hl : tooLongT (rawOf g).defs = false := by
    unfold tooLongT
    rw [findL_none _ 0 (by rw [widths_all m]; have := m.sy; omega)]; rfl
  simp only [hu, hx, hl, gram_back m, h]
  rfl
end Go.Proofs.Ytopnhbgialbicaa
/- A grammar's text is short enough to be read again. No program in sight. -/
namespace Go.Proofs.Ytopnhbgialbicaa
set_option linter.unusedVariables false

theorem full_add (c : UInt8) : ∀ ps : List Part, (∀ p, p ∈ ps → p ≠ .inl []) → ∀ p, p ∈ addT ps c → p ≠ .inl []
  | [], _, p, hp => by
    obtain rfl : p = .inl [c] := by simpa [addT] using hp
    simp
  | [.inl l], _, p, hp => by
    obtain rfl : p = .inl (l ++ [c]) := by simpa [addT] using hp
    simp
  | [.inr x], h, p, hp => by
    have hp' : p = .inr x ∨ p = .inl [c] := by simpa [addT] using hp
    rcases hp' with rfl | rfl <;> simp
  | q :: r :: ps, h, p, hp => by
    have hp' : p ∈ q :: addT (r :: ps) c := by simpa only [addT] using hp
    rcases List.mem_cons.1 hp' with e | e
    · subst e; exact h _ List.mem_cons_self
    · exact full_add c (r :: ps) (fun x hx => h x (List.mem_cons_of_mem _ hx)) p e
theorem full_fold (names : List ByteArray) : ∀ (l : List Sy) (ps : List Part), (∀ p, p ∈ ps → p ≠ .inl []) → ∀ p, p ∈ l.foldl (symP names) ps → p ≠ .inl []
  | [], ps, h => h
  | s :: l, ps, h => full_fold names l _ (fun p hp => by
    unfold symP at hp
    split at hp
    · rcases List.mem_append.1 hp with e | e
      · exact h p e
      · obtain rfl : p = .inr (.inr (names.getD s.name.toNat ⟨#[]⟩)) := by simpa using e
        simp
    · split at hp
      · rcases List.mem_append.1 hp with e | e
        · exact h p e
        · obtain rfl : p = .inr (.inl (byteOf s.lo, byteOf s.hi)) := by simpa using e
          simp
      · exact full_add _ ps h p hp)
theorem joinN_sum (b : List UInt8) (t : Nat → List UInt8) : ∀ n, (joinN b t n).length ≤ ((List.range n).map fun i => (t i).length + b.length).sum
  | 0 => by simp [joinN]
  | n + 1 => by
    have ih := joinN_sum b t n
    have h3 : (if 0 < n then b else []).length ≤ b.length := by split <;> simp
    rw [List.range_succ, List.map_append, List.sum_append]
    simp only [joinN, List.length_append, List.map_cons, List.map_nil, List.sum_cons, List.sum_nil]
    omega
theorem range_sum {α : Type} (F : α → Nat) (d : α) (l : List α) : ((List.range l.length).map fun i => F (l.getD i d)).sum = (l.map F).sum := by
  have e : (List.range l.length).map (fun k => l.getD k d) = l := by
    apply List.ext_getElem?
    intro i
    rw [List.getElem?_map]
    by_cases h : i < l.length
    · rw [List.getElem?_range h, List.getElem?_eq_getElem h]
      show some (l.getD i d) = _
      rw [List.getD, List.getElem?_eq_getElem h]; rfl
    · rw [List.getElem?_eq_none (by simp; omega), List.getElem?_eq_none (by omega)]; rfl
  conv => rhs; rw [← e]
  rw [List.map_map]; rfl
theorem sum_le {α : Type} {f g : α → Nat} : ∀ {l : List α}, (∀ a, a ∈ l → f a ≤ g a) → (l.map f).sum ≤ (l.map g).sum
  | [], _ => Nat.le_refl _
  | a :: l, h => by
    have := sum_le (l := l) (fun x hx => h x (List.mem_cons_of_mem _ hx))
    have := h a List.mem_cons_self
    simp only [List.map_cons, List.sum_cons]; omega
theorem sum_lin {α : Type} (f : α → Nat) (a b : Nat) : ∀ l : List α, (l.map fun x => a * f x + b).sum = a * (l.map f).sum + b * l.length
  | [] => by simp
  | x :: l => by
    rw [List.map_cons, List.sum_cons, sum_lin f a b l, List.map_cons, List.sum_cons, List.length_cons, Nat.mul_add, Nat.mul_add]
    omega
theorem part_len {g : Gr} (m : Mays g) {p : Part} (hg : GoodP g.names p) (hf : p ≠ .inl []) : (partT p).length + 1 ≤ 33 * width (itemP p) := by
  match p, hg, hf with
  | .inl l, _, hf =>
    have h1 := quoT_len 34 l
    have h0 : l ≠ [] := fun e => hf (by rw [e])
    have h2 : 0 < l.length := List.length_pos_iff.2 h0
    show (quoT 34 l).length + 1 ≤ 33 * (ba l).size
    rw [ba_size]; omega
  | .inr (.inl (a, c)), _, _ =>
    have h1 := quoT_len 39 [a]
    have h2 := quoT_len 39 [c]
    show (quoT 39 [a] ++ [46, 46] ++ quoT 39 [c]).length + 1 ≤ 33 * 1
    simp only [List.length_append, List.length_cons, List.length_nil] at h1 h2 ⊢
    omega
  | .inr (.inr s), hg, _ =>
    have h := (nameMay_parts (m.nm s (hg.1 s rfl))).2.1
    show s.data.toList.length + 1 ≤ 33 * 1
    rw [Array.length_toList]
    have : s.data.size = s.size := rfl
    omega
theorem conj_len {g : Gr} (m : Mays g) {c : Cn} (h : mayRow g.names.length c.seq = true) : (conjT g.names c).length ≤ 33 * c.seq.length + 4 := by
  have hn : (if c.neg then ([126] : List UInt8) else []).length ≤ 1 := by split <;> simp
  have key : (joinN [32] (partAt (partsT g.names c.seq)) (partsT g.names c.seq).length).length ≤ 33 * c.seq.length + 3 := by
    match hs : c.seq with
    | [] => exact (by decide : (joinN [32] (partAt [.inl []]) 1).length ≤ 3)
    | s :: l =>
      rw [← hs]
      refine Nat.le_trans (joinN_sum _ _ _) ?_
      have e1 := range_sum (fun p => (partT p).length + ([32] : List UInt8).length) (.inl []) (partsT g.names c.seq)
      have hp : ∀ p, p ∈ partsT g.names c.seq → (partT p).length + ([32] : List UInt8).length ≤ 33 * width (itemP p) + 0 := fun p hp => by
        refine part_len m (good_parts h p hp) ?_
        have hp' : p ∈ (s :: l).foldl (symP g.names) [] := by rw [hs] at hp; exact hp
        exact full_fold g.names (s :: l) [] (fun p hp => by simp at hp) p hp'
      have e2 := sum_le hp
      rw [sum_lin, widths_row g.names, rowT_parts m.ag h] at e2
      unfold partAt
      rw [e1]; omega
  unfold conjT
  rw [List.length_append]; omega
theorem conjs_len {g : Gr} (m : Mays g) {r : Ru} (hr : r ∈ g.rules) : (conjsT g.names r.conj).length ≤ 33 * symsR r + 56 := by
  refine Nat.le_trans (joinN_sum _ _ _) ?_
  have e1 := range_sum (fun c => (conjT g.names c).length + ([32, 38, 32] : List UInt8).length) ⟨false, []⟩ r.conj
  unfold conjAt
  rw [e1]
  have e2 := sum_le (f := fun c => (conjT g.names c).length + ([32, 38, 32] : List UInt8).length) (g := fun c : Cn => 33 * c.seq.length + 7) (l := r.conj) (fun c hc => by
    have := conj_len m ((m.ru r hr).2.2 c hc)
    show _ + 3 ≤ _
    omega)
  rw [sum_lin] at e2
  have h8 := (m.ru r hr).2.1
  unfold symsR; omega
theorem alts_len {g : Gr} (m : Mays g) {l : List Ru} (hl : ∀ r, r ∈ l → r ∈ g.rules) : (altsT g.names l).length ≤ (l.map fun r => 33 * symsR r + 59).sum := by
  refine Nat.le_trans (joinN_sum _ _ _) ?_
  have e1 := range_sum (fun r : Ru => (conjsT g.names r.conj).length + ([32, 124, 32] : List UInt8).length) ⟨0, []⟩ l
  unfold ruleAt
  rw [e1]
  exact sum_le (fun r hr => by
    have := conjs_len m (hl r hr)
    show _ + 3 ≤ _
    omega)
theorem name_len {g : Gr} (m : Mays g) {k : Nat} (hk : k < g.names.length) : (g.names.getD k ⟨#[]⟩).data.toList.length ≤ 32 := by
  have h := (nameMay_parts (m.nm _ (getD_mem ⟨#[]⟩ hk))).2.1
  rw [Array.length_toList]; exact h
theorem defs_len {g : Gr} (m : Mays g) : ∀ k, k ≤ g.names.length → (defsT g.names g.rules k).length ≤ 37 * k + ((List.range k).map fun i => ((rulesOfT g.rules i).map fun r => 33 * symsR r + 59).sum).sum
  | 0, _ => by simp [defsT]
  | k + 1, hk => by
    have ih := defs_len m k (by omega)
    have h1 := alts_len m (l := rulesOfT g.rules k) (fun r hr => (List.mem_filter.1 hr).1)
    have h2 := name_len m (k := k) (by omega)
    rw [List.range_succ, List.map_append, List.sum_append]
    simp only [defsT, defT, List.length_append, List.length_cons, List.length_nil, List.map_cons, List.map_nil, List.sum_cons, List.sum_nil]
    omega
theorem show_len {g : Gr} (h : mayG g = true) : (showL g).length ≤ 65536 := by
  have m := mays h
  have h1 := defs_len m g.names.length (Nat.le_refl _)
  rw [← sum_flatMap, rules_back m, sum_lin] at h1
  have h2 := name_len m (k := g.start.toNat) (by have := m.st; omega)
  have h3 := m.n2
  have h4 := m.r2
  have h5 := m.sy
  simp only [showL, List.length_append, List.length_cons, List.length_nil]
  omega
theorem rules_ne {g : Gr} (m : Mays g) : ∀ k, k < g.names.length → rulesOfT g.rules k ≠ [] := fun k hk e => by
  obtain ⟨r, hr, hh⟩ := heads_all _ _ _ m.hd (k : Int) (by omega) (by omega)
  have : r ∈ rulesOfT g.rules k := List.mem_filter.2 ⟨hr, by simpa using hh⟩
  rw [e] at this; simp at this
/-- A grammar's text declares it. -/
theorem parse_back {g : Gr} (h : mayG g = true) : parseT (showT g) = .ok (rawOf g) := by
  have m := mays h
  have hz : (showT g).size ≤ 65536 := by
    show (ba (showL g)).size ≤ _
    rw [ba_size]; exact show_len h
  obtain ⟨toks, h1, h2⟩ := tells_show g (by have := m.st; omega) m.nm (fun r hr c hc => parts_ok m hr hc)
  obtain ⟨p, h3, h4, h5, h6⟩ := feed_show g (fun r hr e => by have := (m.ru r hr).1; rw [e] at this; simp at this) (rules_ne m)
  rw [← h2] at h3
  have h7 := feed_st toks pm0 p h3
  have h8 : lexT (showT g) = .ok toks := h1.out hz
  rw [parseT, if_neg (by omega), h8]
  show shutP (showT g).size (feed pm0 toks) = _
  rw [h7]
  unfold shutP
  simp only [h4, h5, h6, if_pos]
/-- Two grammars of one text are one. -/
theorem show_inj {g h : Gr} (hg : mayG g = true) (hh : mayG h = true) (e : showT g = showT h) : g = h := by
  have e1 := parse_back hg
  rw [e, parse_back hh] at e1
  injection e1 with e1
  have e2 := build_back hh
  rw [e1, build_back hg] at e2
  injection e2
end Go.Proofs.Ytopnhbgialbicaa
