/- The tokens of a text that stands behind another one are its own, so many places on. No program in sight. -/
import Derived.Test.YtjfdgdjfgiifeaaLexTok
namespace Go.Proofs.Ytjfdgdjfgiifeaa

def Tok.sh (d : Nat) (t : Tok) : Tok := ⟨t.kind, t.pl + d, t.text, t.lo, t.hi⟩
def Res.sh (d : Nat) : Res → Res
  | .ok l => .ok (l.map (Tok.sh d))
  | .error (p, e) => .error (p + d, e)
def Got.sh (d : Nat) : Got → Got
  | .ok (t, to) => .ok (t.sh d, to + d)
  | .error e => .error e
def osh {α : Type} (d : Nat) : Option (α × Nat) → Option (α × Nat)
  | none => none
  | some (c, t) => some (c, t + d)
theorem Res.sh_cons (d : Nat) (t : Tok) (r : Res) : Res.sh d (Res.cons t r) = Res.cons (t.sh d) (Res.sh d r) := by
  cases r with
  | ok l => rfl
  | error e => rfl
theorem Res.sh_pre (d : Nat) (l : List Tok) (r : Res) : Res.sh d (Res.pre l r) = Res.pre (l.map (Tok.sh d)) (Res.sh d r) := by
  cases r with
  | ok m => simp [Res.pre, Res.sh]
  | error e => rfl
theorem Res.sh_sh (d c : Nat) (r : Res) : Res.sh d (Res.sh c r) = Res.sh (c + d) r := by
  cases r with
  | ok l => simp [Res.sh, Tok.sh, Nat.add_assoc]
  | error e => simp [Res.sh, Nat.add_assoc]
theorem Res.sh_zero (r : Res) : Res.sh 0 r = r := by
  cases r with
  | ok l => simp only [Res.sh]; congr 1; induction l with
    | nil => rfl
    | cons t l ih => rw [List.map_cons, ih]; rfl
  | error e => rfl
theorem Res.pre_pre (l m : List Tok) (r : Res) : Res.pre l (Res.pre m r) = Res.pre (l ++ m) r := by
  cases r with
  | ok x => simp [Res.pre]
  | error e => rfl

theorem skipS_sh (b b' : Nat → Int) (d n : Nat) (hb : ∀ j, b' (j + d) = b j) : ∀ f c k, skipS b' (n + d) f c (k + d) = skipS b n f c k + d
  | 0, c, k => by cases c <;> rfl
  | f + 1, true, k => by
    show (if b' (k + d) = 10 then skipS b' (n + d) f false (k + d + 1) else skipS b' (n + d) f true (k + d + 1)) = (if b k = 10 then skipS b n f false (k + 1) else skipS b n f true (k + 1)) + d
    rw [hb, show k + d + 1 = k + 1 + d by omega, skipS_sh b b' d n hb f false (k + 1), skipS_sh b b' d n hb f true (k + 1)]
    split <;> rfl
  | f + 1, false, k => by
    show (if b' (k + d) = 35 then skipS b' (n + d) f true (k + d + 1) else if b' (k + d) = 9 ∨ b' (k + d) = 10 ∨ b' (k + d) = 13 ∨ b' (k + d) = 32 then skipS b' (n + d) f false (k + d + 1) else k + d) = (if b k = 35 then skipS b n f true (k + 1) else if b k = 9 ∨ b k = 10 ∨ b k = 13 ∨ b k = 32 then skipS b n f false (k + 1) else k) + d
    rw [hb, show k + d + 1 = k + 1 + d by omega, skipS_sh b b' d n hb f false (k + 1), skipS_sh b b' d n hb f true (k + 1)]
    split
    · rfl
    · split <;> rfl
theorem skp_sh {b b' : Nat → Int} {d : Nat} (hb : ∀ j, b' (j + d) = b j) (n : Nat) (c : Bool) (k : Nat) : skp b' (n + d) c (k + d) = skp b n c k + d := by
  unfold skp
  rw [show n + d - (k + d) = n - k by omega]
  exact skipS_sh b b' d n hb _ c k
theorem nameS_sh (b b' : Nat → Int) (d : Nat) (hb : ∀ j, b' (j + d) = b j) : ∀ f k, nameS b' f (k + d) = nameS b f k + d
  | 0, k => rfl
  | f + 1, k => by
    show (if letB (b' (k + d)) || digB (b' (k + d)) then nameS b' f (k + d + 1) else k + d) = (if letB (b k) || digB (b k) then nameS b f (k + 1) else k) + d
    rw [hb, show k + d + 1 = k + 1 + d by omega, nameS_sh b b' d hb f (k + 1)]
    split <;> rfl
theorem nameE_sh {b b' : Nat → Int} {d : Nat} (hb : ∀ j, b' (j + d) = b j) (n k : Nat) : nameE b' (n + d) (k + d) = nameE b n k + d := by
  unfold nameE
  rw [show n + d - (k + d) = n - k by omega]
  exact nameS_sh b b' d hb _ k
theorem cut_sh {b b' : Nat → Int} {d : Nat} (hb : ∀ j, b' (j + d) = b j) (k e : Nat) : cut b' (k + d) (e + d) = cut b k e := by
  unfold cut
  rw [show e + d - (k + d) = e - k by omega]
  apply List.map_congr_left
  intro j _
  show b' (k + d + j) = b (k + j)
  rw [show k + d + j = k + j + d by omega, hb]
theorem signF_sh {b b' : Nat → Int} {d : Nat} (hb : ∀ j, b' (j + d) = b j) (n k : Nat) (q : Int) : signF b' (n + d) (k + d) q = osh d (signF b n k q) := by
  have e0 := hb k
  have e1 : b' (k + d + 1) = b (k + 1) := by rw [← hb (k + 1), show k + 1 + d = k + d + 1 by omega]
  have e2 : b' (k + d + 2) = b (k + 2) := by rw [← hb (k + 2), show k + 2 + d = k + d + 2 by omega]
  have e3 : b' (k + d + 3) = b (k + 3) := by rw [← hb (k + 3), show k + 3 + d = k + d + 3 by omega]
  unfold signF
  rw [e0, e1, e2, e3]
  simp only [show (n + d ≤ k + d) ↔ (n ≤ k) by omega, show (n + d ≤ k + d + 1) ↔ (n ≤ k + 1) by omega, show (n + d ≤ k + d + 3) ↔ (n ≤ k + 3) by omega]
  by_cases h1 : n ≤ k ∨ b k < 32 ∨ 126 < b k ∨ b k = q
  · rw [if_pos h1, if_pos h1]; rfl
  · rw [if_neg h1, if_neg h1]
    by_cases h2 : b k ≠ 92
    · rw [if_pos h2, if_pos h2]; show _ = some _; rw [show k + 1 + d = k + d + 1 by omega]
    · rw [if_neg h2, if_neg h2]
      by_cases h3 : n ≤ k + 1
      · rw [if_pos h3, if_pos h3]; rfl
      · rw [if_neg h3, if_neg h3]
        by_cases h4 : b (k + 1) = 92 ∨ b (k + 1) = 34 ∨ b (k + 1) = 39
        · rw [if_pos h4, if_pos h4]; show _ = some _; rw [show k + 2 + d = k + d + 2 by omega]
        · rw [if_neg h4, if_neg h4]
          by_cases h5 : b (k + 1) ≠ 120 ∨ n ≤ k + 3 ∨ hexF (b (k + 2)) < 0 ∨ hexF (b (k + 3)) < 0
          · rw [if_pos h5, if_pos h5]; rfl
          · rw [if_neg h5, if_neg h5]; show _ = some _; rw [show k + 4 + d = k + d + 4 by omega]
theorem textS_sh (b b' : Nat → Int) (d n : Nat) (hb : ∀ j, b' (j + d) = b j) : ∀ f k acc, textS b' (n + d) f (k + d) acc = osh d (textS b n f k acc)
  | 0, _, _ => rfl
  | f + 1, k, acc => by
    show (if k + d < n + d ∧ b' (k + d) = 34 then some (acc, k + d + 1) else match signF b' (n + d) (k + d) 34 with
      | none => none
      | some (c, to) => textS b' (n + d) f to (acc ++ [c])) = osh d (if k < n ∧ b k = 34 then some (acc, k + 1) else match signF b n k 34 with
      | none => none
      | some (c, to) => textS b n f to (acc ++ [c]))
    rw [hb, signF_sh hb]
    simp only [show (k + d < n + d) ↔ (k < n) by omega]
    by_cases h : k < n ∧ b k = 34
    · rw [if_pos h, if_pos h]; show _ = some _; rw [show k + 1 + d = k + d + 1 by omega]
    · rw [if_neg h, if_neg h]
      cases signF b n k 34 with
      | none => rfl
      | some x => exact textS_sh b b' d n hb f x.2 (acc ++ [x.1])
theorem textF_sh {b b' : Nat → Int} {d : Nat} (hb : ∀ j, b' (j + d) = b j) (n k : Nat) (acc : List Int) : textF b' (n + d) (k + d) acc = osh d (textF b n k acc) := by
  unfold textF
  rw [show n + d + 1 - (k + d) = n + 1 - k by omega]
  exact textS_sh b b' d n hb _ k acc
theorem half_sh {b b' : Nat → Int} {d : Nat} (hb : ∀ j, b' (j + d) = b j) (n k : Nat) : half b' (n + d) (k + d) = osh d (half b n k) := by
  unfold half
  rw [signF_sh hb]
  cases signF b n k 39 with
  | none => rfl
  | some x =>
    obtain ⟨c, to⟩ := x
    show (if n + d ≤ to + d ∨ b' (to + d) ≠ 39 then none else some (c, to + d + 1)) = osh d (if n ≤ to ∨ b to ≠ 39 then none else some (c, to + 1))
    rw [hb]
    simp only [show (n + d ≤ to + d) ↔ (n ≤ to) by omega]
    split
    · rfl
    · show _ = some _; rw [show to + 1 + d = to + d + 1 by omega]
theorem oneF_sh {b b' : Nat → Int} {d : Nat} (hb : ∀ j, b' (j + d) = b j) (n k : Nat) : oneF b' (n + d) (k + d) = osh d (oneF b n k) := by
  rw [oneF_half, oneF_half, hb, show k + d + 1 = k + 1 + d by omega, half_sh hb]
  simp only [show (n + d ≤ k + d) ↔ (n ≤ k) by omega]
  split <;> rfl
theorem dotsB_sh {b b' : Nat → Int} {d : Nat} (hb : ∀ j, b' (j + d) = b j) (n k : Nat) : dotsB b' (n + d) (k + d) = dotsB b n k := by
  unfold dotsB
  rw [hb, show k + d + 1 = k + 1 + d by omega, hb]
  simp only [show (k + 1 + d < n + d) ↔ (k + 1 < n) by omega]
theorem rangeG_sh {b b' : Nat → Int} {d : Nat} (hb : ∀ j, b' (j + d) = b j) (n k : Nat) : rangeG b' (n + d) (k + d) = Got.sh d (rangeG b n k) := by
  unfold rangeG rangeF
  rw [show k + d + 1 = k + 1 + d by omega, half_sh hb]
  cases half b n (k + 1) with
  | none => rfl
  | some x =>
    obtain ⟨c, to⟩ := x
    simp only [osh, dots, dotsB_sh hb, show to + d + 2 = to + 2 + d by omega, oneF_sh hb]
    by_cases h : dotsB b n to = true
    · simp only [if_pos h]
      cases oneF b n (to + 2) with
      | none => rfl
      | some y => rfl
    · simp only [if_neg h]; rfl
theorem textG_sh {b b' : Nat → Int} {d : Nat} (hb : ∀ j, b' (j + d) = b j) (n k : Nat) : textG b' (n + d) (k + d) = Got.sh d (textG b n k) := by
  unfold textG
  rw [show k + d + 1 = k + 1 + d by omega, textF_sh hb]
  cases textF b n (k + 1) [] with
  | none => rfl
  | some x => rfl
theorem nameT_sh (d k : Nat) (l : List Int) : nameT (k + d) l = (nameT k l).sh d := by
  unfold nameT; split <;> rfl
theorem nameG_sh {b b' : Nat → Int} {d : Nat} (hb : ∀ j, b' (j + d) = b j) (n k : Nat) : nameG b' (n + d) (k + d) = Got.sh d (nameG b n k) := by
  unfold nameG
  rw [nameE_sh hb, cut_sh hb, nameT_sh, show nameE b n k + d - (k + d) = nameE b n k - k by omega]
  split <;> rfl
theorem tokF_sh {b b' : Nat → Int} {d : Nat} (hb : ∀ j, b' (j + d) = b j) (n k : Nat) : tokF b' (n + d) (k + d) = Got.sh d (tokF b n k) := by
  unfold tokF
  rw [hb, nameG_sh hb, textG_sh hb, rangeG_sh hb]
  split
  · rfl
  · split
    · rfl
    · split
      · rfl
      · split
        · show Except.ok _ = Except.ok _; rw [show k + 1 + d = k + d + 1 by omega]; rfl
        · rfl
theorem lexS_sh (b b' : Nat → Int) (d n : Nat) (hb : ∀ j, b' (j + d) = b j) : ∀ f k, lexS b' (n + d) f (k + d) = Res.sh d (lexS b n f k)
  | 0, _ => rfl
  | f + 1, k => by
    show (if n + d ≤ skp b' (n + d) false (k + d) then _ else match tokF b' (n + d) (skp b' (n + d) false (k + d)) with
      | .ok (t, to) => Res.cons t (lexS b' (n + d) f to)
      | .error true => .error (skp b' (n + d) false (k + d), 201)
      | .error false => .error (skp b' (n + d) false (k + d), 200)) = Res.sh d (if n ≤ skp b n false k then _ else match tokF b n (skp b n false k) with
      | .ok (t, to) => Res.cons t (lexS b n f to)
      | .error true => .error (skp b n false k, 201)
      | .error false => .error (skp b n false k, 200))
    rw [skp_sh hb, tokF_sh hb]
    simp only [show (n + d ≤ skp b n false k + d) ↔ (n ≤ skp b n false k) by omega]
    split
    · rfl
    · rcases tokF b n (skp b n false k) with (_ | _) | ⟨t, to⟩
      · rfl
      · rfl
      · show Res.cons (t.sh d) (lexS b' (n + d) f (to + d)) = _
        rw [lexS_sh b b' d n hb f to, ← Res.sh_cons]
theorem lexK_sh {b b' : Nat → Int} {d : Nat} (hb : ∀ j, b' (j + d) = b j) (n k : Nat) : lexK b' (n + d) (k + d) = Res.sh d (lexK b n k) := by
  unfold lexK
  rw [show n + d + 1 - (k + d) = n + 1 - k by omega]
  exact lexS_sh b b' d n hb _ k
end Go.Proofs.Ytjfdgdjfgiifeaa
