import Derived.WalkKit
import Derived.PlainAid
/- Plain functions of the notation's tokens: letters, digits, marks, one byte of a text. No program in sight. -/
namespace Go.Proofs.Ytopokicdgdjgkaa

def letB (c : Int) : Bool := (decide (97 ≤ c) && decide (c ≤ 122)) || (decide (65 ≤ c) && decide (c ≤ 90)) || decide (c = 95)
def digB (c : Int) : Bool := decide (48 ≤ c) && decide (c ≤ 57)
def hexF (c : Int) : Int := if digB c then c - 48 else if decide (97 ≤ c) && decide (c ≤ 102) then c - 87 else -1
def markF (c : Int) : Int := if c = 61 then 4 else if c = 124 then 5 else if c = 38 then 6 else if c = 126 then 7 else if c = 59 then 8 else 0
theorem hexF_le (c : Int) : -1 ≤ hexF c ∧ hexF c ≤ 15 := by
  unfold hexF digB
  split
  · rename_i h; simp at h; omega
  · split
    · rename_i h; simp at h; omega
    · omega

/-- One byte of a text or a range at a place: it, and the place behind. -/
def signF (b : Nat → Int) (n k : Nat) (q : Int) : Option (Int × Nat) :=
  if n ≤ k ∨ b k < 32 ∨ 126 < b k ∨ b k = q then none
  else if b k ≠ 92 then some (b k, k + 1)
  else if n ≤ k + 1 then none
  else if b (k + 1) = 92 ∨ b (k + 1) = 34 ∨ b (k + 1) = 39 then some (b (k + 1), k + 2)
  else if b (k + 1) ≠ 120 ∨ n ≤ k + 3 ∨ hexF (b (k + 2)) < 0 ∨ hexF (b (k + 3)) < 0 then none
  else some (16 * hexF (b (k + 2)) + hexF (b (k + 3)), k + 4)
def signV : Option (Int × Nat) → Int × Int
  | none => (-1, 0)
  | some (c, k) => (c, (k : Int))

/-- What stands between tokens, byte by byte; c: within a comment. -/
def skipS (b : Nat → Int) (n : Nat) : Nat → Bool → Nat → Nat
  | 0, _, k => k
  | f + 1, true, k => if b k = 10 then skipS b n f false (k + 1) else skipS b n f true (k + 1)
  | f + 1, false, k => if b k = 35 then skipS b n f true (k + 1) else if b k = 9 ∨ b k = 10 ∨ b k = 13 ∨ b k = 32 then skipS b n f false (k + 1) else k
def skp (b : Nat → Int) (n : Nat) (c : Bool) (k : Nat) : Nat := skipS b n (n - k) c k

theorem skp_end (b : Nat → Int) (n : Nat) (c : Bool) (k : Nat) (h : n ≤ k) : skp b n c k = k := by
  unfold skp; rw [show n - k = 0 by omega]; cases c <;> rfl
theorem skp_true (b : Nat → Int) (n k : Nat) (h : k < n) : skp b n true k = if b k = 10 then skp b n false (k + 1) else skp b n true (k + 1) := by
  unfold skp; rw [show n - k = (n - (k + 1)) + 1 by omega]; rfl
theorem skp_false (b : Nat → Int) (n k : Nat) (h : k < n) : skp b n false k = if b k = 35 then skp b n true (k + 1) else if b k = 9 ∨ b k = 10 ∨ b k = 13 ∨ b k = 32 then skp b n false (k + 1) else k := by
  unfold skp; rw [show n - k = (n - (k + 1)) + 1 by omega]; rfl

theorem signF_some {b : Nat → Int} {n k : Nat} {q c : Int} {to : Nat} (hb : ∀ j, 0 ≤ b j ∧ b j ≤ 255) (h : signF b n k q = some (c, to)) : 0 ≤ c ∧ c ≤ 255 ∧ k < to ∧ to ≤ n := by
  have hx := fun x => hexF_le x
  unfold signF at h
  by_cases h1 : n ≤ k ∨ b k < 32 ∨ 126 < b k ∨ b k = q
  · rw [if_pos h1] at h; cases h
  · rw [if_neg h1] at h
    by_cases h2 : b k ≠ 92
    · rw [if_pos h2] at h
      injection h with h; injection h with e1 e2
      have := hb k
      omega
    · rw [if_neg h2] at h
      by_cases h3 : n ≤ k + 1
      · rw [if_pos h3] at h; cases h
      · rw [if_neg h3] at h
        by_cases h4 : b (k + 1) = 92 ∨ b (k + 1) = 34 ∨ b (k + 1) = 39
        · rw [if_pos h4] at h
          injection h with h; injection h with e1 e2
          have := hb (k + 1)
          omega
        · rw [if_neg h4] at h
          by_cases h5 : b (k + 1) ≠ 120 ∨ n ≤ k + 3 ∨ hexF (b (k + 2)) < 0 ∨ hexF (b (k + 3)) < 0
          · rw [if_pos h5] at h; cases h
          · rw [if_neg h5] at h
            injection h with h; injection h with e1 e2
            have := hx (b (k + 2))
            have := hx (b (k + 3))
            omega

/-- A byte in its quotes at a place: it, and the place behind. -/
def oneF (b : Nat → Int) (n k : Nat) : Option (Int × Nat) :=
  if n ≤ k ∨ b k ≠ 39 then none
  else match signF b n (k + 1) 39 with
    | none => none
    | some (c, to) => if n ≤ to ∨ b to ≠ 39 then none else some (c, to + 1)
def oneV : Option (Int × Nat) → Int × Int
  | none => (0, -1)
  | some (c, k) => (c, (k : Int))
end Go.Proofs.Ytopokicdgdjgkaa
/- The tokens of a text, as plain functions of its bytes. No program in sight. -/
namespace Go.Proofs.Ytopokicdgdjgkaa

structure Tok where
  kind : Nat
  pl : Nat
  text : ByteArray
  lo : Int
  hi : Int

def strOf (l : List Int) : ByteArray := ⟨(l.map fun n => UInt8.ofNat n.toNat).toArray⟩

/-- Where a name ends. -/
def nameS (b : Nat → Int) : Nat → Nat → Nat
  | 0, k => k
  | f + 1, k => if letB (b k) || digB (b k) then nameS b f (k + 1) else k
def nameE (b : Nat → Int) (n k : Nat) : Nat := nameS b (n - k) k
theorem nameE_end (b : Nat → Int) (n k : Nat) (h : n ≤ k) : nameE b n k = k := by
  unfold nameE; rw [show n - k = 0 by omega]; rfl
theorem nameE_in (b : Nat → Int) (n k : Nat) (h : k < n) (hl : (letB (b k) || digB (b k)) = true) : nameE b n k = nameE b n (k + 1) := by
  unfold nameE; rw [show n - k = (n - (k + 1)) + 1 by omega]; show (if _ then _ else _) = _; rw [if_pos hl]
theorem nameE_out (b : Nat → Int) (n k : Nat) (h : k < n) (hl : (letB (b k) || digB (b k)) = false) : nameE b n k = k := by
  unfold nameE; rw [show n - k = (n - (k + 1)) + 1 by omega]; show (if _ then _ else _) = _; rw [if_neg (by rw [hl]; simp)]
theorem nameS_ge (b : Nat → Int) : ∀ f k, k ≤ nameS b f k ∧ nameS b f k ≤ k + f
  | 0, k => ⟨Nat.le_refl _, Nat.le_refl _⟩
  | f + 1, k => by
    show k ≤ (if _ then _ else _) ∧ (if _ then _ else _) ≤ _
    split
    · have := nameS_ge b f (k + 1); omega
    · omega
theorem nameE_ge (b : Nat → Int) (n k : Nat) : k ≤ nameE b n k := (nameS_ge b _ k).1
theorem nameE_le (b : Nat → Int) (n k : Nat) (h : k ≤ n) : nameE b n k ≤ n := by have := (nameS_ge b (n - k) k).2; unfold nameE; omega

/-- The bytes from k up to e. -/
def cut (b : Nat → Int) (k e : Nat) : List Int := (List.range (e - k)).map fun j => b (k + j)
theorem cut_len (b : Nat → Int) (k e : Nat) : (cut b k e).length = e - k := by simp [cut]
theorem cut_nil (b : Nat → Int) (k : Nat) : cut b k k = [] := by simp [cut]
theorem cut_cons (b : Nat → Int) (k e : Nat) (h : k < e) : cut b k e = b k :: cut b (k + 1) e := by
  unfold cut
  rw [show e - k = (e - (k + 1)) + 1 by omega, List.range_succ_eq_map, List.map_cons, List.map_map]
  congr 1
  apply List.map_congr_left
  intro j _
  show b (k + (j + 1)) = b (k + 1 + j)
  rw [show k + (j + 1) = k + 1 + j by omega]

def startB : ByteArray := ⟨#[115, 116, 97, 114, 116]⟩
def isStart (l : List Int) : Bool := (strOf l).toList == startB.toList
def nameT (k : Nat) (l : List Int) : Tok := if isStart l = true then ⟨3, k, ⟨#[]⟩, 0, 0⟩ else ⟨0, k, strOf l, 0, 0⟩

/-- What stands in a text from k on, behind acc. -/
def textS (b : Nat → Int) (n : Nat) : Nat → Nat → List Int → Option (List Int × Nat)
  | 0, _, _ => none
  | f + 1, k, acc => if k < n ∧ b k = 34 then some (acc, k + 1) else
    match signF b n k 34 with
    | none => none
    | some (c, to) => textS b n f to (acc ++ [c])
def textF (b : Nat → Int) (n k : Nat) (acc : List Int) : Option (List Int × Nat) := textS b n (n + 1 - k) k acc

theorem signF_to {b : Nat → Int} {n k : Nat} {q c : Int} {to : Nat} (h : signF b n k q = some (c, to)) : k < to ∧ to ≤ n := by
  unfold signF at h
  split at h
  · cases h
  · split at h
    · injection h with h; injection h with e1 e2; omega
    · split at h
      · cases h
      · split at h
        · injection h with h; injection h with e1 e2; omega
        · split at h
          · cases h
          · injection h with h; injection h with e1 e2; omega

theorem textS_more (b : Nat → Int) (n : Nat) : ∀ f g k acc, n + 1 - k ≤ f → n + 1 - k ≤ g → k ≤ n → textS b n f k acc = textS b n g k acc
  | 0, _, k, _, h, _, hk => by omega
  | _, 0, k, _, _, h, hk => by omega
  | f + 1, g + 1, k, acc, hf, hg, hk => by
    show (if _ then _ else _) = (if _ then _ else _)
    split
    · rfl
    · split
      · rfl
      · rename_i c to hs
        have := signF_to hs
        exact textS_more b n f g to _ (by omega) (by omega) (by omega)
theorem textF_eq (b : Nat → Int) (n k : Nat) (acc : List Int) (hk : k ≤ n) : textF b n k acc = if k < n ∧ b k = 34 then some (acc, k + 1) else
    match signF b n k 34 with
    | none => none
    | some (c, to) => textF b n to (acc ++ [c]) := by
  unfold textF
  rw [show n + 1 - k = (n - k) + 1 by omega]
  show (if _ then _ else _) = _
  split
  · rfl
  · split
    · rfl
    · rename_i c to hs
      have := signF_to hs
      exact textS_more b n _ _ to _ (by omega) (by omega) (by omega)
theorem textS_to (b : Nat → Int) (n : Nat) : ∀ f k acc l to, textS b n f k acc = some (l, to) → k < to ∧ to ≤ n
  | 0, _, _, _, _, h => by cases h
  | f + 1, k, acc, l, to, h => by
    have h' : (if k < n ∧ b k = 34 then some (acc, k + 1) else match signF b n k 34 with
      | none => none
      | some (c, to) => textS b n f to (acc ++ [c])) = some (l, to) := h
    split at h'
    · injection h' with h'; injection h' with e1 e2; omega
    · split at h'
      · cases h'
      · rename_i c t hs
        have h1 := signF_to hs
        have := textS_to b n f t _ l to h'
        omega
theorem textF_to {b : Nat → Int} {n k : Nat} {acc l : List Int} {to : Nat} (h : textF b n k acc = some (l, to)) : k < to ∧ to ≤ n := textS_to b n _ _ _ _ _ h

/-- One end of a range, from behind its first quote on. -/
def half (b : Nat → Int) (n k : Nat) : Option (Int × Nat) :=
  match signF b n k 39 with
  | none => none
  | some (c, to) => if n ≤ to ∨ b to ≠ 39 then none else some (c, to + 1)
theorem half_to {b : Nat → Int} {n k : Nat} {c : Int} {to : Nat} (h : half b n k = some (c, to)) : k + 1 < to ∧ to ≤ n := by
  unfold half at h
  split at h
  · cases h
  · rename_i c' t hs
    have := signF_to hs
    split at h
    · cases h
    · injection h with h; injection h with e1 e2; omega
theorem oneF_half (b : Nat → Int) (n k : Nat) : oneF b n k = if n ≤ k ∨ b k ≠ 39 then none else half b n (k + 1) := rfl
def dotsB (b : Nat → Int) (n k : Nat) : Bool := decide (k + 1 < n) && (decide (b k = 46) && decide (b (k + 1) = 46))
abbrev dots (b : Nat → Int) (n k : Nat) : Prop := dotsB b n k = true
theorem dots_parts {b : Nat → Int} {n k : Nat} (h : dots b n k) : k + 1 < n ∧ b k = 46 ∧ b (k + 1) = 46 := by
  simpa only [dots, dotsB, Bool.and_eq_true, decide_eq_true_eq] using h
theorem dots_mk {b : Nat → Int} {n k : Nat} (h : k + 1 < n ∧ b k = 46 ∧ b (k + 1) = 46) : dots b n k := by
  simpa only [dots, dotsB, Bool.and_eq_true, decide_eq_true_eq] using h

/-- A range, from behind its first quote on. -/
def rangeF (b : Nat → Int) (n k : Nat) : Option (Int × Int × Nat) :=
  match half b n k with
  | none => none
  | some (c, to) => if dots b n to then
      match oneF b n (to + 2) with
      | none => none
      | some (d, to2) => some (c, d, to2)
    else some (c, c, to)

/-- A token and the place behind it; true: no text, no range, too long a name; false: a byte that begins no token. -/
abbrev Got := Except Bool (Tok × Nat)
abbrev Got.tok (t : Tok) (to : Nat) : Got := .ok (t, to)
abbrev Got.noText : Got := .error true
abbrev Got.noByte : Got := .error false
theorem got_inj {t t' : Tok} {to to' : Nat} (h : Got.tok t to = Got.tok t' to') : t = t' ∧ to = to' := by
  injection h with h; injection h with e1 e2; exact ⟨e1, e2⟩

def nameG (b : Nat → Int) (n k : Nat) : Got := if 32 < nameE b n k - k then .noText else .tok (nameT k (cut b k (nameE b n k))) (nameE b n k)
def textG (b : Nat → Int) (n k : Nat) : Got := match textF b n (k + 1) [] with
  | none => .noText
  | some (l, to) => .tok ⟨1, k, strOf l, 0, 0⟩ to
def rangeG (b : Nat → Int) (n k : Nat) : Got := match rangeF b n (k + 1) with
  | none => .noText
  | some (c, d, to) => .tok ⟨2, k, ⟨#[]⟩, c, d⟩ to
/-- The token that begins at k. -/
def tokF (b : Nat → Int) (n k : Nat) : Got :=
  if letB (b k) then nameG b n k
  else if b k = 34 then textG b n k
  else if b k = 39 then rangeG b n k
  else if 0 < markF (b k) then .tok ⟨(markF (b k)).toNat, k, ⟨#[]⟩, 0, 0⟩ (k + 1)
  else .noByte

abbrev Res := Except (Nat × Nat) (List Tok)
def Res.cons (t : Tok) : Res → Res
  | .ok l => .ok (t :: l)
  | .error e => .error e
def Res.pre : List Tok → Res → Res
  | l, .ok m => .ok (l ++ m)
  | _, .error e => .error e

def lexS (b : Nat → Int) (n : Nat) : Nat → Nat → Res
  | 0, _ => .ok []
  | f + 1, k => if n ≤ skp b n false k then .ok [] else
    match tokF b n (skp b n false k) with
    | .ok (t, to) => Res.cons t (lexS b n f to)
    | .error true => .error (skp b n false k, 201)
    | .error false => .error (skp b n false k, 200)
def lexK (b : Nat → Int) (n k : Nat) : Res := lexS b n (n + 1 - k) k
def lexB (b : Nat → Int) (n : Nat) : Res := if 65536 < n then .error (0, 201) else lexK b n 0
def lexT (s : ByteArray) : Res := lexB (PlainAid.bt s) s.size

theorem skipS_ge (b : Nat → Int) (n : Nat) : ∀ f c k, k ≤ skipS b n f c k ∧ skipS b n f c k ≤ k + f
  | 0, c, k => by cases c <;> exact ⟨Nat.le_refl _, Nat.le_refl _⟩
  | f + 1, true, k => by
    show k ≤ (if _ then _ else _) ∧ (if _ then _ else _) ≤ _
    have h1 := skipS_ge b n f true (k + 1)
    have h2 := skipS_ge b n f false (k + 1)
    split <;> omega
  | f + 1, false, k => by
    show k ≤ (if _ then _ else (if _ then _ else _)) ∧ (if _ then _ else (if _ then _ else _)) ≤ _
    have h1 := skipS_ge b n f true (k + 1)
    have h2 := skipS_ge b n f false (k + 1)
    split
    · omega
    · split <;> omega
theorem skp_ge (b : Nat → Int) (n : Nat) (c : Bool) (k : Nat) : k ≤ skp b n c k := (skipS_ge b n _ c k).1
theorem skp_le (b : Nat → Int) (n : Nat) (c : Bool) (k : Nat) (h : k ≤ n) : skp b n c k ≤ n := by have := (skipS_ge b n (n - k) c k).2; unfold skp; omega

theorem nameE_gt {b : Nat → Int} {n k : Nat} (h : k < n) (hl : letB (b k) = true) : k < nameE b n k := by
  rw [nameE_in b n k h (by rw [hl]; rfl)]; have := nameE_ge b n (k + 1); omega
theorem rangeF_to {b : Nat → Int} {n k : Nat} {c d : Int} {to : Nat} (h : rangeF b n k = some (c, d, to)) : k < to ∧ to ≤ n := by
  unfold rangeF at h
  split at h
  · cases h
  · rename_i c' t hs
    have h1 := half_to hs
    split at h
    · split at h
      · cases h
      · rename_i d' t2 ho
        rw [oneF_half] at ho
        split at ho
        · cases ho
        · have := half_to ho
          injection h with h; injection h with e1 e2; injection e2 with e2 e3; omega
    · injection h with h; injection h with e1 e2; injection e2 with e2 e3; omega
theorem tokF_to {b : Nat → Int} {n k : Nat} {t : Tok} {to : Nat} (hk : k < n) (h : tokF b n k = .tok t to) : k < to ∧ to ≤ n := by
  unfold tokF at h
  split at h
  · rename_i hl
    unfold nameG at h
    split at h
    · cases h
    · obtain ⟨e1, e2⟩ := got_inj h
      have := nameE_gt hk hl
      have := nameE_le b n k (by omega)
      omega
  · split at h
    · unfold textG at h
      split at h
      · cases h
      · rename_i l t' hs
        have := textF_to hs
        obtain ⟨e1, e2⟩ := got_inj h
        omega
    · split at h
      · unfold rangeG at h
        split at h
        · cases h
        · rename_i c d t' hs
          have := rangeF_to hs
          obtain ⟨e1, e2⟩ := got_inj h
          omega
      · split at h
        · obtain ⟨e1, e2⟩ := got_inj h; omega
        · cases h

theorem lexS_more (b : Nat → Int) (n : Nat) : ∀ f g k, n + 1 - k ≤ f → n + 1 - k ≤ g → k ≤ n → lexS b n f k = lexS b n g k
  | 0, _, k, h, _, hk => by omega
  | _, 0, k, _, h, hk => by omega
  | f + 1, g + 1, k, hf, hg, hk => by
    show (if _ then _ else _) = (if _ then _ else _)
    split
    · rfl
    · rename_i hn
      split
      · rename_i t to hs
        have := tokF_to (by omega) hs
        have := skp_ge b n false k
        rw [lexS_more b n f g to (by omega) (by omega) (by omega)]
      · rfl
      · rfl
/-- What follows from place a on, where no blank stands. -/
def lexA (b : Nat → Int) (n a : Nat) : Res := if n ≤ a then .ok [] else
    match tokF b n a with
    | .ok (t, to) => Res.cons t (lexK b n to)
    | .error true => .error (a, 201)
    | .error false => .error (a, 200)
theorem lexK_eq (b : Nat → Int) (n k : Nat) (hk : k ≤ n) : lexK b n k = lexA b n (skp b n false k) := by
  unfold lexK lexA
  rw [show n + 1 - k = (n - k) + 1 by omega]
  show (if _ then _ else _) = _
  split
  · rfl
  · rename_i hn
    split
    · rename_i t to hs
      have := tokF_to (by omega) hs
      have := skp_ge b n false k
      show _ = Res.cons t (lexS b n _ to)
      rw [lexS_more b n (n - k) (n + 1 - to) to (by omega) (by omega) (by omega)]
    · rfl
    · rfl

theorem Res.pre_nil (r : Res) : Res.pre [] r = r := by cases r <;> rfl
theorem Res.pre_cons (l : List Tok) (t : Tok) (r : Res) : Res.pre l (Res.cons t r) = Res.pre (l ++ [t]) r := by
  cases r with
  | ok m => simp [Res.pre, Res.cons]
  | error e => rfl
theorem Res.pre_error (l : List Tok) (e : Nat × Nat) : Res.pre l (.error e) = .error e := rfl
theorem Res.pre_ok (l : List Tok) : Res.pre l (.ok []) = .ok l := by simp [Res.pre]
end Go.Proofs.Ytopokicdgdjgkaa
/- The notation, as plain functions of tokens: a parser without recursion. No program in sight. -/
namespace Go.Proofs.Ytopokicdgdjgkaa

structure It where
  kind : Int
  text : ByteArray
  lo : Int
  hi : Int
structure Cj where
  neg : Bool
  items : List It
structure Df where
  name : ByteArray
  alts : List (List Cj)
structure Rw where
  starts : List ByteArray
  defs : List Df
structure Pm where
  st : Nat
  starts : List ByteArray
  defs : List Df
  start : ByteArray
  name : ByteArray
  alts : List (List Cj)
  alt : List Cj
  neg : Bool
  items : List It

def tItem (p : Pm) (t : Tok) : Option Pm := if t.kind ≤ 2 then some ⟨6, p.starts, p.defs, p.start, p.name, p.alts, p.alt, p.neg, p.items ++ [⟨(t.kind : Int), t.text, t.lo, t.hi⟩]⟩ else none
def sConj (p : Pm) : Pm := ⟨p.st, p.starts, p.defs, p.start, p.name, p.alts, p.alt ++ [⟨p.neg, p.items⟩], false, []⟩
def sAlt (p : Pm) : Pm := ⟨p.st, p.starts, p.defs, p.start, p.name, p.alts ++ [p.alt ++ [⟨p.neg, p.items⟩]], [], false, []⟩
def sDef (p : Pm) : Pm := ⟨p.st, p.starts, p.defs ++ [⟨p.name, p.alts ++ [p.alt ++ [⟨p.neg, p.items⟩]]⟩], p.start, ⟨#[]⟩, [], [], false, []⟩
def Pm.to (p : Pm) (k : Nat) : Pm := ⟨k, p.starts, p.defs, p.start, p.name, p.alts, p.alt, p.neg, p.items⟩
def take0 (p : Pm) (t : Tok) : Option Pm := if t.kind = 3 then some (p.to 1) else if t.kind = 0 then some ⟨3, p.starts, p.defs, p.start, t.text, p.alts, p.alt, p.neg, p.items⟩ else none
def take1 (p : Pm) (t : Tok) : Option Pm := if t.kind = 0 then some ⟨2, p.starts, p.defs, t.text, p.name, p.alts, p.alt, p.neg, p.items⟩ else none
def take2 (p : Pm) (t : Tok) : Option Pm := if t.kind = 8 then some ⟨0, p.starts ++ [p.start], p.defs, p.start, p.name, p.alts, p.alt, p.neg, p.items⟩ else none
def take3 (p : Pm) (t : Tok) : Option Pm := if t.kind = 4 then some (p.to 4) else none
def take4 (p : Pm) (t : Tok) : Option Pm := if t.kind = 7 then some ⟨5, p.starts, p.defs, p.start, p.name, p.alts, p.alt, true, p.items⟩ else tItem p t
def take6 (p : Pm) (t : Tok) : Option Pm := if t.kind = 6 then some ((sConj p).to 4) else if t.kind = 5 then some ((sAlt p).to 4) else if t.kind = 8 then some ((sDef p).to 0) else tItem p t
def takeS : Nat → Pm → Tok → Option Pm
  | 0 => take0
  | 1 => take1
  | 2 => take2
  | 3 => take3
  | 4 => take4
  | 5 => tItem
  | _ => take6
def take (p : Pm) (t : Tok) : Option Pm := takeS p.st p t
def pm0 : Pm := ⟨0, [], [], ⟨#[]⟩, ⟨#[]⟩, [], [], false, []⟩
def feed (p : Pm) : List Tok → Except Nat Pm
  | [] => .ok p
  | t :: l => match take p t with
    | none => .error t.pl
    | some q => feed q l
abbrev Pres := Except (Nat × Nat) Rw
def shutP (n : Nat) : Except Nat Pm → Pres
  | .error k => .error (k, 300)
  | .ok p => if p.st = 0 then .ok ⟨p.starts, p.defs⟩ else .error (n, 300)
def parseL (n : Nat) : Res → Pres
  | .error (p, _) => .error (p, 300)
  | .ok l => shutP n (feed pm0 l)
def parseT (s : ByteArray) : Pres := if 65536 < s.size then .error (0, 301) else parseL s.size (lexT s)

/-- How much there is at most behind k tokens. -/
structure Fits (p : Pm) (k : Nat) : Prop where
  st : p.st ≤ 6
  starts : p.starts.length ≤ k
  defs : p.defs.length ≤ k
  alts : p.alts.length ≤ k
  alt : p.alt.length ≤ k
  items : p.items.length ≤ k
theorem fits0 : Fits pm0 0 := ⟨by decide, by decide, by decide, by decide, by decide, by decide⟩
theorem tItem_fits {p q : Pm} {t : Tok} {k : Nat} (h : Fits p k) (e : tItem p t = some q) : Fits q (k + 1) := by
  have h1 := h.starts; have h2 := h.defs; have h3 := h.alts; have h4 := h.alt; have h5 := h.items
  unfold tItem at e
  split at e
  · injection e with e; subst e
    exact ⟨by show 6 ≤ 6; omega, by show p.starts.length ≤ _; omega, by show p.defs.length ≤ _; omega, by show p.alts.length ≤ _; omega, by show p.alt.length ≤ _; omega, by simp; omega⟩
  · cases e
theorem take_fits {p q : Pm} {t : Tok} {k : Nat} (h : Fits p k) (e : take p t = some q) : Fits q (k + 1) := by
  have h1 := h.starts; have h2 := h.defs; have h3 := h.alts; have h4 := h.alt; have h5 := h.items
  unfold take at e
  match hs : p.st with
  | 0 =>
    rw [hs] at e
    have e' : take0 p t = some q := e
    unfold take0 at e'
    split at e'
    · injection e' with e'; subst e'
      exact ⟨by show 1 ≤ 6; omega, by show p.starts.length ≤ _; omega, by show p.defs.length ≤ _; omega, by show p.alts.length ≤ _; omega, by show p.alt.length ≤ _; omega, by show p.items.length ≤ _; omega⟩
    · split at e'
      · injection e' with e'; subst e'
        exact ⟨by show 3 ≤ 6; omega, by show p.starts.length ≤ _; omega, by show p.defs.length ≤ _; omega, by show p.alts.length ≤ _; omega, by show p.alt.length ≤ _; omega, by show p.items.length ≤ _; omega⟩
      · cases e'
  | 1 =>
    rw [hs] at e
    have e' : take1 p t = some q := e
    unfold take1 at e'
    split at e'
    · injection e' with e'; subst e'
      exact ⟨by show 2 ≤ 6; omega, by show p.starts.length ≤ _; omega, by show p.defs.length ≤ _; omega, by show p.alts.length ≤ _; omega, by show p.alt.length ≤ _; omega, by show p.items.length ≤ _; omega⟩
    · cases e'
  | 2 =>
    rw [hs] at e
    have e' : take2 p t = some q := e
    unfold take2 at e'
    split at e'
    · injection e' with e'; subst e'
      exact ⟨by show 0 ≤ 6; omega, by simp; omega, by show p.defs.length ≤ _; omega, by show p.alts.length ≤ _; omega, by show p.alt.length ≤ _; omega, by show p.items.length ≤ _; omega⟩
    · cases e'
  | 3 =>
    rw [hs] at e
    have e' : take3 p t = some q := e
    unfold take3 at e'
    split at e'
    · injection e' with e'; subst e'
      exact ⟨by show 4 ≤ 6; omega, by show p.starts.length ≤ _; omega, by show p.defs.length ≤ _; omega, by show p.alts.length ≤ _; omega, by show p.alt.length ≤ _; omega, by show p.items.length ≤ _; omega⟩
    · cases e'
  | 4 =>
    rw [hs] at e
    have e' : take4 p t = some q := e
    unfold take4 at e'
    split at e'
    · injection e' with e'; subst e'
      exact ⟨by show 5 ≤ 6; omega, by show p.starts.length ≤ _; omega, by show p.defs.length ≤ _; omega, by show p.alts.length ≤ _; omega, by show p.alt.length ≤ _; omega, by show p.items.length ≤ _; omega⟩
    · exact tItem_fits h e'
  | 5 =>
    rw [hs] at e
    exact tItem_fits h e
  | m + 6 =>
    rw [hs] at e
    have e' : take6 p t = some q := e
    unfold take6 at e'
    split at e'
    · injection e' with e'; subst e'
      exact ⟨by show 4 ≤ 6; omega, by show p.starts.length ≤ _; omega, by show p.defs.length ≤ _; omega, by show p.alts.length ≤ _; omega, by show (p.alt ++ [_]).length ≤ _; simp; omega, Nat.zero_le _⟩
    · split at e'
      · injection e' with e'; subst e'
        exact ⟨by show 4 ≤ 6; omega, by show p.starts.length ≤ _; omega, by show p.defs.length ≤ _; omega, by show (p.alts ++ [_]).length ≤ _; simp; omega, Nat.zero_le _, Nat.zero_le _⟩
      · split at e'
        · injection e' with e'; subst e'
          exact ⟨by show 0 ≤ 6; omega, by show p.starts.length ≤ _; omega, by show (p.defs ++ [_]).length ≤ _; simp; omega, Nat.zero_le _, Nat.zero_le _, Nat.zero_le _⟩
        · exact tItem_fits h e'
end Go.Proofs.Ytopokicdgdjgkaa
/- Which grammars may be, and what declarations make, as plain functions. No program in sight. -/
namespace Go.Proofs.Ytopokicdgdjgkaa
set_option linter.unusedVariables false

structure Sy where
  name : Int
  lo : Int
  hi : Int
structure Cn where
  neg : Bool
  seq : List Sy
structure Ru where
  head : Int
  conj : List Cn
structure Gr where
  start : Int
  names : List ByteArray
  rules : List Ru

def isNum (n : Int) (k : Nat) : Bool := decide (0 ≤ n) && decide (n < (k : Int))
def maySym (k : Nat) (s : Sy) : Bool := if s.name = -1 then decide (0 ≤ s.lo) && (decide (s.lo ≤ s.hi) && decide (s.hi ≤ 255)) else isNum s.name k && (decide (s.lo = 0) && decide (s.hi = 0))
def mayRow (k : Nat) (l : List Sy) : Bool := decide (l.length ≤ 64) && l.all (maySym k)
def mayHeads (k : Nat) : Int → List Ru → Bool
  | last, [] => decide (last = (k : Int) - 1)
  | last, r :: l => isNum r.head k && ((decide (r.head = last) || decide (r.head = last + 1)) && mayHeads k r.head l)
def mayCs (k : Nat) : Nat → List Cn → Option Nat
  | n, [] => some n
  | n, c :: l => if n + c.seq.length ≤ 1024 ∧ mayRow k c.seq = true then mayCs k (n + c.seq.length) l else none
def mayRs (k : Nat) : Nat → List Ru → Bool
  | _, [] => true
  | n, r :: l => if 1 ≤ r.conj.length ∧ r.conj.length ≤ 8 then (match mayCs k n r.conj with | none => false | some m => mayRs k m l) else false
def mayRules (k : Nat) (l : List Ru) : Bool := decide (1 ≤ l.length) && (decide (l.length ≤ 256) && mayRs k 0 l)
def nameL (s : ByteArray) : Res → Bool
  | .ok [t] => decide (t.kind = 0) && decide (t.text = s)
  | _ => false
def isNameT (s : ByteArray) : Bool := decide (s.size ≤ 32) && nameL s (lexT s)
def place : List ByteArray → ByteArray → Option Nat
  | [], _ => none
  | a :: l, s => if a = s then some 0 else (place l s).map (· + 1)
def known (l : List ByteArray) (s : ByteArray) : Bool := (place l s).isSome
def againT : List ByteArray → List ByteArray → Nat → Nat
  | _, [], i => i
  | seen, s :: l, i => if known seen s = true then i else againT (seen ++ [s]) l (i + 1)
def again (l : List ByteArray) : Nat := againT [] l 0
def mayNames (l : List ByteArray) : Bool := decide (1 ≤ l.length) && (decide (l.length ≤ 64) && (l.all isNameT && decide (again l = l.length)))
def mayG (g : Gr) : Bool := mayNames g.names && (isNum g.start g.names.length && (mayHeads g.names.length (-1) g.rules && mayRules g.names.length g.rules))

def numOf (l : List ByteArray) (s : ByteArray) : Int := (((place l s).getD 0 : Nat) : Int)
/-- The first that is wanted, going on with a state. -/
def findS {σ : Type} (stop : σ → It → Bool) (step : σ → It → σ) : σ → List (ByteArray × It) → Option (ByteArray × It)
  | _, [] => none
  | s, x :: l => if stop s x.2 = true then some x else findS stop step (step s x.2) l
def endS {σ : Type} (step : σ → It → σ) : σ → List (ByteArray × It) → σ
  | s, [] => s
  | s, x :: l => endS step (step s x.2) l
def flatC (n : ByteArray) (c : Cj) : List (ByteArray × It) := c.items.map fun i => (n, i)
def flatA (n : ByteArray) (a : List Cj) : List (ByteArray × It) := a.flatMap (flatC n)
def flatD (d : Df) : List (ByteArray × It) := d.alts.flatMap (flatA d.name)
def flat (l : List Df) : List (ByteArray × It) := l.flatMap flatD
theorem findS_append {σ : Type} {stop : σ → It → Bool} {step : σ → It → σ} : ∀ (l m : List (ByteArray × It)) (s : σ), findS stop step s l = none → findS stop step s (l ++ m) = findS stop step (endS step s l) m
  | [], m, s, _ => rfl
  | x :: l, m, s, h => by
    simp only [findS, List.cons_append] at h ⊢
    split at h
    · cases h
    · next hn => rw [if_neg hn, findS_append l m _ h]; rfl
theorem endS_append {σ : Type} {step : σ → It → σ} : ∀ (l m : List (ByteArray × It)) (s : σ), endS step s (l ++ m) = endS step (endS step s l) m
  | [], m, s => rfl
  | x :: l, m, s => endS_append l m _
def stopN (names : List ByteArray) (_ : Unit) (i : It) : Bool := decide (i.kind = 0) && !known names i.text
def stopR (_ : Unit) (i : It) : Bool := decide (i.kind = 2) && decide (i.hi < i.lo)
def width (i : It) : Nat := if i.kind = 1 then i.text.size else 1
def stopL (n : Nat) (i : It) : Bool := decide (1024 < n + width i)
def stepL (n : Nat) (i : It) : Nat := n + width i
def unknownT (r : Rw) (names : List ByteArray) : Option ByteArray :=
  match r.starts.find? (fun s => !known names s) with
  | some s => some s
  | none => (findS (stopN names) (fun _ _ => ()) () (flat r.defs)).map fun x => x.2.text
def crossedT (l : List Df) : Option ByteArray := (findS stopR (fun _ _ => ()) () (flat l)).map fun x => x.1
def tooLongT (l : List Df) : Bool := (findS stopL stepL 0 (flat l)).isSome
def bytesT (s : ByteArray) : List Sy := s.data.toList.map fun c => ⟨-1, (c.toNat : Int), (c.toNat : Int)⟩
def symT (names : List ByteArray) (i : It) : List Sy := if i.kind = 0 then [⟨numOf names i.text, 0, 0⟩] else if i.kind = 1 then bytesT i.text else if i.kind = 2 then [⟨-1, i.lo, i.hi⟩] else [⟨-2, 0, 0⟩]
def rowT (names : List ByteArray) (l : List It) : List Sy := l.flatMap (symT names)
def cnT (names : List ByteArray) (c : Cj) : Cn := ⟨c.neg, rowT names c.items⟩
def ruleT (names : List ByteArray) (n : ByteArray) (a : List Cj) : Ru := ⟨numOf names n, a.map (cnT names)⟩
def rulesD (names : List ByteArray) (d : Df) : List Ru := d.alts.map (ruleT names d.name)
def rulesT (names : List ByteArray) (l : List Df) : List Ru := l.flatMap (rulesD names)
def namesT (l : List Df) : List ByteArray := l.map Df.name
def startT (r : Rw) : ByteArray := r.starts.headD ⟨#[]⟩
def gramT (r : Rw) : Gr := ⟨numOf (namesT r.defs) (startT r), namesT r.defs, rulesT (namesT r.defs) r.defs⟩
abbrev Bres := Except (ByteArray × Nat) Gr
def buildT (r : Rw) : Bres :=
  if again (namesT r.defs) < (namesT r.defs).length then .error ((namesT r.defs).getD (again (namesT r.defs)) ⟨#[]⟩, 401)
  else if r.starts.length ≠ 1 then .error (⟨#[]⟩, 400)
  else match unknownT r (namesT r.defs) with
    | some n => .error (n, 402)
    | none => match crossedT r.defs with
      | some n => .error (n, 403)
      | none => if tooLongT r.defs then .error (⟨#[]⟩, 404) else if mayG (gramT r) then .ok (gramT r) else .error (⟨#[]⟩, 404)
end Go.Proofs.Ytopokicdgdjgkaa
