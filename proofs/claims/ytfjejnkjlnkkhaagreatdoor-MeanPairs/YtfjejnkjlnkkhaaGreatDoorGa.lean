import Derived.WalkKit
import Derived.PlainAid
import Derived.Shelf.SlSortCmp.Insertion
/- Plain functions of the notation's tokens: letters, digits, marks, one byte of a text. No program in sight. -/
namespace Go.Proofs.YtfjejnkjlnkkhaaGreatDoor

def letB (c : Int) : Bool := (decide (97 ≤ c) && decide (c ≤ 122)) || (decide (65 ≤ c) && decide (c ≤ 90)) || decide (c = 95)
def digB (c : Int) : Bool := decide (48 ≤ c) && decide (c ≤ 57)
def hexF (c : Int) : Int := if digB c then c - 48 else if decide (97 ≤ c) && decide (c ≤ 102) then c - 87 else -1
def markF (c : Int) : Int := if c = 61 then 4 else if c = 124 then 5 else if c = 38 then 6 else if c = 126 then 7 else if c = 59 then 8 else 0
theorem hexF_le (c : Int) : -1 ≤ hexF c ∧ hexF c ≤ 15 := by
  unfold hexF digB
  split
  · rename_i h; simp at h; omega
  · split
    · rename_i h; simp at h; omega
    · omega

/-- One byte of a text or a range at a place: it, and the place behind. -/
def signF (b : Nat → Int) (n k : Nat) (q : Int) : Option (Int × Nat) :=
  if n ≤ k ∨ b k < 32 ∨ 126 < b k ∨ b k = q then none
  else if b k ≠ 92 then some (b k, k + 1)
  else if n ≤ k + 1 then none
  else if b (k + 1) = 92 ∨ b (k + 1) = 34 ∨ b (k + 1) = 39 then some (b (k + 1), k + 2)
  else if b (k + 1) ≠ 120 ∨ n ≤ k + 3 ∨ hexF (b (k + 2)) < 0 ∨ hexF (b (k + 3)) < 0 then none
  else some (16 * hexF (b (k + 2)) + hexF (b (k + 3)), k + 4)
/-- What stands between tokens, byte by byte; c: within a comment. -/
def skipS (b : Nat → Int) (n : Nat) : Nat → Bool → Nat → Nat
  | 0, _, k => k
  | f + 1, true, k => if b k = 10 then skipS b n f false (k + 1) else skipS b n f true (k + 1)
  | f + 1, false, k => if b k = 35 then skipS b n f true (k + 1) else if b k = 9 ∨ b k = 10 ∨ b k = 13 ∨ b k = 32 then skipS b n f false (k + 1) else k
def skp (b : Nat → Int) (n : Nat) (c : Bool) (k : Nat) : Nat := skipS b n (n - k) c k

theorem skp_end (b : Nat → Int) (n : Nat) (c : Bool) (k : Nat) (h : n ≤ k) : skp b n c k = k := by
  unfold skp; rw [show n - k = 0 by omega]; cases c <;> rfl
theorem skp_true (b : Nat → Int) (n k : Nat) (h : k < n) : skp b n true k = if b k = 10 then skp b n false (k + 1) else skp b n true (k + 1) := by
  unfold skp; rw [show n - k = (n - (k + 1)) + 1 by omega]; rfl
theorem skp_false (b : Nat → Int) (n k : Nat) (h : k < n) : skp b n false k = if b k = 35 then skp b n true (k + 1) else if b k = 9 ∨ b k = 10 ∨ b k = 13 ∨ b k = 32 then skp b n false (k + 1) else k := by
  unfold skp; rw [show n - k = (n - (k + 1)) + 1 by omega]; rfl

theorem signF_some {b : Nat → Int} {n k : Nat} {q c : Int} {to : Nat} (hb : ∀ j, 0 ≤ b j ∧ b j ≤ 255) (h : signF b n k q = some (c, to)) : 0 ≤ c ∧ c ≤ 255 ∧ k < to ∧ to ≤ n := by
  have hx := fun x => hexF_le x
  unfold signF at h
  by_cases h1 : n ≤ k ∨ b k < 32 ∨ 126 < b k ∨ b k = q
  · rw [if_pos h1] at h; cases h
  · rw [if_neg h1] at h
    by_cases h2 : b k ≠ 92
    · rw [if_pos h2] at h
      injection h with h; injection h with e1 e2
      have := hb k
      omega
    · rw [if_neg h2] at h
      by_cases h3 : n ≤ k + 1
      · rw [if_pos h3] at h; cases h
      · rw [if_neg h3] at h
        by_cases h4 : b (k + 1) = 92 ∨ b (k + 1) = 34 ∨ b (k + 1) = 39
        · rw [if_pos h4] at h
          injection h with h; injection h with e1 e2
          have := hb (k + 1)
          omega
        · rw [if_neg h4] at h
          by_cases h5 : b (k + 1) ≠ 120 ∨ n ≤ k + 3 ∨ hexF (b (k + 2)) < 0 ∨ hexF (b (k + 3)) < 0
          · rw [if_pos h5] at h; cases h
          · rw [if_neg h5] at h
            injection h with h; injection h with e1 e2
            have := hx (b (k + 2))
            have := hx (b (k + 3))
            omega

/-- A byte in its quotes at a place: it, and the place behind. -/
def oneF (b : Nat → Int) (n k : Nat) : Option (Int × Nat) :=
  if n ≤ k ∨ b k ≠ 39 then none
  else match signF b n (k + 1) 39 with
    | none => none
    | some (c, to) => if n ≤ to ∨ b to ≠ 39 then none else some (c, to + 1)
end Go.Proofs.YtfjejnkjlnkkhaaGreatDoor
/- The tokens of a text, as plain functions of its bytes. No program in sight. -/
namespace Go.Proofs.YtfjejnkjlnkkhaaGreatDoor

structure Tok where
  kind : Nat
  pl : Nat
  text : ByteArray
  lo : Int
  hi : Int

def strOf (l : List Int) : ByteArray := ⟨(l.map fun n => UInt8.ofNat n.toNat).toArray⟩

/-- Where a name ends. -/
def nameS (b : Nat → Int) : Nat → Nat → Nat
  | 0, k => k
  | f + 1, k => if letB (b k) || digB (b k) then nameS b f (k + 1) else k
def nameE (b : Nat → Int) (n k : Nat) : Nat := nameS b (n - k) k
theorem nameE_end (b : Nat → Int) (n k : Nat) (h : n ≤ k) : nameE b n k = k := by
  unfold nameE; rw [show n - k = 0 by omega]; rfl
theorem nameE_in (b : Nat → Int) (n k : Nat) (h : k < n) (hl : (letB (b k) || digB (b k)) = true) : nameE b n k = nameE b n (k + 1) := by
  unfold nameE; rw [show n - k = (n - (k + 1)) + 1 by omega]; show (if _ then _ else _) = _; rw [if_pos hl]
theorem nameE_out (b : Nat → Int) (n k : Nat) (h : k < n) (hl : (letB (b k) || digB (b k)) = false) : nameE b n k = k := by
  unfold nameE; rw [show n - k = (n - (k + 1)) + 1 by omega]; show (if _ then _ else _) = _; rw [if_neg (by rw [hl]; simp)]
theorem nameS_ge (b : Nat → Int) : ∀ f k, k ≤ nameS b f k ∧ nameS b f k ≤ k + f
  | 0, k => ⟨Nat.le_refl _, Nat.le_refl _⟩
  | f + 1, k => by
    show k ≤ (if _ then _ else _) ∧ (if _ then _ else _) ≤ _
    split
    · have := nameS_ge b f (k + 1); omega
    · omega
theorem nameE_ge (b : Nat → Int) (n k : Nat) : k ≤ nameE b n k := (nameS_ge b _ k).1
theorem nameE_le (b : Nat → Int) (n k : Nat) (h : k ≤ n) : nameE b n k ≤ n := by have := (nameS_ge b (n - k) k).2; unfold nameE; omega

/-- The bytes from k up to e. -/
def cut (b : Nat → Int) (k e : Nat) : List Int := (List.range (e - k)).map fun j => b (k + j)
theorem cut_len (b : Nat → Int) (k e : Nat) : (cut b k e).length = e - k := by simp [cut]
theorem cut_nil (b : Nat → Int) (k : Nat) : cut b k k = [] := by simp [cut]
theorem cut_cons (b : Nat → Int) (k e : Nat) (h : k < e) : cut b k e = b k :: cut b (k + 1) e := by
  unfold cut
  rw [show e - k = (e - (k + 1)) + 1 by omega, List.range_succ_eq_map, List.map_cons, List.map_map]
  congr 1
  apply List.map_congr_left
  intro j _
  show b (k + (j + 1)) = b (k + 1 + j)
  rw [show k + (j + 1) = k + 1 + j by omega]

def startB : ByteArray := ⟨#[115, 116, 97, 114, 116]⟩
def isStart (l : List Int) : Bool := (strOf l).toList == startB.toList
def nameT (k : Nat) (l : List Int) : Tok := if isStart l = true then ⟨3, k, ⟨#[]⟩, 0, 0⟩ else ⟨0, k, strOf l, 0, 0⟩

/-- What stands in a text from k on, behind acc. -/
def textS (b : Nat → Int) (n : Nat) : Nat → Nat → List Int → Option (List Int × Nat)
  | 0, _, _ => none
  | f + 1, k, acc => if k < n ∧ b k = 34 then some (acc, k + 1) else
    match signF b n k 34 with
    | none => none
    | some (c, to) => textS b n f to (acc ++ [c])
def textF (b : Nat → Int) (n k : Nat) (acc : List Int) : Option (List Int × Nat) := textS b n (n + 1 - k) k acc

theorem signF_to {b : Nat → Int} {n k : Nat} {q c : Int} {to : Nat} (h : signF b n k q = some (c, to)) : k < to ∧ to ≤ n := by
  unfold signF at h
  split at h
  · cases h
  · split at h
    · injection h with h; injection h with e1 e2; omega
    · split at h
      · cases h
      · split at h
        · injection h with h; injection h with e1 e2; omega
        · split at h
          · cases h
          · injection h with h; injection h with e1 e2; omega

theorem textS_more (b : Nat → Int) (n : Nat) : ∀ f g k acc, n + 1 - k ≤ f → n + 1 - k ≤ g → k ≤ n → textS b n f k acc = textS b n g k acc
  | 0, _, k, _, h, _, hk => by omega
  | _, 0, k, _, _, h, hk => by omega
  | f + 1, g + 1, k, acc, hf, hg, hk => by
    show (if _ then _ else _) = (if _ then _ else _)
    split
    · rfl
    · split
      · rfl
      · rename_i c to hs
        have := signF_to hs
        exact textS_more b n f g to _ (by omega) (by omega) (by omega)
theorem textF_eq (b : Nat → Int) (n k : Nat) (acc : List Int) (hk : k ≤ n) : textF b n k acc = if k < n ∧ b k = 34 then some (acc, k + 1) else
    match signF b n k 34 with
    | none => none
    | some (c, to) => textF b n to (acc ++ [c]) := by
  unfold textF
  rw [show n + 1 - k = (n - k) + 1 by omega]
  show (if _ then _ else _) = _
  split
  · rfl
  · split
    · rfl
    · rename_i c to hs
      have := signF_to hs
      exact textS_more b n _ _ to _ (by omega) (by omega) (by omega)
theorem textS_to (b : Nat → Int) (n : Nat) : ∀ f k acc l to, textS b n f k acc = some (l, to) → k < to ∧ to ≤ n
  | 0, _, _, _, _, h => by cases h
  | f + 1, k, acc, l, to, h => by
    have h' : (if k < n ∧ b k = 34 then some (acc, k + 1) else match signF b n k 34 with
      | none => none
      | some (c, to) => textS b n f to (acc ++ [c])) = some (l, to) := h
    split at h'
    · injection h' with h'; injection h' with e1 e2; omega
    · split at h'
      · cases h'
      · rename_i c t hs
        have h1 := signF_to hs
        have := textS_to b n f t _ l to h'
        omega
theorem textF_to {b : Nat → Int} {n k : Nat} {acc l : List Int} {to : Nat} (h : textF b n k acc = some (l, to)) : k < to ∧ to ≤ n := textS_to b n _ _ _ _ _ h

/-- One end of a range, from behind its first quote on. -/
def half (b : Nat → Int) (n k : Nat) : Option (Int × Nat) :=
  match signF b n k 39 with
  | none => none
  | some (c, to) => if n ≤ to ∨ b to ≠ 39 then none else some (c, to + 1)
theorem half_to {b : Nat → Int} {n k : Nat} {c : Int} {to : Nat} (h : half b n k = some (c, to)) : k + 1 < to ∧ to ≤ n := by
  unfold half at h
  split at h
  · cases h
  · rename_i c' t hs
    have := signF_to hs
    split at h
    · cases h
    · injection h with h; injection h with e1 e2; omega
theorem oneF_half (b : Nat → Int) (n k : Nat) : oneF b n k = if n ≤ k ∨ b k ≠ 39 then none else half b n (k + 1) := rfl
def dotsB (b : Nat → Int) (n k : Nat) : Bool := decide (k + 1 < n) && (decide (b k = 46) && decide (b (k + 1) = 46))
abbrev dots (b : Nat → Int) (n k : Nat) : Prop := dotsB b n k = true
theorem dots_parts {b : Nat → Int} {n k : Nat} (h : dots b n k) : k + 1 < n ∧ b k = 46 ∧ b (k + 1) = 46 := by
  simpa only [dots, dotsB, Bool.and_eq_true, decide_eq_true_eq] using h
theorem dots_mk {b : Nat → Int} {n k : Nat} (h : k + 1 < n ∧ b k = 46 ∧ b (k + 1) = 46) : dots b n k := by
  simpa only [dots, dotsB, Bool.and_eq_true, decide_eq_true_eq] using h

/-- A range, from behind its first quote on. -/
def rangeF (b : Nat → Int) (n k : Nat) : Option (Int × Int × Nat) :=
  match half b n k with
  | none => none
  | some (c, to) => if dots b n to then
      match oneF b n (to + 2) with
      | none => none
      | some (d, to2) => some (c, d, to2)
    else some (c, c, to)

/-- A token and the place behind it; true: no text, no range, too long a name; false: a byte that begins no token. -/
abbrev Got := Except Bool (Tok × Nat)
abbrev Got.tok (t : Tok) (to : Nat) : Got := .ok (t, to)
abbrev Got.noText : Got := .error true
abbrev Got.noByte : Got := .error false
theorem got_inj {t t' : Tok} {to to' : Nat} (h : Got.tok t to = Got.tok t' to') : t = t' ∧ to = to' := by
  injection h with h; injection h with e1 e2; exact ⟨e1, e2⟩

def nameG (b : Nat → Int) (n k : Nat) : Got := if 32 < nameE b n k - k then .noText else .tok (nameT k (cut b k (nameE b n k))) (nameE b n k)
def textG (b : Nat → Int) (n k : Nat) : Got := match textF b n (k + 1) [] with
  | none => .noText
  | some (l, to) => .tok ⟨1, k, strOf l, 0, 0⟩ to
def rangeG (b : Nat → Int) (n k : Nat) : Got := match rangeF b n (k + 1) with
  | none => .noText
  | some (c, d, to) => .tok ⟨2, k, ⟨#[]⟩, c, d⟩ to
/-- The token that begins at k. -/
def tokF (b : Nat → Int) (n k : Nat) : Got :=
  if letB (b k) then nameG b n k
  else if b k = 34 then textG b n k
  else if b k = 39 then rangeG b n k
  else if 0 < markF (b k) then .tok ⟨(markF (b k)).toNat, k, ⟨#[]⟩, 0, 0⟩ (k + 1)
  else .noByte

abbrev Res := Except (Nat × Nat) (List Tok)
def Res.cons (t : Tok) : Res → Res
  | .ok l => .ok (t :: l)
  | .error e => .error e
def Res.pre : List Tok → Res → Res
  | l, .ok m => .ok (l ++ m)
  | _, .error e => .error e

def lexS (b : Nat → Int) (n : Nat) : Nat → Nat → Res
  | 0, _ => .ok []
  | f + 1, k => if n ≤ skp b n false k then .ok [] else
    match tokF b n (skp b n false k) with
    | .ok (t, to) => Res.cons t (lexS b n f to)
    | .error true => .error (skp b n false k, 201)
    | .error false => .error (skp b n false k, 200)
def lexK (b : Nat → Int) (n k : Nat) : Res := lexS b n (n + 1 - k) k
def lexB (b : Nat → Int) (n : Nat) : Res := if 65536 < n then .error (0, 201) else lexK b n 0
def lexT (s : ByteArray) : Res := lexB (PlainAid.bt s) s.size

theorem skipS_ge (b : Nat → Int) (n : Nat) : ∀ f c k, k ≤ skipS b n f c k ∧ skipS b n f c k ≤ k + f
  | 0, c, k => by cases c <;> exact ⟨Nat.le_refl _, Nat.le_refl _⟩
  | f + 1, true, k => by
    show k ≤ (if _ then _ else _) ∧ (if _ then _ else _) ≤ _
    have h1 := skipS_ge b n f true (k + 1)
    have h2 := skipS_ge b n f false (k + 1)
    split <;> omega
  | f + 1, false, k => by
    show k ≤ (if _ then _ else (if _ then _ else _)) ∧ (if _ then _ else (if _ then _ else _)) ≤ _
    have h1 := skipS_ge b n f true (k + 1)
    have h2 := skipS_ge b n f false (k + 1)
    split
    · omega
    · split <;> omega
theorem skp_ge (b : Nat → Int) (n : Nat) (c : Bool) (k : Nat) : k ≤ skp b n c k := (skipS_ge b n _ c k).1
theorem skp_le (b : Nat → Int) (n : Nat) (c : Bool) (k : Nat) (h : k ≤ n) : skp b n c k ≤ n := by have := (skipS_ge b n (n - k) c k).2; unfold skp; omega

theorem nameE_gt {b : Nat → Int} {n k : Nat} (h : k < n) (hl : letB (b k) = true) : k < nameE b n k := by
  rw [nameE_in b n k h (by rw [hl]; rfl)]; have := nameE_ge b n (k + 1); omega
theorem rangeF_to {b : Nat → Int} {n k : Nat} {c d : Int} {to : Nat} (h : rangeF b n k = some (c, d, to)) : k < to ∧ to ≤ n := by
  unfold rangeF at h
  split at h
  · cases h
  · rename_i c' t hs
    have h1 := half_to hs
    split at h
    · split at h
      · cases h
      · rename_i d' t2 ho
        rw [oneF_half] at ho
        split at ho
        · cases ho
        · have := half_to ho
          injection h with h; injection h with e1 e2; injection e2 with e2 e3; omega
    · injection h with h; injection h with e1 e2; injection e2 with e2 e3; omega
theorem tokF_to {b : Nat → Int} {n k : Nat} {t : Tok} {to : Nat} (hk : k < n) (h : tokF b n k = .tok t to) : k < to ∧ to ≤ n := by
  unfold tokF at h
  split at h
  · rename_i hl
    unfold nameG at h
    split at h
    · cases h
    · obtain ⟨e1, e2⟩ := got_inj h
      have := nameE_gt hk hl
      have := nameE_le b n k (by omega)
      omega
  · split at h
    · unfold textG at h
      split at h
      · cases h
      · rename_i l t' hs
        have := textF_to hs
        obtain ⟨e1, e2⟩ := got_inj h
        omega
    · split at h
      · unfold rangeG at h
        split at h
        · cases h
        · rename_i c d t' hs
          have := rangeF_to hs
          obtain ⟨e1, e2⟩ := got_inj h
          omega
      · split at h
        · obtain ⟨e1, e2⟩ := got_inj h; omega
        · cases h

theorem lexS_more (b : Nat → Int) (n : Nat) : ∀ f g k, n + 1 - k ≤ f → n + 1 - k ≤ g → k ≤ n → lexS b n f k = lexS b n g k
  | 0, _, k, h, _, hk => by omega
  | _, 0, k, _, h, hk => by omega
  | f + 1, g + 1, k, hf, hg, hk => by
    show (if _ then _ else _) = (if _ then _ else _)
    split
    · rfl
    · rename_i hn
      split
      · rename_i t to hs
        have := tokF_to (by omega) hs
        have := skp_ge b n false k
        rw [lexS_more b n f g to (by omega) (by omega) (by omega)]
      · rfl
      · rfl
/-- What follows from place a on, where no blank stands. -/
def lexA (b : Nat → Int) (n a : Nat) : Res := if n ≤ a then .ok [] else
    match tokF b n a with
    | .ok (t, to) => Res.cons t (lexK b n to)
    | .error true => .error (a, 201)
    | .error false => .error (a, 200)
theorem lexK_eq (b : Nat → Int) (n k : Nat) (hk : k ≤ n) : lexK b n k = lexA b n (skp b n false k) := by
  unfold lexK lexA
  rw [show n + 1 - k = (n - k) + 1 by omega]
  show (if _ then _ else _) = _
  split
  · rfl
  · rename_i hn
    split
    · rename_i t to hs
      have := tokF_to (by omega) hs
      have := skp_ge b n false k
      show _ = Res.cons t (lexS b n _ to)
      rw [lexS_more b n (n - k) (n + 1 - to) to (by omega) (by omega) (by omega)]
    · rfl
    · rfl

theorem Res.pre_nil (r : Res) : Res.pre [] r = r := by cases r <;> rfl
theorem Res.pre_cons (l : List Tok) (t : Tok) (r : Res) : Res.pre l (Res.cons t r) = Res.pre (l ++ [t]) r := by
  cases r with
  | ok m => simp [Res.pre, Res.cons]
  | error e => rfl
theorem Res.pre_ok (l : List Tok) : Res.pre l (.ok []) = .ok l := by simp [Res.pre]
end Go.Proofs.YtfjejnkjlnkkhaaGreatDoor
/- The notation, as plain functions of tokens: a parser without recursion. No program in sight. -/
namespace Go.Proofs.YtfjejnkjlnkkhaaGreatDoor

structure It where
  kind : Int
  text : ByteArray
  lo : Int
  hi : Int
structure Cj where
  neg : Bool
  items : List It
structure Df where
  name : ByteArray
  alts : List (List Cj)
structure Pm where
  st : Nat
  starts : List ByteArray
  defs : List Df
  start : ByteArray
  name : ByteArray
  alts : List (List Cj)
  alt : List Cj
  neg : Bool
  items : List It

def tItem (p : Pm) (t : Tok) : Option Pm := if t.kind ≤ 2 then some ⟨6, p.starts, p.defs, p.start, p.name, p.alts, p.alt, p.neg, p.items ++ [⟨(t.kind : Int), t.text, t.lo, t.hi⟩]⟩ else none
def sConj (p : Pm) : Pm := ⟨p.st, p.starts, p.defs, p.start, p.name, p.alts, p.alt ++ [⟨p.neg, p.items⟩], false, []⟩
def sAlt (p : Pm) : Pm := ⟨p.st, p.starts, p.defs, p.start, p.name, p.alts ++ [p.alt ++ [⟨p.neg, p.items⟩]], [], false, []⟩
def sDef (p : Pm) : Pm := ⟨p.st, p.starts, p.defs ++ [⟨p.name, p.alts ++ [p.alt ++ [⟨p.neg, p.items⟩]]⟩], p.start, ⟨#[]⟩, [], [], false, []⟩
def Pm.to (p : Pm) (k : Nat) : Pm := ⟨k, p.starts, p.defs, p.start, p.name, p.alts, p.alt, p.neg, p.items⟩
def take0 (p : Pm) (t : Tok) : Option Pm := if t.kind = 3 then some (p.to 1) else if t.kind = 0 then some ⟨3, p.starts, p.defs, p.start, t.text, p.alts, p.alt, p.neg, p.items⟩ else none
def take1 (p : Pm) (t : Tok) : Option Pm := if t.kind = 0 then some ⟨2, p.starts, p.defs, t.text, p.name, p.alts, p.alt, p.neg, p.items⟩ else none
def take2 (p : Pm) (t : Tok) : Option Pm := if t.kind = 8 then some ⟨0, p.starts ++ [p.start], p.defs, p.start, p.name, p.alts, p.alt, p.neg, p.items⟩ else none
def take3 (p : Pm) (t : Tok) : Option Pm := if t.kind = 4 then some (p.to 4) else none
def take4 (p : Pm) (t : Tok) : Option Pm := if t.kind = 7 then some ⟨5, p.starts, p.defs, p.start, p.name, p.alts, p.alt, true, p.items⟩ else tItem p t
def take6 (p : Pm) (t : Tok) : Option Pm := if t.kind = 6 then some ((sConj p).to 4) else if t.kind = 5 then some ((sAlt p).to 4) else if t.kind = 8 then some ((sDef p).to 0) else tItem p t
def takeS : Nat → Pm → Tok → Option Pm
  | 0 => take0
  | 1 => take1
  | 2 => take2
  | 3 => take3
  | 4 => take4
  | 5 => tItem
  | _ => take6
def take (p : Pm) (t : Tok) : Option Pm := takeS p.st p t
end Go.Proofs.YtfjejnkjlnkkhaaGreatDoor
/- Which grammars may be, and what declarations make, as plain functions. No program in sight. -/
namespace Go.Proofs.YtfjejnkjlnkkhaaGreatDoor
set_option linter.unusedVariables false

structure Sy where
  name : Int
  lo : Int
  hi : Int
structure Cn where
  neg : Bool
  seq : List Sy
structure Ru where
  head : Int
  conj : List Cn
structure Gr where
  start : Int
  names : List ByteArray
  rules : List Ru

def isNum (n : Int) (k : Nat) : Bool := decide (0 ≤ n) && decide (n < (k : Int))
def maySym (k : Nat) (s : Sy) : Bool := if s.name = -1 then decide (0 ≤ s.lo) && (decide (s.lo ≤ s.hi) && decide (s.hi ≤ 255)) else isNum s.name k && (decide (s.lo = 0) && decide (s.hi = 0))
def mayRow (k : Nat) (l : List Sy) : Bool := decide (l.length ≤ 64) && l.all (maySym k)
def mayHeads (k : Nat) : Int → List Ru → Bool
  | last, [] => decide (last = (k : Int) - 1)
  | last, r :: l => isNum r.head k && ((decide (r.head = last) || decide (r.head = last + 1)) && mayHeads k r.head l)
def mayCs (k : Nat) : Nat → List Cn → Option Nat
  | n, [] => some n
  | n, c :: l => if n + c.seq.length ≤ 1024 ∧ mayRow k c.seq = true then mayCs k (n + c.seq.length) l else none
def mayRs (k : Nat) : Nat → List Ru → Bool
  | _, [] => true
  | n, r :: l => if 1 ≤ r.conj.length ∧ r.conj.length ≤ 8 then (match mayCs k n r.conj with | none => false | some m => mayRs k m l) else false
def mayRules (k : Nat) (l : List Ru) : Bool := decide (1 ≤ l.length) && (decide (l.length ≤ 256) && mayRs k 0 l)
def nameL (s : ByteArray) : Res → Bool
  | .ok [t] => decide (t.kind = 0) && decide (t.text = s)
  | _ => false
def isNameT (s : ByteArray) : Bool := decide (s.size ≤ 32) && nameL s (lexT s)
def place : List ByteArray → ByteArray → Option Nat
  | [], _ => none
  | a :: l, s => if a = s then some 0 else (place l s).map (· + 1)
def known (l : List ByteArray) (s : ByteArray) : Bool := (place l s).isSome
def againT : List ByteArray → List ByteArray → Nat → Nat
  | _, [], i => i
  | seen, s :: l, i => if known seen s = true then i else againT (seen ++ [s]) l (i + 1)
def again (l : List ByteArray) : Nat := againT [] l 0
def mayNames (l : List ByteArray) : Bool := decide (1 ≤ l.length) && (decide (l.length ≤ 64) && (l.all isNameT && decide (again l = l.length)))
def mayG (g : Gr) : Bool := mayNames g.names && (isNum g.start g.names.length && (mayHeads g.names.length (-1) g.rules && mayRules g.names.length g.rules))

def numOf (l : List ByteArray) (s : ByteArray) : Int := (((place l s).getD 0 : Nat) : Int)
end Go.Proofs.YtfjejnkjlnkkhaaGreatDoor
/- Who needs whom, as plain functions. No program in sight. -/
namespace Go.Proofs.YtfjejnkjlnkkhaaGreatDoor
set_option linter.unusedVariables false
open Go.Shelf Go.Lib Go.Sort

abbrev Ed := Int × Int × Bool
def seqE (h : Int) (n : Bool) : List Sy → List Ed
  | [] => []
  | s :: l => if s.name = -1 then seqE h n l else (h, s.name, n) :: seqE h n l
def cnsE (h : Int) : List Cn → List Ed
  | [] => []
  | c :: l => seqE h c.neg c.seq ++ cnsE h l
def allE : List Ru → List Ed
  | [] => []
  | r :: l => cnsE r.head r.conj ++ allE l
def addE (l : List Ed) (e : Ed) : List Ed := if e ∈ l then l else l ++ [e]
def addAll (l m : List Ed) : List Ed := m.foldl addE l
def numB (b : Bool) : Int := if b then 1 else 0
def orI (a b : Int) : Int := if a ≠ 0 then a else b
def cfE (x y : Ed) : Int := orI (Lib.compareInt x.1 y.1) (orI (Lib.compareInt x.2.1 y.2.1) (Lib.compareInt (numB x.2.2) (numB y.2.2)))
def ltE (x y : Ed) : Bool := decide (x.1 < y.1 ∨ x.1 = y.1 ∧ (x.2.1 < y.2.1 ∨ x.2.1 = y.2.1 ∧ (numB x.2.2 < numB y.2.2)))
def sortE (l : List Ed) : List Ed := l.mergeSort fun x y => !ltE y x
def edgesT (g : Gr) : List Ed := sortE (addAll [] (allE g.rules))

theorem lt_cf : ltOf cfE = ltE := by
  funext x y
  unfold ltOf cfE ltE orI Lib.compareInt
  generalize numB x.2.2 = a
  generalize numB y.2.2 = b
  generalize x.1 = x1
  generalize y.1 = y1
  generalize x.2.1 = x2
  generalize y.2.1 = y2
  congr 1
  apply propext
  by_cases h1 : x1 < y1
  · simp [h1]
  · by_cases h2 : y1 < x1
    · simp [h1, h2]; omega
    · have : x1 = y1 := by omega
      subst this
      by_cases h3 : x2 < y2
      · simp [h3]
      · by_cases h4 : y2 < x2
        · simp [h3, h4]; omega
        · have : x2 = y2 := by omega
          subst this
          by_cases h5 : a < b
          · simp [h5]
          · by_cases h6 : b < a <;> simp [h5, h6]
theorem ltE_iff (x y : Ed) : ltE x y = true ↔ x.1 < y.1 ∨ x.1 = y.1 ∧ (x.2.1 < y.2.1 ∨ x.2.1 = y.2.1 ∧ (numB x.2.2 < numB y.2.2)) := by unfold ltE; simp
theorem ltE_no (x y : Ed) : ltE x y = false ↔ ¬ (x.1 < y.1 ∨ x.1 = y.1 ∧ (x.2.1 < y.2.1 ∨ x.2.1 = y.2.1 ∧ (numB x.2.2 < numB y.2.2))) := by unfold ltE; simp
theorem numB_inj {a b : Bool} (h : numB a = numB b) : a = b := by cases a <;> cases b <;> simp [numB] at h <;> rfl
theorem swoE : SWO ltE where
  irrefl x := by rw [ltE_no]; omega
  trans x y z h1 h2 := by rw [ltE_iff] at *; omega
  ntrans x y z h1 h2 := by rw [ltE_no] at *; omega
theorem totE (x y : Ed) (h1 : ltE x y = false) (h2 : ltE y x = false) : x = y := by
  rw [ltE_no] at h1 h2
  have e1 : x.1 = y.1 := by omega
  have e2 : x.2.1 = y.2.1 := by omega
  have e3 : numB x.2.2 = numB y.2.2 := by omega
  exact Prod.ext e1 (Prod.ext e2 (numB_inj e3))
theorem mem_addE {l : List Ed} {e x : Ed} : x ∈ addE l e ↔ x ∈ l ∨ x = e := by
  unfold addE
  split
  · rename_i h
    constructor
    · exact Or.inl
    · rintro (h' | rfl)
      · exact h'
      · exact h
  · simp
theorem addE_nodup {l : List Ed} {e : Ed} (h : l.Nodup) : (addE l e).Nodup := by
  unfold addE
  split
  · exact h
  · rename_i hn
    rw [List.nodup_append]
    refine ⟨h, by simp, fun a ha b hb => ?_⟩
    obtain rfl : b = e := by simpa using hb
    rintro rfl
    exact hn ha
theorem addE_len (l : List Ed) (e : Ed) : (addE l e).length ≤ l.length + 1 := by
  unfold addE
  split <;> simp
theorem addAll_append (l a b : List Ed) : addAll l (a ++ b) = addAll (addAll l a) b := by unfold addAll; rw [List.foldl_append]
theorem mem_addAll : ∀ {m l : List Ed} {x : Ed}, x ∈ addAll l m ↔ x ∈ l ∨ x ∈ m
  | [], l, x => by simp [addAll]
  | e :: m, l, x => by
    show x ∈ addAll (addE l e) m ↔ _
    rw [mem_addAll, mem_addE]; simp [or_assoc]
theorem addAll_nodup : ∀ {m l : List Ed}, l.Nodup → (addAll l m).Nodup
  | [], _, h => h
  | e :: m, l, h => by
    show (addAll (addE l e) m).Nodup
    exact addAll_nodup (addE_nodup h)
theorem addAll_len : ∀ (m l : List Ed), (addAll l m).length ≤ l.length + m.length
  | [], l => by simp [addAll]
  | e :: m, l => by
    show (addAll (addE l e) m).length ≤ _
    have := addAll_len m (addE l e)
    have := addE_len l e
    simp only [List.length_cons]; omega
theorem sort_perm (l : List Ed) : (sortE l).Perm l := List.mergeSort_perm l _
theorem sort_le (l : List Ed) : (sortE l).Pairwise fun x y => ltE y x = false := by
  have h := List.pairwise_mergeSort (le := fun x y => !ltE y x) (fun a b c h1 h2 => by
    simp only [Bool.not_eq_true'] at *
    exact swoE.ntrans c b a h2 h1) (fun a b => by
    cases h : ltE b a
    · rfl
    · have : ltE a b = false := by rw [ltE_no]; rw [ltE_iff] at h; omega
      simp [this]) l
  exact h.imp fun h => by simpa using h
theorem sort_lt {l : List Ed} (h : l.Nodup) : (sortE l).Pairwise fun x y => ltE x y = true := by
  have h1 := sort_le l
  have h2 : (sortE l).Nodup := (sort_perm l).nodup_iff.2 h
  exact (h1.and h2).imp fun ⟨a, b⟩ => by
    cases hc : ltE _ _
    · exact absurd (totE _ _ hc a) b
    · rfl
theorem strict_nodup {l : List Ed} (h : l.Pairwise fun x y => ltE x y = true) : l.Nodup := h.imp fun {a b} hab e => by subst e; rw [swoE.irrefl] at hab; cases hab
/-- Of what has these edges there is one that rises. -/
theorem strict_unique : ∀ {l m : List Ed}, (l.Pairwise fun x y => ltE x y = true) → (m.Pairwise fun x y => ltE x y = true) → (∀ x, x ∈ l ↔ x ∈ m) → l = m
  | [], [], _, _, _ => rfl
  | [], b :: m, _, _, h => by have := (h b).2 (by simp); simp at this
  | a :: l, [], _, _, h => by have := (h a).1 (by simp); simp at this
  | a :: l, b :: m, h1, h2, h => by
    obtain ⟨p1, q1⟩ := List.pairwise_cons.1 h1
    obtain ⟨p2, q2⟩ := List.pairwise_cons.1 h2
    have hab : a = b := by
      have ha : a ∈ b :: m := (h a).1 (by simp)
      have hb : b ∈ a :: l := (h b).2 (by simp)
      rcases List.mem_cons.1 ha with e | ha
      · exact e
      rcases List.mem_cons.1 hb with e | hb
      · exact e.symm
      have x1 := p2 a ha
      have x2 := p1 b hb
      rw [ltE_iff] at x1 x2
      omega
    subst hab
    have n1 := strict_nodup h1
    have n2 := strict_nodup h2
    rw [List.nodup_cons] at n1 n2
    congr 1
    refine strict_unique q1 q2 fun x => ⟨fun hx => ?_, fun hx => ?_⟩
    · rcases List.mem_cons.1 ((h x).1 (List.mem_cons_of_mem _ hx)) with rfl | h'
      · exact absurd hx n1.1
      · exact h'
    · rcases List.mem_cons.1 ((h x).2 (List.mem_cons_of_mem _ hx)) with rfl | h'
      · exact absurd hx n2.1
      · exact h'
theorem mem_edgesT (g : Gr) (x : Ed) : x ∈ edgesT g ↔ x ∈ allE g.rules := by
  unfold edgesT
  rw [(sort_perm _).mem_iff, mem_addAll]; simp
theorem edgesT_rise (g : Gr) : (edgesT g).Pairwise fun x y => ltE x y = true := sort_lt (addAll_nodup List.nodup_nil)
theorem edgesT_eq {g : Gr} {l : List Ed} (h : l.Pairwise fun x y => ltE x y = true) (hm : ∀ x, x ∈ l ↔ x ∈ allE g.rules) : edgesT g = l :=
  strict_unique (edgesT_rise g) h fun x => (mem_edgesT g x).trans (hm x).symm
theorem seqE_len (h : Int) (n : Bool) : ∀ l : List Sy, (seqE h n l).length ≤ l.length
  | [] => Nat.le_refl _
  | s :: l => by
    have := seqE_len h n l
    unfold seqE
    split <;> simp only [List.length_cons] <;> omega
theorem mem_seqE (h : Int) (n : Bool) (x : Ed) : ∀ l : List Sy, x ∈ seqE h n l ↔ x.1 = h ∧ x.2.2 = n ∧ ∃ s, s ∈ l ∧ s.name ≠ -1 ∧ s.name = x.2.1
  | [] => by simp [seqE]
  | s :: l => by
    unfold seqE
    split
    · rename_i e
      rw [mem_seqE h n x l]
      simp only [List.mem_cons, exists_eq_or_imp]
      constructor
      · rintro ⟨a, b, c⟩; exact ⟨a, b, Or.inr c⟩
      · rintro ⟨a, b, c⟩
        rcases c with ⟨c, _⟩ | c
        · exact absurd e c
        · exact ⟨a, b, c⟩
    · rename_i e
      simp only [List.mem_cons, exists_eq_or_imp]
      rw [mem_seqE h n x l]
      constructor
      · rintro (rfl | ⟨a, b, c⟩)
        · exact ⟨rfl, rfl, Or.inl ⟨e, rfl⟩⟩
        · exact ⟨a, b, Or.inr c⟩
      · rintro ⟨a, b, c⟩
        rcases c with ⟨_, c⟩ | c
        · left; exact Prod.ext a (Prod.ext c.symm b)
        · right; exact ⟨a, b, c⟩
theorem mem_cnsE (h : Int) (x : Ed) : ∀ l : List Cn, x ∈ cnsE h l ↔ ∃ c, c ∈ l ∧ x ∈ seqE h c.neg c.seq
  | [] => by simp [cnsE]
  | c :: l => by
    unfold cnsE
    rw [List.mem_append, mem_cnsE h x l]; simp
theorem mem_allE (x : Ed) : ∀ l : List Ru, x ∈ allE l ↔ ∃ r, r ∈ l ∧ x ∈ cnsE r.head r.conj
  | [] => by simp [allE]
  | c :: l => by
    unfold allE
    rw [List.mem_append, mem_allE x l]; simp
theorem seqE_append (h : Int) (n : Bool) : ∀ l m : List Sy, seqE h n (l ++ m) = seqE h n l ++ seqE h n m
  | [], m => rfl
  | s :: l, m => by
    show (if s.name = -1 then seqE h n (l ++ m) else (h, s.name, n) :: seqE h n (l ++ m)) = (if s.name = -1 then seqE h n l else (h, s.name, n) :: seqE h n l) ++ seqE h n m
    rw [seqE_append h n l m]
    split <;> rfl
theorem cnsE_append (h : Int) : ∀ l m : List Cn, cnsE h (l ++ m) = cnsE h l ++ cnsE h m
  | [], m => rfl
  | s :: l, m => by
    show seqE h s.neg s.seq ++ cnsE h (l ++ m) = (seqE h s.neg s.seq ++ cnsE h l) ++ cnsE h m
    rw [cnsE_append h l m, List.append_assoc]
theorem allE_append : ∀ l m : List Ru, allE (l ++ m) = allE l ++ allE m
  | [], m => rfl
  | s :: l, m => by
    show cnsE s.head s.conj ++ allE (l ++ m) = (cnsE s.head s.conj ++ allE l) ++ allE m
    rw [allE_append l m, List.append_assoc]
theorem mayCs_len (k : Nat) (h : Int) : ∀ (l : List Cn) (n m : Nat), n ≤ 1024 → mayCs k n l = some m → n + (cnsE h l).length ≤ m ∧ m ≤ 1024
  | [], n, m, hn, e => by
    simp only [mayCs, Option.some.injEq] at e
    subst e
    exact ⟨by simp [cnsE], hn⟩
  | c :: l, n, m, hn, e => by
    unfold mayCs at e
    split at e
    · rename_i hc
      have h9 := mayCs_len k h l _ m hc.1 e
      have := seqE_len h c.neg c.seq
      refine ⟨?_, h9.2⟩
      show n + (seqE h c.neg c.seq ++ cnsE h l).length ≤ m
      rw [List.length_append]; omega
    · cases e
theorem mayRs_len (k : Nat) : ∀ (l : List Ru) (n : Nat), n ≤ 1024 → mayRs k n l = true → n + (allE l).length ≤ 1024
  | [], n, hn, e => by simpa [allE] using hn
  | r :: l, n, hn, e => by
    unfold mayRs at e
    split at e
    · split at e
      · cases e
      · rename_i m hm
        obtain ⟨h1, h2⟩ := mayCs_len k r.head r.conj n m hn hm
        have := mayRs_len k l m h2 e
        show n + (cnsE r.head r.conj ++ allE l).length ≤ 1024
        rw [List.length_append]; omega
    · cases e
/-- Edges of a grammar that may be: no more than its symbols. -/
theorem allE_len {g : Gr} (h : mayG g = true) : (allE g.rules).length ≤ 1024 := by
  unfold mayG mayRules at h
  simp only [Bool.and_eq_true] at h
  have := mayRs_len _ _ 0 (Nat.zero_le _) h.2.2.2.2.2
  omega
theorem mayHeads_num (k : Nat) : ∀ (l : List Ru) (z : Int), mayHeads k z l = true → ∀ r, r ∈ l → 0 ≤ r.head ∧ r.head < (k : Int)
  | [], _, _, r, hr => by simp at hr
  | a :: l, z, h, r, hr => by
    unfold mayHeads at h
    simp only [Bool.and_eq_true] at h
    rcases List.mem_cons.1 hr with rfl | hr
    · have := h.1; unfold isNum at this; simpa using this
    · exact mayHeads_num k l _ h.2.2 r hr
theorem mayCs_row (k : Nat) : ∀ (l : List Cn) (n m : Nat), mayCs k n l = some m → ∀ c, c ∈ l → mayRow k c.seq = true
  | [], _, _, _, c, hc => by simp at hc
  | a :: l, n, m, e, c, hc => by
    unfold mayCs at e
    split at e
    · rename_i h
      rcases List.mem_cons.1 hc with rfl | hc
      · exact h.2
      · exact mayCs_row k l _ m e c hc
    · cases e
theorem mayRs_row (k : Nat) : ∀ (l : List Ru) (n : Nat), mayRs k n l = true → ∀ r, r ∈ l → ∀ c, c ∈ r.conj → mayRow k c.seq = true
  | [], _, _, r, hr => by simp at hr
  | a :: l, n, e, r, hr => by
    unfold mayRs at e
    split at e
    · split at e
      · cases e
      · rename_i m hm
        rcases List.mem_cons.1 hr with rfl | hr
        · exact mayCs_row k _ n m hm
        · exact mayRs_row k l m e r hr
    · cases e
theorem mayG_names {g : Gr} (h : mayG g = true) : g.names.length ≤ 64 := by
  unfold mayG mayNames at h
  simp only [Bool.and_eq_true, decide_eq_true_eq] at h
  exact h.1.2.1
theorem mayG_head {g : Gr} (h : mayG g = true) : ∀ r, r ∈ g.rules → 0 ≤ r.head ∧ r.head < (g.names.length : Int) := by
  unfold mayG at h
  simp only [Bool.and_eq_true] at h
  exact mayHeads_num _ _ _ h.2.2.1
theorem mayG_sym {g : Gr} (h : mayG g = true) : ∀ r, r ∈ g.rules → ∀ c, c ∈ r.conj → ∀ s, s ∈ c.seq → s.name = -1 ∨ 0 ≤ s.name ∧ s.name < (g.names.length : Int) := by
  unfold mayG mayRules at h
  simp only [Bool.and_eq_true] at h
  intro r hr c hc s hs
  have := mayRs_row _ _ _ h.2.2.2.2.2 r hr c hc
  unfold mayRow at this
  simp only [Bool.and_eq_true, List.all_eq_true] at this
  have := this.2 s hs
  unfold maySym at this
  split at this
  · left; assumption
  · right
    simp only [Bool.and_eq_true] at this
    have := this.1; unfold isNum at this; simpa using this
end Go.Proofs.YtfjejnkjlnkkhaaGreatDoor
/- What hangs together, as plain functions; an equivalence, and the least of each. No program in sight. -/
namespace Go.Proofs.YtfjejnkjlnkkhaaGreatDoor
set_option linter.unusedVariables false

def endB (n i : Int) : Bool := decide (0 ≤ i) && decide (i < n)
def edB (n : Int) (e : Ed) : Bool := endB n e.1 && endB n e.2.1
def edsB (n : Int) (l : List Ed) : Bool := l.all (edB n)
def mayE (n : Int) (l : List Ed) : Bool := decide (0 ≤ n) && decide (n ≤ 64) && edsB n l

def putR (a : Nat → Nat) (k n : Nat) : Nat → Nat := fun j => if j = k then n else a j
def okR (a : Nat → Nat) : Prop := ∀ i, a i < 18446744073709551616
def bit (r : Nat → Nat) (i j : Nat) : Bool := (r i).testBit j
def addR (r : Nat → Nat) (i j : Nat) : Nat → Nat := putR r i (r i ||| 2 ^ j)
def selfR : Nat → Nat → Nat
  | 0 => fun _ => 0
  | k + 1 => addR (selfR k) k k
def edgR (r : Nat → Nat) : List Ed → Nat → Nat
  | [] => r
  | e :: l => edgR (addR r e.1.toNat e.2.1.toNat) l
def orR (r : Nat → Nat) (m f : Nat) : Nat → Nat := if bit r f m = true then putR r f (r f ||| r m) else r
def rowR (r : Nat → Nat) (m : Nat) : Nat → Nat → Nat
  | 0 => r
  | f + 1 => orR (rowR r m f) m f
def walR (r : Nat → Nat) (n : Nat) : Nat → Nat → Nat
  | 0 => r
  | m + 1 => rowR (walR r n m) m n
def walkT (n : Nat) (l : List Ed) : Nat → Nat := walR (edgR (selfR n) l) n n
def wayB (n : Nat) (l : List Ed) (i j : Nat) : Bool := bit (walkT n l) i j
def lst (p : Nat → Bool) (i : Nat) : Nat := ((List.range i).find? p).getD i
def both (n : Nat) (l : List Ed) (i j : Nat) : Bool := wayB n l i j && wayB n l j i
def comp (n : Nat) (l : List Ed) (i : Nat) : Nat := lst (both n l i) i
def compsT (n : Nat) (l : List Ed) : List Int := (List.range n).map fun i => (comp n l i : Int)
theorem p64 : (2 : Nat) ^ 64 = 18446744073709551616 := by decide
theorem or_lt {a b : Nat} (ha : a < 18446744073709551616) (hb : b < 18446744073709551616) : a ||| b < 18446744073709551616 := by
  have := @Nat.or_lt_two_pow a b 64 (by rw [p64]; exact ha) (by rw [p64]; exact hb)
  rwa [p64] at this
theorem two_lt {j : Nat} (h : j < 64) : 2 ^ j < 18446744073709551616 := by
  have := Nat.pow_lt_pow_right (a := 2) (by decide) h
  rwa [p64] at this
theorem okR_put {r : Nat → Nat} (h : okR r) (k : Nat) {n : Nat} (hn : n < 18446744073709551616) : okR (putR r k n) := fun i => by
  unfold putR; split
  · exact hn
  · exact h i
theorem okR_add {r : Nat → Nat} (h : okR r) (i : Nat) {j : Nat} (hj : j < 64) : okR (addR r i j) := okR_put h i (or_lt (h i) (two_lt hj))
theorem okR_self : ∀ n, n ≤ 64 → okR (selfR n)
  | 0, _ => fun _ => by simp [selfR]
  | k + 1, h => okR_add (okR_self k (by omega)) k (by omega)
theorem okR_or {r : Nat → Nat} (h : okR r) (m f : Nat) : okR (orR r m f) := by
  unfold orR; split
  · exact okR_put h f (or_lt (h f) (h m))
  · exact h
theorem okR_row {r : Nat → Nat} (h : okR r) (m : Nat) : ∀ f, okR (rowR r m f)
  | 0 => h
  | f + 1 => okR_or (okR_row h m f) m f
theorem okR_wal {r : Nat → Nat} (h : okR r) (n : Nat) : ∀ m, okR (walR r n m)
  | 0 => h
  | m + 1 => okR_row (okR_wal h n m) m n
theorem edB_lt {n : Int} {e : Ed} (h : edB n e = true) : 0 ≤ e.1 ∧ e.1 < n ∧ 0 ≤ e.2.1 ∧ e.2.1 < n := by
  unfold edB endB at h
  simp only [Bool.and_eq_true, decide_eq_true_eq] at h
  exact ⟨h.1.1, h.1.2, h.2.1, h.2.2⟩
theorem okR_edg {n : Int} (hn : n ≤ 64) : ∀ (l : List Ed) (r : Nat → Nat), okR r → edsB n l = true → okR (edgR r l)
  | [], r, h, _ => h
  | e :: l, r, h, hl => by
    unfold edsB at hl
    simp only [List.all_cons, Bool.and_eq_true] at hl
    have := edB_lt hl.1
    exact okR_edg hn l _ (okR_add h _ (by omega)) hl.2
theorem mayE_all {n : Int} {l : List Ed} (h : mayE n l = true) : 0 ≤ n ∧ n ≤ 64 ∧ edsB n l = true := by
  unfold mayE at h
  simp only [Bool.and_eq_true, decide_eq_true_eq] at h
  exact ⟨h.1.1, h.1.2, h.2⟩
theorem okR_walk {n : Int} {l : List Ed} (h : mayE n l = true) : okR (walkT n.toNat l) := by
  obtain ⟨h0, h1, h2⟩ := mayE_all h
  exact okR_wal (okR_edg h1 l _ (okR_self _ (by omega)) h2) _ _
theorem edgR_snoc : ∀ (l : List Ed) (r : Nat → Nat) (e : Ed), edgR r (l ++ [e]) = addR (edgR r l) e.1.toNat e.2.1.toNat
  | [], r, e => rfl
  | d :: l, r, e => edgR_snoc l _ e

theorem bit_add (r : Nat → Nat) (i j a b : Nat) : bit (addR r i j) a b = (bit r a b || (decide (a = i) && decide (b = j))) := by
  unfold bit addR putR
  by_cases e : a = i
  · subst e
    rw [if_pos rfl, Nat.testBit_or, Nat.testBit_two_pow]
    simp only [decide_true, Bool.true_and]
    by_cases h : b = j
    · subst h; simp
    · simp [h, Ne.symm h]
  · rw [if_neg e]; simp [e]
theorem bit_self : ∀ (n a b : Nat), bit (selfR n) a b = (decide (a < n) && decide (a = b))
  | 0, a, b => by simp [selfR, bit]
  | k + 1, a, b => by
    unfold selfR
    rw [bit_add, bit_self k a b, Bool.eq_iff_iff]
    simp only [Bool.or_eq_true, Bool.and_eq_true, decide_eq_true_eq]
    omega
theorem bit_edg : ∀ (l : List Ed) (r : Nat → Nat) (a b : Nat), bit (edgR r l) a b = (bit r a b || l.any fun e => decide (a = e.1.toNat) && decide (b = e.2.1.toNat))
  | [], r, a, b => by simp [edgR]
  | e :: l, r, a, b => by
    unfold edgR
    rw [bit_edg l, bit_add, List.any_cons, Bool.or_assoc]
theorem bit_or (r : Nat → Nat) (m f i j : Nat) : bit (orR r m f) i j = (bit r i j || (decide (i = f) && bit r f m && bit r m j)) := by
  unfold orR
  by_cases h : bit r f m = true
  · rw [if_pos h, h]
    unfold bit putR
    by_cases e : i = f
    · subst e; rw [if_pos rfl, Nat.testBit_or]; simp
    · rw [if_neg e]; simp [e]
  · rw [if_neg h, Bool.not_eq_true] at *
    rw [h]; simp
theorem bit_row (r : Nat → Nat) (m : Nat) : ∀ (f i j : Nat), bit (rowR r m f) i j = (bit r i j || (decide (i < f) && bit r i m && bit r m j))
  | 0, i, j => by simp [rowR]
  | f + 1, i, j => by
    unfold rowR
    rw [bit_or, bit_row r m f i j, bit_row r m f f m, bit_row r m f m j]
    have h1 : decide (f < f) = false := by simp
    rw [h1]
    by_cases e : i = f
    · subst e
      have h2 : decide (i < i + 1) = true := by simp
      have h4 : decide (i = i) = true := by simp
      rw [h1, h2, h4]
      cases bit r i j <;> cases bit r i m <;> cases bit r m j <;> cases bit r m m <;> cases decide (m < i) <;> rfl
    · have h2 : decide (i < f + 1) = decide (i < f) := by rw [Bool.eq_iff_iff]; simp only [decide_eq_true_eq]; omega
      have h3 : decide (i = f) = false := by simp [e]
      rw [h2, h3]; simp

/-- In k steps along the edges from a to b. -/
def St (l : List Ed) : Nat → Nat → Nat → Prop
  | 0, a, b => a = b
  | k + 1, a, b => ∃ e, e ∈ l ∧ e.1.toNat = a ∧ St l k e.2.1.toNat b
def Way (l : List Ed) (a b : Nat) : Prop := ∃ k, St l k a b
theorem Way.refl (l : List Ed) (a : Nat) : Way l a a := ⟨0, rfl⟩
theorem Way.cons {l : List Ed} {e : Ed} {b : Nat} (he : e ∈ l) (h : Way l e.2.1.toNat b) : Way l e.1.toNat b := by
  obtain ⟨k, h⟩ := h
  exact ⟨k + 1, e, he, rfl, h⟩
theorem Way.edge {l : List Ed} {e : Ed} (he : e ∈ l) : Way l e.1.toNat e.2.1.toNat := Way.cons he (Way.refl _ _)
theorem St.trans {l : List Ed} : ∀ {k a b c : Nat}, St l k a b → Way l b c → Way l a c
  | 0, a, b, c, h, w => by obtain rfl : a = b := h; exact w
  | k + 1, a, b, c, ⟨e, he, h1, h2⟩, w => by subst h1; exact Way.cons he (St.trans h2 w)
theorem Way.trans {l : List Ed} {a b c : Nat} (h : Way l a b) (w : Way l b c) : Way l a c := by
  obtain ⟨k, h⟩ := h
  exact St.trans h w
/-- What holds of a and goes along the edges holds of all that a reaches. -/
theorem Way.ind {l : List Ed} {S : Nat → Prop} (hs : ∀ e, e ∈ l → S e.1.toNat → S e.2.1.toNat) {a b : Nat} (h : Way l a b) (ha : S a) : S b := by
  obtain ⟨k, h⟩ := h
  induction k generalizing a with
  | zero => obtain rfl : a = b := h; exact ha
  | succ k ih =>
    obtain ⟨e, he, h1, h2⟩ := h
    subst h1
    exact ih (hs e he ha) h2
theorem Way.mono {l l' : List Ed} (h : ∀ e, e ∈ l → e ∈ l') {a b : Nat} (w : Way l a b) : Way l' a b :=
  Way.ind (S := fun x => Way l' a x) (fun e he hx => hx.trans (Way.edge (h e he))) w (Way.refl _ _)
theorem way_sound {n : Nat} {l : List Ed} {i j : Nat} (h : wayB n l i j = true) : Way l i j := by
  have h0 : ∀ a b, bit (edgR (selfR n) l) a b = true → Way l a b := fun a b hb => by
    rw [bit_edg, bit_self, Bool.or_eq_true] at hb
    rcases hb with hb | hb
    · simp only [Bool.and_eq_true, decide_eq_true_eq] at hb
      rw [hb.2]; exact Way.refl _ _
    · simp only [List.any_eq_true, Bool.and_eq_true, decide_eq_true_eq] at hb
      obtain ⟨e, he, h1, h2⟩ := hb
      rw [h1, h2]; exact Way.edge he
  have h1 : ∀ m a b, bit (walR (edgR (selfR n) l) n m) a b = true → Way l a b := by
    intro m
    induction m with
    | zero => exact h0
    | succ m ih =>
      intro a b hb
      unfold walR at hb
      rw [bit_row] at hb
      simp only [Bool.or_eq_true, Bool.and_eq_true] at hb
      rcases hb with hb | hb
      · exact ih a b hb
      · exact (ih a m hb.1.2).trans (ih m b hb.2)
  exact h1 n i j h
theorem wal_trans (n : Nat) (r : Nat → Nat) : ∀ m, m ≤ n → ∀ k, k < m → ∀ i j, i < n → bit (walR r n m) i k = true → bit (walR r n m) k j = true → bit (walR r n m) i j = true
  | 0, _, k, hk, _, _, _, _, _ => by omega
  | m + 1, hm, k, hk, i, j, hi, h1, h2 => by
    have ih := wal_trans n r m (by omega)
    unfold walR at h1 h2 ⊢
    rw [bit_row] at h1 h2 ⊢
    simp only [Bool.or_eq_true, Bool.and_eq_true, decide_eq_true_eq] at h1 h2 ⊢
    by_cases e : k = m
    · subst e
      have a1 : bit (walR r n k) i k = true := h1.elim id fun h => h.1.2
      have a2 : bit (walR r n k) k j = true := h2.elim id fun h => h.2
      exact Or.inr ⟨⟨hi, a1⟩, a2⟩
    · have hk' : k < m := by omega
      rcases h1 with h1 | h1 <;> rcases h2 with h2 | h2
      · exact Or.inl (ih k hk' i j hi h1 h2)
      · exact Or.inr ⟨⟨hi, ih k hk' i m hi h1 h2.1.2⟩, h2.2⟩
      · exact Or.inr ⟨⟨hi, h1.1.2⟩, ih k hk' m j (by omega) h1.2 h2⟩
      · exact Or.inr ⟨⟨hi, h1.1.2⟩, h2.2⟩
theorem wal_mono (n : Nat) (r : Nat → Nat) : ∀ m i j, bit r i j = true → bit (walR r n m) i j = true
  | 0, _, _, h => h
  | m + 1, i, j, h => by
    unfold walR
    rw [bit_row, wal_mono n r m i j h]; rfl
theorem way_full {n : Nat} {l : List Ed} (hl : edsB (n : Int) l = true) {i j : Nat} (hi : i < n) (h : Way l i j) : wayB n l i j = true := by
  have hb : ∀ e, e ∈ l → e.1.toNat < n ∧ e.2.1.toNat < n := fun e he => by
    unfold edsB at hl
    have := edB_lt (List.all_eq_true.1 hl e he)
    omega
  have key : j < n ∧ wayB n l i j = true := by
    refine Way.ind (S := fun x => x < n ∧ wayB n l i x = true) (fun e he hx => ⟨(hb e he).2, ?_⟩) h ⟨hi, ?_⟩
    · refine wal_trans n _ n (Nat.le_refl _) e.1.toNat (hb e he).1 i _ hi hx.2 (wal_mono n _ n _ _ ?_)
      rw [bit_edg, Bool.or_eq_true]
      exact Or.inr (List.any_eq_true.2 ⟨e, he, by simp⟩)
    · refine wal_mono n _ n _ _ ?_
      rw [bit_edg, bit_self, Bool.or_eq_true]
      exact Or.inl (by simp [hi])
  exact key.2
theorem way_iff {n : Nat} {l : List Ed} (hl : edsB (n : Int) l = true) {i j : Nat} (hi : i < n) : wayB n l i j = true ↔ Way l i j := ⟨way_sound, way_full hl hi⟩

theorem lst_eq {p : Nat → Bool} {i v : Nat} (h1 : v ≤ i) (h2 : v < i → p v = true) (h3 : ∀ j, j < v → p j = false) : lst p i = v := by
  unfold lst
  by_cases e : v < i
  · have : (List.range i).find? p = some v := by
      rw [List.find?_range_eq_some]
      exact ⟨h2 e, by simpa using e, fun j hj => by simp [h3 j hj]⟩
    rw [this]; rfl
  · obtain rfl : v = i := by omega
    have : (List.range v).find? p = none := by
      rw [List.find?_range_eq_none]
      exact fun j hj => by simp [h3 j hj]
    rw [this]; rfl
theorem lst_spec (p : Nat → Bool) (i : Nat) : lst p i ≤ i ∧ (lst p i < i → p (lst p i) = true) ∧ ∀ j, j < lst p i → p j = false := by
  unfold lst
  cases h : (List.range i).find? p with
  | none =>
    rw [List.find?_range_eq_none] at h
    exact ⟨Nat.le_refl _, fun h' => absurd h' (Nat.lt_irrefl _), fun j hj => by simpa using h j hj⟩
  | some v =>
    rw [List.find?_range_eq_some] at h
    have hv : v < i := by simpa using h.2.1
    exact ⟨Nat.le_of_lt hv, fun _ => h.1, fun j hj => by simpa using h.2.2 j hj⟩
def putS (s : Nat → Bool) (k : Nat) : Nat → Bool := fun j => if j = k then true else s j
def cntS (s : Nat → Bool) : Nat → Nat
  | 0 => 0
  | n + 1 => cntS s n + if s n = true then 1 else 0
theorem cnt_le (s : Nat → Bool) : ∀ n, cntS s n ≤ n
  | 0 => Nat.le_refl _
  | n + 1 => by have := cnt_le s n; unfold cntS; split <;> omega
theorem cnt_mono {s t : Nat → Bool} (h : ∀ j, s j = true → t j = true) : ∀ n, cntS s n ≤ cntS t n
  | 0 => Nat.le_refl _
  | n + 1 => by
    have := cnt_mono h n
    unfold cntS
    by_cases e : s n = true
    · rw [if_pos e, if_pos (h n e)]; omega
    · rw [if_neg e]; split <;> omega
theorem cnt_lt {s t : Nat → Bool} (h : ∀ j, s j = true → t j = true) {k : Nat} (h1 : s k = false) (h2 : t k = true) : ∀ n, k < n → cntS s n < cntS t n
  | n + 1, hk => by
    unfold cntS
    by_cases e : k = n
    · subst e
      have := cnt_mono h k
      rw [if_neg (by rw [h1]; simp), if_pos h2]; omega
    · have := cnt_lt h h1 h2 n (by omega)
      by_cases e : s n = true
      · rw [if_pos e, if_pos (h n e)]; omega
      · rw [if_neg e]; split <;> omega
/-- The least of those that hang together with i. -/
theorem comp_spec {n : Nat} {l : List Ed} (hl : edsB (n : Int) l = true) {i : Nat} (hi : i < n) : comp n l i ≤ i ∧ both n l i (comp n l i) = true ∧ ∀ j, j < comp n l i → both n l i j = false := by
  have h := lst_spec (both n l i) i
  refine ⟨h.1, ?_, h.2.2⟩
  by_cases e : comp n l i < i
  · exact h.2.1 e
  · have e2 : comp n l i = i := by have := h.1; unfold comp at *; omega
    rw [e2]
    unfold both
    rw [way_full hl hi (Way.refl _ _)]; rfl
section
variable {n : Nat} {l : List Ed}
theorem both_iff (hl : edsB (n : Int) l = true) {i j : Nat} (hi : i < n) (hj : j < n) : both n l i j = true ↔ Way l i j ∧ Way l j i := by
  unfold both
  rw [Bool.and_eq_true, way_iff hl hi, way_iff hl hj]
theorem both_symm (i j : Nat) : both n l i j = both n l j i := by unfold both; rw [Bool.and_comm]
theorem both_trans (hl : edsB (n : Int) l = true) {i j k : Nat} (hi : i < n) (hj : j < n) (hk : k < n) (h1 : both n l i j = true) (h2 : both n l j k = true) : both n l i k = true := by
  rw [both_iff hl hi hj] at h1
  rw [both_iff hl hj hk] at h2
  rw [both_iff hl hi hk]
  exact ⟨h1.1.trans h2.1, h2.2.trans h1.2⟩
theorem comp_eq (hl : edsB (n : Int) l = true) {i j : Nat} (hi : i < n) (hj : j < n) : comp n l i = comp n l j ↔ both n l i j = true := by
  obtain ⟨a1, a2, a3⟩ := comp_spec hl hi
  obtain ⟨b1, b2, b3⟩ := comp_spec hl hj
  constructor
  · intro e
    rw [← e] at b2
    exact both_trans hl hi (by omega) hj a2 (by rw [both_symm]; exact b2)
  · intro h
    have c1 : ¬ comp n l j < comp n l i := fun hlt => by
      have := both_trans hl hi hj (by omega) h b2
      rw [a3 _ hlt] at this; cases this
    have c2 : ¬ comp n l i < comp n l j := fun hlt => by
      have := both_trans hl hj hi (by omega) (by rw [both_symm]; exact h) a2
      rw [b3 _ hlt] at this; cases this
    omega
end
end Go.Proofs.YtfjejnkjlnkkhaaGreatDoor
