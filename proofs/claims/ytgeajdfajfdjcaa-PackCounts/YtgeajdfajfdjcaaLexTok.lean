/- The tokens of a text, as plain functions of its bytes. No program in sight. -/
import Derived.Test.YtgeajdfajfdjcaaLexPlain
namespace Go.Proofs.Ytgeajdfajfdjcaa

structure Tok where
  kind : Nat
  pl : Nat
  text : ByteArray
  lo : Int
  hi : Int

def strOf (l : List Int) : ByteArray := ⟨(l.map fun n => UInt8.ofNat n.toNat).toArray⟩

/-- Where a name ends. -/
def nameS (b : Nat → Int) : Nat → Nat → Nat
  | 0, k => k
  | f + 1, k => if letB (b k) || digB (b k) then nameS b f (k + 1) else k
def nameE (b : Nat → Int) (n k : Nat) : Nat := nameS b (n - k) k
theorem nameE_end (b : Nat → Int) (n k : Nat) (h : n ≤ k) : nameE b n k = k := by
  unfold nameE; rw [show n - k = 0 by omega]; rfl
theorem nameE_in (b : Nat → Int) (n k : Nat) (h : k < n) (hl : (letB (b k) || digB (b k)) = true) : nameE b n k = nameE b n (k + 1) := by
  unfold nameE; rw [show n - k = (n - (k + 1)) + 1 by omega]; show (if _ then _ else _) = _; rw [if_pos hl]
theorem nameE_out (b : Nat → Int) (n k : Nat) (h : k < n) (hl : (letB (b k) || digB (b k)) = false) : nameE b n k = k := by
  unfold nameE; rw [show n - k = (n - (k + 1)) + 1 by omega]; show (if _ then _ else _) = _; rw [if_neg (by rw [hl]; simp)]
theorem nameS_ge (b : Nat → Int) : ∀ f k, k ≤ nameS b f k ∧ nameS b f k ≤ k + f
  | 0, k => ⟨Nat.le_refl _, Nat.le_refl _⟩
  | f + 1, k => by
    show k ≤ (if _ then _ else _) ∧ (if _ then _ else _) ≤ _
    split
    · have := nameS_ge b f (k + 1); omega
    · omega
theorem nameE_ge (b : Nat → Int) (n k : Nat) : k ≤ nameE b n k := (nameS_ge b _ k).1
theorem nameE_le (b : Nat → Int) (n k : Nat) (h : k ≤ n) : nameE b n k ≤ n := by have := (nameS_ge b (n - k) k).2; unfold nameE; omega

/-- The bytes from k up to e. -/
def cut (b : Nat → Int) (k e : Nat) : List Int := (List.range (e - k)).map fun j => b (k + j)
theorem cut_len (b : Nat → Int) (k e : Nat) : (cut b k e).length = e - k := by simp [cut]
theorem cut_nil (b : Nat → Int) (k : Nat) : cut b k k = [] := by simp [cut]
theorem cut_cons (b : Nat → Int) (k e : Nat) (h : k < e) : cut b k e = b k :: cut b (k + 1) e := by
  unfold cut
  rw [show e - k = (e - (k + 1)) + 1 by omega, List.range_succ_eq_map, List.map_cons, List.map_map]
  congr 1
  apply List.map_congr_left
  intro j _
  show b (k + (j + 1)) = b (k + 1 + j)
  rw [show k + (j + 1) = k + 1 + j by omega]

def startB : ByteArray := ⟨#[115, 116, 97, 114, 116]⟩
def isStart (l : List Int) : Bool := (strOf l).toList == startB.toList
def nameT (k : Nat) (l : List Int) : Tok := if isStart l = true then ⟨3, k, ⟨#[]⟩, 0, 0⟩ else ⟨0, k, strOf l, 0, 0⟩

/-- What stands in a text from k on, behind acc. -/
def textS (b : Nat → Int) (n : Nat) : Nat → Nat → List Int → Option (List Int × Nat)
  | 0, _, _ => none
  | f + 1, k, acc => if k < n ∧ b k = 34 then some (acc, k + 1) else
    match signF b n k 34 with
    | none => none
    | some (c, to) => textS b n f to (acc ++ [c])
def textF (b : Nat → Int) (n k : Nat) (acc : List Int) : Option (List Int × Nat) := textS b n (n + 1 - k) k acc

theorem signF_to {b : Nat → Int} {n k : Nat} {q c : Int} {to : Nat} (h : signF b n k q = some (c, to)) : k < to ∧ to ≤ n := by
  unfold signF at h
  split at h
  · cases h
  · split at h
    · injection h with h; injection h with e1 e2; omega
    · split at h
      · cases h
      · split at h
        · injection h with h; injection h with e1 e2; omega
        · split at h
          · cases h
          · injection h with h; injection h with e1 e2; omega

theorem textS_more (b : Nat → Int) (n : Nat) : ∀ f g k acc, n + 1 - k ≤ f → n + 1 - k ≤ g → k ≤ n → textS b n f k acc = textS b n g k acc
  | 0, _, k, _, h, _, hk => by omega
  | _, 0, k, _, _, h, hk => by omega
  | f + 1, g + 1, k, acc, hf, hg, hk => by
    show (if _ then _ else _) = (if _ then _ else _)
    split
    · rfl
    · split
      · rfl
      · rename_i c to hs
        have := signF_to hs
        exact textS_more b n f g to _ (by omega) (by omega) (by omega)
theorem textF_eq (b : Nat → Int) (n k : Nat) (acc : List Int) (hk : k ≤ n) : textF b n k acc = if k < n ∧ b k = 34 then some (acc, k + 1) else
    match signF b n k 34 with
    | none => none
    | some (c, to) => textF b n to (acc ++ [c]) := by
  unfold textF
  rw [show n + 1 - k = (n - k) + 1 by omega]
  show (if _ then _ else _) = _
  split
  · rfl
  · split
    · rfl
    · rename_i c to hs
      have := signF_to hs
      exact textS_more b n _ _ to _ (by omega) (by omega) (by omega)
theorem textS_to (b : Nat → Int) (n : Nat) : ∀ f k acc l to, textS b n f k acc = some (l, to) → k < to ∧ to ≤ n
  | 0, _, _, _, _, h => by cases h
  | f + 1, k, acc, l, to, h => by
    have h' : (if k < n ∧ b k = 34 then some (acc, k + 1) else match signF b n k 34 with
      | none => none
      | some (c, to) => textS b n f to (acc ++ [c])) = some (l, to) := h
    split at h'
    · injection h' with h'; injection h' with e1 e2; omega
    · split at h'
      · cases h'
      · rename_i c t hs
        have h1 := signF_to hs
        have := textS_to b n f t _ l to h'
        omega
theorem textF_to {b : Nat → Int} {n k : Nat} {acc l : List Int} {to : Nat} (h : textF b n k acc = some (l, to)) : k < to ∧ to ≤ n := textS_to b n _ _ _ _ _ h

/-- One end of a range, from behind its first quote on. -/
def half (b : Nat → Int) (n k : Nat) : Option (Int × Nat) :=
  match signF b n k 39 with
  | none => none
  | some (c, to) => if n ≤ to ∨ b to ≠ 39 then none else some (c, to + 1)
theorem half_to {b : Nat → Int} {n k : Nat} {c : Int} {to : Nat} (h : half b n k = some (c, to)) : k + 1 < to ∧ to ≤ n := by
  unfold half at h
  split at h
  · cases h
  · rename_i c' t hs
    have := signF_to hs
    split at h
    · cases h
    · injection h with h; injection h with e1 e2; omega
theorem oneF_half (b : Nat → Int) (n k : Nat) : oneF b n k = if n ≤ k ∨ b k ≠ 39 then none else half b n (k + 1) := rfl
def dotsB (b : Nat → Int) (n k : Nat) : Bool := decide (k + 1 < n) && (decide (b k = 46) && decide (b (k + 1) = 46))
abbrev dots (b : Nat → Int) (n k : Nat) : Prop := dotsB b n k = true
theorem dots_parts {b : Nat → Int} {n k : Nat} (h : dots b n k) : k + 1 < n ∧ b k = 46 ∧ b (k + 1) = 46 := by
  simpa only [dots, dotsB, Bool.and_eq_true, decide_eq_true_eq] using h
theorem dots_mk {b : Nat → Int} {n k : Nat} (h : k + 1 < n ∧ b k = 46 ∧ b (k + 1) = 46) : dots b n k := by
  simpa only [dots, dotsB, Bool.and_eq_true, decide_eq_true_eq] using h

/-- A range, from behind its first quote on. -/
def rangeF (b : Nat → Int) (n k : Nat) : Option (Int × Int × Nat) :=
  match half b n k with
  | none => none
  | some (c, to) => if dots b n to then
      match oneF b n (to + 2) with
      | none => none
      | some (d, to2) => some (c, d, to2)
    else some (c, c, to)

/-- A token and the place behind it; true: no text, no range, too long a name; false: a byte that begins no token. -/
abbrev Got := Except Bool (Tok × Nat)
abbrev Got.tok (t : Tok) (to : Nat) : Got := .ok (t, to)
abbrev Got.noText : Got := .error true
abbrev Got.noByte : Got := .error false
theorem got_inj {t t' : Tok} {to to' : Nat} (h : Got.tok t to = Got.tok t' to') : t = t' ∧ to = to' := by
  injection h with h; injection h with e1 e2; exact ⟨e1, e2⟩

def nameG (b : Nat → Int) (n k : Nat) : Got := if 32 < nameE b n k - k then .noText else .tok (nameT k (cut b k (nameE b n k))) (nameE b n k)
def textG (b : Nat → Int) (n k : Nat) : Got := match textF b n (k + 1) [] with
  | none => .noText
  | some (l, to) => .tok ⟨1, k, strOf l, 0, 0⟩ to
def rangeG (b : Nat → Int) (n k : Nat) : Got := match rangeF b n (k + 1) with
  | none => .noText
  | some (c, d, to) => .tok ⟨2, k, ⟨#[]⟩, c, d⟩ to
/-- The token that begins at k. -/
def tokF (b : Nat → Int) (n k : Nat) : Got :=
  if letB (b k) then nameG b n k
  else if b k = 34 then textG b n k
  else if b k = 39 then rangeG b n k
  else if 0 < markF (b k) then .tok ⟨(markF (b k)).toNat, k, ⟨#[]⟩, 0, 0⟩ (k + 1)
  else .noByte

abbrev Res := Except (Nat × Nat) (List Tok)
def Res.cons (t : Tok) : Res → Res
  | .ok l => .ok (t :: l)
  | .error e => .error e
def Res.pre : List Tok → Res → Res
  | l, .ok m => .ok (l ++ m)
  | _, .error e => .error e

def lexS (b : Nat → Int) (n : Nat) : Nat → Nat → Res
  | 0, _ => .ok []
  | f + 1, k => if n ≤ skp b n false k then .ok [] else
    match tokF b n (skp b n false k) with
    | .ok (t, to) => Res.cons t (lexS b n f to)
    | .error true => .error (skp b n false k, 201)
    | .error false => .error (skp b n false k, 200)
def lexK (b : Nat → Int) (n k : Nat) : Res := lexS b n (n + 1 - k) k
def lexB (b : Nat → Int) (n : Nat) : Res := if 65536 < n then .error (0, 201) else lexK b n 0
def lexT (s : ByteArray) : Res := lexB (PlainAid.bt s) s.size

theorem skipS_ge (b : Nat → Int) (n : Nat) : ∀ f c k, k ≤ skipS b n f c k ∧ skipS b n f c k ≤ k + f
  | 0, c, k => by cases c <;> exact ⟨Nat.le_refl _, Nat.le_refl _⟩
  | f + 1, true, k => by
    show k ≤ (if _ then _ else _) ∧ (if _ then _ else _) ≤ _
    have h1 := skipS_ge b n f true (k + 1)
    have h2 := skipS_ge b n f false (k + 1)
    split <;> omega
  | f + 1, false, k => by
    show k ≤ (if _ then _ else (if _ then _ else _)) ∧ (if _ then _ else (if _ then _ else _)) ≤ _
    have h1 := skipS_ge b n f true (k + 1)
    have h2 := skipS_ge b n f false (k + 1)
    split
    · omega
    · split <;> omega
theorem skp_ge (b : Nat → Int) (n : Nat) (c : Bool) (k : Nat) : k ≤ skp b n c k := (skipS_ge b n _ c k).1
theorem skp_le (b : Nat → Int) (n : Nat) (c : Bool) (k : Nat) (h : k ≤ n) : skp b n c k ≤ n := by have := (skipS_ge b n (n - k) c k).2; unfold skp; omega

theorem nameE_gt {b : Nat → Int} {n k : Nat} (h : k < n) (hl : letB (b k) = true) : k < nameE b n k := by
  rw [nameE_in b n k h (by rw [hl]; rfl)]; have := nameE_ge b n (k + 1); omega
theorem rangeF_to {b : Nat → Int} {n k : Nat} {c d : Int} {to : Nat} (h : rangeF b n k = some (c, d, to)) : k < to ∧ to ≤ n := by
  unfold rangeF at h
  split at h
  · cases h
  · rename_i c' t hs
    have h1 := half_to hs
    split at h
    · split at h
      · cases h
      · rename_i d' t2 ho
        rw [oneF_half] at ho
        split at ho
        · cases ho
        · have := half_to ho
          injection h with h; injection h with e1 e2; injection e2 with e2 e3; omega
    · injection h with h; injection h with e1 e2; injection e2 with e2 e3; omega
theorem tokF_to {b : Nat → Int} {n k : Nat} {t : Tok} {to : Nat} (hk : k < n) (h : tokF b n k = .tok t to) : k < to ∧ to ≤ n := by
  unfold tokF at h
  split at h
  · rename_i hl
    unfold nameG at h
    split at h
    · cases h
    · obtain ⟨e1, e2⟩ := got_inj h
      have := nameE_gt hk hl
      have := nameE_le b n k (by omega)
      omega
  · split at h
    · unfold textG at h
      split at h
      · cases h
      · rename_i l t' hs
        have := textF_to hs
        obtain ⟨e1, e2⟩ := got_inj h
        omega
    · split at h
      · unfold rangeG at h
        split at h
        · cases h
        · rename_i c d t' hs
          have := rangeF_to hs
          obtain ⟨e1, e2⟩ := got_inj h
          omega
      · split at h
        · obtain ⟨e1, e2⟩ := got_inj h; omega
        · cases h

theorem lexS_more (b : Nat → Int) (n : Nat) : ∀ f g k, n + 1 - k ≤ f → n + 1 - k ≤ g → k ≤ n → lexS b n f k = lexS b n g k
  | 0, _, k, h, _, hk => by omega
  | _, 0, k, _, h, hk => by omega
  | f + 1, g + 1, k, hf, hg, hk => by
    show (if _ then _ else _) = (if _ then _ else _)
    split
    · rfl
    · rename_i hn
      split
      · rename_i t to hs
        have := tokF_to (by omega) hs
        have := skp_ge b n false k
        rw [lexS_more b n f g to (by omega) (by omega) (by omega)]
      · rfl
      · rfl
/-- What follows from place a on, where no blank stands. -/
def lexA (b : Nat → Int) (n a : Nat) : Res := if n ≤ a then .ok [] else
    match tokF b n a with
    | .ok (t, to) => Res.cons t (lexK b n to)
    | .error true => .error (a, 201)
    | .error false => .error (a, 200)
theorem lexK_eq (b : Nat → Int) (n k : Nat) (hk : k ≤ n) : lexK b n k = lexA b n (skp b n false k) := by
  unfold lexK lexA
  rw [show n + 1 - k = (n - k) + 1 by omega]
  show (if _ then _ else _) = _
  split
  · rfl
  · rename_i hn
    split
    · rename_i t to hs
      have := tokF_to (by omega) hs
      have := skp_ge b n false k
      show _ = Res.cons t (lexS b n _ to)
      rw [lexS_more b n (n - k) (n + 1 - to) to (by omega) (by omega) (by omega)]
    · rfl
    · rfl

theorem Res.pre_nil (r : Res) : Res.pre [] r = r := by cases r <;> rfl
theorem Res.pre_cons (l : List Tok) (t : Tok) (r : Res) : Res.pre l (Res.cons t r) = Res.pre (l ++ [t]) r := by
  cases r with
  | ok m => simp [Res.pre, Res.cons]
  | error e => rfl
theorem Res.pre_error (l : List Tok) (e : Nat × Nat) : Res.pre l (.error e) = .error e := rfl
theorem Res.pre_ok (l : List Tok) : Res.pre l (.ok []) = .ok l := by simp [Res.pre]
end Go.Proofs.Ytgeajdfajfdjcaa
