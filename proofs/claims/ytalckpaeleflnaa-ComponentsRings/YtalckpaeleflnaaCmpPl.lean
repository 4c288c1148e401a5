/- What hangs together, as plain functions: edges, rows of bits, who reaches whom, the least of those that hang together. No program in sight. -/
import Derived.WalkKit
namespace Go.Proofs.Ytalckpaeleflnaa
set_option linter.unusedVariables false

abbrev Ed := Int × Int × Bool
def endB (n i : Int) : Bool := decide (0 ≤ i) && decide (i < n)
def edB (n : Int) (e : Ed) : Bool := endB n e.1 && endB n e.2.1
def edsB (n : Int) (l : List Ed) : Bool := l.all (edB n)
def mayE (n : Int) (l : List Ed) : Bool := decide (0 ≤ n) && decide (n ≤ 64) && edsB n l

def putR (a : Nat → Nat) (k n : Nat) : Nat → Nat := fun j => if j = k then n else a j
def okR (a : Nat → Nat) : Prop := ∀ i, a i < 18446744073709551616
def bit (r : Nat → Nat) (i j : Nat) : Bool := (r i).testBit j
def addR (r : Nat → Nat) (i j : Nat) : Nat → Nat := putR r i (r i ||| 2 ^ j)
def selfR : Nat → Nat → Nat
  | 0 => fun _ => 0
  | k + 1 => addR (selfR k) k k
def edgR (r : Nat → Nat) : List Ed → Nat → Nat
  | [] => r
  | e :: l => edgR (addR r e.1.toNat e.2.1.toNat) l
def orR (r : Nat → Nat) (m f : Nat) : Nat → Nat := if bit r f m = true then putR r f (r f ||| r m) else r
def rowR (r : Nat → Nat) (m : Nat) : Nat → Nat → Nat
  | 0 => r
  | f + 1 => orR (rowR r m f) m f
def walR (r : Nat → Nat) (n : Nat) : Nat → Nat → Nat
  | 0 => r
  | m + 1 => rowR (walR r n m) m n
def walkT (n : Nat) (l : List Ed) : Nat → Nat := walR (edgR (selfR n) l) n n
def wayB (n : Nat) (l : List Ed) (i j : Nat) : Bool := bit (walkT n l) i j
def lst (p : Nat → Bool) (i : Nat) : Nat := ((List.range i).find? p).getD i
def both (n : Nat) (l : List Ed) (i j : Nat) : Bool := wayB n l i j && wayB n l j i
def comp (n : Nat) (l : List Ed) (i : Nat) : Nat := lst (both n l i) i
def compsT (n : Nat) (l : List Ed) : List Int := (List.range n).map fun i => (comp n l i : Int)
def reachT (n : Int) (l : List Ed) (a b : Int) : Bool := mayE n l && endB n a && endB n b && wayB n.toNat l a.toNat b.toNat

theorem p64 : (2 : Nat) ^ 64 = 18446744073709551616 := by decide
theorem or_lt {a b : Nat} (ha : a < 18446744073709551616) (hb : b < 18446744073709551616) : a ||| b < 18446744073709551616 := by
  have := @Nat.or_lt_two_pow a b 64 (by rw [p64]; exact ha) (by rw [p64]; exact hb)
  rwa [p64] at this
theorem two_lt {j : Nat} (h : j < 64) : 2 ^ j < 18446744073709551616 := by
  have := Nat.pow_lt_pow_right (a := 2) (by decide) h
  rwa [p64] at this
theorem okR_put {r : Nat → Nat} (h : okR r) (k : Nat) {n : Nat} (hn : n < 18446744073709551616) : okR (putR r k n) := fun i => by
  unfold putR; split
  · exact hn
  · exact h i
theorem okR_add {r : Nat → Nat} (h : okR r) (i : Nat) {j : Nat} (hj : j < 64) : okR (addR r i j) := okR_put h i (or_lt (h i) (two_lt hj))
theorem okR_self : ∀ n, n ≤ 64 → okR (selfR n)
  | 0, _ => fun _ => by simp [selfR]
  | k + 1, h => okR_add (okR_self k (by omega)) k (by omega)
theorem okR_or {r : Nat → Nat} (h : okR r) (m f : Nat) : okR (orR r m f) := by
  unfold orR; split
  · exact okR_put h f (or_lt (h f) (h m))
  · exact h
theorem okR_row {r : Nat → Nat} (h : okR r) (m : Nat) : ∀ f, okR (rowR r m f)
  | 0 => h
  | f + 1 => okR_or (okR_row h m f) m f
theorem okR_wal {r : Nat → Nat} (h : okR r) (n : Nat) : ∀ m, okR (walR r n m)
  | 0 => h
  | m + 1 => okR_row (okR_wal h n m) m n
theorem edB_lt {n : Int} {e : Ed} (h : edB n e = true) : 0 ≤ e.1 ∧ e.1 < n ∧ 0 ≤ e.2.1 ∧ e.2.1 < n := by
  unfold edB endB at h
  simp only [Bool.and_eq_true, decide_eq_true_eq] at h
  exact ⟨h.1.1, h.1.2, h.2.1, h.2.2⟩
theorem okR_edg {n : Int} (hn : n ≤ 64) : ∀ (l : List Ed) (r : Nat → Nat), okR r → edsB n l = true → okR (edgR r l)
  | [], r, h, _ => h
  | e :: l, r, h, hl => by
    unfold edsB at hl
    simp only [List.all_cons, Bool.and_eq_true] at hl
    have := edB_lt hl.1
    exact okR_edg hn l _ (okR_add h _ (by omega)) hl.2
theorem mayE_all {n : Int} {l : List Ed} (h : mayE n l = true) : 0 ≤ n ∧ n ≤ 64 ∧ edsB n l = true := by
  unfold mayE at h
  simp only [Bool.and_eq_true, decide_eq_true_eq] at h
  exact ⟨h.1.1, h.1.2, h.2⟩
theorem okR_walk {n : Int} {l : List Ed} (h : mayE n l = true) : okR (walkT n.toNat l) := by
  obtain ⟨h0, h1, h2⟩ := mayE_all h
  exact okR_wal (okR_edg h1 l _ (okR_self _ (by omega)) h2) _ _
theorem edgR_snoc : ∀ (l : List Ed) (r : Nat → Nat) (e : Ed), edgR r (l ++ [e]) = addR (edgR r l) e.1.toNat e.2.1.toNat
  | [], r, e => rfl
  | d :: l, r, e => edgR_snoc l _ e

theorem bit_add (r : Nat → Nat) (i j a b : Nat) : bit (addR r i j) a b = (bit r a b || (decide (a = i) && decide (b = j))) := by
  unfold bit addR putR
  by_cases e : a = i
  · subst e
    rw [if_pos rfl, Nat.testBit_or, Nat.testBit_two_pow]
    simp only [decide_true, Bool.true_and]
    by_cases h : b = j
    · subst h; simp
    · simp [h, Ne.symm h]
  · rw [if_neg e]; simp [e]
theorem bit_self : ∀ (n a b : Nat), bit (selfR n) a b = (decide (a < n) && decide (a = b))
  | 0, a, b => by simp [selfR, bit]
  | k + 1, a, b => by
    unfold selfR
    rw [bit_add, bit_self k a b, Bool.eq_iff_iff]
    simp only [Bool.or_eq_true, Bool.and_eq_true, decide_eq_true_eq]
    omega
theorem bit_edg : ∀ (l : List Ed) (r : Nat → Nat) (a b : Nat), bit (edgR r l) a b = (bit r a b || l.any fun e => decide (a = e.1.toNat) && decide (b = e.2.1.toNat))
  | [], r, a, b => by simp [edgR]
  | e :: l, r, a, b => by
    unfold edgR
    rw [bit_edg l, bit_add, List.any_cons, Bool.or_assoc]
theorem bit_or (r : Nat → Nat) (m f i j : Nat) : bit (orR r m f) i j = (bit r i j || (decide (i = f) && bit r f m && bit r m j)) := by
  unfold orR
  by_cases h : bit r f m = true
  · rw [if_pos h, h]
    unfold bit putR
    by_cases e : i = f
    · subst e; rw [if_pos rfl, Nat.testBit_or]; simp
    · rw [if_neg e]; simp [e]
  · rw [if_neg h, Bool.not_eq_true] at *
    rw [h]; simp
theorem bit_row (r : Nat → Nat) (m : Nat) : ∀ (f i j : Nat), bit (rowR r m f) i j = (bit r i j || (decide (i < f) && bit r i m && bit r m j))
  | 0, i, j => by simp [rowR]
  | f + 1, i, j => by
    unfold rowR
    rw [bit_or, bit_row r m f i j, bit_row r m f f m, bit_row r m f m j]
    have h1 : decide (f < f) = false := by simp
    rw [h1]
    by_cases e : i = f
    · subst e
      have h2 : decide (i < i + 1) = true := by simp
      have h4 : decide (i = i) = true := by simp
      rw [h1, h2, h4]
      cases bit r i j <;> cases bit r i m <;> cases bit r m j <;> cases bit r m m <;> cases decide (m < i) <;> rfl
    · have h2 : decide (i < f + 1) = decide (i < f) := by rw [Bool.eq_iff_iff]; simp only [decide_eq_true_eq]; omega
      have h3 : decide (i = f) = false := by simp [e]
      rw [h2, h3]; simp

/-- In k steps along the edges from a to b. -/
def St (l : List Ed) : Nat → Nat → Nat → Prop
  | 0, a, b => a = b
  | k + 1, a, b => ∃ e, e ∈ l ∧ e.1.toNat = a ∧ St l k e.2.1.toNat b
def Way (l : List Ed) (a b : Nat) : Prop := ∃ k, St l k a b
theorem Way.refl (l : List Ed) (a : Nat) : Way l a a := ⟨0, rfl⟩
theorem Way.cons {l : List Ed} {e : Ed} {b : Nat} (he : e ∈ l) (h : Way l e.2.1.toNat b) : Way l e.1.toNat b := by
  obtain ⟨k, h⟩ := h
  exact ⟨k + 1, e, he, rfl, h⟩
theorem Way.edge {l : List Ed} {e : Ed} (he : e ∈ l) : Way l e.1.toNat e.2.1.toNat := Way.cons he (Way.refl _ _)
theorem St.trans {l : List Ed} : ∀ {k a b c : Nat}, St l k a b → Way l b c → Way l a c
  | 0, a, b, c, h, w => by obtain rfl : a = b := h; exact w
  | k + 1, a, b, c, ⟨e, he, h1, h2⟩, w => by subst h1; exact Way.cons he (St.trans h2 w)
theorem Way.trans {l : List Ed} {a b c : Nat} (h : Way l a b) (w : Way l b c) : Way l a c := by
  obtain ⟨k, h⟩ := h
  exact St.trans h w
/-- What holds of a and goes along the edges holds of all that a reaches. -/
theorem Way.ind {l : List Ed} {S : Nat → Prop} (hs : ∀ e, e ∈ l → S e.1.toNat → S e.2.1.toNat) {a b : Nat} (h : Way l a b) (ha : S a) : S b := by
  obtain ⟨k, h⟩ := h
  induction k generalizing a with
  | zero => obtain rfl : a = b := h; exact ha
  | succ k ih =>
    obtain ⟨e, he, h1, h2⟩ := h
    subst h1
    exact ih (hs e he ha) h2
theorem Way.mono {l l' : List Ed} (h : ∀ e, e ∈ l → e ∈ l') {a b : Nat} (w : Way l a b) : Way l' a b :=
  Way.ind (S := fun x => Way l' a x) (fun e he hx => hx.trans (Way.edge (h e he))) w (Way.refl _ _)
theorem way_sound {n : Nat} {l : List Ed} {i j : Nat} (h : wayB n l i j = true) : Way l i j := by
  have h0 : ∀ a b, bit (edgR (selfR n) l) a b = true → Way l a b := fun a b hb => by
    rw [bit_edg, bit_self, Bool.or_eq_true] at hb
    rcases hb with hb | hb
    · simp only [Bool.and_eq_true, decide_eq_true_eq] at hb
      rw [hb.2]; exact Way.refl _ _
    · simp only [List.any_eq_true, Bool.and_eq_true, decide_eq_true_eq] at hb
      obtain ⟨e, he, h1, h2⟩ := hb
      rw [h1, h2]; exact Way.edge he
  have h1 : ∀ m a b, bit (walR (edgR (selfR n) l) n m) a b = true → Way l a b := by
    intro m
    induction m with
    | zero => exact h0
    | succ m ih =>
      intro a b hb
      unfold walR at hb
      rw [bit_row] at hb
      simp only [Bool.or_eq_true, Bool.and_eq_true] at hb
      rcases hb with hb | hb
      · exact ih a b hb
      · exact (ih a m hb.1.2).trans (ih m b hb.2)
  exact h1 n i j h
theorem wal_trans (n : Nat) (r : Nat → Nat) : ∀ m, m ≤ n → ∀ k, k < m → ∀ i j, i < n → bit (walR r n m) i k = true → bit (walR r n m) k j = true → bit (walR r n m) i j = true
  | 0, _, k, hk, _, _, _, _, _ => by omega
  | m + 1, hm, k, hk, i, j, hi, h1, h2 => by
    have ih := wal_trans n r m (by omega)
    unfold walR at h1 h2 ⊢
    rw [bit_row] at h1 h2 ⊢
    simp only [Bool.or_eq_true, Bool.and_eq_true, decide_eq_true_eq] at h1 h2 ⊢
    by_cases e : k = m
    · subst e
      have a1 : bit (walR r n k) i k = true := h1.elim id fun h => h.1.2
      have a2 : bit (walR r n k) k j = true := h2.elim id fun h => h.2
      exact Or.inr ⟨⟨hi, a1⟩, a2⟩
    · have hk' : k < m := by omega
      rcases h1 with h1 | h1 <;> rcases h2 with h2 | h2
      · exact Or.inl (ih k hk' i j hi h1 h2)
      · exact Or.inr ⟨⟨hi, ih k hk' i m hi h1 h2.1.2⟩, h2.2⟩
      · exact Or.inr ⟨⟨hi, h1.1.2⟩, ih k hk' m j (by omega) h1.2 h2⟩
      · exact Or.inr ⟨⟨hi, h1.1.2⟩, h2.2⟩
theorem wal_mono (n : Nat) (r : Nat → Nat) : ∀ m i j, bit r i j = true → bit (walR r n m) i j = true
  | 0, _, _, h => h
  | m + 1, i, j, h => by
    unfold walR
    rw [bit_row, wal_mono n r m i j h]; rfl
theorem way_full {n : Nat} {l : List Ed} (hl : edsB (n : Int) l = true) {i j : Nat} (hi : i < n) (h : Way l i j) : wayB n l i j = true := by
  have hb : ∀ e, e ∈ l → e.1.toNat < n ∧ e.2.1.toNat < n := fun e he => by
    unfold edsB at hl
    have := edB_lt (List.all_eq_true.1 hl e he)
    omega
  have key : j < n ∧ wayB n l i j = true := by
    refine Way.ind (S := fun x => x < n ∧ wayB n l i x = true) (fun e he hx => ⟨(hb e he).2, ?_⟩) h ⟨hi, ?_⟩
    · refine wal_trans n _ n (Nat.le_refl _) e.1.toNat (hb e he).1 i _ hi hx.2 (wal_mono n _ n _ _ ?_)
      rw [bit_edg, Bool.or_eq_true]
      exact Or.inr (List.any_eq_true.2 ⟨e, he, by simp⟩)
    · refine wal_mono n _ n _ _ ?_
      rw [bit_edg, bit_self, Bool.or_eq_true]
      exact Or.inl (by simp [hi])
  exact key.2
theorem way_iff {n : Nat} {l : List Ed} (hl : edsB (n : Int) l = true) {i j : Nat} (hi : i < n) : wayB n l i j = true ↔ Way l i j := ⟨way_sound, way_full hl hi⟩

theorem lst_eq {p : Nat → Bool} {i v : Nat} (h1 : v ≤ i) (h2 : v < i → p v = true) (h3 : ∀ j, j < v → p j = false) : lst p i = v := by
  unfold lst
  by_cases e : v < i
  · have : (List.range i).find? p = some v := by
      rw [List.find?_range_eq_some]
      exact ⟨h2 e, by simpa using e, fun j hj => by simp [h3 j hj]⟩
    rw [this]; rfl
  · obtain rfl : v = i := by omega
    have : (List.range v).find? p = none := by
      rw [List.find?_range_eq_none]
      exact fun j hj => by simp [h3 j hj]
    rw [this]; rfl
theorem lst_spec (p : Nat → Bool) (i : Nat) : lst p i ≤ i ∧ (lst p i < i → p (lst p i) = true) ∧ ∀ j, j < lst p i → p j = false := by
  unfold lst
  cases h : (List.range i).find? p with
  | none =>
    rw [List.find?_range_eq_none] at h
    exact ⟨Nat.le_refl _, fun h' => absurd h' (Nat.lt_irrefl _), fun j hj => by simpa using h j hj⟩
  | some v =>
    rw [List.find?_range_eq_some] at h
    have hv : v < i := by simpa using h.2.1
    exact ⟨Nat.le_of_lt hv, fun _ => h.1, fun j hj => by simpa using h.2.2 j hj⟩
end Go.Proofs.Ytalckpaeleflnaa
