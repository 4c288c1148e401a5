/- What hangs together, as plain functions; an equivalence, and the least of each. No program in sight. -/
import Derived.Test.YtipnfiaphmddiaaGreatDepPl
import Derived.WalkKit
namespace Go.Proofs.YtipnfiaphmddiaaGreat
set_option linter.unusedVariables false

def endB (n i : Int) : Bool := decide (0 ≤ i) && decide (i < n)
def edB (n : Int) (e : Ed) : Bool := endB n e.1 && endB n e.2.1
def edsB (n : Int) (l : List Ed) : Bool := l.all (edB n)
def mayE (n : Int) (l : List Ed) : Bool := decide (0 ≤ n) && decide (n ≤ 64) && edsB n l

def putR (a : Nat → Nat) (k n : Nat) : Nat → Nat := fun j => if j = k then n else a j
def okR (a : Nat → Nat) : Prop := ∀ i, a i < 18446744073709551616
def bit (r : Nat → Nat) (i j : Nat) : Bool := (r i).testBit j
def addR (r : Nat → Nat) (i j : Nat) : Nat → Nat := putR r i (r i ||| 2 ^ j)
def selfR : Nat → Nat → Nat
  | 0 => fun _ => 0
  | k + 1 => addR (selfR k) k k
def edgR (r : Nat → Nat) : List Ed → Nat → Nat
  | [] => r
  | e :: l => edgR (addR r e.1.toNat e.2.1.toNat) l
def orR (r : Nat → Nat) (m f : Nat) : Nat → Nat := if bit r f m = true then putR r f (r f ||| r m) else r
def rowR (r : Nat → Nat) (m : Nat) : Nat → Nat → Nat
  | 0 => r
  | f + 1 => orR (rowR r m f) m f
def walR (r : Nat → Nat) (n : Nat) : Nat → Nat → Nat
  | 0 => r
  | m + 1 => rowR (walR r n m) m n
def walkT (n : Nat) (l : List Ed) : Nat → Nat := walR (edgR (selfR n) l) n n
def wayB (n : Nat) (l : List Ed) (i j : Nat) : Bool := bit (walkT n l) i j
def lst (p : Nat → Bool) (i : Nat) : Nat := ((List.range i).find? p).getD i
def both (n : Nat) (l : List Ed) (i j : Nat) : Bool := wayB n l i j && wayB n l j i
def comp (n : Nat) (l : List Ed) (i : Nat) : Nat := lst (both n l i) i
def compsT (n : Nat) (l : List Ed) : List Int := (List.range n).map fun i => (comp n l i : Int)
def reachT (n : Int) (l : List Ed) (a b : Int) : Bool := mayE n l && endB n a && endB n b && wayB n.toNat l a.toNat b.toNat

theorem p64 : (2 : Nat) ^ 64 = 18446744073709551616 := by decide
theorem or_lt {a b : Nat} (ha : a < 18446744073709551616) (hb : b < 18446744073709551616) : a ||| b < 18446744073709551616 := by
  have := @Nat.or_lt_two_pow a b 64 (by rw [p64]; exact ha) (by rw [p64]; exact hb)
  rwa [p64] at this
theorem two_lt {j : Nat} (h : j < 64) : 2 ^ j < 18446744073709551616 := by
  have := Nat.pow_lt_pow_right (a := 2) (by decide) h
  rwa [p64] at this
theorem okR_put {r : Nat → Nat} (h : okR r) (k : Nat) {n : Nat} (hn : n < 18446744073709551616) : okR (putR r k n) := fun i => by
  unfold putR; split
  · exact hn
  · exact h i
theorem okR_add {r : Nat → Nat} (h : okR r) (i : Nat) {j : Nat} (hj : j < 64) : okR (addR r i j) := okR_put h i (or_lt (h i) (two_lt hj))
theorem okR_self : ∀ n, n ≤ 64 → okR (selfR n)
  | 0, _ => fun _ => by simp [selfR]
  | k + 1, h => okR_add (okR_self k (by omega)) k (by omega)
theorem okR_or {r : Nat → Nat} (h : okR r) (m f : Nat) : okR (orR r m f) := by
  unfold orR; split
  · exact okR_put h f (or_lt (h f) (h m))
  · exact h
theorem okR_row {r : Nat → Nat} (h : okR r) (m : Nat) : ∀ f, okR (rowR r m f)
  | 0 => h
  | f + 1 => okR_or (okR_row h m f) m f
theorem okR_wal {r : Nat → Nat} (h : okR r) (n : Nat) : ∀ m, okR (walR r n m)
  | 0 => h
  | m + 1 => okR_row (okR_wal h n m) m n
theorem edB_lt {n : Int} {e : Ed} (h : edB n e = true) : 0 ≤ e.1 ∧ e.1 < n ∧ 0 ≤ e.2.1 ∧ e.2.1 < n := by
  unfold edB endB at h
  simp only [Bool.and_eq_true, decide_eq_true_eq] at h
  exact ⟨h.1.1, h.1.2, h.2.1, h.2.2⟩
theorem okR_edg {n : Int} (hn : n ≤ 64) : ∀ (l : List Ed) (r : Nat → Nat), okR r → edsB n l = true → okR (edgR r l)
  | [], r, h, _ => h
  | e :: l, r, h, hl => by
    unfold edsB at hl
    simp only [List.all_cons, Bool.and_eq_true] at hl
    have := edB_lt hl.1
    exact okR_edg hn l _ (okR_add h _ (by omega)) hl.2
theorem mayE_all {n : Int} {l : List Ed} (h : mayE n l = true) : 0 ≤ n ∧ n ≤ 64 ∧ edsB n l = true := by
  unfold mayE at h
  simp only [Bool.and_eq_true, decide_eq_true_eq] at h
  exact ⟨h.1.1, h.1.2, h.2⟩
theorem okR_walk {n : Int} {l : List Ed} (h : mayE n l = true) : okR (walkT n.toNat l) := by
  obtain ⟨h0, h1, h2⟩ := mayE_all h
  exact okR_wal (okR_edg h1 l _ (okR_self _ (by omega)) h2) _ _
theorem edgR_snoc : ∀ (l : List Ed) (r : Nat → Nat) (e : Ed), edgR r (l ++ [e]) = addR (edgR r l) e.1.toNat e.2.1.toNat
  | [], r, e => rfl
  | d :: l, r, e => edgR_snoc l _ e

theorem bit_add (r : Nat → Nat) (i j a b : Nat) : bit (addR r i j) a b = (bit r a b || (decide (a = i) && decide (b = j))) := by
  unfold bit addR putR
  by_cases e : a = i
  · subst e
    rw [if_pos rfl, Nat.testBit_or, Nat.testBit_two_pow]
    simp only [decide_true, Bool.true_and]
    by_cases h : b = j
    · subst h; simp
    · simp [h, Ne.symm h]
  · rw [if_neg e]; simp [e]
theorem bit_self : ∀ (n a b : Nat), bit (selfR n) a b = (decide (a < n) && decide (a = b))
  | 0, a, b => by simp [selfR, bit]
  | k + 1, a, b => by
    unfold selfR
    rw [bit_add, bit_self k a b, Bool.eq_iff_iff]
    simp only [Bool.or_eq_true, Bool.and_eq_true, decide_eq_true_eq]
    omega
theorem bit_edg : ∀ (l : List Ed) (r : Nat → Nat) (a b : Nat), bit (edgR r l) a b = (bit r a b || l.any fun e => decide (a = e.1.toNat) && decide (b = e.2.1.toNat))
  | [], r, a, b => by simp [edgR]
  | e :: l, r, a, b => by
    unfold edgR
    rw [bit_edg l, bit_add, List.any_cons, Bool.or_assoc]
theorem bit_or (r : Nat → Nat) (m f i j : Nat) : bit (orR r m f) i j = (bit r i j || (decide (i = f) && bit r f m && bit r m j)) := by
  unfold orR
  by_cases h : bit r f m = true
  · rw [if_pos h, h]
    unfold bit putR
    by_cases e : i = f
    · subst e; rw [if_pos rfl, Nat.testBit_or]; simp
    · rw [if_neg e]; simp [e]
  · rw [if_neg h, Bool.not_eq_true] at *
    rw [h]; simp
theorem bit_row (r : Nat → Nat) (m : Nat) : ∀ (f i j : Nat), bit (rowR r m f) i j = (bit r i j || (decide (i < f) && bit r i m && bit r m j))
  | 0, i, j => by simp [rowR]
  | f + 1, i, j => by
    unfold rowR
    rw [bit_or, bit_row r m f i j, bit_row r m f f m, bit_row r m f m j]
    have h1 : decide (f < f) = false := by simp
    rw [h1]
    by_cases e : i = f
    · subst e
      have h2 : decide (i < i + 1) = true := by simp
      have h4 : decide (i = i) = true := by simp
      rw [h1, h2, h4]
      cases bit r i j <;> cases bit r i m <;> cases bit r m j <;> cases bit r m m <;> cases decide (m < i) <;> rfl
    · have h2 : decide (i < f + 1) = decide (i < f) := by rw [Bool.eq_iff_iff]; simp only [decide_eq_true_eq]; omega
      have h3 : decide (i = f) = false := by simp [e]
      rw [h2, h3]; simp

/-- In k steps along the edges from a to b. -/
def St (l : List Ed) : Nat → Nat → Nat → Prop
  | 0, a, b => a = b
  | k + 1, a, b => ∃ e, e ∈ l ∧ e.1.toNat = a ∧ St l k e.2.1.toNat b
def Way (l : List Ed) (a b : Nat) : Prop := ∃ k, St l k a b
theorem Way.refl (l : List Ed) (a : Nat) : Way l a a := ⟨0, rfl⟩
theorem Way.cons {l : List Ed} {e : Ed} {b : Nat} (he : e ∈ l) (h : Way l e.2.1.toNat b) : Way l e.1.toNat b := by
  obtain ⟨k, h⟩ := h
  exact ⟨k + 1, e, he, rfl, h⟩
theorem Way.edge {l : List Ed} {e : Ed} (he : e ∈ l) : Way l e.1.toNat e.2.1.toNat := Way.cons he (Way.refl _ _)
theorem St.trans {l : List Ed} : ∀ {k a b c : Nat}, St l k a b → Way l b c → Way l a c
  | 0, a, b, c, h, w => by obtain rfl : a = b := h; exact w
  | k + 1, a, b, c, ⟨e, he, h1, h2⟩, w => by subst h1; exact Way.cons he (St.trans h2 w)
theorem Way.trans {l : List Ed} {a b c : Nat} (h : Way l a b) (w : Way l b c) : Way l a c := by
  obtain ⟨k, h⟩ := h
  exact St.trans h w
/-- What holds of a and goes along the edges holds of all that a reaches. -/
theorem Way.ind {l : List Ed} {S : Nat → Prop} (hs : ∀ e, e ∈ l → S e.1.toNat → S e.2.1.toNat) {a b : Nat} (h : Way l a b) (ha : S a) : S b := by
  obtain ⟨k, h⟩ := h
  induction k generalizing a with
  | zero => obtain rfl : a = b := h; exact ha
  | succ k ih =>
    obtain ⟨e, he, h1, h2⟩ := h
    subst h1
    exact ih (hs e he ha) h2
theorem Way.mono {l l' : List Ed} (h : ∀ e, e ∈ l → e ∈ l') {a b : Nat} (w : Way l a b) : Way l' a b :=
  Way.ind (S := fun x => Way l' a x) (fun e he hx => hx.trans (Way.edge (h e he))) w (Way.refl _ _)
theorem way_sound {n : Nat} {l : List Ed} {i j : Nat} (h : wayB n l i j = true) : Way l i j := by
  have h0 : ∀ a b, bit (edgR (selfR n) l) a b = true → Way l a b := fun a b hb => by
    rw [bit_edg, bit_self, Bool.or_eq_true] at hb
    rcases hb with hb | hb
    · simp only [Bool.and_eq_true, decide_eq_true_eq] at hb
      rw [hb.2]; exact Way.refl _ _
    · simp only [List.any_eq_true, Bool.and_eq_true, decide_eq_true_eq] at hb
      obtain ⟨e, he, h1, h2⟩ := hb
      rw [h1, h2]; exact Way.edge he
  have h1 : ∀ m a b, bit (walR (edgR (selfR n) l) n m) a b = true → Way l a b := by
    intro m
    induction m with
    | zero => exact h0
    | succ m ih =>
      intro a b hb
      unfold walR at hb
      rw [bit_row] at hb
      simp only [Bool.or_eq_true, Bool.and_eq_true] at hb
      rcases hb with hb | hb
      · exact ih a b hb
      · exact (ih a m hb.1.2).trans (ih m b hb.2)
  exact h1 n i j h
theorem wal_trans (n : Nat) (r : Nat → Nat) : ∀ m, m ≤ n → ∀ k, k < m → ∀ i j, i < n → bit (walR r n m) i k = true → bit (walR r n m) k j = true → bit (walR r n m) i j = true
  | 0, _, k, hk, _, _, _, _, _ => by omega
  | m + 1, hm, k, hk, i, j, hi, h1, h2 => by
    have ih := wal_trans n r m (by omega)
    unfold walR at h1 h2 ⊢
    rw [bit_row] at h1 h2 ⊢
    simp only [Bool.or_eq_true, Bool.and_eq_true, decide_eq_true_eq] at h1 h2 ⊢
    by_cases e : k = m
    · subst e
      have a1 : bit (walR r n k) i k = true := h1.elim id fun h => h.1.2
      have a2 : bit (walR r n k) k j = true := h2.elim id fun h => h.2
      exact Or.inr ⟨⟨hi, a1⟩, a2⟩
    · have hk' : k < m := by omega
      rcases h1 with h1 | h1 <;> rcases h2 with h2 | h2
      · exact Or.inl (ih k hk' i j hi h1 h2)
      · exact Or.inr ⟨⟨hi, ih k hk' i m hi h1 h2.1.2⟩, h2.2⟩
      · exact Or.inr ⟨⟨hi, h1.1.2⟩, ih k hk' m j (by omega) h1.2 h2⟩
      · exact Or.inr ⟨⟨hi, h1.1.2⟩, h2.2⟩
theorem wal_mono (n : Nat) (r : Nat → Nat) : ∀ m i j, bit r i j = true → bit (walR r n m) i j = true
  | 0, _, _, h => h
  | m + 1, i, j, h => by
    unfold walR
    rw [bit_row, wal_mono n r m i j h]; rfl
theorem way_full {n : Nat} {l : List Ed} (hl : edsB (n : Int) l = true) {i j : Nat} (hi : i < n) (h : Way l i j) : wayB n l i j = true := by
  have hb : ∀ e, e ∈ l → e.1.toNat < n ∧ e.2.1.toNat < n := fun e he => by
    unfold edsB at hl
    have := edB_lt (List.all_eq_true.1 hl e he)
    omega
  have key : j < n ∧ wayB n l i j = true := by
    refine Way.ind (S := fun x => x < n ∧ wayB n l i x = true) (fun e he hx => ⟨(hb e he).2, ?_⟩) h ⟨hi, ?_⟩
    · refine wal_trans n _ n (Nat.le_refl _) e.1.toNat (hb e he).1 i _ hi hx.2 (wal_mono n _ n _ _ ?_)
      rw [bit_edg, Bool.or_eq_true]
      exact Or.inr (List.any_eq_true.2 ⟨e, he, by simp⟩)
    · refine wal_mono n _ n _ _ ?_
      rw [bit_edg, bit_self, Bool.or_eq_true]
      exact Or.inl (by simp [hi])
  exact key.2
theorem way_iff {n : Nat} {l : List Ed} (hl : edsB (n : Int) l = true) {i j : Nat} (hi : i < n) : wayB n l i j = true ↔ Way l i j := ⟨way_sound, way_full hl hi⟩

theorem lst_eq {p : Nat → Bool} {i v : Nat} (h1 : v ≤ i) (h2 : v < i → p v = true) (h3 : ∀ j, j < v → p j = false) : lst p i = v := by
  unfold lst
  by_cases e : v < i
  · have : (List.range i).find? p = some v := by
      rw [List.find?_range_eq_some]
      exact ⟨h2 e, by simpa using e, fun j hj => by simp [h3 j hj]⟩
    rw [this]; rfl
  · obtain rfl : v = i := by omega
    have : (List.range v).find? p = none := by
      rw [List.find?_range_eq_none]
      exact fun j hj => by simp [h3 j hj]
    rw [this]; rfl
theorem lst_spec (p : Nat → Bool) (i : Nat) : lst p i ≤ i ∧ (lst p i < i → p (lst p i) = true) ∧ ∀ j, j < lst p i → p j = false := by
  unfold lst
  cases h : (List.range i).find? p with
  | none =>
    rw [List.find?_range_eq_none] at h
    exact ⟨Nat.le_refl _, fun h' => absurd h' (Nat.lt_irrefl _), fun j hj => by simpa using h j hj⟩
  | some v =>
    rw [List.find?_range_eq_some] at h
    have hv : v < i := by simpa using h.2.1
    exact ⟨Nat.le_of_lt hv, fun _ => h.1, fun j hj => by simpa using h.2.2 j hj⟩
def putS (s : Nat → Bool) (k : Nat) : Nat → Bool := fun j => if j = k then true else s j
def stepS (s : Nat → Bool) (e : Ed) : Nat → Bool := if s e.1.toNat = true then putS s e.2.1.toNat else s
def rndS (s : Nat → Bool) : List Ed → Nat → Bool
  | [] => s
  | e :: l => rndS (stepS s e) l
def itS (f : Nat) (l : List Ed) : Nat → Nat → Bool
  | 0 => putS (fun _ => false) f
  | r + 1 => rndS (itS f l r) l
def cntS (s : Nat → Bool) : Nat → Nat
  | 0 => 0
  | n + 1 => cntS s n + if s n = true then 1 else 0
theorem rndS_snoc : ∀ (l : List Ed) (s : Nat → Bool) (e : Ed), rndS s (l ++ [e]) = stepS (rndS s l) e
  | [], s, e => rfl
  | d :: l, s, e => rndS_snoc l _ e
theorem step_mono (s : Nat → Bool) (e : Ed) (j : Nat) (h : s j = true) : stepS s e j = true := by
  unfold stepS putS; split
  · show (if _ then _ else _) = _
    split
    · rfl
    · exact h
  · exact h
theorem rnd_mono : ∀ (l : List Ed) (s : Nat → Bool) (j : Nat), s j = true → rndS s l j = true
  | [], s, j, h => h
  | e :: l, s, j, h => rnd_mono l _ j (step_mono s e j h)
theorem rnd_has : ∀ (l : List Ed) (s : Nat → Bool) (e : Ed), e ∈ l → s e.1.toNat = true → rndS s l e.2.1.toNat = true
  | d :: l, s, e, he, h => by
    unfold rndS
    rcases List.mem_cons.1 he with rfl | he
    · refine rnd_mono l _ _ ?_
      unfold stepS putS; rw [if_pos h]; simp
    · exact rnd_has l _ e he (step_mono s d _ h)
def Shut (l : List Ed) (s : Nat → Bool) : Prop := ∀ e, e ∈ l → s e.1.toNat = true → s e.2.1.toNat = true
theorem step_shut {s : Nat → Bool} {e : Ed} (h : s e.1.toNat = true → s e.2.1.toNat = true) : stepS s e = s := by
  unfold stepS; split
  · rename_i h1
    funext j
    unfold putS; split
    · rename_i h2; rw [h2, h h1]
    · rfl
  · rfl
theorem rnd_shut : ∀ (l : List Ed) (s : Nat → Bool), Shut l s → rndS s l = s
  | [], s, _ => rfl
  | e :: l, s, h => by
    unfold rndS
    rw [step_shut (h e List.mem_cons_self)]
    exact rnd_shut l s fun d hd => h d (List.mem_cons_of_mem _ hd)
theorem cnt_le (s : Nat → Bool) : ∀ n, cntS s n ≤ n
  | 0 => Nat.le_refl _
  | n + 1 => by have := cnt_le s n; unfold cntS; split <;> omega
theorem cnt_mono {s t : Nat → Bool} (h : ∀ j, s j = true → t j = true) : ∀ n, cntS s n ≤ cntS t n
  | 0 => Nat.le_refl _
  | n + 1 => by
    have := cnt_mono h n
    unfold cntS
    by_cases e : s n = true
    · rw [if_pos e, if_pos (h n e)]; omega
    · rw [if_neg e]; split <;> omega
theorem cnt_lt {s t : Nat → Bool} (h : ∀ j, s j = true → t j = true) {k : Nat} (h1 : s k = false) (h2 : t k = true) : ∀ n, k < n → cntS s n < cntS t n
  | n + 1, hk => by
    unfold cntS
    by_cases e : k = n
    · subst e
      have := cnt_mono h k
      rw [if_neg (by rw [h1]; simp), if_pos h2]; omega
    · have := cnt_lt h h1 h2 n (by omega)
      by_cases e : s n = true
      · rw [if_pos e, if_pos (h n e)]; omega
      · rw [if_neg e]; split <;> omega
theorem cnt_one {s : Nat → Bool} {f : Nat} (h : s f = true) : ∀ n, f < n → 1 ≤ cntS s n
  | n + 1, hf => by
    unfold cntS
    by_cases e : f = n
    · subst e; rw [if_pos h]; omega
    · have := cnt_one h n (by omega); omega
theorem it_self (f : Nat) (l : List Ed) : ∀ r, itS f l r f = true
  | 0 => by simp [itS, putS]
  | r + 1 => rnd_mono l _ f (it_self f l r)
theorem it_grow {n : Nat} {l : List Ed} (hl : edsB (n : Int) l = true) {f : Nat} (hf : f < n) : ∀ r, Shut l (itS f l r) ∨ r + 1 ≤ cntS (itS f l r) n
  | 0 => Or.inr (cnt_one (it_self f l 0) n hf)
  | r + 1 => by
    unfold itS
    rcases it_grow hl hf r with h | h
    · rw [rnd_shut l _ h]; exact Or.inl h
    · by_cases hs : Shut l (itS f l r)
      · rw [rnd_shut l _ hs]; exact Or.inl hs
      · refine Or.inr ?_
        have hex : ∃ e, e ∈ l ∧ itS f l r e.1.toNat = true ∧ ¬ itS f l r e.2.1.toNat = true := by
          refine Classical.byContradiction fun hn => hs fun e he h1 => ?_
          refine Classical.byContradiction fun h2 => hn ⟨e, he, h1, h2⟩
        obtain ⟨e, he, h1, h2⟩ := hex
        unfold edsB at hl
        have hb := edB_lt (List.all_eq_true.1 hl e he)
        have := cnt_lt (rnd_mono l (itS f l r)) (k := e.2.1.toNat) (by rw [← Bool.not_eq_true]; exact h2) (rnd_has l _ e he h1) n (by omega)
        omega
theorem it_sound {l : List Ed} (f : Nat) : ∀ r j, itS f l r j = true → Way l f j := by
  have hstep : ∀ (l' : List Ed), (∀ e, e ∈ l' → e ∈ l) → ∀ s : Nat → Bool, (∀ j, s j = true → Way l f j) → ∀ j, rndS s l' j = true → Way l f j := by
    intro l'
    induction l' with
    | nil => intro _ s h; exact h
    | cons e l' ih =>
      intro hm s h
      unfold rndS
      refine ih (fun d hd => hm d (List.mem_cons_of_mem _ hd)) _ fun j hj => ?_
      unfold stepS at hj
      split at hj
      · rename_i h1
        unfold putS at hj
        split at hj
        · rename_i h2; rw [h2]; exact (h _ h1).trans (Way.edge (hm e List.mem_cons_self))
        · exact h j hj
      · exact h j hj
  intro r
  induction r with
  | zero =>
    intro j hj
    unfold itS putS at hj
    by_cases e : j = f
    · rw [e]; exact Way.refl _ _
    · rw [if_neg e] at hj; cases hj
  | succ r ih => exact hstep l (fun _ h => h) _ ih
theorem it_way {n : Nat} {l : List Ed} (hl : edsB (n : Int) l = true) {f : Nat} (hf : f < n) (j : Nat) : itS f l n j = wayB n l f j := by
  have hs : Shut l (itS f l n) := by
    rcases it_grow hl hf n with h | h
    · exact h
    · have := cnt_le (itS f l n) n; omega
  rw [Bool.eq_iff_iff]
  constructor
  · exact fun h => way_full hl hf (it_sound f n j h)
  · exact fun h => Way.ind (S := fun x => itS f l n x = true) hs (way_sound h) (it_self f l n)
/-- The least of those that hang together with i. -/
theorem comp_spec {n : Nat} {l : List Ed} (hl : edsB (n : Int) l = true) {i : Nat} (hi : i < n) : comp n l i ≤ i ∧ both n l i (comp n l i) = true ∧ ∀ j, j < comp n l i → both n l i j = false := by
  have h := lst_spec (both n l i) i
  refine ⟨h.1, ?_, h.2.2⟩
  by_cases e : comp n l i < i
  · exact h.2.1 e
  · have e2 : comp n l i = i := by have := h.1; unfold comp at *; omega
    rw [e2]
    unfold both
    rw [way_full hl hi (Way.refl _ _)]; rfl
section
variable {n : Nat} {l : List Ed}
theorem both_iff (hl : edsB (n : Int) l = true) {i j : Nat} (hi : i < n) (hj : j < n) : both n l i j = true ↔ Way l i j ∧ Way l j i := by
  unfold both
  rw [Bool.and_eq_true, way_iff hl hi, way_iff hl hj]
theorem both_symm (i j : Nat) : both n l i j = both n l j i := by unfold both; rw [Bool.and_comm]
theorem both_trans (hl : edsB (n : Int) l = true) {i j k : Nat} (hi : i < n) (hj : j < n) (hk : k < n) (h1 : both n l i j = true) (h2 : both n l j k = true) : both n l i k = true := by
  rw [both_iff hl hi hj] at h1
  rw [both_iff hl hj hk] at h2
  rw [both_iff hl hi hk]
  exact ⟨h1.1.trans h2.1, h2.2.trans h1.2⟩
theorem comp_idem (hl : edsB (n : Int) l = true) {i : Nat} (hi : i < n) : comp n l (comp n l i) = comp n l i := by
  obtain ⟨h1, h2, h3⟩ := comp_spec hl hi
  refine lst_eq (Nat.le_refl _) (fun h => absurd h (Nat.lt_irrefl _)) fun j hj => ?_
  rw [← Bool.not_eq_true]
  intro h
  have := both_trans hl hi (by omega) (by omega) h2 h
  rw [h3 j hj] at this; cases this
theorem comp_eq (hl : edsB (n : Int) l = true) {i j : Nat} (hi : i < n) (hj : j < n) : comp n l i = comp n l j ↔ both n l i j = true := by
  obtain ⟨a1, a2, a3⟩ := comp_spec hl hi
  obtain ⟨b1, b2, b3⟩ := comp_spec hl hj
  constructor
  · intro e
    rw [← e] at b2
    exact both_trans hl hi (by omega) hj a2 (by rw [both_symm]; exact b2)
  · intro h
    have c1 : ¬ comp n l j < comp n l i := fun hlt => by
      have := both_trans hl hi hj (by omega) h b2
      rw [a3 _ hlt] at this; cases this
    have c2 : ¬ comp n l i < comp n l j := fun hlt => by
      have := both_trans hl hj hi (by omega) (by rw [both_symm]; exact h) a2
      rw [b3 _ hlt] at this; cases this
    omega
theorem way_more (hl : edsB (n : Int) l = true) {i : Nat} (hi : i < n) {e : Ed} (he : e ∈ l) (h : wayB n l i e.1.toNat = true) : wayB n l i e.2.1.toNat = true :=
  way_full hl hi ((way_sound h).trans (Way.edge he))
theorem reach_way (hm : mayE (n : Int) l = true) {i j : Nat} (hi : i < n) (hj : j < n) : reachT (n : Int) l (i : Int) (j : Int) = wayB n l i j := by
  unfold reachT endB
  rw [hm]; simp [hi, hj]
end
/-- Edges with an edge more. -/
theorem way_snoc {l : List Ed} {e : Ed} {i j : Nat} : Way (l ++ [e]) i j ↔ Way l i j ∨ Way l i e.1.toNat ∧ Way l e.2.1.toNat j := by
  constructor
  · intro h
    refine Way.ind (l := l ++ [e]) (S := fun x => Way l i x ∨ Way l i e.1.toNat ∧ Way l e.2.1.toNat x) (fun d hd hx => ?_) h (Or.inl (Way.refl _ _))
    rcases List.mem_append.1 hd with hd | hd
    · rcases hx with hx | hx
      · exact Or.inl (hx.trans (Way.edge hd))
      · exact Or.inr ⟨hx.1, hx.2.trans (Way.edge hd)⟩
    · obtain rfl : d = e := by simpa using hd
      rcases hx with hx | hx
      · exact Or.inr ⟨hx, Way.refl _ _⟩
      · exact Or.inr ⟨hx.1, Way.refl _ _⟩
  · rintro (h | h)
    · exact h.mono fun d hd => List.mem_append_left _ hd
    · exact (h.1.mono fun d hd => List.mem_append_left _ hd).trans ((Way.edge (List.mem_append_right _ List.mem_cons_self)).trans (h.2.mono fun d hd => List.mem_append_left _ hd))
end Go.Proofs.YtipnfiaphmddiaaGreat
