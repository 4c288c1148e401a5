/- Plain mathematics of sets of bytes, each as four words of 64 bits: members, counts, runs. No program in sight. -/
import Derived.WalkKit
namespace Go.Proofs.Ytgeajdfajfdjcaa

def orB (a b : Nat → Nat) : Nat → Nat := fun i => a i ||| b i
def andB (a b : Nat → Nat) : Nat → Nat := fun i => a i &&& b i
def minB (a b : Nat → Nat) : Nat → Nat := fun i => a i ^^^ (a i &&& b i)
def okB (a : Nat → Nat) : Prop := ∀ i, a i < 18446744073709551616
def hasB (a : Nat → Nat) (c : Nat) : Bool := decide (c < 256) && (a (c / 64)).testBit (c % 64)
def hasZ (a : Nat → Nat) (c : Int) : Bool := decide (0 ≤ c) && hasB a c.toNat

theorem p64 : (2 : Nat) ^ 64 = 18446744073709551616 := by decide

theorem okB_or {a b : Nat → Nat} (ha : okB a) (hb : okB b) : okB (orB a b) := fun i => by
  have := @Nat.or_lt_two_pow (a i) (b i) 64 (by rw [p64]; exact ha i) (by rw [p64]; exact hb i)
  rwa [p64] at this
theorem okB_and {a b : Nat → Nat} (ha : okB a) : okB (andB a b) := fun i => Nat.lt_of_le_of_lt Nat.and_le_left (ha i)
theorem okB_min {a b : Nat → Nat} (ha : okB a) : okB (minB a b) := fun i => by
  have := @Nat.xor_lt_two_pow (a i) (a i &&& b i) 64 (by rw [p64]; exact ha i) (by rw [p64]; exact Nat.lt_of_le_of_lt Nat.and_le_left (ha i))
  rwa [p64] at this

theorem hasB_or (a b : Nat → Nat) (c : Nat) : hasB (orB a b) c = (hasB a c || hasB b c) := by
  unfold hasB orB; rw [Nat.testBit_or]; cases decide (c < 256) <;> simp
theorem hasB_and (a b : Nat → Nat) (c : Nat) : hasB (andB a b) c = (hasB a c && hasB b c) := by
  unfold hasB andB; rw [Nat.testBit_and]; cases decide (c < 256) <;> simp
theorem hasB_min (a b : Nat → Nat) (c : Nat) : hasB (minB a b) c = (hasB a c && !hasB b c) := by
  unfold hasB minB; rw [Nat.testBit_xor, Nat.testBit_and]
  cases decide (c < 256) <;> simp
  cases (a (c / 64)).testBit (c % 64) <;> simp

theorem hasB_lt {a : Nat → Nat} {c : Nat} (h : hasB a c = true) : c < 256 := by
  unfold hasB at h; simp at h; exact h.1

theorem hasB_at (a : Nat → Nat) (i j : Nat) (hi : i < 4) (hj : j < 64) : hasB a (64 * i + j) = (a i).testBit j := by
  unfold hasB
  rw [show (64 * i + j) / 64 = i by omega, show (64 * i + j) % 64 = j by omega, decide_eq_true (by omega)]
  rfl

/-- Sets with the same members have the same words. -/
theorem word_ext {a b : Nat → Nat} (ha : okB a) (hb : okB b) (h : ∀ c, c < 256 → hasB a c = hasB b c) (i : Nat) (hi : i < 4) : a i = b i := by
  apply Nat.eq_of_testBit_eq
  intro j
  by_cases hj : j < 64
  · rw [← hasB_at a i j hi hj, ← hasB_at b i j hi hj]; exact h _ (by omega)
  · have hp : 2 ^ 64 ≤ 2 ^ j := Nat.pow_le_pow_right (by decide) (by omega)
    rw [p64] at hp
    rw [Nat.testBit_lt_two_pow (Nat.lt_of_lt_of_le (ha i) hp), Nat.testBit_lt_two_pow (Nat.lt_of_lt_of_le (hb i) hp)]

/-- A word by its bits. -/
def mkw (q : Nat → Bool) : Nat → Nat
  | 0 => 0
  | n + 1 => if q n then mkw q n ||| 2 ^ n else mkw q n

theorem mkw_lt (q : Nat → Bool) : ∀ n, mkw q n < 2 ^ n
  | 0 => by simp [mkw]
  | n + 1 => by
    have h := mkw_lt q n
    have h2 : 2 ^ n < 2 ^ (n + 1) := Nat.pow_lt_pow_right (by decide) (by omega)
    unfold mkw
    split
    · exact Nat.or_lt_two_pow (by omega) h2
    · omega

theorem testBit_mkw (q : Nat → Bool) (j : Nat) : ∀ n, (mkw q n).testBit j = (decide (j < n) && q j)
  | 0 => by simp [mkw]
  | n + 1 => by
    have h := testBit_mkw q j n
    unfold mkw
    by_cases hj : j = n
    · subst hj
      cases hq : q j <;> simp [h, Nat.testBit_or]
    · have e : decide (j < n + 1) = decide (j < n) := by
        by_cases h1 : j < n
        · simp [h1]; omega
        · simp [h1]; omega
      rw [e]
      split
      · rw [Nat.testBit_or, h, Nat.testBit_two_pow]; simp; intro h'; omega
      · exact h

/-- The bytes below k that belong. -/
def gat (p : Nat → Bool) (k : Nat) : Nat → Nat := fun i => mkw (fun j => p (64 * i + j) && decide (64 * i + j < k)) 64

theorem okB_gat (p : Nat → Bool) (k : Nat) : okB (gat p k) := fun i => by
  have := mkw_lt (fun j => p (64 * i + j) && decide (64 * i + j < k)) 64
  rwa [p64] at this

theorem hasB_gat (p : Nat → Bool) (k c : Nat) : hasB (gat p k) c = (decide (c < 256) && p c && decide (c < k)) := by
  unfold hasB gat
  rw [testBit_mkw, show 64 * (c / 64) + c % 64 = c by omega, decide_eq_true (show c % 64 < 64 by omega)]
  cases decide (c < 256) <;> simp

theorem gat_zero (p : Nat → Bool) (i : Nat) : gat p 0 i = 0 := by
  apply Nat.eq_of_testBit_eq
  intro j
  unfold gat
  rw [testBit_mkw]; simp

theorem gat_same (p : Nat → Bool) (k i : Nat) (h : p k = false) : gat p (k + 1) i = gat p k i := by
  apply Nat.eq_of_testBit_eq
  intro j
  unfold gat
  rw [testBit_mkw, testBit_mkw]
  by_cases e : 64 * i + j = k
  · rw [e, h]; simp
  · have : decide (64 * i + j < k + 1) = decide (64 * i + j < k) := decide_eq_decide.2 (by omega)
    rw [this]

theorem gat_other (p : Nat → Bool) (k i : Nat) (h : i ≠ k / 64) : gat p (k + 1) i = gat p k i := by
  apply Nat.eq_of_testBit_eq
  intro j
  unfold gat
  rw [testBit_mkw, testBit_mkw]
  by_cases hj : j < 64
  · have : decide (64 * i + j < k + 1) = decide (64 * i + j < k) := decide_eq_decide.2 (by omega)
    rw [this]
  · simp [hj]

theorem gat_put (p : Nat → Bool) (k : Nat) (h : p k = true) : gat p (k + 1) (k / 64) = gat p k (k / 64) ||| 2 ^ (k % 64) := by
  apply Nat.eq_of_testBit_eq
  intro j
  rw [Nat.testBit_or, Nat.testBit_two_pow]
  unfold gat
  rw [testBit_mkw, testBit_mkw]
  by_cases e : k % 64 = j
  · have e2 : 64 * (k / 64) + j = k := by omega
    rw [e2, h, decide_eq_true (show j < 64 by omega), decide_eq_true e]; simp
  · by_cases hj : j < 64
    · have : decide (64 * (k / 64) + j < k + 1) = decide (64 * (k / 64) + j < k) := decide_eq_decide.2 (by omega)
      rw [this, decide_eq_false e]; simp
    · simp [hj, e]

/-- How many bits a word has. -/
def popF : Nat → Nat → Nat
  | 0, _ => 0
  | f + 1, m => m % 2 + popF f (m / 2)

theorem popF_zero : ∀ f, popF f 0 = 0
  | 0 => rfl
  | f + 1 => by simp [popF, popF_zero f]
theorem popF_le : ∀ f m, popF f m ≤ f
  | 0, _ => Nat.le_refl _
  | f + 1, m => by have := popF_le f (m / 2); unfold popF; omega

/-- How many bytes below k are in. -/
def cntTo (p : Nat → Bool) (k : Nat) : Nat := ((List.range k).filter p).length
def cntB (a : Nat → Nat) : Nat := popF 64 (a 0) + popF 64 (a 1) + popF 64 (a 2) + popF 64 (a 3)

theorem cntTo_succ (p : Nat → Bool) (k : Nat) : cntTo p (k + 1) = cntTo p k + if p k then 1 else 0 := by
  unfold cntTo
  rw [List.range_succ, List.filter_append, List.length_append]
  cases h : p k <;> simp [h]
theorem cntTo_le (p : Nat → Bool) : ∀ k, cntTo p k ≤ k
  | 0 => by simp [cntTo]
  | k + 1 => by have := cntTo_le p k; rw [cntTo_succ]; split <;> omega

theorem popF_cnt (m : Nat) : ∀ f, popF f m = cntTo (fun j => m.testBit j) f := by
  intro f
  induction f generalizing m with
  | zero => rfl
  | succ f ih =>
    have e : cntTo (fun j => m.testBit j) (f + 1) = (if m.testBit 0 then 1 else 0) + cntTo (fun j => (m / 2).testBit j) f := by
      unfold cntTo
      rw [List.range_succ_eq_map, List.filter_cons, List.filter_map]
      have : ((fun j => m.testBit j) ∘ Nat.succ) = fun j => (m / 2).testBit j := by
        funext j; simp [Nat.testBit_succ]
      rw [this]
      split <;> simp_all <;> omega
    rw [e, ← ih, Nat.testBit_zero]
    show m % 2 + popF f (m / 2) = _
    rcases Nat.mod_two_eq_zero_or_one m with h | h <;> simp [h]

theorem cntTo_shift (p : Nat → Bool) (a : Nat) : ∀ b, cntTo p (a + b) = cntTo p a + cntTo (fun j => p (a + j)) b
  | 0 => by simp [cntTo]
  | b + 1 => by rw [← Nat.add_assoc, cntTo_succ, cntTo_succ, cntTo_shift p a b]; omega

theorem cntTo_congr (p q : Nat → Bool) : ∀ k, (∀ j, j < k → p j = q j) → cntTo p k = cntTo q k
  | 0, _ => rfl
  | k + 1, h => by rw [cntTo_succ, cntTo_succ, cntTo_congr p q k (fun j hj => h j (by omega)), h k (by omega)]

theorem cntB_to (a : Nat → Nat) : cntB a = cntTo (hasB a) 256 := by
  have w : ∀ i, i < 4 → popF 64 (a i) = cntTo (fun j => hasB a (64 * i + j)) 64 := fun i hi => by
    rw [popF_cnt]; exact cntTo_congr _ _ _ fun j hj => (hasB_at a i j hi hj).symm
  have e : cntTo (hasB a) 256 = cntTo (hasB a) (64 * 0 + 64 + 64 + 64 + 64) := rfl
  rw [e, cntTo_shift _ _ 64, cntTo_shift _ _ 64, cntTo_shift _ _ 64, cntTo_shift _ _ 64]
  unfold cntB
  rw [w 0 (by omega), w 1 (by omega), w 2 (by omega), w 3 (by omega)]
  simp [cntTo]

/-- The run of a byte that is in begins here. -/
def loAt (p : Nat → Bool) : Nat → Nat
  | 0 => 0
  | c + 1 => if p c then loAt p c else c + 1
/-- The runs that end below k. -/
def runsTo (p : Nat → Bool) : Nat → List (Nat × Nat)
  | 0 => []
  | k + 1 => if p k && !p (k + 1) then runsTo p k ++ [(loAt p k, k)] else runsTo p k
def runsB (a : Nat → Nat) : List (Nat × Nat) := runsTo (hasB a) 256

theorem loAt_le (p : Nat → Bool) : ∀ c, loAt p c ≤ c
  | 0 => Nat.le_refl _
  | c + 1 => by have := loAt_le p c; unfold loAt; split <;> omega
theorem runsTo_len (p : Nat → Bool) : ∀ k, (runsTo p k).length ≤ k
  | 0 => Nat.le_refl _
  | k + 1 => by have := runsTo_len p k; unfold runsTo; split <;> simp <;> omega

end Go.Proofs.Ytgeajdfajfdjcaa
