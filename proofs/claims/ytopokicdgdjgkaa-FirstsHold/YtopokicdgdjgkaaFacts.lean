/- Plain facts: the members, the count and the runs of a range; of any set. -/
import Derived.Test.YtopokicdgdjgkaaBits
namespace Go.Proofs.Ytopokicdgdjgkaa

/-- From lo to hi. -/
def btw (lo hi : Int) : Nat → Bool := fun c => decide (lo ≤ (c : Int)) && decide ((c : Int) ≤ hi)
def rngB (lo hi : Int) : Nat → Nat := gat (btw lo hi) 256

theorem okB_rng (lo hi : Int) : okB (rngB lo hi) := okB_gat _ _

theorem loAt_congr {p q : Nat → Bool} : ∀ k, (∀ c, c < k → p c = q c) → loAt p k = loAt q k
  | 0, _ => rfl
  | k + 1, h => by
    show (if _ then _ else _) = (if _ then _ else _)
    rw [h k (by omega), loAt_congr k (fun c hc => h c (by omega))]
theorem runsTo_congr {p q : Nat → Bool} : ∀ k, (∀ c, c < k + 1 → p c = q c) → runsTo p k = runsTo q k
  | 0, _ => rfl
  | k + 1, h => by
    show (if _ then _ else _) = (if _ then _ else _)
    rw [h k (by omega), h (k + 1) (by omega), runsTo_congr k (fun c hc => h c (by omega)), loAt_congr k (fun c hc => h c (by omega))]

theorem btw_iff (a b c : Nat) : btw (a : Int) (b : Int) c = true ↔ a ≤ c ∧ c ≤ b := by simp [btw]
theorem btw_false (a b c : Nat) : btw (a : Int) (b : Int) c = false ↔ c < a ∨ b < c := by
  rw [Bool.eq_false_iff, ne_eq, btw_iff]; omega

theorem hasB_rng (a b c : Nat) (hb : b < 256) : hasB (rngB a b) c = btw a b c := by
  unfold rngB
  rw [hasB_gat, Bool.eq_iff_iff]
  simp only [Bool.and_eq_true, decide_eq_true_eq, btw_iff]
  omega
theorem hasZ_rng (a b : Nat) (c : Int) (hb : b < 256) : hasZ (rngB a b) c = (decide ((a : Int) ≤ c) && decide (c ≤ (b : Int))) := by
  unfold hasZ
  rw [hasB_rng _ _ _ hb, Bool.eq_iff_iff]
  simp only [Bool.and_eq_true, decide_eq_true_eq, btw_iff]
  omega

theorem loAt_btw (a b : Nat) : ∀ c, a ≤ c → c ≤ b → loAt (btw a b) c = a
  | 0, h, _ => by show 0 = a; omega
  | c + 1, h1, h2 => by
    show (if _ then _ else _) = _
    by_cases h : a ≤ c
    · rw [if_pos ((btw_iff _ _ _).2 ⟨h, by omega⟩)]; exact loAt_btw a b c h (by omega)
    · rw [if_neg (by rw [btw_iff]; omega)]; omega

theorem runsTo_btw (a b : Nat) (hab : a ≤ b) : ∀ k, runsTo (btw a b) k = if b < k then [(a, b)] else []
  | 0 => by simp [runsTo]
  | k + 1 => by
    show (if _ then _ else _) = _
    rw [runsTo_btw a b hab k]
    by_cases h : k = b
    · subst h
      have e : (btw (a : Int) (k : Int) k && !btw (a : Int) (k : Int) (k + 1)) = true := by
        rw [(btw_iff a k k).2 ⟨hab, Nat.le_refl _⟩, (btw_false a k (k + 1)).2 (by omega)]; rfl
      rw [if_pos e, if_neg (by omega), if_pos (by omega), loAt_btw a k k hab (Nat.le_refl _)]
      rfl
    · have e : ¬ (btw (a : Int) (b : Int) k && !btw (a : Int) (b : Int) (k + 1)) = true := by
        intro e
        rw [Bool.and_eq_true, btw_iff, Bool.not_eq_true', btw_false] at e
        omega
      rw [if_neg e]
      by_cases h2 : b < k
      · rw [if_pos h2, if_pos (by omega)]
      · rw [if_neg h2, if_neg (by omega)]

theorem runsB_rng (a b : Nat) (hab : a ≤ b) (hb : b < 256) : runsB (rngB a b) = [(a, b)] := by
  unfold runsB
  rw [runsTo_congr (q := btw a b) 256 (fun c _ => hasB_rng a b c hb), runsTo_btw a b hab, if_pos hb]

theorem cntTo_btw (a b : Nat) (hab : a ≤ b) : ∀ k, cntTo (btw a b) k = min k (b + 1) - a
  | 0 => by simp [cntTo]
  | k + 1 => by
    rw [cntTo_succ, cntTo_btw a b hab k]
    by_cases h : a ≤ k ∧ k ≤ b
    · rw [if_pos ((btw_iff _ _ _).2 h)]; omega
    · rw [if_neg (by rw [btw_iff]; exact h)]; omega
theorem cntB_rng (a b : Nat) (hab : a ≤ b) (hb : b < 256) : cntB (rngB a b) = b + 1 - a := by
  rw [cntB_to, cntTo_congr _ (btw a b) 256 (fun c _ => hasB_rng a b c hb), cntTo_btw a b hab]; omega

theorem and255 (x : Int) : ∃ n : Nat, n < 256 ∧ bits .and .i64 x 255 = (n : Int) := by
  have h : (BitVec.ofInt 64 x &&& BitVec.ofInt 64 255).toNat < 256 := by
    rw [BitVec.toNat_and]
    exact Nat.lt_of_le_of_lt Nat.and_le_right (by decide)
  refine ⟨_, h, ?_⟩
  show IntKind.i64.wrap ((BitVec.ofInt 64 x &&& BitVec.ofInt 64 255).toNat : Int) = _
  generalize (BitVec.ofInt 64 x &&& BitVec.ofInt 64 255).toNat = n at h
  rw [IntKind.wrap_i64]; omega
end Go.Proofs.Ytopokicdgdjgkaa
