/- Words of 64 bits as the walk spells them, and plain facts on worlds: no program in sight. -/
import Derived.Test.YtopokicdgdjgkaaPlain
import Derived.ProofKit
import Derived.OpenShut
import Derived.WalkLawsBesides
namespace Go.Proofs.Ytopokicdgdjgkaa
open Go.RowKit

theorem bits_or_w (a b : Nat → Nat) (ha : okB a) (hb : okB b) (i : Nat) : bits .or .u64 ((a i : Nat) : Int) ((b i : Nat) : Int) = ((orB a b i : Nat) : Int) := u64_or_nat _ _ (ha i) (hb i)
theorem bits_and_w (a b : Nat → Nat) (ha : okB a) (hb : okB b) (i : Nat) : bits .and .u64 ((a i : Nat) : Int) ((b i : Nat) : Int) = ((andB a b i : Nat) : Int) := u64_and_nat _ _ (ha i) (hb i)
theorem bits_min_w (a b : Nat → Nat) (ha : okB a) (hb : okB b) (i : Nat) : bits .andNot .u64 ((a i : Nat) : Int) ((b i : Nat) : Int) = ((minB a b i : Nat) : Int) := by
  have e : a i &&& (18446744073709551615 - b i) = minB a b i := by
    unfold minB
    apply Nat.eq_of_testBit_eq
    intro j
    have h := Nat.testBit_two_pow_sub_succ (n := 64) (x := b i) (by rw [p64]; exact hb i) j
    rw [show 2 ^ 64 - (b i + 1) = 18446744073709551615 - b i by rw [p64]; omega] at h
    rw [Nat.testBit_and, h, Nat.testBit_xor, Nat.testBit_and]
    by_cases hj : j < 64
    · simp [hj]; cases (a i).testBit j <;> simp
    · have hp : 2 ^ 64 ≤ 2 ^ j := Nat.pow_le_pow_right (by decide) (by omega)
      rw [p64] at hp
      rw [Nat.testBit_lt_two_pow (Nat.lt_of_lt_of_le (ha i) hp)]; simp
  rw [← e]
  exact u64_andNot_nat _ _ (ha i) (hb i)

/-- One bit, as the walk spells it. -/
theorem bit_test (n : Nat) (r : Nat) (hn : n < 18446744073709551616) : (bits .and .u64 ((n : Int) / 2 ^ r) 1 == 1) = n.testBit r := by
  have e : ((n : Int) / 2 ^ r) = ((n / 2 ^ r : Nat) : Int) := by simp
  rw [Nat.testBit_eq_decide_div_mod_eq]
  have hlt : n / 2 ^ r < 18446744073709551616 := Nat.lt_of_le_of_lt (Nat.div_le_self _ _) hn
  rw [e]
  generalize n / 2 ^ r = m at hlt
  rw [and_one_u64 _ (by omega) (by omega)]
  rw [Bool.eq_iff_iff]
  simp only [beq_iff_eq, decide_eq_true_eq]
  omega

/-- One bit put in, as the walk spells it. -/
theorem bit_put (n r : Nat) (hn : n < 18446744073709551616) (hr : r < 64) : bits .or .u64 ((n : Nat) : Int) (IntKind.u64.wrap (2 ^ r)) = ((n ||| 2 ^ r : Nat) : Int) := by
  have hp : 2 ^ r < 18446744073709551616 := by
    have := Nat.pow_lt_pow_right (a := 2) (by decide) hr
    rwa [p64] at this
  have e : (2 : Int) ^ r = ((2 ^ r : Nat) : Int) := by simp
  rw [e, IntKind.wrap_u64]
  generalize 2 ^ r = m at hp
  rw [show ((m : Int) % 18446744073709551616) = (m : Int) by omega]
  exact u64_or_nat _ _ hn hp

theorem pick4 (a : Nat → Nat) (q : Nat) (hq : q < 4) : [Value.int .u64 ((a 0 : Nat) : Int), .int .u64 ((a 1 : Nat) : Int), .int .u64 ((a 2 : Nat) : Int), .int .u64 ((a 3 : Nat) : Int)][q]? = some (.int .u64 ((a q : Nat) : Int)) := by
  match q, hq with
  | 0, _ => rfl
  | 1, _ => rfl
  | 2, _ => rfl
  | 3, _ => rfl

theorem hasZ_in (a : Nat → Nat) (c : Int) (h0 : 0 ≤ c) (h1 : c ≤ 255) : (a (c / 64).toNat).testBit (c % 64).toNat = hasZ a c := by
  unfold hasZ hasB
  rw [decide_eq_true h0, decide_eq_true (show c.toNat < 256 by omega), show c.toNat / 64 = (c / 64).toNat by omega, show c.toNat % 64 = (c % 64).toNat by omega]
  rfl

theorem bcell {W w1 : World} (hb : Below W.heap.size W w1) : (∀ b o, b < W.heap.size → w1.cell? ⟨b, o, none⟩ = W.cell? ⟨b, o, none⟩) ∧ (∀ b o, b < W.heap.size → w1.frozen? ⟨b, o, none⟩ = W.frozen? ⟨b, o, none⟩) :=
  ⟨fun b o h => hb.cell (p := ⟨b, o, none⟩) h, fun b o h => hb.frozen (p := ⟨b, o, none⟩) h⟩

theorem ret_bool {a b : Bool} (h : a = b) : Ending.returned (.bool a) = .returned (.bool b) := by rw [h]
theorem ret_int {k : IntKind} {a b : Int} (h : a = b) : Ending.returned (.int k a) = .returned (.int k b) := by rw [h]

end Go.Proofs.Ytopokicdgdjgkaa
