/- GramLimits: its grammars, and which of them may be (by the kernel). -/
import Derived.Test.YtnmnjpkmkpngfaaGramVar
import Derived.Test.YtnmnjpkmkpngfaaRefDec
namespace Go.Proofs.Ytnmnjpkmkpngfaa
set_option linter.unusedVariables false
open Go.RowKit
def ru0 (h : Int) : Ru := ⟨h, [⟨false, []⟩]⟩
def chF : Nat → Nat → List Ru
  | 0, _ => []
  | f + 1, n => if n = 0 then [] else ⟨0, [⟨false, List.replicate (min n 64) ⟨0, 0, 0⟩⟩]⟩ :: chF f (n - min n 64)
def nmS : ByteArray := ⟨#[83]⟩
def nmD (j : Nat) : ByteArray := (⟨#[110]⟩ : ByteArray) ++ decT j
def nmsT (k : Nat) : List ByteArray := (List.range k).map nmD
def rusT (k : Nat) : List Ru := (List.range k).map (fun j : Nat => ru0 (j : Int))
theorem decF_len : ∀ (f n : Nat) (acc : List Int), (decF f n acc).length ≤ f + acc.length
  | 0, _, acc => by rw [decF]; omega
  | f + 1, n, acc => by
    rw [decF]
    split
    · omega
    · have := decF_len f (n / 10) ((48 + ((n % 10 : Nat) : Int)) :: acc)
      rw [List.length_cons] at this
      omega
theorem dec_size (n : Nat) : (decT n).size ≤ 20 := by
  have h : (decT n).size = (decF 20 n []).length := by simp [decT, strOf, ByteArray.size]
  have := decF_len 20 n []
  rw [h]
  simpa using this
theorem short0 (k : Nat) (h : Int) : Short (List.replicate k (ru0 h)) := fun r hr c hc => by
  rw [List.eq_of_mem_replicate hr] at hc
  simp [ru0] at hc
  rw [hc]; simp
theorem shortC : ∀ f n : Nat, Short (chF f n)
  | 0, n => fun r hr => by cases hr
  | f + 1, n => fun r hr c hc => by
    rw [chF] at hr
    split at hr
    · cases hr
    · rcases List.mem_cons.mp hr with e | e
      · rw [e] at hc
        simp at hc
        rw [hc]; simp; omega
      · exact shortC f _ r e c hc
theorem shortR (k : Nat) : Short (rusT k) := fun r hr c hc => by
  rw [rusT, List.mem_map] at hr
  obtain ⟨j, -, rfl⟩ := hr
  simp [ru0] at hc
  rw [hc]; simp
theorem smallS : ∀ s, s ∈ [nmS] → s.size ≤ maxLen := fun s hs => by
  rw [List.mem_singleton] at hs
  rw [hs]; show 1 ≤ _; unfold maxLen; omega
theorem smallD (k : Nat) : ∀ s, s ∈ nmsT k → s.size ≤ maxLen := fun s hs => by
  rw [nmsT, List.mem_map] at hs
  obtain ⟨j, -, rfl⟩ := hs
  have := dec_size j
  rw [nmD, ByteArray.size_append]
  show 1 + _ ≤ _; unfold maxLen; omega
theorem lim1 (r : Nat) (hr : r ≤ 3) : mayG ⟨0, [nmS], List.replicate (254 + r) (ru0 0)⟩ = decide (254 + (r : Int) ≤ 256) := by
  rcases (by omega : r = 0 ∨ r = 1 ∨ r = 2 ∨ r = 3) with rfl | rfl | rfl | rfl
  all_goals decide +kernel
theorem lim2 (s : Nat) (hs : s ≤ 3) : mayG ⟨0, [nmS], chF 20 (1022 + s)⟩ = decide (1022 + (s : Int) ≤ 1024) := by
  rcases (by omega : s = 0 ∨ s = 1 ∨ s = 2 ∨ s = 3) with rfl | rfl | rfl | rfl
  all_goals decide +kernel
theorem lim3 (c d : Nat) (hc : c ≤ 1) (hd : d ≤ 1) : mayG ⟨0, nmsT (63 + c + d), rusT (63 + c + d)⟩ = decide (63 + (c : Int) + (d : Int) ≤ 64) := by
  rcases (by omega : c = 0 ∨ c = 1) with rfl | rfl <;> rcases (by omega : d = 0 ∨ d = 1) with rfl | rfl
  all_goals decide +kernel
end Go.Proofs.Ytnmnjpkmkpngfaa
