/- Rules more for a new name; plain. No program in sight. -/
import Derived.Test.YtfjejnkjlnkkhaaGreatDoorMnS
namespace Go.Proofs.YtfjejnkjlnkkhaaGreatDoor
set_option linter.unusedVariables false

section
variable {b : Nat → Nat} {n m : Nat} {L : List Ru}
/-- Rules for a new name turn nothing of the others. -/
theorem stb_extS {M' : SpM} {rs : List Ru} (h : Stb3 b n (L ++ rs) M') (h0 : ∀ r, r ∈ rs → r.head.toNat = m) (hf : FrM L m) : Stb3 b n L (dropM M' m) := by
  have hne : ∀ r, r ∈ L → ∀ c, c ∈ r.conj → ∀ s, s ∈ c.seq → s.name ≠ -1 → ∀ i j, dropM M' m s.name.toNat i j = M' s.name.toNat i j := fun r hr c hc s hs hn i j => by
    unfold dropM; rw [if_neg ((hf r hr).2 c hc s hs hn)]
  refine ⟨fun r hr i j hij hj hd => ?_, fun X hX x i j hx => ?_⟩
  · rw [red3_congr (hne r hr) (hne r hr)] at hd
    unfold dropM
    rw [if_neg (hf r hr).1]
    exact h.1 r (List.mem_append_left _ hr) i j hij hj hd
  · have hc : Cl3 b n (L ++ rs) M' (fillM X m) := fun r hr i j hij hj hd => by
      unfold fillM
      split
      · rfl
      · rename_i e
        rcases List.mem_append.1 hr with hr | hr
        · refine hX r hr i j hij hj ?_
          rw [red3_congr (hne r hr) (X' := fillM X m) (fun c hc s hs hn i j => by unfold fillM; rw [if_neg ((hf r hr).2 c hc s hs hn)])]
          exact hd
        · exact absurd (h0 r hr) e
    unfold dropM at hx
    split at hx
    · cases hx
    · rename_i e
      have := h.2 _ hc x i j hx
      unfold fillM at this
      rw [if_neg e] at this
      exact this
end
end Go.Proofs.YtfjejnkjlnkkhaaGreatDoor
