/- Plain facts on the runs of a set: where they begin, how long they are together. No program in sight. -/
import Derived.Test.YtopokicdgdjgkaaFacts
namespace Go.Proofs.Ytopokicdgdjgkaa

/-- The bytes below k that begin a run. -/
def begs (p : Nat → Bool) : Nat → List Nat
  | 0 => []
  | k + 1 => if p k && (decide (k = 0) || !p (k - 1)) then begs p k ++ [k] else begs p k

/-- The sum of the lengths of the first runs. -/
def lens : List (Nat × Nat) → Nat
  | [] => 0
  | (a, b) :: l => b + 1 - a + lens l
theorem lens_append : ∀ l m, lens (l ++ m) = lens l + lens m
  | [], m => by simp [lens]
  | (a, b) :: l, m => by simp [lens, lens_append l m]; omega

theorem runsTo_succ (p : Nat → Bool) (k : Nat) : runsTo p (k + 1) = if p k && !p (k + 1) then runsTo p k ++ [(loAt p k, k)] else runsTo p k := rfl
theorem loAt_succ (p : Nat → Bool) (k : Nat) : loAt p (k + 1) = if p k then loAt p k else k + 1 := rfl
theorem begs_succ (p : Nat → Bool) (k : Nat) : begs p (k + 1) = if p k && (decide (k = 0) || !p (k - 1)) then begs p k ++ [k] else begs p k := rfl

/-- The runs that have begun below k + 1, and those that have ended: they part in one at most. -/
theorem begs_runs (p : Nat → Bool) : ∀ k, begs p (k + 1) = (runsTo p (k + 1)).map (·.1) ++ (if p k && p (k + 1) then [loAt p k] else [])
  | 0 => by
    rw [begs_succ, runsTo_succ]
    cases h0 : p 0 <;> cases h1 : p 1 <;> simp [begs, runsTo, loAt]
  | k + 1 => by
    have ih := begs_runs p k
    rw [begs_succ, runsTo_succ p (k + 1), loAt_succ, ih, Nat.add_sub_cancel]
    cases h0 : p k <;> cases h1 : p (k + 1) <;> cases h2 : p (k + 1 + 1) <;> simp

theorem lens_runs (p : Nat → Bool) : ∀ k, lens (runsTo p (k + 1)) + (if p k && p (k + 1) then k + 1 - loAt p k else 0) = cntTo p (k + 1)
  | 0 => by
    rw [runsTo_succ, cntTo_succ]
    cases h0 : p 0 <;> cases h1 : p 1 <;> simp [lens, runsTo, loAt, cntTo]
  | k + 1 => by
    have ih := lens_runs p k
    have hl := loAt_le p k
    rw [runsTo_succ p (k + 1), cntTo_succ p (k + 1), loAt_succ, ← ih]
    cases h0 : p k <;> cases h1 : p (k + 1) <;> cases h2 : p (k + 1 + 1) <;> simp [lens_append, lens] <;> omega

theorem has256 (a : Nat → Nat) : hasB a 256 = false := by unfold hasB; simp
theorem begsB (a : Nat → Nat) : begs (hasB a) 256 = (runsB a).map (·.1) := by
  have := begs_runs (hasB a) 255
  rw [has256] at this
  simpa [runsB] using this
theorem lensB (a : Nat → Nat) : lens (runsB a) = cntB a := by
  have := lens_runs (hasB a) 255
  rw [has256] at this
  rw [cntB_to]
  simpa [runsB] using this

theorem begs_mono (p : Nat → Bool) (k : Nat) : ∀ n, ∃ l, begs p (k + n) = begs p k ++ l
  | 0 => ⟨[], by simp⟩
  | n + 1 => by
    obtain ⟨l, hl⟩ := begs_mono p k n
    rw [← Nat.add_assoc, begs_succ, hl]
    split
    · exact ⟨l ++ [k + n], by simp⟩
    · exact ⟨l, rfl⟩

/-- The next run begins at k. -/
theorem beg_at (a : Nat → Nat) (k : Nat) (hk : k < 256) (h : (hasB a k && (decide (k = 0) || !hasB a (k - 1))) = true) :
    (begs (hasB a) k).length < (runsB a).length ∧ ((runsB a).getD (begs (hasB a) k).length (0, 0)).1 = k ∧ (begs (hasB a) (k + 1)).length = (begs (hasB a) k).length + 1 := by
  have e1 : begs (hasB a) (k + 1) = begs (hasB a) k ++ [k] := by rw [begs_succ, if_pos h]
  obtain ⟨l, hl⟩ := begs_mono (hasB a) (k + 1) (256 - (k + 1))
  rw [show k + 1 + (256 - (k + 1)) = 256 by omega, begsB, e1] at hl
  have hlen : (runsB a).length = (begs (hasB a) k).length + 1 + l.length := by
    have := congrArg List.length hl
    simp at this; omega
  refine ⟨by omega, ?_, by rw [e1]; simp⟩
  have hg : ((runsB a).map (·.1))[(begs (hasB a) k).length]? = some k := by rw [hl]; simp
  rw [List.getElem?_map] at hg
  rw [List.getD_eq_getElem?_getD]
  cases hh : (runsB a)[(begs (hasB a) k).length]? with
  | none => rw [hh] at hg; cases hg
  | some x => rw [hh] at hg; simpa using hg
theorem beg_not (a : Nat → Nat) (k : Nat) (h : (hasB a k && (decide (k = 0) || !hasB a (k - 1))) = false) : begs (hasB a) (k + 1) = begs (hasB a) k := by
  rw [begs_succ, if_neg (by rw [h]; simp)]
theorem begs_le (p : Nat → Bool) : ∀ k, (begs p k).length ≤ k
  | 0 => Nat.le_refl _
  | k + 1 => by have := begs_le p k; rw [begs_succ]; split <;> simp <;> omega

theorem runs_mem (p : Nat → Bool) : ∀ k x, x ∈ runsTo p k → x.1 = loAt p x.2 ∧ x.2 < k ∧ p x.2 = true ∧ p (x.2 + 1) = false
  | 0, x, h => by simp [runsTo] at h
  | k + 1, x, h => by
    rw [runsTo_succ] at h
    split at h
    · rename_i hk
      simp only [Bool.and_eq_true, Bool.not_eq_true'] at hk
      rcases List.mem_append.1 h with h | h
      · have := runs_mem p k x h
        exact ⟨this.1, by omega, this.2.2⟩
      · rw [List.mem_singleton] at h
        subst h
        exact ⟨rfl, by omega, hk⟩
    · have := runs_mem p k x h
      exact ⟨this.1, by omega, this.2.2⟩
theorem getD_mem {l : List (Nat × Nat)} {i : Nat} (h : i < l.length) : l.getD i (0, 0) ∈ l := by
  rw [List.getD_eq_getElem?_getD, List.getElem?_eq_getElem h]
  exact List.getElem_mem h
theorem run_bound (a : Nat → Nat) (i : Nat) (h : i < (runsB a).length) : ((runsB a).getD i (0, 0)).1 ≤ ((runsB a).getD i (0, 0)).2 ∧ ((runsB a).getD i (0, 0)).2 < 256 := by
  have := runs_mem (hasB a) 256 _ (getD_mem h)
  have h2 := loAt_le (hasB a) ((runsB a).getD i (0, 0)).2
  exact ⟨Nat.le_trans (Nat.le_of_eq this.1) h2, this.2.1⟩
theorem lens_take (l : List (Nat × Nat)) (i : Nat) (h : i < l.length) : lens (l.take (i + 1)) = lens (l.take i) + ((l.getD i (0, 0)).2 + 1 - (l.getD i (0, 0)).1) := by
  have e : l.take (i + 1) = l.take i ++ [l.getD i (0, 0)] := by
    rw [List.take_add_one, List.getElem?_eq_getElem h, List.getD_eq_getElem?_getD, List.getElem?_eq_getElem h]; rfl
  rw [e, lens_append]
  simp [lens]
theorem lens_take_le (l : List (Nat × Nat)) (i : Nat) : lens (l.take i) ≤ lens l := by
  have : lens l = lens (l.take i ++ l.drop i) := by rw [List.take_append_drop]
  rw [this, lens_append]; omega
theorem cntB_le (a : Nat → Nat) : cntB a ≤ 256 := by rw [cntB_to]; exact cntTo_le _ _
theorem runsB_len (a : Nat → Nat) : (runsB a).length ≤ 256 := runsTo_len _ _

end Go.Proofs.Ytopokicdgdjgkaa
