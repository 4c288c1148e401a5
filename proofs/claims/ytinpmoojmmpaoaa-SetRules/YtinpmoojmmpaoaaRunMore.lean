/- Plain facts on the runs of a set: they do not touch; together they are the set. No program in sight. -/
import Derived.Test.YtinpmoojmmpaoaaRunFacts
import Derived.Test.YtinpmoojmmpaoaaLies
namespace Go.Proofs.Ytinpmoojmmpaoaa

/-- From the head of a byte's run to it all are in. -/
theorem loAt_in (p : Nat → Bool) : ∀ c, p c = true → ∀ d, loAt p c ≤ d → d ≤ c → p d = true
  | 0, h, d, _, h2 => by
    obtain rfl : d = 0 := by omega
    exact h
  | c + 1, h, d, h1, h2 => by
    by_cases e : d = c + 1
    · rw [e]; exact h
    · rw [loAt_succ] at h1
      by_cases hc : p c = true
      · rw [if_pos hc] at h1
        exact loAt_in p c hc d h1 (by omega)
      · rw [if_neg hc] at h1; omega

/-- Where all from c on to e are in, the run of e begins at c or ahead. -/
theorem loAt_from (p : Nat → Bool) (c : Nat) : ∀ n, (∀ d, c ≤ d → d ≤ c + n → p d = true) → loAt p (c + n) ≤ c
  | 0, _ => loAt_le p c
  | n + 1, h => by
    rw [← Nat.add_assoc, loAt_succ, if_pos (h (c + n) (by omega) (by omega))]
    exact loAt_from p c n fun d h1 h2 => h d h1 (by omega)

/-- The end of a byte's run. -/
theorem run_end (p : Nat → Bool) (k : Nat) (hk : p k = false) : ∀ n c, c + n = k → p c = true → ∃ m, c + m < k ∧ (∀ d, c ≤ d → d ≤ c + m → p d = true) ∧ p (c + m + 1) = false
  | 0, c, e, h => by
    obtain rfl : c = k := by omega
    rw [hk] at h; cases h
  | n + 1, c, e, h => by
    by_cases h1 : p (c + 1) = true
    · obtain ⟨m, q1, q2, q3⟩ := run_end p k hk n (c + 1) (by omega) h1
      refine ⟨m + 1, by omega, fun d hd1 hd2 => ?_, by rw [show c + (m + 1) + 1 = c + 1 + m + 1 by omega]; exact q3⟩
      by_cases e2 : d = c
      · rw [e2]; exact h
      · exact q2 d (by omega) (by omega)
    · refine ⟨0, ?_, fun d hd1 hd2 => ?_, by simpa using h1⟩
      · by_cases e2 : c = k
        · rw [e2, hk] at h; cases h
        · omega
      · obtain rfl : d = c := by omega
        exact h

theorem runs_has (p : Nat → Bool) : ∀ k e, e < k → p e = true → p (e + 1) = false → (loAt p e, e) ∈ runsTo p k
  | 0, e, h, _, _ => by omega
  | k + 1, e, h, h1, h2 => by
    rw [runsTo_succ]
    by_cases he : e = k
    · subst he
      rw [if_pos (by rw [h1, h2]; rfl)]
      exact List.mem_append_right _ (List.mem_singleton.2 rfl)
    · have := runs_has p k e (by omega) h1 h2
      split
      · exact List.mem_append_left _ this
      · exact this

/-- Just the bytes that are in lie in a run. -/
theorem runs_are (a : Nat → Nat) (c : Nat) : hasB a c = true ↔ ∃ x, x ∈ runsB a ∧ x.1 ≤ c ∧ c ≤ x.2 := by
  constructor
  · intro h
    have hlt := hasB_lt h
    obtain ⟨m, q1, q2, q3⟩ := run_end (hasB a) 256 (has256 a) (256 - c) c (by omega) h
    exact ⟨_, runs_has (hasB a) 256 (c + m) q1 (q2 _ (by omega) (by omega)) q3, loAt_from (hasB a) c m q2, by show c ≤ c + m; omega⟩
  · rintro ⟨x, hx, h1, h2⟩
    obtain ⟨e1, _, e3, _⟩ := runs_mem (hasB a) 256 x hx
    exact loAt_in (hasB a) x.2 e3 c (by rw [← e1]; exact h1) h2

theorem getD_left (l m : List (Nat × Nat)) (i : Nat) (h : i < l.length) : (l ++ m).getD i (0, 0) = l.getD i (0, 0) := by
  rw [List.getD_eq_getElem?_getD, List.getD_eq_getElem?_getD, List.getElem?_append_left h]
theorem getD_last (l : List (Nat × Nat)) (x : Nat × Nat) : (l ++ [x]).getD l.length (0, 0) = x := by
  rw [List.getD_eq_getElem?_getD, List.getElem?_append_right (Nat.le_refl _)]; simp

/-- No run touches the next one. -/
theorem runs_gap (p : Nat → Bool) : ∀ k i, i + 1 < (runsTo p k).length → ((runsTo p k).getD i (0, 0)).2 + 1 < ((runsTo p k).getD (i + 1) (0, 0)).1
  | 0, i, h => by simp [runsTo] at h
  | k + 1, i, h => by
    rw [runsTo_succ] at h ⊢
    split at h
    · rename_i hk
      rw [if_pos hk]
      simp only [Bool.and_eq_true, Bool.not_eq_true'] at hk
      simp only [List.length_append, List.length_singleton] at h
      rw [getD_left _ _ i (by omega)]
      by_cases e : i + 1 < (runsTo p k).length
      · rw [getD_left _ _ _ e]
        exact runs_gap p k i e
      · rw [show i + 1 = (runsTo p k).length by omega, getD_last]
        show _ < loAt p k
        have hm := runs_mem p k _ (getD_mem (l := runsTo p k) (i := i) (by omega))
        generalize (runsTo p k).getD i (0, 0) = x at hm
        by_cases hh : x.2 + 1 < loAt p k
        · exact hh
        · have := loAt_in p k hk.1 (x.2 + 1) (by omega) (by omega)
          rw [hm.2.2.2] at this; cases this
    · rename_i hk
      rw [if_neg hk]
      exact runs_gap p k i h

/-- The first k runs put together. -/
def agB (l : List (Nat × Nat)) : Nat → (Nat → Nat)
  | 0 => zB
  | k + 1 => orB (agB l k) (rngB (((l.getD k (0, 0)).1 : Nat) : Int) (((l.getD k (0, 0)).2 : Nat) : Int))
theorem agB_succ (l : List (Nat × Nat)) (k : Nat) : agB l (k + 1) = orB (agB l k) (rngB (((l.getD k (0, 0)).1 : Nat) : Int) (((l.getD k (0, 0)).2 : Nat) : Int)) := rfl
theorem okB_ag (l : List (Nat × Nat)) : ∀ k, okB (agB l k)
  | 0 => fun _ => by show 0 < _; omega
  | k + 1 => okB_or (okB_ag l k) (okB_rng _ _)
theorem hasB_ag (l : List (Nat × Nat)) (hb : ∀ i, i < l.length → (l.getD i (0, 0)).2 < 256) (c : Nat) : ∀ k, k ≤ l.length → (hasB (agB l k) c = true ↔ ∃ i, i < k ∧ (l.getD i (0, 0)).1 ≤ c ∧ c ≤ (l.getD i (0, 0)).2)
  | 0, _ => by
    constructor
    · intro h
      have : hasB (fun _ => 0) c = true := h
      unfold hasB at this
      simp at this
    · rintro ⟨i, h, _⟩; omega
  | k + 1, hk => by
    rw [agB_succ, hasB_or, Bool.or_eq_true, hasB_ag l hb c k (by omega), hasB_rng _ _ _ (hb k (by omega)), btw_iff]
    constructor
    · rintro (⟨i, h1, h2⟩ | h)
      · exact ⟨i, by omega, h2⟩
      · exact ⟨k, by omega, h⟩
    · rintro ⟨i, h1, h2⟩
      by_cases e : i = k
      · subst e; exact .inr h2
      · exact .inl ⟨i, by omega, h2⟩
theorem ag_all (a : Nat → Nat) (ha : okB a) (i : Nat) (hi : i < 4) : agB (runsB a) (runsB a).length i = a i := by
  refine word_ext (okB_ag _ _) ha (fun c _ => ?_) i hi
  rw [Bool.eq_iff_iff, hasB_ag _ (fun i h => (run_bound a i h).2) c _ (Nat.le_refl _), runs_are]
  constructor
  · rintro ⟨j, h1, h2⟩
    exact ⟨_, getD_mem h1, h2⟩
  · rintro ⟨x, hx, h1⟩
    obtain ⟨j, hj, rfl⟩ := List.getElem_of_mem hx
    refine ⟨j, hj, ?_⟩
    rw [List.getD_eq_getElem?_getD, List.getElem?_eq_getElem hj]
    exact h1

theorem cnt_sum (p q : Nat → Bool) : ∀ k, cntTo (fun c => p c || q c) k + cntTo (fun c => p c && q c) k = cntTo p k + cntTo q k
  | 0 => rfl
  | k + 1 => by
    have := cnt_sum p q k
    rw [cntTo_succ, cntTo_succ, cntTo_succ, cntTo_succ]
    cases p k <;> cases q k <;> simp <;> omega
theorem cntB_sum (a b : Nat → Nat) : cntB (orB a b) + cntB (andB a b) = cntB a + cntB b := by
  rw [cntB_to, cntB_to, cntB_to, cntB_to, ← cnt_sum (hasB a) (hasB b), cntTo_congr _ (fun c => hasB a c || hasB b c) 256 (fun c _ => hasB_or a b c), cntTo_congr _ (fun c => hasB a c && hasB b c) 256 (fun c _ => hasB_and a b c)]

end Go.Proofs.Ytinpmoojmmpaoaa
