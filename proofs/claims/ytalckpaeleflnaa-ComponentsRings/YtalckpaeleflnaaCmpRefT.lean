/- The document's own way to what is reached, as plain functions: round by round. No program in sight. -/
import Derived.Test.YtalckpaeleflnaaCmpPl
namespace Go.Proofs.Ytalckpaeleflnaa
set_option linter.unusedVariables false

def putS (s : Nat → Bool) (k : Nat) : Nat → Bool := fun j => if j = k then true else s j
def stepS (s : Nat → Bool) (e : Ed) : Nat → Bool := if s e.1.toNat = true then putS s e.2.1.toNat else s
def rndS (s : Nat → Bool) : List Ed → Nat → Bool
  | [] => s
  | e :: l => rndS (stepS s e) l
def itS (f : Nat) (l : List Ed) : Nat → Nat → Bool
  | 0 => putS (fun _ => false) f
  | r + 1 => rndS (itS f l r) l
def cntS (s : Nat → Bool) : Nat → Nat
  | 0 => 0
  | n + 1 => cntS s n + if s n = true then 1 else 0
theorem rndS_snoc : ∀ (l : List Ed) (s : Nat → Bool) (e : Ed), rndS s (l ++ [e]) = stepS (rndS s l) e
  | [], s, e => rfl
  | d :: l, s, e => rndS_snoc l _ e
theorem step_mono (s : Nat → Bool) (e : Ed) (j : Nat) (h : s j = true) : stepS s e j = true := by
  unfold stepS putS; split
  · show (if _ then _ else _) = _
    split
    · rfl
    · exact h
  · exact h
theorem rnd_mono : ∀ (l : List Ed) (s : Nat → Bool) (j : Nat), s j = true → rndS s l j = true
  | [], s, j, h => h
  | e :: l, s, j, h => rnd_mono l _ j (step_mono s e j h)
theorem rnd_has : ∀ (l : List Ed) (s : Nat → Bool) (e : Ed), e ∈ l → s e.1.toNat = true → rndS s l e.2.1.toNat = true
  | d :: l, s, e, he, h => by
    unfold rndS
    rcases List.mem_cons.1 he with rfl | he
    · refine rnd_mono l _ _ ?_
      unfold stepS putS; rw [if_pos h]; simp
    · exact rnd_has l _ e he (step_mono s d _ h)
def Shut (l : List Ed) (s : Nat → Bool) : Prop := ∀ e, e ∈ l → s e.1.toNat = true → s e.2.1.toNat = true
theorem step_shut {s : Nat → Bool} {e : Ed} (h : s e.1.toNat = true → s e.2.1.toNat = true) : stepS s e = s := by
  unfold stepS; split
  · rename_i h1
    funext j
    unfold putS; split
    · rename_i h2; rw [h2, h h1]
    · rfl
  · rfl
theorem rnd_shut : ∀ (l : List Ed) (s : Nat → Bool), Shut l s → rndS s l = s
  | [], s, _ => rfl
  | e :: l, s, h => by
    unfold rndS
    rw [step_shut (h e List.mem_cons_self)]
    exact rnd_shut l s fun d hd => h d (List.mem_cons_of_mem _ hd)
theorem cnt_le (s : Nat → Bool) : ∀ n, cntS s n ≤ n
  | 0 => Nat.le_refl _
  | n + 1 => by have := cnt_le s n; unfold cntS; split <;> omega
theorem cnt_mono {s t : Nat → Bool} (h : ∀ j, s j = true → t j = true) : ∀ n, cntS s n ≤ cntS t n
  | 0 => Nat.le_refl _
  | n + 1 => by
    have := cnt_mono h n
    unfold cntS
    by_cases e : s n = true
    · rw [if_pos e, if_pos (h n e)]; omega
    · rw [if_neg e]; split <;> omega
theorem cnt_lt {s t : Nat → Bool} (h : ∀ j, s j = true → t j = true) {k : Nat} (h1 : s k = false) (h2 : t k = true) : ∀ n, k < n → cntS s n < cntS t n
  | n + 1, hk => by
    unfold cntS
    by_cases e : k = n
    · subst e
      have := cnt_mono h k
      rw [if_neg (by rw [h1]; simp), if_pos h2]; omega
    · have := cnt_lt h h1 h2 n (by omega)
      by_cases e : s n = true
      · rw [if_pos e, if_pos (h n e)]; omega
      · rw [if_neg e]; split <;> omega
theorem cnt_one {s : Nat → Bool} {f : Nat} (h : s f = true) : ∀ n, f < n → 1 ≤ cntS s n
  | n + 1, hf => by
    unfold cntS
    by_cases e : f = n
    · subst e; rw [if_pos h]; omega
    · have := cnt_one h n (by omega); omega
theorem it_self (f : Nat) (l : List Ed) : ∀ r, itS f l r f = true
  | 0 => by simp [itS, putS]
  | r + 1 => rnd_mono l _ f (it_self f l r)
theorem it_grow {n : Nat} {l : List Ed} (hl : edsB (n : Int) l = true) {f : Nat} (hf : f < n) : ∀ r, Shut l (itS f l r) ∨ r + 1 ≤ cntS (itS f l r) n
  | 0 => Or.inr (cnt_one (it_self f l 0) n hf)
  | r + 1 => by
    unfold itS
    rcases it_grow hl hf r with h | h
    · rw [rnd_shut l _ h]; exact Or.inl h
    · by_cases hs : Shut l (itS f l r)
      · rw [rnd_shut l _ hs]; exact Or.inl hs
      · refine Or.inr ?_
        have hex : ∃ e, e ∈ l ∧ itS f l r e.1.toNat = true ∧ ¬ itS f l r e.2.1.toNat = true := by
          refine Classical.byContradiction fun hn => hs fun e he h1 => ?_
          refine Classical.byContradiction fun h2 => hn ⟨e, he, h1, h2⟩
        obtain ⟨e, he, h1, h2⟩ := hex
        unfold edsB at hl
        have hb := edB_lt (List.all_eq_true.1 hl e he)
        have := cnt_lt (rnd_mono l (itS f l r)) (k := e.2.1.toNat) (by rw [← Bool.not_eq_true]; exact h2) (rnd_has l _ e he h1) n (by omega)
        omega
theorem it_sound {l : List Ed} (f : Nat) : ∀ r j, itS f l r j = true → Way l f j := by
  have hstep : ∀ (l' : List Ed), (∀ e, e ∈ l' → e ∈ l) → ∀ s : Nat → Bool, (∀ j, s j = true → Way l f j) → ∀ j, rndS s l' j = true → Way l f j := by
    intro l'
    induction l' with
    | nil => intro _ s h; exact h
    | cons e l' ih =>
      intro hm s h
      unfold rndS
      refine ih (fun d hd => hm d (List.mem_cons_of_mem _ hd)) _ fun j hj => ?_
      unfold stepS at hj
      split at hj
      · rename_i h1
        unfold putS at hj
        split at hj
        · rename_i h2; rw [h2]; exact (h _ h1).trans (Way.edge (hm e List.mem_cons_self))
        · exact h j hj
      · exact h j hj
  intro r
  induction r with
  | zero =>
    intro j hj
    unfold itS putS at hj
    by_cases e : j = f
    · rw [e]; exact Way.refl _ _
    · rw [if_neg e] at hj; cases hj
  | succ r ih => exact hstep l (fun _ h => h) _ ih
theorem it_way {n : Nat} {l : List Ed} (hl : edsB (n : Int) l = true) {f : Nat} (hf : f < n) (j : Nat) : itS f l n j = wayB n l f j := by
  have hs : Shut l (itS f l n) := by
    rcases it_grow hl hf n with h | h
    · exact h
    · have := cnt_le (itS f l n) n; omega
  rw [Bool.eq_iff_iff]
  constructor
  · exact fun h => way_full hl hf (it_sound f n j h)
  · exact fun h => Way.ind (S := fun x => itS f l n x = true) hs (way_sound h) (it_self f l n)
/-- The least of those that hang together with i. -/
theorem comp_spec {n : Nat} {l : List Ed} (hl : edsB (n : Int) l = true) {i : Nat} (hi : i < n) : comp n l i ≤ i ∧ both n l i (comp n l i) = true ∧ ∀ j, j < comp n l i → both n l i j = false := by
  have h := lst_spec (both n l i) i
  refine ⟨h.1, ?_, h.2.2⟩
  by_cases e : comp n l i < i
  · exact h.2.1 e
  · have e2 : comp n l i = i := by have := h.1; unfold comp at *; omega
    rw [e2]
    unfold both
    rw [way_full hl hi (Way.refl _ _)]; rfl
end Go.Proofs.Ytalckpaeleflnaa
