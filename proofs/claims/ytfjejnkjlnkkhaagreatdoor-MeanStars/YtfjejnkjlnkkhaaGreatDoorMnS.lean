/- A name that is another one again and again; plain. No program in sight. -/
import Derived.Test.YtfjejnkjlnkkhaaGreatDoorGc
namespace Go.Proofs.YtfjejnkjlnkkhaaGreatDoor
set_option linter.unusedVariables false

/-- What can be come to from i by steps. -/
def CanS (R : Nat → Nat → Bool) (i : Nat) (C : Nat → Bool) : Prop := ∀ j, i ≤ j → C j = (decide (j = i) || (List.range j).any fun p => decide (i ≤ p) && (C p && R p j))
theorem canS_uniq {R : Nat → Nat → Bool} {i : Nat} {C D : Nat → Bool} (hC : CanS R i C) (hD : CanS R i D) : ∀ j, i ≤ j → C j = D j := by
  intro j
  induction j using Nat.strongRecOn with
  | ind j ih =>
    intro hij
    rw [hC j hij, hD j hij]
    congr 1
    rw [Bool.eq_iff_iff, List.any_eq_true, List.any_eq_true]
    refine exists_congr fun p => and_congr_right fun hp => ?_
    have hlt := List.mem_range.1 hp
    by_cases h : i ≤ p
    · rw [ih p hlt h]
    · simp [h]
theorem canS_step {R : Nat → Nat → Bool} {i : Nat} {C : Nat → Bool} (hC : CanS R i C) {p j : Nat} (hi : i ≤ p) (hp : p ≤ j) (h1 : C p = true) (h2 : R p j = true) : C j = true := by
  by_cases e : p = j
  · subst e; exact h1
  · rw [hC j (by omega), Bool.or_eq_true, List.any_eq_true]
    right
    exact ⟨p, List.mem_range.2 (by omega), by simp [hi, h1, h2]⟩
theorem canS_self {R : Nat → Nat → Bool} {i : Nat} {C : Nat → Bool} (hC : CanS R i C) : C i = true := by rw [hC i (Nat.le_refl _)]; simp
/-- A step ahead. -/
theorem canS_ahead {R : Nat → Nat → Bool} {a e : Nat} {C D : Nat → Bool} (hC : CanS R a C) (hD : CanS R e D) (hae : a ≤ e) (hR : R a e = true) : ∀ c, e ≤ c → D c = true → C c = true := by
  intro c
  induction c using Nat.strongRecOn with
  | ind c ih =>
    intro hec h
    rw [hD c hec, Bool.or_eq_true, List.any_eq_true] at h
    rcases h with h | ⟨p, hp, h⟩
    · have : c = e := by simpa using h
      subst this
      exact canS_step hC (Nat.le_refl _) hae (canS_self hC) hR
    · have hlt := List.mem_range.1 hp
      simp only [Bool.and_eq_true, decide_eq_true_eq] at h
      exact canS_step hC (by omega) (by omega) (ih p hlt h.1 h.2.1) h.2.2
def canF (R : Nat → Nat → Bool) (a : Nat) : Nat → Nat → Bool
  | 0, j => decide (j = a)
  | f + 1, j => decide (j = a) || (List.range j).any fun p => decide (a ≤ p) && (canF R a f p && R p j)
theorem canF_fuel (R : Nat → Nat → Bool) (a : Nat) : ∀ (j f g : Nat), j ≤ f → j ≤ g → canF R a f j = canF R a g j := by
  intro j
  induction j using Nat.strongRecOn with
  | ind j ih =>
    intro f g hf hg
    have key : ∀ f, j ≤ f → canF R a f j = (decide (j = a) || (List.range j).any fun p => decide (a ≤ p) && (canF R a p p && R p j)) := fun f hf => by
      cases f with
      | zero =>
        obtain rfl : j = 0 := by omega
        simp [canF]
      | succ f =>
        show (decide (j = a) || (List.range j).any fun p => decide (a ≤ p) && (canF R a f p && R p j)) = _
        congr 1
        rw [Bool.eq_iff_iff, List.any_eq_true, List.any_eq_true]
        refine exists_congr fun p => and_congr_right fun hp => ?_
        have hlt := List.mem_range.1 hp
        rw [ih p hlt f p (by omega) (Nat.le_refl _)]
    rw [key f hf, key g hg]
def canV (R : Nat → Nat → Bool) (a j : Nat) : Bool := canF R a j j
theorem canV_is (R : Nat → Nat → Bool) (a : Nat) : CanS R a (canV R a) := fun j hj => by
  unfold canV
  rw [canF_fuel R a j j (j + 1) (Nat.le_refl _) (Nat.le_succ _)]
  show (decide (j = a) || (List.range j).any fun p => decide (a ≤ p) && (canF R a j p && R p j)) = _
  congr 1
  rw [Bool.eq_iff_iff, List.any_eq_true, List.any_eq_true]
  refine exists_congr fun p => and_congr_right fun hp => ?_
  have hlt := List.mem_range.1 hp
  rw [canF_fuel R a p j p (by omega) (Nat.le_refl _)]
section
variable {b : Nat → Nat} {n m x : Nat} {L : List Ru} {M : SpM}
def starR (m x : Nat) : List Ru := [⟨(m : Int), [⟨false, []⟩]⟩, ⟨(m : Int), [⟨false, [⟨(x : Int), 0, 0⟩, ⟨(m : Int), 0, 0⟩]⟩]⟩]
theorem rest_two (X : SpM) (i j : Nat) : restB b X [⟨(x : Int), 0, 0⟩, ⟨(m : Int), 0, 0⟩] i j = true ↔ ∃ e, i ≤ e ∧ e ≤ j ∧ X x i e = true ∧ X m e j = true := by
  have hx : ¬ ((x : Int) = -1) := by omega
  have hm : ¬ ((m : Int) = -1) := by omega
  unfold restB
  simp only [if_neg hx, List.any_eq_true, List.mem_range, Bool.and_eq_true, decide_eq_true_eq, Int.toNat_natCast]
  constructor
  · rintro ⟨e, he, hie, h1, h2⟩
    unfold restB at h2
    simp only [if_neg hm, List.any_eq_true, List.mem_range, Bool.and_eq_true, decide_eq_true_eq, Int.toNat_natCast] at h2
    obtain ⟨k, hk, hek, h3, h4⟩ := h2
    unfold restB at h4
    have : k = j := by simpa using h4
    subst this
    exact ⟨e, hie, hek, h1, h3⟩
  · rintro ⟨e, hie, hej, h1, h2⟩
    refine ⟨e, by omega, hie, h1, ?_⟩
    unfold restB
    simp only [if_neg hm, List.any_eq_true, List.mem_range, Bool.and_eq_true, decide_eq_true_eq, Int.toNat_natCast]
    exact ⟨j, by omega, hej, h2, by unfold restB; simp⟩
def starY (n : Nat) (M : SpM) (m x : Nat) : SpM := fun y a p => if y = m then decide (a ≤ p) && (M m a p && (List.range (n + 1)).all fun c => !(decide (p ≤ c) && M x p c) || M m a c) else M y a p
def starX (M : SpM) (m x : Nat) : SpM := fun y a c => if y = m then decide (a ≤ c) && canV (fun p c => M x p c) a c else M y a c
/-- A new name of the empty text, and of another one and itself, has just what is parted into the other's. -/
theorem stb_star (h : Stb3 b n (L ++ starR m x) M) (hf : FrM L m) (hxm : x ≠ m) {i j : Nat} (hij : i ≤ j) (hj : j ≤ n) : M m i j = canV (fun p c => M x p c) i j := by
  have e0 : ∀ X (i j : Nat), red3 b M X ⟨(m : Int), [⟨false, []⟩]⟩ i j = true ↔ i = j := fun X i j => by
    unfold red3 redC3
    simp [restB]
  have e1 : ∀ X (i j : Nat), red3 b M X ⟨(m : Int), [⟨false, [⟨(x : Int), 0, 0⟩, ⟨(m : Int), 0, 0⟩]⟩]⟩ i j = true ↔ ∃ e, i ≤ e ∧ e ≤ j ∧ X x i e = true ∧ X m e j = true := fun X i j => by
    rw [← rest_two (b := b)]
    unfold red3 redC3
    simp
  have r1 : (⟨(m : Int), [⟨false, []⟩]⟩ : Ru) ∈ L ++ starR m x := List.mem_append_right _ (by unfold starR; simp)
  have r2 : (⟨(m : Int), [⟨false, [⟨(x : Int), 0, 0⟩, ⟨(m : Int), 0, 0⟩]⟩]⟩ : Ru) ∈ L ++ starR m x := List.mem_append_right _ (by unfold starR; simp)
  have hm0 : ∀ a, a ≤ n → M m a a = true := fun a ha => h.1 _ r1 a a (Nat.le_refl _) ha ((e0 M a a).2 rfl)
  have hm1 : ∀ a e c, a ≤ e → e ≤ c → c ≤ n → M x a e = true → M m e c = true → M m a c = true := fun a e c h1 h2 h3 h4 h5 => h.1 _ r2 a c (by omega) h3 ((e1 M a c).2 ⟨e, h1, h2, h4, h5⟩)
  rw [Bool.eq_iff_iff]
  constructor
  · intro hM
    have hne : ∀ r, r ∈ L → ∀ c, c ∈ r.conj → ∀ s, s ∈ c.seq → s.name ≠ -1 → ∀ i j, starX M m x s.name.toNat i j = M s.name.toNat i j := fun r hr c hc s hs hn i j => by
      unfold starX; rw [if_neg ((hf r hr).2 c hc s hs hn)]
    have hX : Cl3 b n (L ++ starR m x) M (starX M m x) := fun r hr i j hij hj hd => by
      rcases List.mem_append.1 hr with hr | hr
      · rw [red3_congr (A' := M) (X' := M) (fun _ _ _ _ _ _ _ => rfl) (hne r hr)] at hd
        unfold starX
        rw [if_neg (hf r hr).1]
        exact h.1 r (List.mem_append_left _ hr) i j hij hj hd
      · have hh : r.head.toNat = m := by
          unfold starR at hr
          simp only [List.mem_cons, List.not_mem_nil, or_false] at hr
          rcases hr with rfl | rfl <;> rfl
        unfold starX
        rw [if_pos hh]
        unfold starR at hr
        simp only [List.mem_cons, List.not_mem_nil, or_false] at hr
        rw [Bool.and_eq_true, decide_eq_true_eq]
        refine ⟨hij, ?_⟩
        rcases hr with rfl | rfl
        · have : i = j := (e0 _ i j).1 hd
          subst this
          exact canS_self (canV_is _ i)
        · obtain ⟨e, h1, h2, h3, h4⟩ := (e1 _ i j).1 hd
          unfold starX at h3 h4
          rw [if_neg hxm] at h3
          rw [if_pos rfl, Bool.and_eq_true] at h4
          exact canS_ahead (canV_is _ i) (canV_is _ e) h1 h3 j h2 h4.2
    have := h.2 _ hX m i j hM
    unfold starX at this
    rw [if_pos rfl, Bool.and_eq_true] at this
    exact this.2
  · intro hc
    have happ : ∀ a p, M m a p = true → ∀ c, p ≤ c → c ≤ n → M x p c = true → M m a c = true := by
      have hX : Cl3 b n (L ++ starR m x) M (starY n M m x) := fun r hr a p hap hp hd => by
        rcases List.mem_append.1 hr with hr | hr
        · rw [red3_congr (A' := M) (X' := M) (fun _ _ _ _ _ _ _ => rfl) (fun c hc s hs hn i j => by unfold starY; rw [if_neg ((hf r hr).2 c hc s hs hn)])] at hd
          unfold starY
          rw [if_neg (hf r hr).1]
          exact h.1 r (List.mem_append_left _ hr) a p hap hp hd
        · have hh : r.head.toNat = m := by
            unfold starR at hr
            simp only [List.mem_cons, List.not_mem_nil, or_false] at hr
            rcases hr with rfl | rfl <;> rfl
          unfold starY
          rw [if_pos hh]
          unfold starR at hr
          simp only [List.mem_cons, List.not_mem_nil, or_false] at hr
          simp only [Bool.and_eq_true, decide_eq_true_eq, List.all_eq_true, List.mem_range, Bool.or_eq_true, Bool.not_eq_true', Bool.and_eq_false_iff, decide_eq_false_iff_not]
          refine ⟨hap, ?_⟩
          rcases hr with rfl | rfl
          · have : a = p := (e0 _ a p).1 hd
            subst this
            refine ⟨hm0 a hp, fun c hc => ?_⟩
            by_cases h1 : a ≤ c
            · cases h2 : M x a c with
              | false => exact Or.inl (Or.inr rfl)
              | true => exact Or.inr (hm1 a c c h1 (Nat.le_refl _) (by omega) h2 (hm0 c (by omega)))
            · exact Or.inl (Or.inl h1)
          · obtain ⟨e, h1, h2, h3, h4⟩ := (e1 _ a p).1 hd
            unfold starY at h3 h4
            simp only [if_neg hxm] at h3
            simp only [if_true, Bool.and_eq_true, decide_eq_true_eq, List.all_eq_true, List.mem_range, Bool.or_eq_true, Bool.not_eq_true', Bool.and_eq_false_iff, decide_eq_false_iff_not] at h4
            refine ⟨hm1 a e p h1 h2 hp h3 h4.2.1, fun c hc => ?_⟩
            rcases h4.2.2 c hc with h5 | h5
            · exact Or.inl h5
            · by_cases h6 : p ≤ c
              · exact Or.inr (hm1 a e c h1 (by omega) (by omega) h3 h5)
              · exact Or.inl (Or.inl h6)
      intro a p hap c hpc hcn hx
      have := h.2 _ hX m a p hap
      unfold starY at this
      simp only [if_true, Bool.and_eq_true, decide_eq_true_eq, List.all_eq_true, List.mem_range, Bool.or_eq_true, Bool.not_eq_true', Bool.and_eq_false_iff, decide_eq_false_iff_not] at this
      rcases this.2.2 c (by omega) with (h1 | h1) | h1
      · exact absurd hpc h1
      · rw [hx] at h1; cases h1
      · exact h1
    have hall : ∀ j, i ≤ j → j ≤ n → canV (fun p c => M x p c) i j = true → M m i j = true := by
      intro j
      induction j using Nat.strongRecOn with
      | ind j ih =>
        intro hij hj hc
        rw [canV_is (fun p c => M x p c) i j hij, Bool.or_eq_true, List.any_eq_true] at hc
        rcases hc with hc | ⟨p, hp, hc⟩
        · have : j = i := by simpa using hc
          subst this
          exact hm0 j hj
        · have hlt := List.mem_range.1 hp
          simp only [Bool.and_eq_true, decide_eq_true_eq] at hc
          exact happ i p (ih p hlt hc.1 (by omega) hc.2.1) j (by omega) hj hc.2.2
    exact hall j hij hj hc
end
end Go.Proofs.YtfjejnkjlnkkhaaGreatDoor
