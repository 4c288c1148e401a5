import Derived.Test.YtipnfiaphmddiaaGreatHangT
/- Levels, as plain functions: rounds that lift, the least levels, and that as many rounds as there are names do. No program in sight. -/
namespace Go.Proofs.YtipnfiaphmddiaaGreat
set_option linter.unusedVariables false

def stp (e : Ed) : Nat := if e.2.2 = true then 1 else 0
def putN (f : Nat → Nat) (k v : Nat) : Nat → Nat := fun j => if j = k then v else f j
/-- One edge: its name is lifted, if it must be. -/
def raiE (f : Nat → Nat) (e : Ed) : Nat → Nat := if f e.1.toNat < f e.2.1.toNat + stp e then putN f e.1.toNat (f e.2.1.toNat + stp e) else f
def rai (f : Nat → Nat) : List Ed → Nat → Nat
  | [] => f
  | e :: l => rai (raiE f e) l
/-- Did something change? -/
def chg (f : Nat → Nat) : List Ed → Bool
  | [] => false
  | e :: l => decide (f e.1.toNat < f e.2.1.toNat + stp e) || chg (raiE f e) l
def itL (l : List Ed) : Nat → Nat → Nat
  | 0 => fun _ => 0
  | r + 1 => rai (itL l r) l
/-- Levels as the edges ask. -/
def Sol (l : List Ed) (f : Nat → Nat) : Prop := ∀ e, e ∈ l → f e.2.1.toNat + stp e ≤ f e.1.toNat
def levT (n : Nat) (l : List Ed) : Nat → Nat := itL l n
def levL (n : Nat) (f : Nat → Nat) : List Int := (List.range n).map fun i => ((f i : Nat) : Int)

theorem rai_snoc : ∀ (l : List Ed) (f : Nat → Nat) (e : Ed), rai f (l ++ [e]) = raiE (rai f l) e
  | [], f, e => rfl
  | d :: l, f, e => rai_snoc l _ e
theorem chg_snoc : ∀ (l : List Ed) (f : Nat → Nat) (e : Ed), chg f (l ++ [e]) = (chg f l || decide (rai f l e.1.toNat < rai f l e.2.1.toNat + stp e))
  | [], f, e => by
    show (decide _ || false) = (false || decide _)
    rw [Bool.or_false, Bool.false_or]; rfl
  | d :: l, f, e => by
    show (decide _ || chg (raiE f d) (l ++ [e])) = _
    rw [chg_snoc l, ← Bool.or_assoc]; rfl
theorem raiE_val (f : Nat → Nat) (e : Ed) (i : Nat) : raiE f e i = if f e.1.toNat < f e.2.1.toNat + stp e ∧ i = e.1.toNat then f e.2.1.toNat + stp e else f i := by
  unfold raiE
  by_cases h : f e.1.toNat < f e.2.1.toNat + stp e
  · rw [if_pos h]
    show (if i = e.1.toNat then _ else _) = _
    by_cases h2 : i = e.1.toNat
    · rw [if_pos h2, if_pos ⟨h, h2⟩]
    · rw [if_neg h2, if_neg fun x => h2 x.2]
  · rw [if_neg h, if_neg fun x => h x.1]
theorem raiE_le (f : Nat → Nat) (e : Ed) (i : Nat) : f i ≤ raiE f e i := by
  rw [raiE_val]
  split
  · rename_i h
    rw [h.2]; omega
  · exact Nat.le_refl _
theorem rai_le : ∀ (l : List Ed) (f : Nat → Nat) (i : Nat), f i ≤ rai f l i
  | [], f, i => Nat.le_refl _
  | e :: l, f, i => Nat.le_trans (raiE_le f e i) (rai_le l _ i)
theorem raiE_at (f : Nat → Nat) (e : Ed) : f e.2.1.toNat + stp e ≤ raiE f e e.1.toNat := by
  rw [raiE_val]
  split
  · exact Nat.le_refl _
  · rename_i h
    have : ¬ f e.1.toNat < f e.2.1.toNat + stp e := fun x => h ⟨x, rfl⟩
    omega
/-- Behind a round each edge's name is as high as its end was ahead of it asks. -/
theorem rai_at : ∀ (l : List Ed) (f : Nat → Nat) (e : Ed), e ∈ l → f e.2.1.toNat + stp e ≤ rai f l e.1.toNat
  | [], f, e, h => by simp at h
  | d :: l, f, e, h => by
    rcases List.mem_cons.1 h with rfl | h
    · exact Nat.le_trans (raiE_at f e) (rai_le l _ _)
    · have := raiE_le f d e.2.1.toNat
      have := rai_at l (raiE f d) e h
      show _ ≤ rai (raiE f d) l _
      omega
theorem raiE_ub {f h : Nat → Nat} {e : Ed} (hf : ∀ i, f i ≤ h i) (he : h e.2.1.toNat + stp e ≤ h e.1.toNat) (i : Nat) : raiE f e i ≤ h i := by
  rw [raiE_val]
  split
  · rename_i h2
    have := hf e.2.1.toNat
    rw [h2.2]; omega
  · exact hf i
theorem rai_ub {h : Nat → Nat} : ∀ (l : List Ed) (f : Nat → Nat), (∀ i, f i ≤ h i) → Sol l h → ∀ i, rai f l i ≤ h i
  | [], f, hf, _, i => hf i
  | e :: l, f, hf, hs, i => rai_ub l _ (raiE_ub hf (hs e List.mem_cons_self)) (fun d hd => hs d (List.mem_cons_of_mem _ hd)) i
theorem it_ub {l : List Ed} {h : Nat → Nat} (hs : Sol l h) : ∀ r i, itL l r i ≤ h i
  | 0, i => Nat.zero_le _
  | r + 1, i => rai_ub l _ (it_ub hs r) hs i
theorem chg_no : ∀ (l : List Ed) (f : Nat → Nat), chg f l = false ↔ Sol l f
  | [], f => by simp [chg, Sol]
  | e :: l, f => by
    show (decide _ || chg (raiE f e) l) = false ↔ _
    rw [Bool.or_eq_false_iff, chg_no l]
    constructor
    · rintro ⟨h1, h2⟩ d hd
      have h3 : ¬ f e.1.toNat < f e.2.1.toNat + stp e := by simpa using h1
      have h4 : raiE f e = f := by unfold raiE; rw [if_neg h3]
      rw [h4] at h2
      rcases List.mem_cons.1 hd with rfl | hd
      · omega
      · exact h2 d hd
    · intro h
      have h3 : ¬ f e.1.toNat < f e.2.1.toNat + stp e := by have := h e List.mem_cons_self; omega
      have h4 : raiE f e = f := by unfold raiE; rw [if_neg h3]
      rw [h4]
      exact ⟨by simpa using h3, fun d hd => h d (List.mem_cons_of_mem _ hd)⟩
theorem rai_fix : ∀ (l : List Ed) (f : Nat → Nat), Sol l f → rai f l = f
  | [], f, _ => rfl
  | e :: l, f, h => by
    have h3 : ¬ f e.1.toNat < f e.2.1.toNat + stp e := by have := h e List.mem_cons_self; omega
    have h4 : raiE f e = f := by unfold raiE; rw [if_neg h3]
    show rai (raiE f e) l = f
    rw [h4]
    exact rai_fix l f fun d hd => h d (List.mem_cons_of_mem _ hd)
theorem it_fix {l : List Ed} {r : Nat} (h : Sol l (itL l r)) : ∀ k, itL l (r + k) = itL l r
  | 0 => rfl
  | k + 1 => by
    show rai (itL l (r + k)) l = _
    rw [it_fix h k]; exact rai_fix l _ h
theorem it_out {n : Nat} {l : List Ed} (hl : edsB (n : Int) l = true) : ∀ r i, n ≤ i → itL l r i = 0 := by
  have hE : ∀ (m : List Ed) (f : Nat → Nat), (∀ e, e ∈ m → e.1.toNat < n) → (∀ i, n ≤ i → f i = 0) → ∀ i, n ≤ i → rai f m i = 0 := by
    intro m
    induction m with
    | nil => intro f _ h; exact h
    | cons e m ih =>
      intro f hm h
      refine ih _ (fun d hd => hm d (List.mem_cons_of_mem _ hd)) fun i hi => ?_
      have h9 := hm e List.mem_cons_self
      rw [raiE_val, if_neg fun x => by omega]
      exact h i hi
  intro r
  induction r with
  | zero => intro i _; rfl
  | succ r ih =>
    refine hE l _ (fun e he => ?_) ih
    unfold edsB at hl
    have := edB_lt (List.all_eq_true.1 hl e he)
    omega

/-- How many a name leads to that do not lead back: levels that never fall along edges, and rise where there is no way back. -/
def over (n : Nat) (l : List Ed) (i : Nat) : Nat := cntS (fun c => wayB n l i c && !wayB n l c i) n
theorem cnt_lt_all {s : Nat → Bool} {k : Nat} (h : s k = false) : ∀ n, k < n → cntS s n < n := fun n hk => by
  have h1 := cnt_lt (s := s) (t := fun _ => true) (fun _ _ => rfl) h rfl n hk
  have h2 := cnt_le (fun _ => true) n
  omega
/-- No edge that is negated has a way back. -/
def Clean (l : List Ed) : Prop := ∀ e, e ∈ l → e.2.2 = true → ¬ Way l e.2.1.toNat e.1.toNat
theorem eds_lt {n : Nat} {l : List Ed} (hl : edsB (n : Int) l = true) {e : Ed} (he : e ∈ l) : e.1.toNat < n ∧ e.2.1.toNat < n := by
  unfold edsB at hl
  have := edB_lt (List.all_eq_true.1 hl e he)
  omega
theorem over_sol {n : Nat} {l : List Ed} (hl : edsB (n : Int) l = true) (hc : Clean l) : Sol l (over n l) := fun e he => by
  obtain ⟨h1, h2⟩ := eds_lt hl he
  have hw : ∀ i j, i < n → (wayB n l i j = true ↔ Way l i j) := fun i j hi => way_iff hl hi
  have key : ∀ j, (wayB n l e.2.1.toNat j && !wayB n l j e.2.1.toNat) = true → j < n → (wayB n l e.1.toNat j && !wayB n l j e.1.toNat) = true := fun j hj hjn => by
    simp only [Bool.and_eq_true, Bool.not_eq_true', ← Bool.not_eq_true] at hj ⊢
    rw [hw _ _ h2, hw _ _ hjn] at hj
    rw [hw _ _ h1, hw _ _ hjn]
    exact ⟨(Way.edge he).trans hj.1, fun h => hj.2 (h.trans (Way.edge he))⟩
  have mono : ∀ m, m ≤ n → ∀ (s t : Nat → Bool), (∀ j, j < n → s j = true → t j = true) → cntS s m ≤ cntS t m ∧ (∀ k, k < m → s k = false → t k = true → cntS s m < cntS t m) := by
    intro m
    induction m with
    | zero => intro _ s t _; exact ⟨Nat.le_refl _, fun k hk => by omega⟩
    | succ m ih =>
      intro hm s t h
      obtain ⟨i1, i2⟩ := ih (by omega) s t h
      have hh := h m (by omega)
      refine ⟨?_, fun k hk a b => ?_⟩
      · unfold cntS
        cases hs : s m <;> cases ht : t m <;> simp_all <;> omega
      · by_cases e : k = m
        · subst e
          unfold cntS
          simp only [a, b]; simp; omega
        · have := i2 k (by omega) a b
          unfold cntS
          cases hs : s m <;> cases ht : t m <;> simp_all <;> omega
  obtain ⟨m1, m2⟩ := mono n (Nat.le_refl _) _ _ (fun j hj h => key j h hj)
  unfold stp
  split
  · rename_i hneg
    refine m2 e.2.1.toNat h2 ?_ ?_
    · simp [(hw _ e.2.1.toNat h2).2 (Way.refl _ _)]
    · have a1 := (hw _ e.2.1.toNat h1).2 (Way.edge he)
      have a2 : wayB n l e.2.1.toNat e.1.toNat = false := by
        rw [← Bool.not_eq_true, hw _ _ h2]; exact hc e he hneg
      simp [a1, a2]
  · exact m1
theorem over_lt {n : Nat} {l : List Ed} (hl : edsB (n : Int) l = true) {i : Nat} (hi : i < n) : over n l i < n :=
  cnt_lt_all (k := i) (by simp [(way_iff hl hi).2 (Way.refl l i)]) n hi

/-- There are least levels. -/
theorem least_ex {n : Nat} {l : List Ed} (hl : edsB (n : Int) l = true) (hc : Clean l) : ∃ r, Sol l (itL l r) := by
  refine Classical.byContradiction fun hno => ?_
  have hno : ∀ r, ¬ Sol l (itL l r) := fun r h => hno ⟨r, h⟩
  have sum : ∀ r, r ≤ ((List.range n).map (itL l r)).sum := by
    intro r
    induction r with
    | zero => exact Nat.zero_le _
    | succ r ih =>
      have hle : ∀ i, itL l r i ≤ itL l (r + 1) i := fun i => rai_le l _ i
      have hne : ∃ i, i < n ∧ itL l r i < itL l (r + 1) i := by
        refine Classical.byContradiction fun h => hno r ?_
        have heq : ∀ i, itL l (r + 1) i ≤ itL l r i := fun i => by
          by_cases hi : i < n
          · refine Classical.byContradiction fun hlt => h ⟨i, hi, by omega⟩
          · rw [it_out hl _ i (by omega), it_out hl _ i (by omega)]; exact Nat.le_refl _
        intro e he
        exact Nat.le_trans (rai_at l _ e he) (heq _)
      obtain ⟨i, hi, hlt⟩ := hne
      have : ∀ m, (∀ j, j ∈ List.range m → itL l r j ≤ itL l (r + 1) j) → ((List.range m).map (itL l r)).sum ≤ ((List.range m).map (itL l (r + 1))).sum ∧ (i < m → ((List.range m).map (itL l r)).sum < ((List.range m).map (itL l (r + 1))).sum) := by
        intro m
        induction m with
        | zero => intro _; exact ⟨Nat.le_refl _, fun h => by omega⟩
        | succ m im =>
          intro _
          obtain ⟨a, b⟩ := im fun j _ => hle j
          simp only [List.range_succ, List.map_append, List.map_cons, List.map_nil, List.sum_append, List.sum_cons, List.sum_nil, Nat.add_zero]
          have := hle m
          refine ⟨by omega, fun h => ?_⟩
          by_cases e : i = m
          · subst e; omega
          · have := b (by omega); omega
      have := (this n fun j _ => hle j).2 hi
      omega
  have ub : ∀ r m, m ≤ n → ((List.range m).map (itL l r)).sum ≤ m * n := by
    intro r m
    induction m with
    | zero => intro _; simp
    | succ m im =>
      intro hm
      simp only [List.range_succ, List.map_append, List.map_cons, List.map_nil, List.sum_append, List.sum_cons, List.sum_nil, Nat.add_zero]
      have h1 := im (by omega)
      have h2 := it_ub (over_sol hl hc) r m
      have h3 := over_lt (i := m) hl (by omega)
      rw [Nat.succ_mul]; omega
  have h1 := sum (n * n + 1)
  have h2 := ub (n * n + 1) n (Nat.le_refl _)
  omega
theorem least_of {l : List Ed} {r : Nat} (h : Sol l (itL l r)) {k : Nat} (hk : Sol l (itL l k)) : itL l r = itL l k := by
  funext i
  have a := it_ub hk r i
  have b := it_ub h k i
  omega
/-- As many rounds as there are names do. -/
theorem lev_sol {n : Nat} {l : List Ed} (hl : edsB (n : Int) l = true) (hc : Clean l) : Sol l (levT n l) := by
  obtain ⟨r0, hr0⟩ := least_ex hl hc
  obtain ⟨L, hL⟩ : ∃ L, L = itL l r0 := ⟨_, rfl⟩
  rw [← hL] at hr0
  have hmin : ∀ h, Sol l h → ∀ i, L i ≤ h i := fun h hh i => by rw [hL]; exact it_ub hh r0 i
  have hub : ∀ r i, itL l r i ≤ L i := fun r i => it_ub hr0 r i
  have hmono : ∀ r i, itL l r i ≤ itL l (r + 1) i := fun r i => rai_le l _ i
  have hLo : ∀ i, n ≤ i → L i = 0 := fun i hi => by rw [hL]; exact it_out hl r0 i hi
  have cnt : ∀ r, (∀ i, itL l r i = L i) ∨ r ≤ cntS (fun i => decide (itL l r i = L i)) n := by
    intro r
    induction r with
    | zero => exact Or.inr (Nat.zero_le _)
    | succ r ih =>
      rcases ih with ih | ih
      · left
        intro i
        have := hub (r + 1) i
        have := hmono r i
        have := ih i
        omega
      · by_cases hall : ∀ i, itL l (r + 1) i = L i
        · exact Or.inl hall
        right
        have hst : ∀ i, decide (itL l r i = L i) = true → decide (itL l (r + 1) i = L i) = true := fun i h => by
          simp only [decide_eq_true_eq] at h ⊢
          have := hub (r + 1) i
          have := hmono r i
          omega
        have hnew : ∃ i, i < n ∧ itL l r i ≠ L i ∧ itL l (r + 1) i = L i := by
          refine Classical.byContradiction fun hno => ?_
          have hno : ∀ i, itL l r i ≠ L i → itL l (r + 1) i ≠ L i := fun i h1 h2 => by
            by_cases hi : i < n
            · exact hno ⟨i, hi, h1, h2⟩
            · exact h1 (by rw [it_out hl _ i (by omega), hLo i (by omega)])
          refine hall fun i => ?_
          -- levels one lower where they are not yet there
          have hs : Sol l fun i => if itL l r i = L i then L i else L i - 1 := fun e he => by
            have h0 := hr0 e he
            by_cases a : itL l r e.1.toNat = L e.1.toNat
            · by_cases b : itL l r e.2.1.toNat = L e.2.1.toNat
              · simp only [if_pos a, if_pos b]; exact h0
              · simp only [if_pos a, if_neg b]; omega
            · have ha1 := hub r e.1.toNat
              by_cases b : itL l r e.2.1.toNat = L e.2.1.toNat
              · simp only [if_neg a, if_pos b]
                have h1 := rai_at l (itL l r) e he
                have h2 := hno _ a
                have h3 := hub (r + 1) e.1.toNat
                have h4 : itL l (r + 1) e.1.toNat = rai (itL l r) l e.1.toNat := rfl
                omega
              · simp only [if_neg a, if_neg b]
                have hb1 := hub r e.2.1.toNat
                omega
          have h1 := hmin _ hs i
          by_cases a : itL l r i = L i
          · have := hub (r + 1) i
            have := hmono r i
            omega
          · simp only [if_neg a] at h1
            have := hub r i
            omega
        obtain ⟨i, hi, h1, h2⟩ := hnew
        have := cnt_lt hst (k := i) (by simp [h1]) (by simp [h2]) n hi
        omega
  have hn : ∀ i, itL l n i = L i := by
    rcases cnt n with h | h
    · exact h
    · intro i
      by_cases hi : i < n
      · refine Classical.byContradiction fun hne => ?_
        have := cnt_lt_all (s := fun i => decide (itL l n i = L i)) (k := i) (by simp [hne]) n hi
        omega
      · rw [it_out hl _ i (by omega), hLo i (by omega)]
  have : levT n l = L := by funext i; exact hn i
  rw [this]; exact hr0
theorem lev_least {n : Nat} {l : List Ed} {h : Nat → Nat} (hs : Sol l h) (i : Nat) : levT n l i ≤ h i := it_ub hs n i
theorem lev_lt {n : Nat} {l : List Ed} (hl : edsB (n : Int) l = true) (hc : Clean l) {i : Nat} (hi : i < n) : levT n l i < n := by
  have := lev_least (n := n) (over_sol hl hc) i
  have := over_lt hl hi
  omega
theorem lev_eq {n : Nat} {l : List Ed} {f : Nat → Nat} (hl : edsB (n : Int) l = true) (hc : Clean l) (hf : Sol l f) (hm : ∀ h, Sol l h → ∀ i, i < n → f i ≤ h i) {i : Nat} (hi : i < n) : f i = levT n l i := by
  have a := hm _ (lev_sol hl hc) i hi
  have b := lev_least (n := n) hf i
  omega
/-- Where a round changes nothing the levels are there. -/
theorem it_done {n : Nat} {l : List Ed} (hl : edsB (n : Int) l = true) (hc : Clean l) {r : Nat} (h : chg (itL l r) l = false) : itL l r = levT n l := least_of ((chg_no _ _).1 h) (lev_sol hl hc)
theorem it_goes {n : Nat} {l : List Ed} (hl : edsB (n : Int) l = true) (hc : Clean l) {r : Nat} (h : chg (itL l r) l = true) : r < n := by
  refine Classical.byContradiction fun hr => ?_
  obtain ⟨k, rfl⟩ : ∃ k, r = n + k := ⟨r - n, by omega⟩
  have hs : Sol l (itL l n) := lev_sol hl hc
  rw [it_fix hs k, (chg_no _ _).2 hs] at h
  cases h
theorem it_lt {n : Nat} {l : List Ed} (hl : edsB (n : Int) l = true) (hc : Clean l) (r : Nat) {i : Nat} (hi : i < n) : itL l r i < n := by
  have := it_ub (over_sol hl hc) r i
  have := over_lt hl hi
  omega
end Go.Proofs.YtipnfiaphmddiaaGreat
/- A cycle, as plain functions: how far each name is from a goal, a walk by breadth, the way back. No program in sight. -/
namespace Go.Proofs.YtipnfiaphmddiaaGreat
set_option linter.unusedVariables false

/-- How many edges lead from each name to g, at least; -1: none do. -/
def FarIs (l : List Ed) (g : Nat) (f : Nat → Int) : Prop :=
  ∀ i, (f i = -1 ∧ ∀ k, ¬ St l k i g) ∨ ∃ d : Nat, f i = (d : Int) ∧ St l d i g ∧ ∀ k, St l k i g → d ≤ k
theorem FarIs.unique {l : List Ed} {g : Nat} {f h : Nat → Int} (hf : FarIs l g f) (hh : FarIs l g h) : f = h := by
  funext i
  rcases hf i with ⟨a1, a2⟩ | ⟨d, a1, a2, a3⟩
  · rcases hh i with ⟨b1, b2⟩ | ⟨e, b1, b2, b3⟩
    · rw [a1, b1]
    · exact absurd b2 (a2 e)
  · rcases hh i with ⟨b1, b2⟩ | ⟨e, b1, b2, b3⟩
    · exact absurd a2 (b2 d)
    · have := a3 e b2
      have := b3 d a2
      rw [a1, b1]; omega
def putZ (f : Nat → Int) (k : Nat) (v : Int) : Nat → Int := fun j => if j = k then v else f j
theorem putZ_same (f : Nat → Int) (k : Nat) (v : Int) : putZ f k v k = v := by simp [putZ]
theorem putZ_other (f : Nat → Int) {k j : Nat} (v : Int) (h : j ≠ k) : putZ f k v j = f j := by simp [putZ, h]
def farL (n : Nat) (f : Nat → Int) : List Int := (List.range n).map f
theorem farL_length (n : Nat) (f : Nat → Int) : (farL n f).length = n := by simp [farL]
theorem farL_at {n : Nat} (f : Nat → Int) {i : Nat} (hi : i < n) : (farL n f)[i]? = some (f i) := by simp [farL, hi]
theorem farL_put {n : Nat} (f : Nat → Int) {i : Nat} (hi : i < n) (v : Int) : (farL n f).set i v = farL n (putZ f i v) := by
  apply List.ext_getElem?
  intro j
  by_cases hj : j < n
  · rw [farL_at _ hj, List.getElem?_set]
    by_cases e : i = j
    · subst e; rw [if_pos rfl, if_pos (by rw [farL_length]; exact hi), putZ_same]
    · rw [if_neg e, farL_at _ hj, putZ_other _ _ (Ne.symm e)]
  · rw [List.getElem?_eq_none (by rw [List.length_set, farL_length]; omega), List.getElem?_eq_none (by rw [farL_length]; omega)]

/-- All that lead to i are known, no more than one further. -/
def DoneB (l : List Ed) (f : Nat → Int) (i : Nat) : Prop := ∀ e, e ∈ l → e.2.1.toNat = i → 0 ≤ f e.1.toNat ∧ f e.1.toNat ≤ f i + 1
def Known (l : List Ed) (g : Nat) (f : Nat → Int) : Prop := ∀ i, f i = -1 ∨ ∃ d : Nat, f i = (d : Int) ∧ St l d i g
def Rises (f : Nat → Int) (q : List Nat) : Prop := q.Pairwise fun a b => f a ≤ f b
/-- A walk by breadth: q waits. -/
structure Bfs (n : Nat) (l : List Ed) (g : Nat) (f : Nat → Int) (q : List Nat) : Prop where
  known : Known l g f
  goal : f g = 0
  all : ∀ i, 0 ≤ f i → i ∈ q ∨ DoneB l f i
  wait : ∀ i, i ∈ q → 0 ≤ f i ∧ i < n
  up : Rises f q
  near : ∀ a, a ∈ q → ∀ i, f i ≤ f a + 1
/-- In the midst of a: the first k edges are looked at. -/
structure Mid (n : Nat) (l : List Ed) (g : Nat) (a : Nat) (k : Nat) (f : Nat → Int) (q : List Nat) : Prop where
  known : Known l g f
  goal : f g = 0
  me : 0 ≤ f a ∧ a < n
  all : ∀ i, 0 ≤ f i → i = a ∨ i ∈ q ∨ DoneB l f i
  wait : ∀ i, i ∈ q → f a ≤ f i ∧ i < n
  up : Rises f q
  near : ∀ i, f i ≤ f a + 1
  seen : ∀ e, e ∈ l.take k → e.2.1.toNat = a → 0 ≤ f e.1.toNat
theorem Bfs.begin {n : Nat} (l : List Ed) {g : Nat} (hg : g < n) : Bfs n l g (putZ (fun _ => -1) g 0) [g] where
  known i := by
    by_cases e : i = g
    · subst e; exact Or.inr ⟨0, by rw [putZ_same]; rfl, rfl⟩
    · exact Or.inl (putZ_other _ _ e)
  goal := putZ_same _ _ _
  all i hi := by
    by_cases e : i = g
    · subst e; exact Or.inl (by simp)
    · rw [putZ_other _ _ e] at hi; omega
  wait i hi := by
    obtain rfl : i = g := by simpa using hi
    exact ⟨by rw [putZ_same]; exact Int.le_refl _, hg⟩
  up := by simp [Rises]
  near a ha i := by
    obtain rfl : a = g := by simpa using ha
    rw [putZ_same]
    by_cases e : i = a
    · subst e; rw [putZ_same]; omega
    · rw [putZ_other _ _ e]; omega
theorem Bfs.pop {n : Nat} {l : List Ed} {g : Nat} {f : Nat → Int} {a : Nat} {q : List Nat} (h : Bfs n l g f (a :: q)) : Mid n l g a 0 f q where
  known := h.known
  goal := h.goal
  me := h.wait a List.mem_cons_self
  all i hi := by
    rcases h.all i hi with h1 | h1
    · rcases List.mem_cons.1 h1 with h1 | h1
      · exact Or.inl h1
      · exact Or.inr (Or.inl h1)
    · exact Or.inr (Or.inr h1)
  wait i hi := ⟨(List.pairwise_cons.1 h.up).1 i hi, (h.wait i (List.mem_cons_of_mem _ hi)).2⟩
  up := (List.pairwise_cons.1 h.up).2
  near := h.near a List.mem_cons_self
  seen e he := by simp at he
section
variable {n : Nat} {l : List Ed} {g a k : Nat} {f : Nat → Int} {q : List Nat} {e : Ed}
theorem Mid.pass (h : Mid n l g a k f q) (he : l[k]? = some e) (hn : e.2.1.toNat ≠ a ∨ f e.1.toNat ≠ -1) : Mid n l g a (k + 1) f q where
  known := h.known
  goal := h.goal
  me := h.me
  all := h.all
  wait := h.wait
  up := h.up
  near := h.near
  seen d hd hda := by
    rw [List.take_add_one, he] at hd
    rcases List.mem_append.1 hd with hd | hd
    · exact h.seen d hd hda
    · obtain rfl : d = e := by simpa using hd
      rcases hn with hn | hn
      · exact absurd hda hn
      · rcases h.known d.1.toNat with h1 | ⟨x, h1, _⟩
        · exact absurd h1 hn
        · rw [h1]; omega
theorem doneB_put {i v : Nat} {z : Int} (h : DoneB l f i) (hv : f v = -1) (hi : 0 ≤ f i) : DoneB l (putZ f v z) i := fun d hd hdi => by
  obtain ⟨h1, h2⟩ := h d hd hdi
  rw [putZ_other _ _ (fun x => by rw [x, hv] at h1; omega), putZ_other _ _ (fun x => by rw [x, hv] at hi; omega)]
  exact ⟨h1, h2⟩
theorem Mid.push (h : Mid n l g a k f q) (hl : edsB (n : Int) l = true) (he : l[k]? = some e) (h1 : e.2.1.toNat = a) (h2 : f e.1.toNat = -1) :
    Mid n l g a (k + 1) (putZ f e.1.toNat (f a + 1)) (q ++ [e.1.toNat]) := by
  have hem : e ∈ l := List.mem_of_getElem? he
  have ha := h.me.1
  have hne : ∀ i, 0 ≤ f i → i ≠ e.1.toNat := fun i hi x => by rw [x, h2] at hi; omega
  have hao : putZ f e.1.toNat (f a + 1) a = f a := putZ_other _ _ (hne a ha)
  have hge : ∀ i, 0 ≤ f i → putZ f e.1.toNat (f a + 1) i = f i := fun i hi => putZ_other _ _ (hne i hi)
  refine ⟨fun i => ?_, ?_, ⟨by rw [hao]; exact ha, h.me.2⟩, fun i hi => ?_, fun i hi => ?_, ?_, fun i => ?_, fun d hd hda => ?_⟩
  · by_cases x : i = e.1.toNat
    · subst x
      right
      rcases h.known a with h3 | ⟨d, h3, h4⟩
      · omega
      · exact ⟨d + 1, by rw [putZ_same, h3]; rfl, e, hem, rfl, by rw [h1]; exact h4⟩
    · rw [putZ_other _ _ x]; exact h.known i
  · rw [hge g (by rw [h.goal]; exact Int.le_refl _)]; exact h.goal
  · by_cases x : i = e.1.toNat
    · subst x; exact Or.inr (Or.inl (by simp))
    · rw [putZ_other _ _ x] at hi
      rcases h.all i hi with h3 | h3 | h3
      · exact Or.inl h3
      · exact Or.inr (Or.inl (List.mem_append_left _ h3))
      · exact Or.inr (Or.inr (doneB_put h3 h2 hi))
  · rw [hao]
    rcases List.mem_append.1 hi with hi | hi
    · have := h.wait i hi
      rw [hge i (by omega)]; exact this
    · obtain rfl : i = e.1.toNat := by simpa using hi
      rw [putZ_same]
      exact ⟨by omega, (eds_lt hl hem).1⟩
  · show (q ++ [e.1.toNat]).Pairwise _
    rw [List.pairwise_append]
    refine ⟨?_, by simp, fun x hx y hy => ?_⟩
    · have hq : ∀ x, x ∈ q → 0 ≤ f x := fun x hx => by have := (h.wait x hx).1; omega
      exact List.Pairwise.imp_of_mem (fun {x y} hx hy hxy => by rw [hge x (hq x hx), hge y (hq y hy)]; exact hxy) h.up
    · obtain rfl : y = e.1.toNat := by simpa using hy
      rw [putZ_same, hge x (by have := (h.wait x hx).1; omega)]
      exact h.near x
  · rw [hao]
    by_cases x : i = e.1.toNat
    · subst x; rw [putZ_same]; exact Int.le_refl _
    · rw [putZ_other _ _ x]; exact h.near i
  · rw [List.take_add_one, he] at hd
    by_cases x : d.1.toNat = e.1.toNat
    · rw [x, putZ_same]; omega
    · rcases List.mem_append.1 hd with hd | hd
      · rw [putZ_other _ _ x]; exact h.seen d hd hda
      · obtain rfl : d = e := by simpa using hd
        exact absurd rfl x
theorem Mid.fin (h : Mid n l g a l.length f q) : Bfs n l g f q where
  known := h.known
  goal := h.goal
  all i hi := by
    rcases h.all i hi with h3 | h3 | h3
    · subst h3
      right
      intro d hd hda
      exact ⟨h.seen d (by rw [List.take_length]; exact hd) hda, h.near _⟩
    · exact Or.inl h3
    · exact Or.inr h3
  wait i hi := ⟨by have := (h.wait i hi).1; have := h.me.1; omega, (h.wait i hi).2⟩
  up := h.up
  near x hx i := by
    have := (h.wait x hx).1
    have := h.near i
    omega
theorem Bfs.far (h : Bfs n l g f []) : FarIs l g f := by
  have key : ∀ k i, St l k i g → 0 ≤ f i ∧ f i ≤ (k : Int) := by
    intro k
    induction k with
    | zero =>
      intro i hi
      obtain rfl : i = g := hi
      rw [h.goal]; exact ⟨Int.le_refl _, Int.le_refl _⟩
    | succ k ih =>
      rintro i ⟨d, hd, rfl, hs⟩
      obtain ⟨a1, a2⟩ := ih _ hs
      rcases h.all _ a1 with h1 | h1
      · simp at h1
      · obtain ⟨b1, b2⟩ := h1 d hd rfl
        exact ⟨b1, by omega⟩
  intro i
  rcases h.known i with h1 | ⟨d, h1, h2⟩
  · exact Or.inl ⟨h1, fun k hk => by have := (key k i hk).1; omega⟩
  · exact Or.inr ⟨d, h1, h2, fun k hk => by have := (key k i hk).2; omega⟩
end
/-- What is yet to be told of a walk by breadth. -/
def unset (n : Nat) (f : Nat → Int) : Nat := cntS (fun i => decide (f i = -1)) n
theorem unset_put {n : Nat} {f : Nat → Int} {v : Nat} {z : Int} (hv : v < n) (h : f v = -1) (hz : z ≠ -1) : unset n (putZ f v z) + 1 ≤ unset n f := by
  have := cnt_lt (s := fun i => decide (putZ f v z i = -1)) (t := fun i => decide (f i = -1)) (fun j hj => by
    simp only [decide_eq_true_eq] at hj ⊢
    by_cases x : j = v
    · subst x; exact h
    · rwa [putZ_other _ _ x] at hj) (k := v) (by simp [putZ_same, hz]) (by simp [h]) n hv
  exact this

/-- The first edge, if it is one, that leads nearer. -/
def nextE (l : List Ed) (f : Nat → Int) (a : Nat) (e : Ed) : Bool := decide (e.1.toNat = a) && decide (f e.2.1.toNat = f a - 1)
def nxt (l : List Ed) (f : Nat → Int) (a : Nat) : Nat := ((l.find? (nextE l f a)).map fun e => e.2.1.toNat).getD 0
def wayT (l : List Ed) (f : Nat → Int) : Nat → Nat → List Nat
  | 0, _ => []
  | d + 1, a => a :: wayT l f d (nxt l f a)
theorem wayT_length (l : List Ed) (f : Nat → Int) : ∀ d a, (wayT l f d a).length = d
  | 0, _ => rfl
  | d + 1, a => by simp [wayT, wayT_length l f d]
theorem FarIs.next {l : List Ed} {g : Nat} {f : Nat → Int} (h : FarIs l g f) {a d : Nat} (ha : f a = ((d + 1 : Nat) : Int)) : ∃ e, l.find? (nextE l f a) = some e ∧ e ∈ l ∧ e.1.toNat = a ∧ f e.2.1.toNat = (d : Int) ∧ nxt l f a = e.2.1.toNat := by
  have hex : ∃ e, e ∈ l ∧ nextE l f a e = true := by
    rcases h a with ⟨h1, _⟩ | ⟨d', h1, h2, h3⟩
    · omega
    · obtain rfl : d' = d + 1 := by omega
      obtain ⟨e, he, h4, h5⟩ := h2
      refine ⟨e, he, ?_⟩
      unfold nextE
      simp only [Bool.and_eq_true, decide_eq_true_eq]
      refine ⟨h4, ?_⟩
      rcases h e.2.1.toNat with ⟨_, h7⟩ | ⟨x, h6, h7, h8⟩
      · exact absurd h5 (h7 d)
      · have := h8 d h5
        have := h3 (x + 1) ⟨e, he, h4, h7⟩
        rw [h6, ha]; omega
  cases hf : l.find? (nextE l f a) with
  | none =>
    obtain ⟨e, he, h1⟩ := hex
    rw [List.find?_eq_none] at hf
    exact absurd h1 (by simpa using hf e he)
  | some e =>
    have h1 := List.find?_some hf
    have h2 := List.mem_of_find?_eq_some hf
    unfold nextE at h1
    simp only [Bool.and_eq_true, decide_eq_true_eq] at h1
    refine ⟨e, rfl, h2, h1.1, by rw [h1.2, ha]; omega, by unfold nxt; rw [hf]; rfl⟩
theorem FarIs.zero {l : List Ed} {g : Nat} {f : Nat → Int} (h : FarIs l g f) {a : Nat} (ha : f a = 0) : a = g := by
  rcases h a with ⟨h1, _⟩ | ⟨d', h1, h2, h3⟩
  · omega
  · obtain rfl : d' = 0 := by omega
    exact h2
theorem FarIs.goal {l : List Ed} {g : Nat} {f : Nat → Int} (h : FarIs l g f) : f g = 0 := by
  rcases h g with ⟨_, h1⟩ | ⟨d', h1, h2, h3⟩
  · exact absurd rfl (h1 0)
  · have := h3 0 rfl
    rw [h1]; omega
/-- The way is one along edges to the goal. -/
theorem wayT_edges {l : List Ed} {g : Nat} {f : Nat → Int} (h : FarIs l g f) : ∀ (d a : Nat), f a = (d : Int) → ∀ i x, (wayT l f d a)[i]? = some x → ∃ y, ((wayT l f d a) ++ [g])[i + 1]? = some y ∧ ∃ e, e ∈ l ∧ e.1.toNat = x ∧ e.2.1.toNat = y
  | 0, a, ha, i, x, hi => by simp [wayT] at hi
  | d + 1, a, ha, i, x, hi => by
    obtain ⟨e, h1, h2, h3, h4, h5⟩ := h.next ha
    match i, hi with
    | 0, hi =>
      obtain rfl : a = x := by simpa [wayT] using hi
      show ∃ y, (a :: (wayT l f d (nxt l f a) ++ [g]))[1]? = some y ∧ _
      refine ⟨nxt l f a, ?_, e, h2, h3, h5.symm⟩
      rw [List.getElem?_cons_succ]
      match d, h4 with
      | 0, h4 =>
        have := h.zero h4
        rw [← h5] at this
        simp [wayT, this]
      | d + 1, _ => simp [wayT]
    | i + 1, hi =>
      show ∃ y, (a :: (wayT l f d (nxt l f a) ++ [g]))[i + 1 + 1]? = some y ∧ _
      simp only [List.getElem?_cons_succ]
      exact wayT_edges h d _ (by rw [h5]; exact h4) i x (by simpa [wayT] using hi)
theorem far_le {n : Nat} {l : List Ed} {g : Nat} {f : Nat → Int} (hl : edsB (n : Int) l = true) (hg : g < n) (h : FarIs l g f) : ∀ i, f i < n := by
  -- each distance below is there too
  have down : ∀ (d i : Nat), f i = (d : Int) → ∀ c, c ≤ d → ∃ j, f j = (c : Int) ∧ (j < n) := by
    intro d
    induction d with
    | zero =>
      intro i hi c hc
      obtain rfl : c = 0 := by omega
      exact ⟨g, h.goal, hg⟩
    | succ d ih =>
      intro i hi c hc
      obtain ⟨e, h1, h2, h3, h4, h5⟩ := h.next hi
      by_cases x : c = d + 1
      · subst x
        exact ⟨i, hi, by rw [← h3]; exact (eds_lt hl h2).1⟩
      · exact ih _ h4 c (by omega)
  intro i
  refine Classical.byContradiction fun hn => ?_
  obtain ⟨d, hd⟩ : ∃ d : Nat, f i = (d : Int) := ⟨(f i).toNat, by omega⟩
  have hdn : n ≤ d := by omega
  -- as many different names as there are distances
  have cnt : ∀ c, c ≤ n + 1 → c ≤ d + 1 → c ≤ cntS (fun j => decide (0 ≤ f j) && decide (f j < (c : Int))) n := by
    intro c
    induction c with
    | zero => intro _ _; exact Nat.zero_le _
    | succ c ih =>
      intro h1 h2
      have := ih (by omega) (by omega)
      obtain ⟨j, hj, hjn⟩ := down d i hd c (by omega)
      have := cnt_lt (s := fun j => decide (0 ≤ f j) && decide (f j < (c : Int))) (t := fun j => decide (0 ≤ f j) && decide (f j < ((c + 1 : Nat) : Int))) (fun x hx => by
        simp only [Bool.and_eq_true, decide_eq_true_eq] at hx ⊢; omega) (k := j) (by simp [hj]) (by simp [hj]; omega) n hjn
      omega
  have h1 := cnt (n + 1) (Nat.le_refl _) (by omega)
  have h2 := cnt_le (fun j => decide (0 ≤ f j) && decide (f j < ((n + 1 : Nat) : Int))) n
  omega

/-- The first edge that is negated and has a way back. -/
def badE (n : Nat) (l : List Ed) (e : Ed) : Bool := e.2.2 && decide (comp n l e.1.toNat = comp n l e.2.1.toNat)
theorem bad_iff {n : Nat} {l : List Ed} (hl : edsB (n : Int) l = true) {e : Ed} (he : e ∈ l) : badE n l e = true ↔ e.2.2 = true ∧ Way l e.2.1.toNat e.1.toNat := by
  obtain ⟨h1, h2⟩ := eds_lt hl he
  unfold badE
  rw [Bool.and_eq_true, decide_eq_true_eq, comp_eq hl h1 h2, both_iff hl h1 h2]
  constructor
  · rintro ⟨a, _, b⟩; exact ⟨a, b⟩
  · rintro ⟨a, b⟩; exact ⟨a, Way.edge he, b⟩
theorem clean_of {n : Nat} {l : List Ed} (hl : edsB (n : Int) l = true) (h : l.find? (badE n l) = none) : Clean l := fun e he hn hw => by
  rw [List.find?_eq_none] at h
  exact h e he ((bad_iff hl he).2 ⟨hn, hw⟩)
theorem not_bad {n : Nat} {l : List Ed} (hl : edsB (n : Int) l = true) (h : Clean l) : l.find? (badE n l) = none := by
  rw [List.find?_eq_none]
  intro e he hb
  obtain ⟨h1, h2⟩ := (bad_iff hl he).1 hb
  exact h e he h1 h2
/-- The cycle of an edge: where it begins, and the way back. -/
def cycT (l : List Ed) (f : Nat → Int) (e : Ed) : List Int := ((e.1.toNat :: wayT l f (f e.2.1.toNat).toNat e.2.1.toNat).map fun i => ((i : Nat) : Int))
end Go.Proofs.YtipnfiaphmddiaaGreat
/- What the laws of layer 8 ask of levels and cycles; plain. No program in sight. -/
namespace Go.Proofs.YtipnfiaphmddiaaGreat
set_option linter.unusedVariables false

theorem mayG_pos {g : Gr} (h : mayG g = true) : 0 < g.names.length := by
  unfold mayG isNum at h
  simp only [Bool.and_eq_true, decide_eq_true_eq] at h
  omega
theorem lev_edge {n : Nat} {l : List Ed} (hl : edsB (n : Int) l = true) (hc : Clean l) {e : Ed} (he : e ∈ l) : levT n l e.2.1.toNat + stp e ≤ levT n l e.1.toNat := lev_sol hl hc e he
theorem cycT_length (l : List Ed) (f : Nat → Int) (e : Ed) : (cycT l f e).length = (f e.2.1.toNat).toNat + 1 := by simp [cycT, wayT_length]
/-- Each name of a cycle needs the next one; the first one its negation. -/
theorem cyc_edges {n : Nat} {l : List Ed} {f : Nat → Int} {x y : Nat} {d : Nat} (h : FarIs l x f) (hd : f y = (d : Int)) (he : ((x : Int), (y : Int), true) ∈ l) {i : Nat} (hi : i < d + 1) :
    ∃ a b : Nat, (x :: wayT l f d y)[i]? = some a ∧ (x :: wayT l f d y)[(i + 1) % (d + 1)]? = some b ∧ ∃ e, e ∈ l ∧ e.1.toNat = a ∧ e.2.1.toNat = b ∧ (e.2.2 = true ∨ 0 < i) := by
  match i, hi with
  | 0, _ =>
    refine ⟨x, y, rfl, ?_, _, he, by simp, by simp, Or.inl rfl⟩
    match d, hd with
    | 0, hd =>
      have := h.zero hd
      subst this
      rfl
    | d + 1, _ =>
      rw [Nat.mod_eq_of_lt (by omega)]
      rfl
  | i + 1, hi =>
    have hlt : i < (wayT l f d y).length := by rw [wayT_length]; omega
    obtain ⟨a, ha⟩ : ∃ a, (wayT l f d y)[i]? = some a := ⟨_, List.getElem?_eq_getElem hlt⟩
    obtain ⟨b, hb, e, he, h1, h2⟩ := wayT_edges h d y hd i a ha
    refine ⟨a, b, by simpa using ha, ?_, e, he, h1, h2, Or.inr (by omega)⟩
    by_cases hid : i + 1 < d
    · rw [List.getElem?_append_left (by rw [wayT_length]; exact hid)] at hb
      rw [Nat.mod_eq_of_lt (by omega)]
      simpa using hb
    · have hid : i + 1 = d := by omega
      rw [List.getElem?_append_right (by rw [wayT_length]; omega), wayT_length, hid, Nat.sub_self] at hb
      obtain rfl : x = b := by simpa using hb
      rw [hid, Nat.mod_self]
      rfl
end Go.Proofs.YtipnfiaphmddiaaGreat
/- A name over another one; a grammar without negations: their levels, plain. No program in sight. -/
namespace Go.Proofs.YtipnfiaphmddiaaGreat
set_option linter.unusedVariables false

section
variable {n : Nat} {l : List Ed} {k : Nat} {neg : Bool}
theorem over_to (hl : edsB (n : Int) l = true) {i : Nat} (hi : i < n) : ¬ Way l i n := fun h => by
  have := Way.ind (S := fun x => x < n) (fun e he _ => (eds_lt hl he).2) h hi
  omega
theorem over_way (hl : edsB (n : Int) l = true) {i j : Nat} (hi : i < n) : Way (l ++ [((n : Int), (k : Int), neg)]) i j ↔ Way l i j := by
  rw [way_snoc]
  simp only [Int.toNat_natCast]
  constructor
  · rintro (h | h)
    · exact h
    · exact absurd h.1 (over_to hl hi)
  · exact Or.inl
theorem over_eds (hl : edsB (n : Int) l = true) (hk : k < n) : edsB ((n + 1 : Nat) : Int) (l ++ [((n : Int), (k : Int), neg)]) = true := by
  unfold edsB at *
  rw [List.all_append, Bool.and_eq_true]
  refine ⟨List.all_eq_true.2 fun e he => ?_, ?_⟩
  · have := edB_lt (List.all_eq_true.1 hl e he)
    unfold edB endB
    simp only [Bool.and_eq_true, decide_eq_true_eq]; omega
  · simp [edB, endB]; omega
theorem over_clean (hl : edsB (n : Int) l = true) (hk : k < n) (hc : Clean l) : Clean (l ++ [((n : Int), (k : Int), neg)]) := fun e he hn hw => by
  rcases List.mem_append.1 he with he | he
  · rw [over_way hl (eds_lt hl he).2] at hw
    exact hc e he hn hw
  · obtain rfl : e = ((n : Int), (k : Int), neg) := by simpa using he
    simp only [Int.toNat_natCast] at hw
    rw [over_way hl hk] at hw
    exact over_to hl hk hw
def overF (n k : Nat) (neg : Bool) (f : Nat → Nat) (i : Nat) : Nat := if i = n then f k + (if neg = true then 1 else 0) else f i
theorem over_lev (hl : edsB (n : Int) l = true) (hk : k < n) (hc : Clean l) {i : Nat} (hi : i < n + 1) : levT (n + 1) (l ++ [((n : Int), (k : Int), neg)]) i = overF n k neg (levT n l) i := by
  have hs := lev_sol hl hc
  refine (lev_eq (over_eds hl hk) (over_clean hl hk hc) (fun e he => ?_) (fun h hh i hi => ?_) hi).symm
  · rcases List.mem_append.1 he with he | he
    · obtain ⟨h1, h2⟩ := eds_lt hl he
      unfold overF
      rw [if_neg (by omega), if_neg (by omega)]
      exact hs e he
    · obtain rfl : e = ((n : Int), (k : Int), neg) := by simpa using he
      unfold overF stp
      simp only [Int.toNat_natCast]
      rw [if_neg (by omega), if_pos trivial]
      exact Nat.le_refl _
  · have hm : ∀ j, levT n l j ≤ h j := fun j => lev_least (fun e he => hh e (List.mem_append_left _ he)) j
    unfold overF
    split
    · rename_i e; subst e
      have h1 := hh ((i : Int), (k : Int), neg) (by simp)
      simp only [Int.toNat_natCast] at h1
      have h2 := hm k
      unfold stp at h1
      simp only at h1
      omega
    · exact hm i
end
/-- The grammar with a name more over another one. -/
def overG (g : Gr) (k : Nat) (neg : Bool) (s : ByteArray) : Gr := ⟨g.start, g.names ++ [s], g.rules ++ [⟨(g.names.length : Int), [⟨neg, [⟨(k : Int), 0, 0⟩]⟩]⟩]⟩
theorem over_edges {g : Gr} {k : Nat} {neg : Bool} {s : ByteArray} (hM : mayG g = true) (hl : edsB (g.names.length : Int) (edgesT g) = true) : edgesT (overG g k neg s) = edgesT g ++ [((g.names.length : Int), (k : Int), neg)] := by
  refine edgesT_eq ?_ fun x => ?_
  · rw [List.pairwise_append]
    refine ⟨edgesT_rise g, by simp, fun a ha b hb => ?_⟩
    obtain rfl : b = ((g.names.length : Int), (k : Int), neg) := by simpa using hb
    have := edB_lt (List.all_eq_true.1 hl a ha)
    rw [ltE_iff]
    left; show a.1 < (g.names.length : Int); omega
  · show _ ↔ x ∈ allE (g.rules ++ [⟨(g.names.length : Int), [⟨neg, [⟨(k : Int), 0, 0⟩]⟩]⟩])
    rw [allE_append, List.mem_append, List.mem_append, mem_edgesT]
    have : allE [⟨(g.names.length : Int), [⟨neg, [⟨(k : Int), 0, 0⟩]⟩]⟩] = [((g.names.length : Int), (k : Int), neg)] := by
      have hk : ¬ (k : Int) = -1 := by omega
      simp [allE, cnsE, seqE, hk]
    rw [this]
/-- Without negations. -/
def posC (c : Cn) : Cn := ⟨false, c.seq⟩
def posR (r : Ru) : Ru := ⟨r.head, r.conj.map posC⟩
def posG (g : Gr) : Gr := ⟨g.start, g.names, g.rules.map posR⟩
theorem pos_neg (g : Gr) : ∀ e, e ∈ edgesT (posG g) → e.2.2 = false := fun e he => by
  rw [mem_edgesT, mem_allE] at he
  obtain ⟨r, hr, he⟩ := he
  rw [mem_cnsE] at he
  obtain ⟨c, hc, he⟩ := he
  rw [mem_seqE] at he
  obtain ⟨r', _, rfl⟩ := List.mem_map.1 hr
  obtain ⟨c', _, rfl⟩ := List.mem_map.1 hc
  exact he.2.1
theorem pos_clean (g : Gr) : Clean (edgesT (posG g)) := fun e he hn => by rw [pos_neg g e he] at hn; cases hn
theorem pos_lev (g : Gr) (n i : Nat) : levT n (edgesT (posG g)) i = 0 := by
  have : Sol (edgesT (posG g)) fun _ => 0 := fun e he => by
    unfold stp
    rw [pos_neg g e he]; simp
  have := lev_least (n := n) this i
  omega
theorem pos_heads (k : Nat) : ∀ (l : List Ru) (z : Int), mayHeads k z (l.map posR) = mayHeads k z l
  | [], _ => rfl
  | r :: l, z => by
    show (isNum r.head k && _) = _
    rw [pos_heads k l]; rfl
theorem pos_cs (k : Nat) : ∀ (l : List Cn) (n : Nat), mayCs k n (l.map posC) = mayCs k n l
  | [], _ => rfl
  | c :: l, n => by
    show mayCs k n (posC c :: l.map posC) = _
    have h1 : (posC c).seq = c.seq := rfl
    unfold mayCs
    rw [h1]
    split
    · exact pos_cs k l _
    · rfl
theorem pos_rs (k : Nat) : ∀ (l : List Ru) (n : Nat), mayRs k n (l.map posR) = mayRs k n l
  | [], _ => rfl
  | r :: l, n => by
    show mayRs k n (posR r :: l.map posR) = _
    unfold mayRs
    have hl : (posR r).conj.length = r.conj.length := by simp [posR]
    have hc : mayCs k n (posR r).conj = mayCs k n r.conj := pos_cs k r.conj n
    rw [hl, hc]
    split
    · split
      · rfl
      · exact pos_rs k l _
    · rfl
theorem pos_may (g : Gr) : mayG (posG g) = mayG g := by
  unfold mayG mayRules posG
  simp only [pos_heads, pos_rs, List.length_map]
end Go.Proofs.YtipnfiaphmddiaaGreat
