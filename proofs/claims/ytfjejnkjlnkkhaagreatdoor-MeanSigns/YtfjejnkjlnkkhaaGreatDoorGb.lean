import Derived.Test.YtfjejnkjlnkkhaaGreatDoorGa
/- Levels, as plain functions: rounds that lift, the least levels, and that as many rounds as there are names do. No program in sight. -/
namespace Go.Proofs.YtfjejnkjlnkkhaaGreatDoor
set_option linter.unusedVariables false

def stp (e : Ed) : Nat := if e.2.2 = true then 1 else 0
def putN (f : Nat → Nat) (k v : Nat) : Nat → Nat := fun j => if j = k then v else f j
/-- One edge: its name is lifted, if it must be. -/
def raiE (f : Nat → Nat) (e : Ed) : Nat → Nat := if f e.1.toNat < f e.2.1.toNat + stp e then putN f e.1.toNat (f e.2.1.toNat + stp e) else f
def rai (f : Nat → Nat) : List Ed → Nat → Nat
  | [] => f
  | e :: l => rai (raiE f e) l
/-- Did something change? -/
def chg (f : Nat → Nat) : List Ed → Bool
  | [] => false
  | e :: l => decide (f e.1.toNat < f e.2.1.toNat + stp e) || chg (raiE f e) l
def itL (l : List Ed) : Nat → Nat → Nat
  | 0 => fun _ => 0
  | r + 1 => rai (itL l r) l
/-- Levels as the edges ask. -/
def Sol (l : List Ed) (f : Nat → Nat) : Prop := ∀ e, e ∈ l → f e.2.1.toNat + stp e ≤ f e.1.toNat
def levT (n : Nat) (l : List Ed) : Nat → Nat := itL l n
def levL (n : Nat) (f : Nat → Nat) : List Int := (List.range n).map fun i => ((f i : Nat) : Int)

theorem rai_snoc : ∀ (l : List Ed) (f : Nat → Nat) (e : Ed), rai f (l ++ [e]) = raiE (rai f l) e
  | [], f, e => rfl
  | d :: l, f, e => rai_snoc l _ e
theorem chg_snoc : ∀ (l : List Ed) (f : Nat → Nat) (e : Ed), chg f (l ++ [e]) = (chg f l || decide (rai f l e.1.toNat < rai f l e.2.1.toNat + stp e))
  | [], f, e => by
    show (decide _ || false) = (false || decide _)
    rw [Bool.or_false, Bool.false_or]; rfl
  | d :: l, f, e => by
    show (decide _ || chg (raiE f d) (l ++ [e])) = _
    rw [chg_snoc l, ← Bool.or_assoc]; rfl
theorem raiE_val (f : Nat → Nat) (e : Ed) (i : Nat) : raiE f e i = if f e.1.toNat < f e.2.1.toNat + stp e ∧ i = e.1.toNat then f e.2.1.toNat + stp e else f i := by
  unfold raiE
  by_cases h : f e.1.toNat < f e.2.1.toNat + stp e
  · rw [if_pos h]
    show (if i = e.1.toNat then _ else _) = _
    by_cases h2 : i = e.1.toNat
    · rw [if_pos h2, if_pos ⟨h, h2⟩]
    · rw [if_neg h2, if_neg fun x => h2 x.2]
  · rw [if_neg h, if_neg fun x => h x.1]
theorem raiE_le (f : Nat → Nat) (e : Ed) (i : Nat) : f i ≤ raiE f e i := by
  rw [raiE_val]
  split
  · rename_i h
    rw [h.2]; omega
  · exact Nat.le_refl _
theorem rai_le : ∀ (l : List Ed) (f : Nat → Nat) (i : Nat), f i ≤ rai f l i
  | [], f, i => Nat.le_refl _
  | e :: l, f, i => Nat.le_trans (raiE_le f e i) (rai_le l _ i)
theorem raiE_at (f : Nat → Nat) (e : Ed) : f e.2.1.toNat + stp e ≤ raiE f e e.1.toNat := by
  rw [raiE_val]
  split
  · exact Nat.le_refl _
  · rename_i h
    have : ¬ f e.1.toNat < f e.2.1.toNat + stp e := fun x => h ⟨x, rfl⟩
    omega
/-- Behind a round each edge's name is as high as its end was ahead of it asks. -/
theorem rai_at : ∀ (l : List Ed) (f : Nat → Nat) (e : Ed), e ∈ l → f e.2.1.toNat + stp e ≤ rai f l e.1.toNat
  | [], f, e, h => by simp at h
  | d :: l, f, e, h => by
    rcases List.mem_cons.1 h with rfl | h
    · exact Nat.le_trans (raiE_at f e) (rai_le l _ _)
    · have := raiE_le f d e.2.1.toNat
      have := rai_at l (raiE f d) e h
      show _ ≤ rai (raiE f d) l _
      omega
theorem raiE_ub {f h : Nat → Nat} {e : Ed} (hf : ∀ i, f i ≤ h i) (he : h e.2.1.toNat + stp e ≤ h e.1.toNat) (i : Nat) : raiE f e i ≤ h i := by
  rw [raiE_val]
  split
  · rename_i h2
    have := hf e.2.1.toNat
    rw [h2.2]; omega
  · exact hf i
theorem rai_ub {h : Nat → Nat} : ∀ (l : List Ed) (f : Nat → Nat), (∀ i, f i ≤ h i) → Sol l h → ∀ i, rai f l i ≤ h i
  | [], f, hf, _, i => hf i
  | e :: l, f, hf, hs, i => rai_ub l _ (raiE_ub hf (hs e List.mem_cons_self)) (fun d hd => hs d (List.mem_cons_of_mem _ hd)) i
theorem it_ub {l : List Ed} {h : Nat → Nat} (hs : Sol l h) : ∀ r i, itL l r i ≤ h i
  | 0, i => Nat.zero_le _
  | r + 1, i => rai_ub l _ (it_ub hs r) hs i
theorem chg_no : ∀ (l : List Ed) (f : Nat → Nat), chg f l = false ↔ Sol l f
  | [], f => by simp [chg, Sol]
  | e :: l, f => by
    show (decide _ || chg (raiE f e) l) = false ↔ _
    rw [Bool.or_eq_false_iff, chg_no l]
    constructor
    · rintro ⟨h1, h2⟩ d hd
      have h3 : ¬ f e.1.toNat < f e.2.1.toNat + stp e := by simpa using h1
      have h4 : raiE f e = f := by unfold raiE; rw [if_neg h3]
      rw [h4] at h2
      rcases List.mem_cons.1 hd with rfl | hd
      · omega
      · exact h2 d hd
    · intro h
      have h3 : ¬ f e.1.toNat < f e.2.1.toNat + stp e := by have := h e List.mem_cons_self; omega
      have h4 : raiE f e = f := by unfold raiE; rw [if_neg h3]
      rw [h4]
      exact ⟨by simpa using h3, fun d hd => h d (List.mem_cons_of_mem _ hd)⟩
theorem rai_fix : ∀ (l : List Ed) (f : Nat → Nat), Sol l f → rai f l = f
  | [], f, _ => rfl
  | e :: l, f, h => by
    have h3 : ¬ f e.1.toNat < f e.2.1.toNat + stp e := by have := h e List.mem_cons_self; omega
    have h4 : raiE f e = f := by unfold raiE; rw [if_neg h3]
    show rai (raiE f e) l = f
    rw [h4]
    exact rai_fix l f fun d hd => h d (List.mem_cons_of_mem _ hd)
theorem it_fix {l : List Ed} {r : Nat} (h : Sol l (itL l r)) : ∀ k, itL l (r + k) = itL l r
  | 0 => rfl
  | k + 1 => by
    show rai (itL l (r + k)) l = _
    rw [it_fix h k]; exact rai_fix l _ h
theorem it_out {n : Nat} {l : List Ed} (hl : edsB (n : Int) l = true) : ∀ r i, n ≤ i → itL l r i = 0 := by
  have hE : ∀ (m : List Ed) (f : Nat → Nat), (∀ e, e ∈ m → e.1.toNat < n) → (∀ i, n ≤ i → f i = 0) → ∀ i, n ≤ i → rai f m i = 0 := by
    intro m
    induction m with
    | nil => intro f _ h; exact h
    | cons e m ih =>
      intro f hm h
      refine ih _ (fun d hd => hm d (List.mem_cons_of_mem _ hd)) fun i hi => ?_
      have h9 := hm e List.mem_cons_self
      rw [raiE_val, if_neg fun x => by omega]
      exact h i hi
  intro r
  induction r with
  | zero => intro i _; rfl
  | succ r ih =>
    refine hE l _ (fun e he => ?_) ih
    unfold edsB at hl
    have := edB_lt (List.all_eq_true.1 hl e he)
    omega

/-- How many a name leads to that do not lead back: levels that never fall along edges, and rise where there is no way back. -/
def over (n : Nat) (l : List Ed) (i : Nat) : Nat := cntS (fun c => wayB n l i c && !wayB n l c i) n
theorem cnt_lt_all {s : Nat → Bool} {k : Nat} (h : s k = false) : ∀ n, k < n → cntS s n < n := fun n hk => by
  have h1 := cnt_lt (s := s) (t := fun _ => true) (fun _ _ => rfl) h rfl n hk
  have h2 := cnt_le (fun _ => true) n
  omega
/-- No edge that is negated has a way back. -/
def Clean (l : List Ed) : Prop := ∀ e, e ∈ l → e.2.2 = true → ¬ Way l e.2.1.toNat e.1.toNat
theorem eds_lt {n : Nat} {l : List Ed} (hl : edsB (n : Int) l = true) {e : Ed} (he : e ∈ l) : e.1.toNat < n ∧ e.2.1.toNat < n := by
  unfold edsB at hl
  have := edB_lt (List.all_eq_true.1 hl e he)
  omega
theorem over_sol {n : Nat} {l : List Ed} (hl : edsB (n : Int) l = true) (hc : Clean l) : Sol l (over n l) := fun e he => by
  obtain ⟨h1, h2⟩ := eds_lt hl he
  have hw : ∀ i j, i < n → (wayB n l i j = true ↔ Way l i j) := fun i j hi => way_iff hl hi
  have key : ∀ j, (wayB n l e.2.1.toNat j && !wayB n l j e.2.1.toNat) = true → j < n → (wayB n l e.1.toNat j && !wayB n l j e.1.toNat) = true := fun j hj hjn => by
    simp only [Bool.and_eq_true, Bool.not_eq_true', ← Bool.not_eq_true] at hj ⊢
    rw [hw _ _ h2, hw _ _ hjn] at hj
    rw [hw _ _ h1, hw _ _ hjn]
    exact ⟨(Way.edge he).trans hj.1, fun h => hj.2 (h.trans (Way.edge he))⟩
  have mono : ∀ m, m ≤ n → ∀ (s t : Nat → Bool), (∀ j, j < n → s j = true → t j = true) → cntS s m ≤ cntS t m ∧ (∀ k, k < m → s k = false → t k = true → cntS s m < cntS t m) := by
    intro m
    induction m with
    | zero => intro _ s t _; exact ⟨Nat.le_refl _, fun k hk => by omega⟩
    | succ m ih =>
      intro hm s t h
      obtain ⟨i1, i2⟩ := ih (by omega) s t h
      have hh := h m (by omega)
      refine ⟨?_, fun k hk a b => ?_⟩
      · unfold cntS
        cases hs : s m <;> cases ht : t m <;> simp_all <;> omega
      · by_cases e : k = m
        · subst e
          unfold cntS
          simp only [a, b]; simp; omega
        · have := i2 k (by omega) a b
          unfold cntS
          cases hs : s m <;> cases ht : t m <;> simp_all <;> omega
  obtain ⟨m1, m2⟩ := mono n (Nat.le_refl _) _ _ (fun j hj h => key j h hj)
  unfold stp
  split
  · rename_i hneg
    refine m2 e.2.1.toNat h2 ?_ ?_
    · simp [(hw _ e.2.1.toNat h2).2 (Way.refl _ _)]
    · have a1 := (hw _ e.2.1.toNat h1).2 (Way.edge he)
      have a2 : wayB n l e.2.1.toNat e.1.toNat = false := by
        rw [← Bool.not_eq_true, hw _ _ h2]; exact hc e he hneg
      simp [a1, a2]
  · exact m1
theorem over_lt {n : Nat} {l : List Ed} (hl : edsB (n : Int) l = true) {i : Nat} (hi : i < n) : over n l i < n :=
  cnt_lt_all (k := i) (by simp [(way_iff hl hi).2 (Way.refl l i)]) n hi

/-- There are least levels. -/
theorem least_ex {n : Nat} {l : List Ed} (hl : edsB (n : Int) l = true) (hc : Clean l) : ∃ r, Sol l (itL l r) := by
  refine Classical.byContradiction fun hno => ?_
  have hno : ∀ r, ¬ Sol l (itL l r) := fun r h => hno ⟨r, h⟩
  have sum : ∀ r, r ≤ ((List.range n).map (itL l r)).sum := by
    intro r
    induction r with
    | zero => exact Nat.zero_le _
    | succ r ih =>
      have hle : ∀ i, itL l r i ≤ itL l (r + 1) i := fun i => rai_le l _ i
      have hne : ∃ i, i < n ∧ itL l r i < itL l (r + 1) i := by
        refine Classical.byContradiction fun h => hno r ?_
        have heq : ∀ i, itL l (r + 1) i ≤ itL l r i := fun i => by
          by_cases hi : i < n
          · refine Classical.byContradiction fun hlt => h ⟨i, hi, by omega⟩
          · rw [it_out hl _ i (by omega), it_out hl _ i (by omega)]; exact Nat.le_refl _
        intro e he
        exact Nat.le_trans (rai_at l _ e he) (heq _)
      obtain ⟨i, hi, hlt⟩ := hne
      have : ∀ m, (∀ j, j ∈ List.range m → itL l r j ≤ itL l (r + 1) j) → ((List.range m).map (itL l r)).sum ≤ ((List.range m).map (itL l (r + 1))).sum ∧ (i < m → ((List.range m).map (itL l r)).sum < ((List.range m).map (itL l (r + 1))).sum) := by
        intro m
        induction m with
        | zero => intro _; exact ⟨Nat.le_refl _, fun h => by omega⟩
        | succ m im =>
          intro _
          obtain ⟨a, b⟩ := im fun j _ => hle j
          simp only [List.range_succ, List.map_append, List.map_cons, List.map_nil, List.sum_append, List.sum_cons, List.sum_nil, Nat.add_zero]
          have := hle m
          refine ⟨by omega, fun h => ?_⟩
          by_cases e : i = m
          · subst e; omega
          · have := b (by omega); omega
      have := (this n fun j _ => hle j).2 hi
      omega
  have ub : ∀ r m, m ≤ n → ((List.range m).map (itL l r)).sum ≤ m * n := by
    intro r m
    induction m with
    | zero => intro _; simp
    | succ m im =>
      intro hm
      simp only [List.range_succ, List.map_append, List.map_cons, List.map_nil, List.sum_append, List.sum_cons, List.sum_nil, Nat.add_zero]
      have h1 := im (by omega)
      have h2 := it_ub (over_sol hl hc) r m
      have h3 := over_lt (i := m) hl (by omega)
      rw [Nat.succ_mul]; omega
  have h1 := sum (n * n + 1)
  have h2 := ub (n * n + 1) n (Nat.le_refl _)
  omega
theorem least_of {l : List Ed} {r : Nat} (h : Sol l (itL l r)) {k : Nat} (hk : Sol l (itL l k)) : itL l r = itL l k := by
  funext i
  have a := it_ub hk r i
  have b := it_ub h k i
  omega
/-- As many rounds as there are names do. -/
theorem lev_sol {n : Nat} {l : List Ed} (hl : edsB (n : Int) l = true) (hc : Clean l) : Sol l (levT n l) := by
  obtain ⟨r0, hr0⟩ := least_ex hl hc
  obtain ⟨L, hL⟩ : ∃ L, L = itL l r0 := ⟨_, rfl⟩
  rw [← hL] at hr0
  have hmin : ∀ h, Sol l h → ∀ i, L i ≤ h i := fun h hh i => by rw [hL]; exact it_ub hh r0 i
  have hub : ∀ r i, itL l r i ≤ L i := fun r i => it_ub hr0 r i
  have hmono : ∀ r i, itL l r i ≤ itL l (r + 1) i := fun r i => rai_le l _ i
  have hLo : ∀ i, n ≤ i → L i = 0 := fun i hi => by rw [hL]; exact it_out hl r0 i hi
  have cnt : ∀ r, (∀ i, itL l r i = L i) ∨ r ≤ cntS (fun i => decide (itL l r i = L i)) n := by
    intro r
    induction r with
    | zero => exact Or.inr (Nat.zero_le _)
    | succ r ih =>
      rcases ih with ih | ih
      · left
        intro i
        have := hub (r + 1) i
        have := hmono r i
        have := ih i
        omega
      · by_cases hall : ∀ i, itL l (r + 1) i = L i
        · exact Or.inl hall
        right
        have hst : ∀ i, decide (itL l r i = L i) = true → decide (itL l (r + 1) i = L i) = true := fun i h => by
          simp only [decide_eq_true_eq] at h ⊢
          have := hub (r + 1) i
          have := hmono r i
          omega
        have hnew : ∃ i, i < n ∧ itL l r i ≠ L i ∧ itL l (r + 1) i = L i := by
          refine Classical.byContradiction fun hno => ?_
          have hno : ∀ i, itL l r i ≠ L i → itL l (r + 1) i ≠ L i := fun i h1 h2 => by
            by_cases hi : i < n
            · exact hno ⟨i, hi, h1, h2⟩
            · exact h1 (by rw [it_out hl _ i (by omega), hLo i (by omega)])
          refine hall fun i => ?_
          -- levels one lower where they are not yet there
          have hs : Sol l fun i => if itL l r i = L i then L i else L i - 1 := fun e he => by
            have h0 := hr0 e he
            by_cases a : itL l r e.1.toNat = L e.1.toNat
            · by_cases b : itL l r e.2.1.toNat = L e.2.1.toNat
              · simp only [if_pos a, if_pos b]; exact h0
              · simp only [if_pos a, if_neg b]; omega
            · have ha1 := hub r e.1.toNat
              by_cases b : itL l r e.2.1.toNat = L e.2.1.toNat
              · simp only [if_neg a, if_pos b]
                have h1 := rai_at l (itL l r) e he
                have h2 := hno _ a
                have h3 := hub (r + 1) e.1.toNat
                have h4 : itL l (r + 1) e.1.toNat = rai (itL l r) l e.1.toNat := rfl
                omega
              · simp only [if_neg a, if_neg b]
                have hb1 := hub r e.2.1.toNat
                omega
          have h1 := hmin _ hs i
          by_cases a : itL l r i = L i
          · have := hub (r + 1) i
            have := hmono r i
            omega
          · simp only [if_neg a] at h1
            have := hub r i
            omega
        obtain ⟨i, hi, h1, h2⟩ := hnew
        have := cnt_lt hst (k := i) (by simp [h1]) (by simp [h2]) n hi
        omega
  have hn : ∀ i, itL l n i = L i := by
    rcases cnt n with h | h
    · exact h
    · intro i
      by_cases hi : i < n
      · refine Classical.byContradiction fun hne => ?_
        have := cnt_lt_all (s := fun i => decide (itL l n i = L i)) (k := i) (by simp [hne]) n hi
        omega
      · rw [it_out hl _ i (by omega), hLo i (by omega)]
  have : levT n l = L := by funext i; exact hn i
  rw [this]; exact hr0
theorem lev_least {n : Nat} {l : List Ed} {h : Nat → Nat} (hs : Sol l h) (i : Nat) : levT n l i ≤ h i := it_ub hs n i
theorem lev_lt {n : Nat} {l : List Ed} (hl : edsB (n : Int) l = true) (hc : Clean l) {i : Nat} (hi : i < n) : levT n l i < n := by
  have := lev_least (n := n) (over_sol hl hc) i
  have := over_lt hl hi
  omega
/-- Where a round changes nothing the levels are there. -/
theorem it_done {n : Nat} {l : List Ed} (hl : edsB (n : Int) l = true) (hc : Clean l) {r : Nat} (h : chg (itL l r) l = false) : itL l r = levT n l := least_of ((chg_no _ _).1 h) (lev_sol hl hc)
theorem it_goes {n : Nat} {l : List Ed} (hl : edsB (n : Int) l = true) (hc : Clean l) {r : Nat} (h : chg (itL l r) l = true) : r < n := by
  refine Classical.byContradiction fun hr => ?_
  obtain ⟨k, rfl⟩ : ∃ k, r = n + k := ⟨r - n, by omega⟩
  have hs : Sol l (itL l n) := lev_sol hl hc
  rw [it_fix hs k, (chg_no _ _).2 hs] at h
  cases h
theorem it_lt {n : Nat} {l : List Ed} (hl : edsB (n : Int) l = true) (hc : Clean l) (r : Nat) {i : Nat} (hi : i < n) : itL l r i < n := by
  have := it_ub (over_sol hl hc) r i
  have := over_lt hl hi
  omega
end Go.Proofs.YtfjejnkjlnkkhaaGreatDoor
/- A cycle, as plain functions: how far each name is from a goal, a walk by breadth, the way back. No program in sight. -/
namespace Go.Proofs.YtfjejnkjlnkkhaaGreatDoor
set_option linter.unusedVariables false

/-- How many edges lead from each name to g, at least; -1: none do. -/
def FarIs (l : List Ed) (g : Nat) (f : Nat → Int) : Prop :=
  ∀ i, (f i = -1 ∧ ∀ k, ¬ St l k i g) ∨ ∃ d : Nat, f i = (d : Int) ∧ St l d i g ∧ ∀ k, St l k i g → d ≤ k
def putZ (f : Nat → Int) (k : Nat) (v : Int) : Nat → Int := fun j => if j = k then v else f j
theorem putZ_same (f : Nat → Int) (k : Nat) (v : Int) : putZ f k v k = v := by simp [putZ]
theorem putZ_other (f : Nat → Int) {k j : Nat} (v : Int) (h : j ≠ k) : putZ f k v j = f j := by simp [putZ, h]
def farL (n : Nat) (f : Nat → Int) : List Int := (List.range n).map f
theorem farL_length (n : Nat) (f : Nat → Int) : (farL n f).length = n := by simp [farL]
theorem farL_at {n : Nat} (f : Nat → Int) {i : Nat} (hi : i < n) : (farL n f)[i]? = some (f i) := by simp [farL, hi]
theorem farL_put {n : Nat} (f : Nat → Int) {i : Nat} (hi : i < n) (v : Int) : (farL n f).set i v = farL n (putZ f i v) := by
  apply List.ext_getElem?
  intro j
  by_cases hj : j < n
  · rw [farL_at _ hj, List.getElem?_set]
    by_cases e : i = j
    · subst e; rw [if_pos rfl, if_pos (by rw [farL_length]; exact hi), putZ_same]
    · rw [if_neg e, farL_at _ hj, putZ_other _ _ (Ne.symm e)]
  · rw [List.getElem?_eq_none (by rw [List.length_set, farL_length]; omega), List.getElem?_eq_none (by rw [farL_length]; omega)]

/-- All that lead to i are known, no more than one further. -/
def DoneB (l : List Ed) (f : Nat → Int) (i : Nat) : Prop := ∀ e, e ∈ l → e.2.1.toNat = i → 0 ≤ f e.1.toNat ∧ f e.1.toNat ≤ f i + 1
def Known (l : List Ed) (g : Nat) (f : Nat → Int) : Prop := ∀ i, f i = -1 ∨ ∃ d : Nat, f i = (d : Int) ∧ St l d i g
def Rises (f : Nat → Int) (q : List Nat) : Prop := q.Pairwise fun a b => f a ≤ f b
/-- A walk by breadth: q waits. -/
structure Bfs (n : Nat) (l : List Ed) (g : Nat) (f : Nat → Int) (q : List Nat) : Prop where
  known : Known l g f
  goal : f g = 0
  all : ∀ i, 0 ≤ f i → i ∈ q ∨ DoneB l f i
  wait : ∀ i, i ∈ q → 0 ≤ f i ∧ i < n
  up : Rises f q
  near : ∀ a, a ∈ q → ∀ i, f i ≤ f a + 1
/-- In the midst of a: the first k edges are looked at. -/
structure Mid (n : Nat) (l : List Ed) (g : Nat) (a : Nat) (k : Nat) (f : Nat → Int) (q : List Nat) : Prop where
  known : Known l g f
  goal : f g = 0
  me : 0 ≤ f a ∧ a < n
  all : ∀ i, 0 ≤ f i → i = a ∨ i ∈ q ∨ DoneB l f i
  wait : ∀ i, i ∈ q → f a ≤ f i ∧ i < n
  up : Rises f q
  near : ∀ i, f i ≤ f a + 1
  seen : ∀ e, e ∈ l.take k → e.2.1.toNat = a → 0 ≤ f e.1.toNat
theorem Bfs.begin {n : Nat} (l : List Ed) {g : Nat} (hg : g < n) : Bfs n l g (putZ (fun _ => -1) g 0) [g] where
  known i := by
    by_cases e : i = g
    · subst e; exact Or.inr ⟨0, by rw [putZ_same]; rfl, rfl⟩
    · exact Or.inl (putZ_other _ _ e)
  goal := putZ_same _ _ _
  all i hi := by
    by_cases e : i = g
    · subst e; exact Or.inl (by simp)
    · rw [putZ_other _ _ e] at hi; omega
  wait i hi := by
    obtain rfl : i = g := by simpa using hi
    exact ⟨by rw [putZ_same]; exact Int.le_refl _, hg⟩
  up := by simp [Rises]
  near a ha i := by
    obtain rfl : a = g := by simpa using ha
    rw [putZ_same]
    by_cases e : i = a
    · subst e; rw [putZ_same]; omega
    · rw [putZ_other _ _ e]; omega
theorem Bfs.pop {n : Nat} {l : List Ed} {g : Nat} {f : Nat → Int} {a : Nat} {q : List Nat} (h : Bfs n l g f (a :: q)) : Mid n l g a 0 f q where
  known := h.known
  goal := h.goal
  me := h.wait a List.mem_cons_self
  all i hi := by
    rcases h.all i hi with h1 | h1
    · rcases List.mem_cons.1 h1 with h1 | h1
      · exact Or.inl h1
      · exact Or.inr (Or.inl h1)
    · exact Or.inr (Or.inr h1)
  wait i hi := ⟨(List.pairwise_cons.1 h.up).1 i hi, (h.wait i (List.mem_cons_of_mem _ hi)).2⟩
  up := (List.pairwise_cons.1 h.up).2
  near := h.near a List.mem_cons_self
  seen e he := by simp at he
section
variable {n : Nat} {l : List Ed} {g a k : Nat} {f : Nat → Int} {q : List Nat} {e : Ed}
theorem Mid.pass (h : Mid n l g a k f q) (he : l[k]? = some e) (hn : e.2.1.toNat ≠ a ∨ f e.1.toNat ≠ -1) : Mid n l g a (k + 1) f q where
  known := h.known
  goal := h.goal
  me := h.me
  all := h.all
  wait := h.wait
  up := h.up
  near := h.near
  seen d hd hda := by
    rw [List.take_add_one, he] at hd
    rcases List.mem_append.1 hd with hd | hd
    · exact h.seen d hd hda
    · obtain rfl : d = e := by simpa using hd
      rcases hn with hn | hn
      · exact absurd hda hn
      · rcases h.known d.1.toNat with h1 | ⟨x, h1, _⟩
        · exact absurd h1 hn
        · rw [h1]; omega
theorem doneB_put {i v : Nat} {z : Int} (h : DoneB l f i) (hv : f v = -1) (hi : 0 ≤ f i) : DoneB l (putZ f v z) i := fun d hd hdi => by
  obtain ⟨h1, h2⟩ := h d hd hdi
  rw [putZ_other _ _ (fun x => by rw [x, hv] at h1; omega), putZ_other _ _ (fun x => by rw [x, hv] at hi; omega)]
  exact ⟨h1, h2⟩
theorem Mid.push (h : Mid n l g a k f q) (hl : edsB (n : Int) l = true) (he : l[k]? = some e) (h1 : e.2.1.toNat = a) (h2 : f e.1.toNat = -1) :
    Mid n l g a (k + 1) (putZ f e.1.toNat (f a + 1)) (q ++ [e.1.toNat]) := by
  have hem : e ∈ l := List.mem_of_getElem? he
  have ha := h.me.1
  have hne : ∀ i, 0 ≤ f i → i ≠ e.1.toNat := fun i hi x => by rw [x, h2] at hi; omega
  have hao : putZ f e.1.toNat (f a + 1) a = f a := putZ_other _ _ (hne a ha)
  have hge : ∀ i, 0 ≤ f i → putZ f e.1.toNat (f a + 1) i = f i := fun i hi => putZ_other _ _ (hne i hi)
  refine ⟨fun i => ?_, ?_, ⟨by rw [hao]; exact ha, h.me.2⟩, fun i hi => ?_, fun i hi => ?_, ?_, fun i => ?_, fun d hd hda => ?_⟩
  · by_cases x : i = e.1.toNat
    · subst x
      right
      rcases h.known a with h3 | ⟨d, h3, h4⟩
      · omega
      · exact ⟨d + 1, by rw [putZ_same, h3]; rfl, e, hem, rfl, by rw [h1]; exact h4⟩
    · rw [putZ_other _ _ x]; exact h.known i
  · rw [hge g (by rw [h.goal]; exact Int.le_refl _)]; exact h.goal
  · by_cases x : i = e.1.toNat
    · subst x; exact Or.inr (Or.inl (by simp))
    · rw [putZ_other _ _ x] at hi
      rcases h.all i hi with h3 | h3 | h3
      · exact Or.inl h3
      · exact Or.inr (Or.inl (List.mem_append_left _ h3))
      · exact Or.inr (Or.inr (doneB_put h3 h2 hi))
  · rw [hao]
    rcases List.mem_append.1 hi with hi | hi
    · have := h.wait i hi
      rw [hge i (by omega)]; exact this
    · obtain rfl : i = e.1.toNat := by simpa using hi
      rw [putZ_same]
      exact ⟨by omega, (eds_lt hl hem).1⟩
  · show (q ++ [e.1.toNat]).Pairwise _
    rw [List.pairwise_append]
    refine ⟨?_, by simp, fun x hx y hy => ?_⟩
    · have hq : ∀ x, x ∈ q → 0 ≤ f x := fun x hx => by have := (h.wait x hx).1; omega
      exact List.Pairwise.imp_of_mem (fun {x y} hx hy hxy => by rw [hge x (hq x hx), hge y (hq y hy)]; exact hxy) h.up
    · obtain rfl : y = e.1.toNat := by simpa using hy
      rw [putZ_same, hge x (by have := (h.wait x hx).1; omega)]
      exact h.near x
  · rw [hao]
    by_cases x : i = e.1.toNat
    · subst x; rw [putZ_same]; exact Int.le_refl _
    · rw [putZ_other _ _ x]; exact h.near i
  · rw [List.take_add_one, he] at hd
    by_cases x : d.1.toNat = e.1.toNat
    · rw [x, putZ_same]; omega
    · rcases List.mem_append.1 hd with hd | hd
      · rw [putZ_other _ _ x]; exact h.seen d hd hda
      · obtain rfl : d = e := by simpa using hd
        exact absurd rfl x
theorem Mid.fin (h : Mid n l g a l.length f q) : Bfs n l g f q where
  known := h.known
  goal := h.goal
  all i hi := by
    rcases h.all i hi with h3 | h3 | h3
    · subst h3
      right
      intro d hd hda
      exact ⟨h.seen d (by rw [List.take_length]; exact hd) hda, h.near _⟩
    · exact Or.inl h3
    · exact Or.inr h3
  wait i hi := ⟨by have := (h.wait i hi).1; have := h.me.1; omega, (h.wait i hi).2⟩
  up := h.up
  near x hx i := by
    have := (h.wait x hx).1
    have := h.near i
    omega
theorem Bfs.far (h : Bfs n l g f []) : FarIs l g f := by
  have key : ∀ k i, St l k i g → 0 ≤ f i ∧ f i ≤ (k : Int) := by
    intro k
    induction k with
    | zero =>
      intro i hi
      obtain rfl : i = g := hi
      rw [h.goal]; exact ⟨Int.le_refl _, Int.le_refl _⟩
    | succ k ih =>
      rintro i ⟨d, hd, rfl, hs⟩
      obtain ⟨a1, a2⟩ := ih _ hs
      rcases h.all _ a1 with h1 | h1
      · simp at h1
      · obtain ⟨b1, b2⟩ := h1 d hd rfl
        exact ⟨b1, by omega⟩
  intro i
  rcases h.known i with h1 | ⟨d, h1, h2⟩
  · exact Or.inl ⟨h1, fun k hk => by have := (key k i hk).1; omega⟩
  · exact Or.inr ⟨d, h1, h2, fun k hk => by have := (key k i hk).2; omega⟩
end
/-- What is yet to be told of a walk by breadth. -/
def unset (n : Nat) (f : Nat → Int) : Nat := cntS (fun i => decide (f i = -1)) n
theorem unset_put {n : Nat} {f : Nat → Int} {v : Nat} {z : Int} (hv : v < n) (h : f v = -1) (hz : z ≠ -1) : unset n (putZ f v z) + 1 ≤ unset n f := by
  have := cnt_lt (s := fun i => decide (putZ f v z i = -1)) (t := fun i => decide (f i = -1)) (fun j hj => by
    simp only [decide_eq_true_eq] at hj ⊢
    by_cases x : j = v
    · subst x; exact h
    · rwa [putZ_other _ _ x] at hj) (k := v) (by simp [putZ_same, hz]) (by simp [h]) n hv
  exact this

/-- The first edge, if it is one, that leads nearer. -/
def nextE (l : List Ed) (f : Nat → Int) (a : Nat) (e : Ed) : Bool := decide (e.1.toNat = a) && decide (f e.2.1.toNat = f a - 1)
def nxt (l : List Ed) (f : Nat → Int) (a : Nat) : Nat := ((l.find? (nextE l f a)).map fun e => e.2.1.toNat).getD 0
def wayT (l : List Ed) (f : Nat → Int) : Nat → Nat → List Nat
  | 0, _ => []
  | d + 1, a => a :: wayT l f d (nxt l f a)
theorem wayT_length (l : List Ed) (f : Nat → Int) : ∀ d a, (wayT l f d a).length = d
  | 0, _ => rfl
  | d + 1, a => by simp [wayT, wayT_length l f d]
theorem FarIs.next {l : List Ed} {g : Nat} {f : Nat → Int} (h : FarIs l g f) {a d : Nat} (ha : f a = ((d + 1 : Nat) : Int)) : ∃ e, l.find? (nextE l f a) = some e ∧ e ∈ l ∧ e.1.toNat = a ∧ f e.2.1.toNat = (d : Int) ∧ nxt l f a = e.2.1.toNat := by
  have hex : ∃ e, e ∈ l ∧ nextE l f a e = true := by
    rcases h a with ⟨h1, _⟩ | ⟨d', h1, h2, h3⟩
    · omega
    · obtain rfl : d' = d + 1 := by omega
      obtain ⟨e, he, h4, h5⟩ := h2
      refine ⟨e, he, ?_⟩
      unfold nextE
      simp only [Bool.and_eq_true, decide_eq_true_eq]
      refine ⟨h4, ?_⟩
      rcases h e.2.1.toNat with ⟨_, h7⟩ | ⟨x, h6, h7, h8⟩
      · exact absurd h5 (h7 d)
      · have := h8 d h5
        have := h3 (x + 1) ⟨e, he, h4, h7⟩
        rw [h6, ha]; omega
  cases hf : l.find? (nextE l f a) with
  | none =>
    obtain ⟨e, he, h1⟩ := hex
    rw [List.find?_eq_none] at hf
    exact absurd h1 (by simpa using hf e he)
  | some e =>
    have h1 := List.find?_some hf
    have h2 := List.mem_of_find?_eq_some hf
    unfold nextE at h1
    simp only [Bool.and_eq_true, decide_eq_true_eq] at h1
    refine ⟨e, rfl, h2, h1.1, by rw [h1.2, ha]; omega, by unfold nxt; rw [hf]; rfl⟩
theorem FarIs.zero {l : List Ed} {g : Nat} {f : Nat → Int} (h : FarIs l g f) {a : Nat} (ha : f a = 0) : a = g := by
  rcases h a with ⟨h1, _⟩ | ⟨d', h1, h2, h3⟩
  · omega
  · obtain rfl : d' = 0 := by omega
    exact h2
theorem FarIs.goal {l : List Ed} {g : Nat} {f : Nat → Int} (h : FarIs l g f) : f g = 0 := by
  rcases h g with ⟨_, h1⟩ | ⟨d', h1, h2, h3⟩
  · exact absurd rfl (h1 0)
  · have := h3 0 rfl
    rw [h1]; omega
theorem far_le {n : Nat} {l : List Ed} {g : Nat} {f : Nat → Int} (hl : edsB (n : Int) l = true) (hg : g < n) (h : FarIs l g f) : ∀ i, f i < n := by
  -- each distance below is there too
  have down : ∀ (d i : Nat), f i = (d : Int) → ∀ c, c ≤ d → ∃ j, f j = (c : Int) ∧ (j < n) := by
    intro d
    induction d with
    | zero =>
      intro i hi c hc
      obtain rfl : c = 0 := by omega
      exact ⟨g, h.goal, hg⟩
    | succ d ih =>
      intro i hi c hc
      obtain ⟨e, h1, h2, h3, h4, h5⟩ := h.next hi
      by_cases x : c = d + 1
      · subst x
        exact ⟨i, hi, by rw [← h3]; exact (eds_lt hl h2).1⟩
      · exact ih _ h4 c (by omega)
  intro i
  refine Classical.byContradiction fun hn => ?_
  obtain ⟨d, hd⟩ : ∃ d : Nat, f i = (d : Int) := ⟨(f i).toNat, by omega⟩
  have hdn : n ≤ d := by omega
  -- as many different names as there are distances
  have cnt : ∀ c, c ≤ n + 1 → c ≤ d + 1 → c ≤ cntS (fun j => decide (0 ≤ f j) && decide (f j < (c : Int))) n := by
    intro c
    induction c with
    | zero => intro _ _; exact Nat.zero_le _
    | succ c ih =>
      intro h1 h2
      have := ih (by omega) (by omega)
      obtain ⟨j, hj, hjn⟩ := down d i hd c (by omega)
      have := cnt_lt (s := fun j => decide (0 ≤ f j) && decide (f j < (c : Int))) (t := fun j => decide (0 ≤ f j) && decide (f j < ((c + 1 : Nat) : Int))) (fun x hx => by
        simp only [Bool.and_eq_true, decide_eq_true_eq] at hx ⊢; omega) (k := j) (by simp [hj]) (by simp [hj]; omega) n hjn
      omega
  have h1 := cnt (n + 1) (Nat.le_refl _) (by omega)
  have h2 := cnt_le (fun j => decide (0 ≤ f j) && decide (f j < ((n + 1 : Nat) : Int))) n
  omega

/-- The first edge that is negated and has a way back. -/
def badE (n : Nat) (l : List Ed) (e : Ed) : Bool := e.2.2 && decide (comp n l e.1.toNat = comp n l e.2.1.toNat)
theorem bad_iff {n : Nat} {l : List Ed} (hl : edsB (n : Int) l = true) {e : Ed} (he : e ∈ l) : badE n l e = true ↔ e.2.2 = true ∧ Way l e.2.1.toNat e.1.toNat := by
  obtain ⟨h1, h2⟩ := eds_lt hl he
  unfold badE
  rw [Bool.and_eq_true, decide_eq_true_eq, comp_eq hl h1 h2, both_iff hl h1 h2]
  constructor
  · rintro ⟨a, _, b⟩; exact ⟨a, b⟩
  · rintro ⟨a, b⟩; exact ⟨a, Way.edge he, b⟩
theorem clean_of {n : Nat} {l : List Ed} (hl : edsB (n : Int) l = true) (h : l.find? (badE n l) = none) : Clean l := fun e he hn hw => by
  rw [List.find?_eq_none] at h
  exact h e he ((bad_iff hl he).2 ⟨hn, hw⟩)
theorem not_bad {n : Nat} {l : List Ed} (hl : edsB (n : Int) l = true) (h : Clean l) : l.find? (badE n l) = none := by
  rw [List.find?_eq_none]
  intro e he hb
  obtain ⟨h1, h2⟩ := (bad_iff hl he).1 hb
  exact h e he h1 h2
/-- The cycle of an edge: where it begins, and the way back. -/
def cycT (l : List Ed) (f : Nat → Int) (e : Ed) : List Int := ((e.1.toNat :: wayT l f (f e.2.1.toNat).toNat e.2.1.toNat).map fun i => ((i : Nat) : Int))
end Go.Proofs.YtfjejnkjlnkkhaaGreatDoor
/- What the laws of layer 8 ask of levels and cycles; plain. No program in sight. -/
namespace Go.Proofs.YtfjejnkjlnkkhaaGreatDoor
set_option linter.unusedVariables false

theorem mayG_pos {g : Gr} (h : mayG g = true) : 0 < g.names.length := by
  unfold mayG isNum at h
  simp only [Bool.and_eq_true, decide_eq_true_eq] at h
  omega
end Go.Proofs.YtfjejnkjlnkkhaaGreatDoor
/- A name over another one; a grammar without negations: their levels, plain. No program in sight. -/
namespace Go.Proofs.YtfjejnkjlnkkhaaGreatDoor
set_option linter.unusedVariables false

section
variable {n : Nat} {l : List Ed} {k : Nat} {neg : Bool}
end
/-- Without negations. -/
def posC (c : Cn) : Cn := ⟨false, c.seq⟩
def posR (r : Ru) : Ru := ⟨r.head, r.conj.map posC⟩
def posG (g : Gr) : Gr := ⟨g.start, g.names, g.rules.map posR⟩
end Go.Proofs.YtfjejnkjlnkkhaaGreatDoor
/- Places in conjuncts, as plain data. No program in sight. -/
namespace Go.Proofs.YtfjejnkjlnkkhaaGreatDoor
set_option linter.unusedVariables false

abbrev Plc := Int × Int × Int
def sqP (i j : Nat) : Nat → Nat → List Plc
  | _, 0 => []
  | k, m + 1 => ((i : Int), (j : Int), (k : Int)) :: sqP i j (k + 1) m
def cnP (i : Nat) : Nat → List Cn → List Plc
  | _, [] => []
  | j, c :: l => sqP i j 0 (c.seq.length + 1) ++ cnP i (j + 1) l
def ruP : Nat → List Ru → List Plc
  | _, [] => []
  | i, r :: l => cnP i 0 r.conj ++ ruP (i + 1) l
theorem sqP_len (i j : Nat) : ∀ m k, (sqP i j k m).length = m
  | 0, _ => rfl
  | m + 1, k => by simp [sqP, sqP_len i j m]
/-- What a grammar that may be has at most. -/
def PlIn (l : List Ru) : Prop := l.length ≤ 256 ∧ ∀ r, r ∈ l → r.conj.length ≤ 8 ∧ ∀ c, c ∈ r.conj → c.seq.length ≤ 64
theorem cnP_len (i : Nat) : ∀ (l : List Cn) (j : Nat), (∀ c, c ∈ l → c.seq.length ≤ 64) → (cnP i j l).length ≤ l.length * 65
  | [], _, _ => by simp [cnP]
  | c :: l, j, h => by
    have h1 := cnP_len i l (j + 1) (fun c hc => h c (List.mem_cons_of_mem _ hc))
    have h2 := h c (List.mem_cons_self ..)
    simp only [cnP, List.length_append, sqP_len, List.length_cons]; omega
theorem ruP_len : ∀ (l : List Ru) (i : Nat), (∀ r, r ∈ l → r.conj.length ≤ 8 ∧ ∀ c, c ∈ r.conj → c.seq.length ≤ 64) → (ruP i l).length ≤ l.length * 520
  | [], _, _ => by simp [ruP]
  | r :: l, i, h => by
    have h1 := ruP_len l (i + 1) (fun c hc => h c (List.mem_cons_of_mem _ hc))
    have h2 := h r (List.mem_cons_self ..)
    have h3 := cnP_len i r.conj 0 h2.2
    simp only [ruP, List.length_append, List.length_cons]; omega
theorem PlIn.len {l : List Ru} (h : PlIn l) : (ruP 0 l).length ≤ 133120 := by
  have := ruP_len l 0 h.2
  have := h.1
  omega
theorem mayCsP (k : Nat) : ∀ (l : List Cn) (n m : Nat), mayCs k n l = some m → ∀ c, c ∈ l → c.seq.length ≤ 64
  | [], _, _, _, c, hc => by simp at hc
  | a :: l, n, m, e, c, hc => by
    unfold mayCs at e
    split at e
    · rename_i h
      rcases List.mem_cons.1 hc with rfl | hc
      · have := h.2
        unfold mayRow at this
        simp only [Bool.and_eq_true, decide_eq_true_eq] at this
        exact this.1
      · exact mayCsP k l _ m e c hc
    · cases e
theorem mayRsP (k : Nat) : ∀ (l : List Ru) (n : Nat), mayRs k n l = true → ∀ r, r ∈ l → r.conj.length ≤ 8 ∧ ∀ c, c ∈ r.conj → c.seq.length ≤ 64
  | [], _, _, r, hr => by simp at hr
  | a :: l, n, e, r, hr => by
    unfold mayRs at e
    split at e
    · rename_i h
      split at e
      · cases e
      · rename_i m hm
        rcases List.mem_cons.1 hr with rfl | hr
        · exact ⟨h.2, mayCsP k _ n m hm⟩
        · exact mayRsP k l m e r hr
    · cases e
theorem mayG_plIn {g : Gr} (h : mayG g = true) : PlIn g.rules := by
  unfold mayG mayRules at h
  simp only [Bool.and_eq_true, decide_eq_true_eq] at h
  exact ⟨h.2.2.2.2.1, mayRsP _ _ _ h.2.2.2.2.2⟩
theorem cnP_drop {i j : Nat} {l : List Cn} {c : Cn} (h : l[j]? = some c) : cnP i j (l.drop j) = sqP i j 0 (c.seq.length + 1) ++ cnP i (j + 1) (l.drop (j + 1)) := by
  obtain ⟨hl, e⟩ := List.getElem?_eq_some_iff.1 h
  rw [List.drop_eq_getElem_cons hl, e]; rfl
theorem ruP_drop {i : Nat} {l : List Ru} {r : Ru} (h : l[i]? = some r) : ruP i (l.drop i) = cnP i 0 (r.conj.drop 0) ++ ruP (i + 1) (l.drop (i + 1)) := by
  obtain ⟨hl, e⟩ := List.getElem?_eq_some_iff.1 h
  rw [List.drop_eq_getElem_cons hl, e]; rfl
theorem ruP_end {l : List Ru} : ruP l.length (l.drop l.length) = [] := by simp [ruP]
theorem cnP_end {i : Nat} {l : List Cn} : cnP i l.length (l.drop l.length) = [] := by simp [cnP]
theorem sqP_more {i j k n : Nat} (h : k < n) : sqP i j k (n - k) = ((i : Int), (j : Int), (k : Int)) :: sqP i j (k + 1) (n - (k + 1)) := by
  obtain ⟨m, e⟩ : ∃ m, n - k = m + 1 := ⟨n - k - 1, by omega⟩
  rw [e, show n - (k + 1) = m by omega]; rfl
end Go.Proofs.YtfjejnkjlnkkhaaGreatDoor
/- Who has the empty text: the meaning as the one set that is least by its own negations; plain. No program in sight. -/
namespace Go.Proofs.YtfjejnkjlnkkhaaGreatDoor
set_option linter.unusedVariables false

def symB (M : Nat → Bool) (s : Sy) : Bool := decide (s.name ≠ -1) && M s.name.toNat
def empB (M : Nat → Bool) (l : List Sy) : Bool := l.all (symB M)
def conB (M : Nat → Bool) (c : Cn) : Bool := !(empB M c.seq == c.neg)
def holB (M : Nat → Bool) (r : Ru) : Bool := r.conj.all (conB M)
/-- A conjunct by two sets: what it negates by the first, all else by the second. -/
def redC (M X : Nat → Bool) (c : Cn) : Bool := if c.neg = true then !empB M c.seq else empB X c.seq
def red (M X : Nat → Bool) (r : Ru) : Bool := r.conj.all (redC M X)
theorem redC_self (M : Nat → Bool) (c : Cn) : redC M M c = conB M c := by
  unfold redC conB
  cases c.neg <;> cases empB M c.seq <;> rfl
theorem red_self (M : Nat → Bool) (r : Ru) : red M M r = holB M r := by
  unfold red holB
  congr 1
  funext c
  exact redC_self M c
theorem empB_mono {M N : Nat → Bool} {l : List Sy} (h : ∀ s, s ∈ l → s.name ≠ -1 → M s.name.toNat = true → N s.name.toNat = true) (he : empB M l = true) : empB N l = true := by
  unfold empB at *
  rw [List.all_eq_true] at *
  intro s hs
  have h1 := he s hs
  unfold symB at *
  rw [Bool.and_eq_true, decide_eq_true_eq] at *
  exact ⟨h1.1, h s hs h1.1 h1.2⟩
theorem red_mono {M N X Y : Nat → Bool} {r : Ru} (hn : ∀ c, c ∈ r.conj → c.neg = true → ∀ s, s ∈ c.seq → s.name ≠ -1 → N s.name.toNat = true → M s.name.toNat = true)
    (hp : ∀ c, c ∈ r.conj → c.neg = false → ∀ s, s ∈ c.seq → s.name ≠ -1 → X s.name.toNat = true → Y s.name.toNat = true) (h : red M X r = true) : red N Y r = true := by
  unfold red at *
  rw [List.all_eq_true] at *
  intro c hc
  have h1 := h c hc
  unfold redC at *
  cases hb : c.neg with
  | true =>
    rw [hb, if_pos rfl] at h1
    rw [if_pos rfl]
    cases he : empB N c.seq with
    | false => rfl
    | true =>
      have := empB_mono (hn c hc hb) he
      rw [this] at h1; cases h1
  | false =>
    rw [hb] at h1
    simp only [Bool.false_eq_true, if_false] at h1 ⊢
    exact empB_mono (hp c hc hb) h1
def Cl (L : List Ru) (M X : Nat → Bool) : Prop := ∀ r, r ∈ L → red M X r = true → X r.head.toNat = true
/-- Closed, and least by its own negations. -/
def Stb (L : List Ru) (M : Nat → Bool) : Prop := Cl L M M ∧ ∀ X, Cl L M X → ∀ i, M i = true → X i = true
/-- Levels: no name stands below one that it leans on, and above one that it negates. -/
def Str (L : List Ru) (f : Nat → Nat) : Prop := ∀ r, r ∈ L → ∀ c, c ∈ r.conj → ∀ s, s ∈ c.seq → s.name ≠ -1 → f s.name.toNat + (if c.neg = true then 1 else 0) ≤ f r.head.toNat
theorem str_of {g : Gr} {f : Nat → Nat} (h : Sol (edgesT g) f) : Str g.rules f := fun r hr c hc s hs hn => by
  have := h (r.head, s.name, c.neg) (by rw [mem_edgesT, mem_allE]; exact ⟨r, hr, by rw [mem_cnsE]; exact ⟨c, hc, by rw [mem_seqE]; exact ⟨rfl, rfl, s, hs, hn, rfl⟩⟩⟩)
  exact this
theorem Str.neg {L : List Ru} {f : Nat → Nat} (h : Str L f) {r : Ru} (hr : r ∈ L) {c : Cn} (hc : c ∈ r.conj) (hb : c.neg = true) {s : Sy} (hs : s ∈ c.seq) (hn : s.name ≠ -1) : f s.name.toNat < f r.head.toNat := by
  have := h r hr c hc s hs hn
  rw [hb, if_pos rfl] at this; omega
theorem Str.pos {L : List Ru} {f : Nat → Nat} (h : Str L f) {r : Ru} (hr : r ∈ L) {c : Cn} (hc : c ∈ r.conj) {s : Sy} (hs : s ∈ c.seq) (hn : s.name ≠ -1) : f s.name.toNat ≤ f r.head.toNat := by
  have := h r hr c hc s hs hn
  omega
/-- Each that is in stands by a rule. -/
theorem Stb.supp {L : List Ru} {M : Nat → Bool} (h : Stb L M) (i : Nat) : M i = L.any fun r => decide (r.head.toNat = i) && holB M r := by
  rw [Bool.eq_iff_iff]
  constructor
  · refine h.2 (fun i => L.any fun r => decide (r.head.toNat = i) && holB M r) (fun r hr hd => ?_) i
    rw [List.any_eq_true]
    refine ⟨r, hr, ?_⟩
    rw [Bool.and_eq_true]
    refine ⟨by simp, ?_⟩
    rw [← red_self]
    refine red_mono (fun c hc hb s hs hn he => he) (fun c hc hb s hs hn he => ?_) hd
    simp only [List.any_eq_true, Bool.and_eq_true, decide_eq_true_eq] at he
    obtain ⟨q, hq, e, hh⟩ := he
    rw [← red_self] at hh
    rw [← e]
    exact h.1 q hq hh
  · intro hh
    rw [List.any_eq_true] at hh
    obtain ⟨r, hr, hh⟩ := hh
    rw [Bool.and_eq_true, decide_eq_true_eq] at hh
    rw [← hh.1]
    exact h.1 r hr (by rw [red_self]; exact hh.2)
/-- All levels below one are done. -/
structure Jn (L : List Ru) (f : Nat → Nat) (k : Nat) (M : Nat → Bool) : Prop where
  low : ∀ i, M i = true → f i < k
  shut : ∀ r, r ∈ L → f r.head.toNat < k → holB M r = true → M r.head.toNat = true
  least : ∀ X, (∀ r, r ∈ L → f r.head.toNat < k → red M X r = true → X r.head.toNat = true) → ∀ i, M i = true → X i = true
/-- A level is being done. -/
structure Jm (L : List Ru) (f : Nat → Nat) (k : Nat) (H M : Nat → Bool) : Prop where
  old : ∀ i, H i = true → M i = true
  new : ∀ i, M i = true → H i = true ∨ f i = k
  least : ∀ X, (∀ r, r ∈ L → f r.head.toNat ≤ k → red H X r = true → X r.head.toNat = true) → ∀ i, M i = true → X i = true
section
variable {L : List Ru} {f : Nat → Nat} {k : Nat} {H M : Nat → Bool}
theorem Jn.begin (L : List Ru) (f : Nat → Nat) : Jn L f 0 (fun _ => false) := ⟨fun _ h => (by cases h), fun _ _ h => (by omega), fun _ _ _ h => (by cases h)⟩
theorem Jn.mid (h : Jn L f k H) : Jm L f k H H := ⟨fun _ h => h, fun _ h => Or.inl h, fun X hX => h.least X fun r hr hk => hX r hr (Nat.le_of_lt hk)⟩
theorem Jm.agree (h : Jm L f k H M) {i : Nat} (hi : f i < k) : H i = M i := by
  rw [Bool.eq_iff_iff]
  exact ⟨h.old i, fun hm => (h.new i hm).resolve_right (by omega)⟩
theorem Jm.put (hf : Str L f) (h : Jm L f k H M) {r : Ru} (hr : r ∈ L) (hk : f r.head.toNat = k) (hh : holB M r = true) : Jm L f k H (putS M r.head.toNat) where
  old i hi := by
    unfold putS
    split
    · rfl
    · exact h.old i hi
  new i hi := by
    unfold putS at hi
    split at hi
    · rename_i e; subst e; exact Or.inr hk
    · exact h.new i hi
  least X hX i hi := by
    unfold putS at hi
    split at hi
    · rename_i e; subst e
      refine hX r hr (by omega) ?_
      rw [← red_self] at hh
      refine red_mono (fun c hc hb s hs hn he => ?_) (fun c hc hb s hs hn he => h.least X hX _ he) hh
      rw [← h.agree (by have := hf.neg hr hc hb hs hn; omega)]; exact he
    · exact h.least X hX i hi
theorem Jm.fin (hf : Str L f) (hJ : Jn L f k H) (h : Jm L f k H M) (hs : ∀ r, r ∈ L → f r.head.toNat = k → holB M r = true → M r.head.toNat = true) : Jn L f (k + 1) M where
  low i hi := by
    rcases h.new i hi with h1 | h1
    · have := hJ.low i h1; omega
    · omega
  shut r hr hk hh := by
    by_cases e : f r.head.toNat = k
    · exact hs r hr e hh
    · refine h.old _ (hJ.shut r hr (by omega) ?_)
      rw [← red_self] at hh ⊢
      refine red_mono (fun c hc hb s hs hn he => h.old _ he) (fun c hc hb s hs hn he => ?_) hh
      rw [h.agree (by have := hf.pos hr hc hs hn; omega)]; exact he
  least X hX i hi := by
    refine h.least X (fun r hr hk hd => hX r hr (by omega) ?_) i hi
    refine red_mono (fun c hc hb s hs hn he => ?_) (fun c hc hb s hs hn he => he) hd
    rw [h.agree (by have := hf.neg hr hc hb hs hn; omega)]; exact he
theorem Jn.fin (h : Jn L f k M) (hk : ∀ r, r ∈ L → f r.head.toNat < k) : Stb L M :=
  ⟨fun r hr hd => h.shut r hr (hk r hr) (by rw [← red_self]; exact hd), fun X hX => h.least X fun r hr _ => hX r hr⟩
end
end Go.Proofs.YtfjejnkjlnkkhaaGreatDoor
/- A name's negation; a rule more; a row of names: who has the empty text there, plain. No program in sight. -/
namespace Go.Proofs.YtfjejnkjlnkkhaaGreatDoor
set_option linter.unusedVariables false

theorem Stb.head {L : List Ru} {M : Nat → Bool} (h : Stb L M) {n : Nat} (hh : ∀ r, r ∈ L → r.head.toNat < n) {i : Nat} (hi : M i = true) : i < n := by
  rw [h.supp i, List.any_eq_true] at hi
  obtain ⟨r, hr, hi⟩ := hi
  rw [Bool.and_eq_true, decide_eq_true_eq] at hi
  rw [← hi.1]; exact hh r hr
end Go.Proofs.YtfjejnkjlnkkhaaGreatDoor
/- The meaning of all spans of a text as the one table that is least by its own negations; plain. No program in sight. -/
namespace Go.Proofs.YtfjejnkjlnkkhaaGreatDoor
set_option linter.unusedVariables false

/-- Of a name, from, to: has it these bytes? -/
abbrev SpM := Nat → Nat → Nat → Bool
def inR (b : Nat → Nat) (s : Sy) (i : Nat) : Bool := decide (s.lo ≤ (b i : Int)) && decide ((b i : Int) ≤ s.hi)
/-- Has a row of symbols the bytes from i to j? -/
def restB (b : Nat → Nat) (M : SpM) : List Sy → Nat → Nat → Bool
  | [], i, j => decide (i = j)
  | s :: l, i, j => if s.name = -1 then decide (i < j) && (inR b s i && restB b M l (i + 1) j) else (List.range (j + 1)).any fun k => decide (i ≤ k) && (M s.name.toNat i k && restB b M l k j)
section
variable {b : Nat → Nat} {M N X Y : SpM}
theorem restB_mono : ∀ {l : List Sy} {i j : Nat}, (∀ s, s ∈ l → s.name ≠ -1 → ∀ i j, M s.name.toNat i j = true → N s.name.toNat i j = true) → restB b M l i j = true → restB b N l i j = true
  | [], _, _, _, h => h
  | s :: l, i, j, hm, h => by
    have ih : ∀ i j, restB b M l i j = true → restB b N l i j = true := fun i j => restB_mono (fun s hs => hm s (List.mem_cons_of_mem _ hs))
    unfold restB at h ⊢
    split
    · rename_i e
      rw [if_pos e] at h
      simp only [Bool.and_eq_true] at h ⊢
      exact ⟨h.1, h.2.1, ih _ _ h.2.2⟩
    · rename_i e
      rw [if_neg e] at h
      rw [List.any_eq_true] at h ⊢
      obtain ⟨k, hk, hh⟩ := h
      simp only [Bool.and_eq_true] at hh
      refine ⟨k, hk, ?_⟩
      simp only [Bool.and_eq_true]
      exact ⟨hh.1, hm s (by simp) e _ _ hh.2.1, ih _ _ hh.2.2⟩
theorem restB_congr {l : List Sy} {i j : Nat} (h : ∀ s, s ∈ l → s.name ≠ -1 → ∀ i j, M s.name.toNat i j = N s.name.toNat i j) : restB b M l i j = restB b N l i j := by
  rw [Bool.eq_iff_iff]
  exact ⟨restB_mono fun s hs hn i j hm => by rw [← h s hs hn]; exact hm, restB_mono fun s hs hn i j hm => by rw [h s hs hn]; exact hm⟩
def redC3 (b : Nat → Nat) (M X : SpM) (c : Cn) (i j : Nat) : Bool := if c.neg = true then !restB b M c.seq i j else restB b X c.seq i j
def red3 (b : Nat → Nat) (M X : SpM) (r : Ru) (i j : Nat) : Bool := r.conj.all fun c => redC3 b M X c i j
def conB3 (b : Nat → Nat) (M : SpM) (c : Cn) (i j : Nat) : Bool := !(restB b M c.seq i j == c.neg)
/-- Does a rule hold of the bytes from i to j? -/
def holB3 (b : Nat → Nat) (M : SpM) (r : Ru) (i j : Nat) : Bool := r.conj.all fun c => conB3 b M c i j
theorem red3_self (r : Ru) (i j : Nat) : red3 b M M r i j = holB3 b M r i j := by
  unfold red3 holB3
  congr 1
  funext c
  unfold redC3 conB3
  cases c.neg <;> cases restB b M c.seq i j <;> rfl
theorem red3_mono {r : Ru} {i j : Nat} (hn : ∀ c, c ∈ r.conj → c.neg = true → ∀ s, s ∈ c.seq → s.name ≠ -1 → ∀ i j, N s.name.toNat i j = true → M s.name.toNat i j = true)
    (hp : ∀ c, c ∈ r.conj → c.neg = false → ∀ s, s ∈ c.seq → s.name ≠ -1 → ∀ i j, X s.name.toNat i j = true → Y s.name.toNat i j = true) (h : red3 b M X r i j = true) : red3 b N Y r i j = true := by
  unfold red3 at *
  rw [List.all_eq_true] at *
  intro c hc
  have h1 := h c hc
  unfold redC3 at *
  cases hb : c.neg with
  | true =>
    rw [hb, if_pos rfl] at h1
    rw [if_pos rfl]
    cases he : restB b N c.seq i j with
    | false => rfl
    | true =>
      have := restB_mono (hn c hc hb) he
      rw [this] at h1; cases h1
  | false =>
    rw [hb] at h1
    simp only [Bool.false_eq_true, if_false] at h1 ⊢
    exact restB_mono (hp c hc hb) h1
end
def Cl3 (b : Nat → Nat) (n : Nat) (L : List Ru) (M X : SpM) : Prop := ∀ r, r ∈ L → ∀ i j, i ≤ j → j ≤ n → red3 b M X r i j = true → X r.head.toNat i j = true
/-- Closed, and least by its own negations: the meaning of all spans of a text of n bytes. -/
def Stb3 (b : Nat → Nat) (n : Nat) (L : List Ru) (M : SpM) : Prop := Cl3 b n L M M ∧ ∀ X, Cl3 b n L M X → ∀ x i j, M x i j = true → X x i j = true
section
variable {b : Nat → Nat} {n : Nat} {L : List Ru} {f : Nat → Nat} {k : Nat} {H M N : SpM}
theorem stb3_le (hf : Str L f) (hM : Stb3 b n L M) (hN : Stb3 b n L N) (k : Nat) (ih : ∀ x, f x < k → ∀ i j, M x i j = N x i j) (x : Nat) (hx : f x = k) (i j : Nat) (h : M x i j = true) : N x i j = true := by
  have hX : Cl3 b n L M (fun x i j => if f x ≤ k then N x i j else true) := fun r hr i j hij hj hd => by
    show (if f r.head.toNat ≤ k then N r.head.toNat i j else true) = true
    split
    · rename_i hk
      refine hN.1 r hr i j hij hj (red3_mono (fun c hc hb s hs hn i j he => ?_) (fun c hc hb s hs hn i j he => ?_) hd)
      · rw [ih _ (Nat.lt_of_lt_of_le (hf.neg hr hc hb hs hn) hk)]; exact he
      · rw [if_pos (Nat.le_trans (hf.pos hr hc hs hn) hk)] at he
        exact he
    · rfl
  have := hM.2 _ hX x i j h
  rw [if_pos (by omega)] at this
  exact this
theorem stb3_uniq (hf : Str L f) (hM : Stb3 b n L M) (hN : Stb3 b n L N) : M = N := by
  have key : ∀ k x, f x < k → ∀ i j, M x i j = N x i j := by
    intro k
    induction k with
    | zero => intro x hx; omega
    | succ k ih =>
      intro x hx i j
      by_cases hk : f x < k
      · exact ih x hk i j
      · have hk : f x = k := by omega
        rw [Bool.eq_iff_iff]
        exact ⟨stb3_le hf hM hN k ih x hk i j, stb3_le hf hN hM k (fun x hx i j => (ih x hx i j).symm) x hk i j⟩
  funext x i j
  exact key (f x + 1) x (by omega) i j
/-- Each that is in stands by a rule. -/
theorem Stb3.supp (h : Stb3 b n L M) (x i j : Nat) : M x i j = (decide (i ≤ j) && decide (j ≤ n) && L.any fun r => decide (r.head.toNat = x) && holB3 b M r i j) := by
  rw [Bool.eq_iff_iff]
  constructor
  · refine h.2 (fun x i j => decide (i ≤ j) && decide (j ≤ n) && L.any fun r => decide (r.head.toNat = x) && holB3 b M r i j) (fun r hr i j hij hj hd => ?_) x i j
    simp only [Bool.and_eq_true, decide_eq_true_eq, List.any_eq_true]
    refine ⟨⟨hij, hj⟩, r, hr, rfl, ?_⟩
    rw [← red3_self]
    refine red3_mono (fun c hc hb s hs hn i j he => he) (fun c hc hb s hs hn i j he => ?_) hd
    simp only [List.any_eq_true, Bool.and_eq_true, decide_eq_true_eq] at he
    obtain ⟨⟨h1, h2⟩, q, hq, e, hh⟩ := he
    rw [← red3_self] at hh
    rw [← e]
    exact h.1 q hq i j h1 h2 hh
  · intro hh
    simp only [Bool.and_eq_true, decide_eq_true_eq, List.any_eq_true] at hh
    obtain ⟨⟨h1, h2⟩, r, hr, e, hh⟩ := hh
    rw [← e]
    exact h.1 r hr i j h1 h2 (by rw [red3_self]; exact hh)
/-- All levels below one are done. -/
structure Jn3 (b : Nat → Nat) (n : Nat) (L : List Ru) (f : Nat → Nat) (k : Nat) (M : SpM) : Prop where
  low : ∀ x i j, M x i j = true → f x < k
  shut : ∀ r, r ∈ L → f r.head.toNat < k → ∀ i j, i ≤ j → j ≤ n → holB3 b M r i j = true → M r.head.toNat i j = true
  least : ∀ X, (∀ r, r ∈ L → f r.head.toNat < k → ∀ i j, i ≤ j → j ≤ n → red3 b M X r i j = true → X r.head.toNat i j = true) → ∀ x i j, M x i j = true → X x i j = true
/-- A level is being done. -/
structure Jm3 (b : Nat → Nat) (n : Nat) (L : List Ru) (f : Nat → Nat) (k : Nat) (H M : SpM) : Prop where
  old : ∀ x i j, H x i j = true → M x i j = true
  new : ∀ x i j, M x i j = true → H x i j = true ∨ f x = k
  least : ∀ X, (∀ r, r ∈ L → f r.head.toNat ≤ k → ∀ i j, i ≤ j → j ≤ n → red3 b H X r i j = true → X r.head.toNat i j = true) → ∀ x i j, M x i j = true → X x i j = true
theorem Jn3.begin (b : Nat → Nat) (n : Nat) (L : List Ru) (f : Nat → Nat) : Jn3 b n L f 0 (fun _ _ _ => false) := ⟨fun _ _ _ h => (by cases h), fun _ _ h => (by omega), fun _ _ _ _ _ h => (by cases h)⟩
theorem Jn3.mid (h : Jn3 b n L f k H) : Jm3 b n L f k H H := ⟨fun _ _ _ h => h, fun _ _ _ h => Or.inl h, fun X hX => h.least X fun r hr hk => hX r hr (Nat.le_of_lt hk)⟩
theorem Jm3.agree (h : Jm3 b n L f k H M) {x : Nat} (hx : f x < k) (i j : Nat) : H x i j = M x i j := by
  rw [Bool.eq_iff_iff]
  exact ⟨h.old x i j, fun hm => (h.new x i j hm).resolve_right (by omega)⟩
/-- A rule's head takes a span. -/
def putS3 (M : SpM) (x a c : Nat) : SpM := fun y i j => if y = x ∧ i = a ∧ j = c then true else M y i j
theorem Jm3.put (hf : Str L f) (h : Jm3 b n L f k H M) {P : SpM} (hP : ∀ x i j, P x i j = true → M x i j = true) (hPH : ∀ x i j, H x i j = true → P x i j = true) {r : Ru} (hr : r ∈ L) (hk : f r.head.toNat = k) {a c : Nat} (hac : a ≤ c) (hc : c ≤ n) (hh : holB3 b P r a c = true) : Jm3 b n L f k H (putS3 M r.head.toNat a c) where
  old x i j hx := by
    unfold putS3
    split
    · rfl
    · exact h.old x i j hx
  new x i j hx := by
    unfold putS3 at hx
    split at hx
    · rename_i e; rw [e.1]; exact Or.inr hk
    · exact h.new x i j hx
  least X hX x i j hx := by
    unfold putS3 at hx
    split at hx
    · rename_i e
      obtain ⟨rfl, rfl, rfl⟩ := e
      refine hX r hr (by omega) i j hac hc ?_
      rw [← red3_self] at hh
      refine red3_mono (fun q hq hb s hs hn i j he => hPH _ _ _ he) (fun q hq hb s hs hn i j he => h.least X hX _ _ _ (hP _ _ _ he)) hh
    · exact h.least X hX x i j hx
theorem Jm3.fin (hf : Str L f) (hJ : Jn3 b n L f k H) (h : Jm3 b n L f k H M) (hs : ∀ r, r ∈ L → f r.head.toNat = k → ∀ i j, i ≤ j → j ≤ n → holB3 b M r i j = true → M r.head.toNat i j = true) : Jn3 b n L f (k + 1) M where
  low x i j hx := by
    rcases h.new x i j hx with h1 | h1
    · have := hJ.low x i j h1; omega
    · omega
  shut r hr hk i j hij hj hh := by
    by_cases e : f r.head.toNat = k
    · exact hs r hr e i j hij hj hh
    · refine h.old _ _ _ (hJ.shut r hr (by omega) i j hij hj ?_)
      rw [← red3_self] at hh ⊢
      refine red3_mono (fun c hc hb s hs hn i j he => h.old _ _ _ he) (fun c hc hb s hs hn i j he => ?_) hh
      rw [h.agree (by have := hf.pos hr hc hs hn; omega)]; exact he
  least X hX x i j hx := by
    refine h.least X (fun r hr hk i j hij hj hd => hX r hr (by omega) i j hij hj ?_) x i j hx
    refine red3_mono (fun c hc hb s hs hn i j he => ?_) (fun c hc hb s hs hn i j he => he) hd
    rw [h.agree (by have := hf.neg hr hc hb hs hn; omega)]; exact he
theorem Jn3.fin (h : Jn3 b n L f k M) (hk : ∀ r, r ∈ L → f r.head.toNat < k) : Stb3 b n L M :=
  ⟨fun r hr i j hij hj hd => h.shut r hr (hk r hr) i j hij hj (by rw [← red3_self]; exact hd), fun X hX => h.least X fun r hr _ => hX r hr⟩
/-- What has a rank, once no round gives another one: all that is in. -/
theorem ranked_all (h : Stb3 b n L M) {X : SpM} {Y : Nat → Nat → Nat → Nat → Nat → Bool} (hX : ∀ x i j, X x i j = true → M x i j = true)
    (hY : ∀ (q c : Nat) (r : Ru) (d : Cn), L[q]? = some r → r.conj[c]? = some d → d.neg = false → ∀ p, p ≤ d.seq.length → ∀ i j, i ≤ j → j ≤ n → restB b M (d.seq.drop p) i j = true →
      (match d.seq[p]? with | none => decide (i = j) | some s => if s.name = -1 then decide (i < j) && (inR b s i && Y q c (p + 1) (i + 1) j) else (List.range (j + 1)).any fun k => decide (i ≤ k) && (X s.name.toNat i k && Y q c (p + 1) k j)) = true → Y q c p i j = true)
    (hT : ∀ (q : Nat) (r : Ru), L[q]? = some r → ∀ i j, i ≤ j → j ≤ n → M r.head.toNat i j = true → holB3 b M r i j = true → (∀ (c : Nat) (d : Cn), r.conj[c]? = some d → d.neg = false → Y q c 0 i j = true) → X r.head.toNat i j = true) :
    ∀ x i j, M x i j = true → X x i j = true := by
  have key : ∀ (q c : Nat) (r : Ru) (d : Cn), L[q]? = some r → r.conj[c]? = some d → d.neg = false → ∀ t p, d.seq.length - p = t → p ≤ d.seq.length → ∀ i j, i ≤ j → j ≤ n → restB b X (d.seq.drop p) i j = true → Y q c p i j = true := by
    intro q c r d hq hc hd t
    induction t with
    | zero =>
      intro p ht hp i j hij hj hr
      have e : d.seq[p]? = none := List.getElem?_eq_none (by omega)
      refine hY q c r d hq hc hd p hp i j hij hj (restB_mono (fun s hs hn i j he => hX _ _ _ he) hr) ?_
      rw [e]
      have e2 : d.seq.drop p = [] := List.drop_eq_nil_of_le (by omega)
      rw [e2] at hr
      exact hr
    | succ t ih =>
      intro p ht hp i j hij hj hr
      obtain ⟨s, hs⟩ : ∃ s, d.seq[p]? = some s := ⟨_, List.getElem?_eq_getElem (by omega)⟩
      refine hY q c r d hq hc hd p hp i j hij hj (restB_mono (fun s hs hn i j he => hX _ _ _ he) hr) ?_
      rw [hs]
      have e2 : d.seq.drop p = s :: d.seq.drop (p + 1) := by
        obtain ⟨hl, e⟩ := List.getElem?_eq_some_iff.1 hs
        rw [List.drop_eq_getElem_cons hl, e]
      rw [e2] at hr
      unfold restB at hr
      simp only
      split
      · rename_i e
        rw [if_pos e] at hr
        simp only [Bool.and_eq_true, decide_eq_true_eq] at hr ⊢
        exact ⟨hr.1, hr.2.1, ih (p + 1) (by omega) (by omega) (i + 1) j (by omega) hj hr.2.2⟩
      · rename_i e
        rw [if_neg e] at hr
        rw [List.any_eq_true] at hr ⊢
        obtain ⟨k, hk, hh⟩ := hr
        simp only [Bool.and_eq_true, decide_eq_true_eq] at hh
        have hkj : k ≤ j := by have := List.mem_range.1 hk; omega
        refine ⟨k, hk, ?_⟩
        simp only [Bool.and_eq_true, decide_eq_true_eq]
        exact ⟨hh.1, hh.2.1, ih (p + 1) (by omega) (by omega) k j hkj hj hh.2.2⟩
  refine h.2 X fun r hr i j hij hj hd => ?_
  obtain ⟨q, hq⟩ := List.mem_iff_getElem?.1 hr
  have hh : holB3 b M r i j = true := by
    rw [← red3_self]
    exact red3_mono (fun c hc hb s hs hn i j he => he) (fun c hc hb s hs hn i j he => hX _ _ _ he) hd
  refine hT q r hq i j hij hj (h.1 r hr i j hij hj (by rw [red3_self]; exact hh)) hh fun c d hc hdn => ?_
  refine key q c r d hq hc hdn _ 0 rfl (Nat.zero_le _) i j hij hj ?_
  unfold red3 at hd
  have h9 := List.all_eq_true.1 hd d (List.mem_of_getElem? hc)
  unfold redC3 at h9
  rw [hdn] at h9
  simpa using h9
end
end Go.Proofs.YtfjejnkjlnkkhaaGreatDoor
/- Ranks, round by round, of names and rests; plain. No program in sight. -/
namespace Go.Proofs.YtfjejnkjlnkkhaaGreatDoor
set_option linter.unusedVariables false

/-- Of a place, from, to. -/
abbrev SpR := Nat → Nat → Nat → Nat → Nat → Bool
/-- One step of a rest by what has a rank. -/
def stpS (b : Nat → Nat) (A : SpM) (B : SpR) (q c p : Nat) (l : List Sy) (i j : Nat) : Bool :=
  match l[p]? with
  | none => decide (i = j)
  | some s => if s.name = -1 then decide (i < j) && (inR b s i && B q c (p + 1) (i + 1) j) else (List.range (j + 1)).any fun k => decide (i ≤ k) && (A s.name.toNat i k && B q c (p + 1) k j)
/-- A rule whose conjuncts that are not negated have a rank. -/
def ranS (B : SpR) (q : Nat) (l : List Cn) (i j : Nat) : Bool := (List.range l.length).all fun c => (l.getD c ⟨false, []⟩).neg || B q c 0 i j
/-- What has a rank after some rounds. -/
def rkS (b : Nat → Nat) (L : List Ru) (M : SpM) : Nat → SpM × SpR
  | 0 => (fun _ _ _ => false, fun _ _ _ _ _ => false)
  | n + 1 => (fun x i j => M x i j && (List.range L.length).any fun q => match L[q]? with | none => false | some r => decide (r.head.toNat = x) && (holB3 b M r i j && ranS (rkS b L M n).2 q r.conj i j),
    fun q c p i j => match L[q]? with | none => false | some r => match r.conj[c]? with | none => false | some d => decide (p ≤ d.seq.length) && (restB b M (d.seq.drop p) i j && stpS b (rkS b L M n).1 (rkS b L M n).2 q c p d.seq i j))
section
variable {b : Nat → Nat} {L : List Ru} {M : SpM}
theorem stpS_mono {A A' : SpM} {B B' : SpR} {q c p : Nat} {l : List Sy} {i j : Nat} (hA : ∀ x i j, A x i j = true → A' x i j = true) (hB : ∀ q c p i j, B q c p i j = true → B' q c p i j = true) (h : stpS b A B q c p l i j = true) : stpS b A' B' q c p l i j = true := by
  unfold stpS at *
  cases hs : l[p]? with
  | none => rw [hs] at h; exact h
  | some s =>
    rw [hs] at h
    simp only at h ⊢
    split
    · rename_i e
      rw [if_pos e] at h
      simp only [Bool.and_eq_true] at h ⊢
      exact ⟨h.1, h.2.1, hB _ _ _ _ _ h.2.2⟩
    · rename_i e
      rw [if_neg e] at h
      rw [List.any_eq_true] at h ⊢
      obtain ⟨k, hk, hh⟩ := h
      simp only [Bool.and_eq_true] at hh
      refine ⟨k, hk, ?_⟩
      simp only [Bool.and_eq_true]
      exact ⟨hh.1, hA _ _ _ hh.2.1, hB _ _ _ _ _ hh.2.2⟩
theorem ranS_mono {B B' : SpR} {q : Nat} {l : List Cn} {i j : Nat} (hB : ∀ q c p i j, B q c p i j = true → B' q c p i j = true) (h : ranS B q l i j = true) : ranS B' q l i j = true := by
  unfold ranS at *
  rw [List.all_eq_true] at *
  intro c hc
  have := h c hc
  rw [Bool.or_eq_true] at *
  exact this.imp id (hB _ _ _ _ _)
theorem rkS_name {n x i j : Nat} : (rkS b L M (n + 1)).1 x i j = true ↔ M x i j = true ∧ ∃ q r, L[q]? = some r ∧ r.head.toNat = x ∧ holB3 b M r i j = true ∧ ranS (rkS b L M n).2 q r.conj i j = true := by
  show (M x i j && (List.range L.length).any _) = true ↔ _
  rw [Bool.and_eq_true, List.any_eq_true]
  refine and_congr_right fun _ => ?_
  constructor
  · rintro ⟨q, hq, h⟩
    have hlt := List.mem_range.1 hq
    rw [List.getElem?_eq_getElem hlt] at h
    simp only [Bool.and_eq_true, decide_eq_true_eq] at h
    exact ⟨q, L[q], List.getElem?_eq_getElem hlt, h.1, h.2.1, h.2.2⟩
  · rintro ⟨q, r, h1, h2, h3, h4⟩
    refine ⟨q, List.mem_range.2 (List.getElem?_eq_some_iff.1 h1).1, ?_⟩
    rw [h1]
    simp only [Bool.and_eq_true, decide_eq_true_eq]
    exact ⟨h2, h3, h4⟩
theorem rkS_rest {n q c p i j : Nat} {r : Ru} {d : Cn} (hr : L[q]? = some r) (hd : r.conj[c]? = some d) : (rkS b L M (n + 1)).2 q c p i j = true ↔ p ≤ d.seq.length ∧ restB b M (d.seq.drop p) i j = true ∧ stpS b (rkS b L M n).1 (rkS b L M n).2 q c p d.seq i j = true := by
  show (match L[q]? with | none => false | some r => match r.conj[c]? with | none => false | some d => decide (p ≤ d.seq.length) && (restB b M (d.seq.drop p) i j && stpS b (rkS b L M n).1 (rkS b L M n).2 q c p d.seq i j)) = true ↔ _
  rw [hr]
  simp only
  rw [hd]
  simp only [Bool.and_eq_true, decide_eq_true_eq]
theorem rkS_up : ∀ n, (∀ x i j, (rkS b L M n).1 x i j = true → (rkS b L M (n + 1)).1 x i j = true) ∧ ∀ q c p i j, (rkS b L M n).2 q c p i j = true → (rkS b L M (n + 1)).2 q c p i j = true
  | 0 => ⟨fun _ _ _ h => (by cases h), fun _ _ _ _ _ h => (by cases h)⟩
  | n + 1 => by
    obtain ⟨h1, h2⟩ := rkS_up n
    refine ⟨fun x i j h => ?_, fun q c p i j h => ?_⟩
    · obtain ⟨hm, q, r, e1, e2, e3, e4⟩ := rkS_name.1 h
      exact rkS_name.2 ⟨hm, q, r, e1, e2, e3, ranS_mono h2 e4⟩
    · cases hr : L[q]? with
      | none =>
        have h' : (match L[q]? with | none => false | some r => match r.conj[c]? with | none => false | some d => decide (p ≤ d.seq.length) && (restB b M (d.seq.drop p) i j && stpS b (rkS b L M n).1 (rkS b L M n).2 q c p d.seq i j)) = true := h
        rw [hr] at h'; cases h'
      | some r =>
        cases hd : r.conj[c]? with
        | none =>
          have h' : (match L[q]? with | none => false | some r => match r.conj[c]? with | none => false | some d => decide (p ≤ d.seq.length) && (restB b M (d.seq.drop p) i j && stpS b (rkS b L M n).1 (rkS b L M n).2 q c p d.seq i j)) = true := h
          rw [hr] at h'
          simp only at h'
          rw [hd] at h'; cases h'
        | some d =>
          obtain ⟨e1, e2, e3⟩ := (rkS_rest hr hd).1 h
          exact (rkS_rest hr hd).2 ⟨e1, e2, stpS_mono h1 h2 e3⟩
theorem rkS_le {n m : Nat} (h : n ≤ m) : (∀ x i j, (rkS b L M n).1 x i j = true → (rkS b L M m).1 x i j = true) ∧ ∀ q c p i j, (rkS b L M n).2 q c p i j = true → (rkS b L M m).2 q c p i j = true := by
  induction m with
  | zero =>
    obtain rfl : n = 0 := by omega
    exact ⟨fun _ _ _ h => h, fun _ _ _ _ _ h => h⟩
  | succ m ih =>
    by_cases e : n = m + 1
    · subst e; exact ⟨fun _ _ _ h => h, fun _ _ _ _ _ h => h⟩
    · obtain ⟨h1, h2⟩ := ih (by omega)
      obtain ⟨k1, k2⟩ := rkS_up (b := b) (L := L) (M := M) m
      exact ⟨fun x i j h => k1 x i j (h1 x i j h), fun q c p i j h => k2 q c p i j (h2 q c p i j h)⟩
end
/-- The first of n rounds at which it is so, or 0. -/
def fstAt (f : Nat → Bool) : Nat → Nat
  | 0 => 0
  | n + 1 => if fstAt f n = 0 then (if f (n + 1) then n + 1 else 0) else fstAt f n
theorem fstAt_pos {f : Nat → Bool} (hf : ∀ n, f n = true → f (n + 1) = true) (h0 : f 0 = false) : ∀ n, (fstAt f n ≠ 0 ↔ f n = true)
  | 0 => by rw [h0]; simp [fstAt]
  | n + 1 => by
    have ih := fstAt_pos hf h0 n
    unfold fstAt
    by_cases h : fstAt f n = 0
    · rw [if_pos h]
      split
      · rename_i e; simp [e]
      · rename_i e; simp [e]
    · rw [if_neg h]
      exact ⟨fun _ => hf n (ih.1 h), fun _ => h⟩
/-- It is so at that round, and at none before it. -/
theorem fstAt_is {f : Nat → Bool} (hf : ∀ n, f n = true → f (n + 1) = true) (h0 : f 0 = false) : ∀ n, fstAt f n ≠ 0 → f (fstAt f n) = true ∧ f (fstAt f n - 1) = false ∧ fstAt f n ≤ n
  | 0, h => absurd rfl h
  | n + 1, h => by
    unfold fstAt at h ⊢
    by_cases e : fstAt f n = 0
    · rw [if_pos e] at h ⊢
      split at h
      · rename_i e1
        rw [if_pos e1]
        refine ⟨e1, ?_, Nat.le_refl _⟩
        rw [Nat.add_sub_cancel]
        cases hc : f n with
        | false => rfl
        | true => exact absurd e ((fstAt_pos hf h0 n).2 hc)
      · exact absurd rfl h
    · rw [if_neg e]
      obtain ⟨h1, h2, h3⟩ := fstAt_is hf h0 n e
      exact ⟨h1, h2, Nat.le_succ_of_le h3⟩
/-- The rank of a name's span, and of a rest's, after n rounds. -/
def rnkN (b : Nat → Nat) (L : List Ru) (M : SpM) (n x i j : Nat) : Nat := fstAt (fun k => (rkS b L M k).1 x i j) n
def rnkR (b : Nat → Nat) (L : List Ru) (M : SpM) (n q c p i j : Nat) : Nat := fstAt (fun k => (rkS b L M k).2 q c p i j) n
end Go.Proofs.YtfjejnkjlnkkhaaGreatDoor
