/- What may come first and behind, plainly: sets within sets, closed, least. -/
import Derived.Test.YtopokicdgdjgkaaFirU
import Derived.Test.YtopokicdgdjgkaaFirG
namespace Go.Proofs.Ytopokicdgdjgkaa
set_option linter.unusedVariables false
set_option linter.unusedSimpArgs false

/-- One set lies within another one. -/
def leB (a b : Nat → Nat) : Prop := ∀ j, j < 4 → ∀ i, (a j).testBit i = true → (b j).testBit i = true
theorem leB.refl (a : Nat → Nat) : leB a a := fun _ _ _ h => h
theorem leB.trans {a b c : Nat → Nat} (h : leB a b) (k : leB b c) : leB a c := fun j hj i hi => k j hj i (h j hj i hi)
theorem leB_zero (a : Nat → Nat) : leB zB a := fun j _ i hi => by unfold zB at hi; rw [Nat.zero_testBit] at hi; cases hi
theorem leB_or {a b c : Nat → Nat} (h : leB a c) (k : leB b c) : leB (orB a b) c := fun j hj i hi => by
  unfold orB at hi
  rw [Nat.testBit_or, Bool.or_eq_true] at hi
  rcases hi with hi | hi
  · exact h j hj i hi
  · exact k j hj i hi
theorem leB_left (a b : Nat → Nat) : leB a (orB a b) := fun j _ i hi => by unfold orB; rw [Nat.testBit_or, hi]; rfl
theorem leB_right (a b : Nat → Nat) : leB b (orB a b) := fun j _ i hi => by unfold orB; rw [Nat.testBit_or, hi, Bool.or_true]
theorem leB_same {a b : Nat → Nat} (h : ∀ j, j < 4 → orB a b j = a j) : leB b a := fun j hj i hi => by
  have h1 := leB_right a b j hj i hi
  rw [h j hj] at h1; exact h1
theorem leB.or_eq {a b : Nat → Nat} (h : leB b a) : ∀ j, j < 4 → orB a b j = a j := fun j hj => by
  apply Nat.eq_of_testBit_eq
  intro i
  unfold orB
  rw [Nat.testBit_or]
  cases hb : (b j).testBit i with
  | false => rw [Bool.or_false]
  | true => rw [h j hj i hb]; rfl
theorem leB.anti {a b : Nat → Nat} (h : leB a b) (k : leB b a) : ∀ j, j < 4 → a j = b j := fun j hj => by
  apply Nat.eq_of_testBit_eq
  intro i
  cases ha : (a j).testBit i with
  | true => exact (h j hj i ha).symm
  | false =>
    cases hb : (b j).testBit i with
    | false => rfl
    | true => rw [k j hj i hb] at ha; cases ha
theorem unlike_no {a b : Nat → Nat} (h : unlikeB a b = false) : ∀ j, j < 4 → a j = b j := by
  unfold unlikeB at h
  simp at h
  intro j hj
  have : j = 0 ∨ j = 1 ∨ j = 2 ∨ j = 3 := by omega
  rcases this with rfl | rfl | rfl | rfl
  · exact h.1
  · exact h.2.1
  · exact h.2.2.1
  · exact h.2.2.2
theorem unlikeF_no {a b : Fo} (h : unlikeF a b = false) : (∀ j, j < 4 → a.1 j = b.1 j) ∧ a.2 = b.2 := by
  unfold unlikeF at h
  simp at h
  refine ⟨fun j hj => ?_, h.2.2.2.2⟩
  have : j = 0 ∨ j = 1 ∨ j = 2 ∨ j = 3 := by omega
  rcases this with rfl | rfl | rfl | rfl
  · exact h.1
  · exact h.2.1
  · exact h.2.2.1
  · exact h.2.2.2.1
def leF (a b : Fo) : Prop := leB a.1 b.1 ∧ (a.2 = true → b.2 = true)
theorem leF.refl (a : Fo) : leF a a := ⟨leB.refl _, fun h => h⟩
theorem leF.trans {a b c : Fo} (h : leF a b) (k : leF b c) : leF a c := ⟨h.1.trans k.1, fun e => k.2 (h.2 e)⟩
theorem leF_or {a b c : Fo} (h : leF a c) (k : leF b c) : leF (orF a b) c := ⟨leB_or h.1 k.1, fun e => by
  have e : (a.2 || b.2) = true := e
  rw [Bool.or_eq_true] at e
  rcases e with e | e
  · exact h.2 e
  · exact k.2 e⟩
theorem leF_left (a b : Fo) : leF a (orF a b) := ⟨leB_left _ _, fun e => by show (a.2 || b.2) = true; rw [e]; rfl⟩
theorem leF_no {a b : Fo} (h : unlikeF (orF a b) a = false) : leF b a := by
  obtain ⟨h1, h2⟩ := unlikeF_no h
  refine ⟨leB_same h1, fun e => ?_⟩
  have h3 : (a.2 || b.2) = a.2 := h2
  rw [e, Bool.or_true] at h3
  exact h3.symm
/-- What is coming ahead of a row: more of what is known makes more of it. -/
theorem ahead_mono {E E' : Nat → Bool} {B B' : Nat → Nat → Nat} (hE : ∀ k, E k = true → E' k = true) (hB : ∀ k, leB (B k) (B' k)) {c c' : Fo} (hc : leF c c') (s : Sy) : leF (aheadT E B s c) (aheadT E' B' s c') := by
  unfold aheadT
  split
  · exact leF.refl _
  · cases h : E s.name.toNat with
    | true =>
      rw [hE _ h, if_neg (by decide), if_neg (by decide)]
      exact ⟨leB_or ((hB _).trans (leB_left _ _)) (hc.1.trans (leB_right _ _)), hc.2⟩
    | false =>
      rw [if_pos rfl]
      cases h' : E' s.name.toNat with
      | true => rw [if_neg (by decide)]; exact ⟨(hB _).trans (leB_left _ _), fun e => by cases e⟩
      | false => rw [if_pos rfl]; exact ⟨hB _, fun e => by cases e⟩
def comF (E : Nat → Bool) (B : Nat → Nat → Nat) (c : Fo) : List Sy → Fo
  | [] => c
  | s :: l => aheadT E B s (comF E B c l)
theorem comF_com (E : Nat → Bool) (B : Nat → Nat → Nat) : ∀ l, comT E B l = comF E B (zB, false) l
  | [] => rfl
  | s :: l => by show aheadT E B s (comT E B l) = aheadT E B s (comF E B (zB, false) l); rw [comF_com E B l]
theorem com_mono {E E' : Nat → Bool} {B B' : Nat → Nat → Nat} (hE : ∀ k, E k = true → E' k = true) (hB : ∀ k, leB (B k) (B' k)) {c c' : Fo} (hc : leF c c') : ∀ l, leF (comF E B c l) (comF E' B' c' l)
  | [] => hc
  | s :: l => ahead_mono hE hB (com_mono hE hB hc l) s
/-- Each name has what its conjuncts begin with. -/
def ClosB (L : List Ru) (E : Nat → Bool) (B : Nat → Nat → Nat) : Prop := ∀ r, r ∈ L → ∀ c, c ∈ r.conj → leB (comT E B c.seq).1 (B r.head.toNat)
def LeastB (L : List Ru) (E : Nat → Bool) (B : Nat → Nat → Nat) : Prop := ∀ C, ClosB L E C → ∀ k, leB (B k) (C k)
theorem leastB_zero (L : List Ru) (E : Nat → Bool) : LeastB L E (fun _ => zB) := fun C _ k => leB_zero _
theorem leastB_tr {L : List Ru} {E : Nat → Bool} {B : Nat → Nat → Nat} (h : LeastB L E B) {r : Ru} {c : Cn} (hr : r ∈ L) (hc : c ∈ r.conj) : LeastB L E (trB E B r.head c.seq).2 := fun C hC k => by
  unfold trB
  split
  · show leB (updB B r.head.toNat (orB (B r.head.toNat) (comT E B c.seq).1) k) (C k)
    unfold updB
    split
    · rename_i e
      subst e
      refine leB_or (h C hC _) (leB.trans ?_ (hC r hr c hc))
      rw [comF_com, comF_com]
      exact (com_mono (fun _ e => e) (fun k => h C hC k) (leF.refl _) c.seq).1
    · exact h C hC k
  · exact h C hC k
theorem still_closB {L : List Ru} {E : Nat → Bool} {B : Nat → Nat → Nat} (h : Still (trB E) B L) : ClosB L E B := fun r hr c hc => by
  have h1 := h r hr c hc
  unfold trB at h1
  split at h1
  · cases h1
  · rename_i h2
    exact leB_same (unlike_no (Bool.eq_false_iff.2 h2))
/-- Each name has behind it what its places ask; the start has the end. -/
def ClosF (g : Gr) (E : Nat → Bool) (B : Nat → Nat → Nat) (D : Nat → Fo) : Prop :=
  (D g.start.toNat).2 = true ∧ ∀ r, r ∈ g.rules → ∀ c, c ∈ r.conj → ∀ l1 s l2, c.seq = l1 ++ s :: l2 → s.name ≠ -1 → leF (comF E B (D r.head.toNat) l2) (D s.name.toNat)
def LeastF (g : Gr) (E : Nat → Bool) (B : Nat → Nat → Nat) (D : Nat → Fo) : Prop := ∀ C, ClosF g E B C → ∀ k, leF (D k) (C k)
theorem folF_com (E : Nat → Bool) (B : Nat → Nat → Nat) (D : Nat → Fo) (c : Fo) : ∀ l, (folF E B D c l).2.2 = comF E B c l
  | [] => rfl
  | s :: l => by
    show (goF E B s (folF E B D c l)).2.2 = aheadT E B s (comF E B c l)
    rw [goF_ahead, folF_com E B D c l]
theorem stepF_le {D C : Nat → Fo} {k : Nat} {c : Fo} (hD : ∀ j, leF (D j) (C j)) (hc : leF c (C k)) : ∀ j, leF ((stepF D k c).2 j) (C j) := fun j => by
  unfold stepF
  split
  · show leF (updF D k (orF (D k) c) j) (C j)
    unfold updF
    split
    · rename_i e; subst e; exact leF_or (hD _) hc
    · exact hD j
  · exact hD j
theorem folF_le {E : Nat → Bool} {B : Nat → Nat → Nat} {D C : Nat → Fo} {c0 : Fo} (hD : ∀ j, leF (D j) (C j)) : ∀ l, (∀ l1 s l2, l = l1 ++ s :: l2 → s.name ≠ -1 → leF (comF E B c0 l2) (C s.name.toNat)) → ∀ j, leF ((folF E B D c0 l).2.1 j) (C j)
  | [], _ => hD
  | s :: l, h => by
    have ih := folF_le (E := E) (B := B) (c0 := c0) hD l (fun l1 s' l2 e hn => h (s :: l1) s' l2 (by rw [e]; rfl) hn)
    show ∀ j, leF ((goF E B s (folF E B D c0 l)).2.1 j) (C j)
    unfold goF
    split
    · exact ih
    · rename_i hn
      refine stepF_le ih ?_
      rw [folF_com]
      exact h [] s l rfl hn
theorem leastF_tr {g : Gr} {E : Nat → Bool} {B : Nat → Nat → Nat} {D : Nat → Fo} (h : LeastF g E B D) {r : Ru} {c : Cn} (hr : r ∈ g.rules) (hc : c ∈ r.conj) : LeastF g E B (trF E B D r.head c.seq).2 := fun C hC k =>
  folF_le (h C hC) c.seq (fun l1 s l2 e hn => (com_mono (fun _ e => e) (fun _ => leB.refl _) (h C hC _) l2).trans (hC.2 r hr c hc l1 s l2 e hn)) k
theorem stepF_up (D : Nat → Fo) (k : Nat) (c : Fo) (j : Nat) : leF (D j) ((stepF D k c).2 j) := by
  unfold stepF
  split
  · show leF (D j) (updF D k (orF (D k) c) j)
    unfold updF
    split
    · rename_i e; subst e; exact leF_left _ _
    · exact leF.refl _
  · exact leF.refl _
theorem folF_up (E : Nat → Bool) (B : Nat → Nat → Nat) (D : Nat → Fo) (c : Fo) : ∀ l j, leF (D j) ((folF E B D c l).2.1 j)
  | [], j => leF.refl _
  | s :: l, j => by
    refine (folF_up E B D c l j).trans ?_
    show leF _ ((goF E B s (folF E B D c l)).2.1 j)
    unfold goF
    split
    · exact leF.refl _
    · exact stepF_up _ _ _ _
theorem stepF_no {D : Nat → Fo} {k : Nat} {c : Fo} (h : (stepF D k c).1 = false) : (stepF D k c).2 = D ∧ leF c (D k) := by
  have h2 := stepF_un D k c
  rw [h] at h2
  refine ⟨?_, leF_no h2.symm⟩
  unfold stepF at h ⊢
  split
  · rename_i e; rw [if_pos e] at h; cases h
  · rfl
theorem folF_no {E : Nat → Bool} {B : Nat → Nat → Nat} {D : Nat → Fo} {c0 : Fo} : ∀ l, (folF E B D c0 l).1 = false → (folF E B D c0 l).2.1 = D ∧ ∀ l1 s l2, l = l1 ++ s :: l2 → s.name ≠ -1 → leF (comF E B c0 l2) (D s.name.toNat)
  | [], _ => ⟨rfl, fun l1 s l2 e => by cases l1 <;> cases e⟩
  | s :: l, h => by
    have h : (goF E B s (folF E B D c0 l)).1 = false := h
    show (goF E B s (folF E B D c0 l)).2.1 = D ∧ _
    unfold goF at h ⊢
    split
    · rename_i hn
      rw [if_pos hn] at h
      obtain ⟨i1, i2⟩ := folF_no l h
      refine ⟨i1, fun l1 s' l2 e hs => ?_⟩
      cases l1 with
      | nil => injection e with e1 e2; subst e1; exact absurd hn hs
      | cons a l1 => injection e with e1 e2; exact i2 l1 s' l2 e2 hs
    · rename_i hn
      rw [if_neg hn] at h
      have h : ((stepF (folF E B D c0 l).2.1 s.name.toNat (folF E B D c0 l).2.2).1 || (folF E B D c0 l).1) = false := h
      rw [Bool.or_eq_false_iff] at h
      obtain ⟨i1, i2⟩ := folF_no l h.2
      obtain ⟨s1, s2⟩ := stepF_no h.1
      rw [i1] at s1 s2
      rw [folF_com] at s2
      refine ⟨by show (stepF (folF E B D c0 l).2.1 _ _).2 = D; rw [i1]; exact s1, fun l1 s' l2 e hs => ?_⟩
      cases l1 with
      | nil => injection e with e1 e2; subst e1; subst e2; exact s2
      | cons a l1 => injection e with e1 e2; exact i2 l1 s' l2 e2 hs
theorem still_closF {g : Gr} {E : Nat → Bool} {B : Nat → Nat → Nat} {D : Nat → Fo} (hs : (D g.start.toNat).2 = true) (h : ∀ r, r ∈ g.rules → ∀ c, c ∈ r.conj → (trF E B D r.head c.seq).1 = false) : ClosF g E B D :=
  ⟨hs, fun r hr c hc => (folF_no c.seq (h r hr c hc)).2⟩
/-- How much is not known yet. -/
def offF (n : Nat) (D : Nat → Fo) : Nat := sumN (fun i => 18446744073709551616 - (D (i / 4)).1 (i % 4)) (n * 4) + sumN (fun i => if (D i).2 = true then 0 else 1) n
theorem stepF_off {n k : Nat} {D : Nat → Fo} {c : Fo} (hk : k < n) (hD : okF D) (hc : okB c.1) (e : (stepF D k c).1 = true) : offF n (stepF D k c).2 < offF n D := by
  have e4 : unlikeF (orF (D k) c) (D k) = true := by rw [← stepF_un]; exact e
  have e3 : (stepF D k c).2 = updF D k (orF (D k) c) := by unfold stepF; rw [if_pos e4]
  rw [e3]
  have hle : ∀ j, (D k).1 j ≤ (orF (D k) c).1 j := fun j => Nat.left_le_or
  have hok : okB (orF (D k) c).1 := okB_or (hD k) hc
  have hen : (D k).2 = true → (orF (D k) c).2 = true := (leF_left _ _).2
  have hj : (∃ j, j < 4 ∧ (D k).1 j < (orF (D k) c).1 j) ∨ ((D k).2 = false ∧ (orF (D k) c).2 = true) := by
    unfold unlikeF at e4
    generalize orF (D k) c = a at e4 hle hen
    have h0 := hle 0; have h1 := hle 1; have h2 := hle 2; have h3 := hle 3
    by_cases q0 : a.1 0 = (D k).1 0
    · by_cases q1 : a.1 1 = (D k).1 1
      · by_cases q2 : a.1 2 = (D k).1 2
        · by_cases q3 : a.1 3 = (D k).1 3
          · right
            rw [q0, q1, q2, q3] at e4
            simp at e4
            cases hd : (D k).2 with
            | true => rw [hen hd, hd] at e4; exact absurd rfl e4
            | false => rw [hd] at e4; exact ⟨rfl, by simpa using e4⟩
          · exact Or.inl ⟨3, by omega, by omega⟩
        · exact Or.inl ⟨2, by omega, by omega⟩
      · exact Or.inl ⟨1, by omega, by omega⟩
    · exact Or.inl ⟨0, by omega, by omega⟩
  have l1 : ∀ i, 18446744073709551616 - ((updF D k (orF (D k) c)) (i / 4)).1 (i % 4) ≤ 18446744073709551616 - (D (i / 4)).1 (i % 4) := fun i => by
    unfold updF
    split
    · rename_i q; rw [q]; have := hle (i % 4); omega
    · exact Nat.le_refl _
  have l2 : ∀ i, (if ((updF D k (orF (D k) c)) i).2 = true then 0 else 1) ≤ (if (D i).2 = true then 0 else 1) := fun i => by
    unfold updF
    by_cases q : i = k
    · subst q
      rw [if_pos rfl]
      by_cases h : (D i).2 = true
      · rw [if_pos h, if_pos (hen h)]; exact Nat.le_refl _
      · rw [if_neg h]; split <;> omega
    · rw [if_neg q]; exact Nat.le_refl _
  unfold offF
  rcases hj with ⟨j, hj4, hjl⟩ | ⟨hd, ha⟩
  · refine Nat.add_lt_add_of_lt_of_le (sumN_lt l1 (i := k * 4 + j) ?_ _ (by omega)) (sumN_le l2 _)
    have d1 : (k * 4 + j) / 4 = k := by omega
    have d2 : (k * 4 + j) % 4 = j := by omega
    simp only [d1, d2, updF, if_true]
    unfold okB at hok
    have := hok j
    omega
  · refine Nat.add_lt_add_of_le_of_lt (sumN_le l1 _) (sumN_lt l2 (i := k) ?_ _ hk)
    show (if (updF D k (orF (D k) c) k).2 = true then 0 else 1) < (if (D k).2 = true then 0 else 1)
    rw [hd]
    unfold updF
    rw [if_pos rfl, if_pos ha]
    decide
theorem folF_off {E : Nat → Bool} {B : Nat → Nat → Nat} {n : Nat} (hB : ∀ k, okB (B k)) {D : Nat → Fo} {c0 : Fo} (hD : okF D) (hc : okB c0.1) : ∀ l, (∀ s, s ∈ l → symIn n s) → (folF E B D c0 l).1 = true → offF n (folF E B D c0 l).2.1 < offF n D
  | [], _, h => by cases h
  | s :: l, hm, h => by
    have h : (goF E B s (folF E B D c0 l)).1 = true := h
    show offF n (goF E B s (folF E B D c0 l)).2.1 < offF n D
    have ih := folF_off (E := E) hB hD hc l (fun s' hs => hm s' (List.mem_cons_of_mem _ hs))
    have ok := folF_ok (E := E) hB hD hc l
    unfold goF at h ⊢
    split
    · rename_i hn
      rw [if_pos hn] at h
      exact ih h
    · rename_i hn
      rw [if_neg hn] at h
      have h : ((stepF (folF E B D c0 l).2.1 s.name.toNat (folF E B D c0 l).2.2).1 || (folF E B D c0 l).1) = true := h
      have hk : s.name.toNat < n := by
        rcases hm s (List.mem_cons_self ..) with e | e
        · exact absurd e hn
        · omega
      show offF n (stepF (folF E B D c0 l).2.1 s.name.toNat (folF E B D c0 l).2.2).2 < offF n D
      cases h1 : (stepF (folF E B D c0 l).2.1 s.name.toNat (folF E B D c0 l).2.2).1 with
      | true =>
        have h2 := stepF_off hk ok.1 ok.2 h1
        cases h3 : (folF E B D c0 l).1 with
        | true => exact Nat.lt_trans h2 (ih h3)
        | false => rw [(folF_no l h3).1] at h2 ⊢; exact h2
      | false =>
        rw [h1, Bool.false_or] at h
        rw [(stepF_no h1).1]
        exact ih h
abbrev FF := {D : Nat → Fo // okF D}
def trG (E : Nat → Bool) (B : BB) (s : FF) (h : Int) (l : List Sy) : Bool × FF := ((trF E B.1 s.1 h l).1, ⟨(trF E B.1 s.1 h l).2, (folF_ok B.2 s.2 (s.2 _) l).1⟩)
theorem trG_no {E : Nat → Bool} {B : BB} {s : FF} {h : Int} {l : List Sy} (e : (trG E B s h l).1 = false) : (trG E B s h l).2 = s := Subtype.ext (folF_no l e).1
theorem trG_yes {E : Nat → Bool} {B : BB} {n : Nat} {s : FF} {h : Int} {l : List Sy} (hm : ∀ s, s ∈ l → symIn n s) (e : (trG E B s h l).1 = true) : offF n (trG E B s h l).2.1 < offF n s.1 := folF_off B.2 s.2 (s.2 _) l hm e
end Go.Proofs.Ytopokicdgdjgkaa
