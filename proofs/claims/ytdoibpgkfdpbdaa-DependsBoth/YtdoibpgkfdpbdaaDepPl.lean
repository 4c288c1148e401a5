/- Who needs whom, as plain functions. No program in sight. -/
import Derived.Test.YtdoibpgkfdpbdaaGramPl
import Derived.Shelf.SlSortCmp.Insertion
namespace Go.Proofs.Ytdoibpgkfdpbdaa
set_option linter.unusedVariables false
open Go.Shelf Go.Lib Go.Sort

abbrev Ed := Int × Int × Bool
def seqE (h : Int) (n : Bool) : List Sy → List Ed
  | [] => []
  | s :: l => if s.name = -1 then seqE h n l else (h, s.name, n) :: seqE h n l
def cnsE (h : Int) : List Cn → List Ed
  | [] => []
  | c :: l => seqE h c.neg c.seq ++ cnsE h l
def allE : List Ru → List Ed
  | [] => []
  | r :: l => cnsE r.head r.conj ++ allE l
def addE (l : List Ed) (e : Ed) : List Ed := if e ∈ l then l else l ++ [e]
def addAll (l m : List Ed) : List Ed := m.foldl addE l
def numB (b : Bool) : Int := if b then 1 else 0
def orI (a b : Int) : Int := if a ≠ 0 then a else b
def cfE (x y : Ed) : Int := orI (Lib.compareInt x.1 y.1) (orI (Lib.compareInt x.2.1 y.2.1) (Lib.compareInt (numB x.2.2) (numB y.2.2)))
def ltE (x y : Ed) : Bool := decide (x.1 < y.1 ∨ x.1 = y.1 ∧ (x.2.1 < y.2.1 ∨ x.2.1 = y.2.1 ∧ (numB x.2.2 < numB y.2.2)))
def sortE (l : List Ed) : List Ed := l.mergeSort fun x y => !ltE y x
def edgesT (g : Gr) : List Ed := sortE (addAll [] (allE g.rules))

theorem lt_cf : ltOf cfE = ltE := by
  funext x y
  unfold ltOf cfE ltE orI Lib.compareInt
  generalize numB x.2.2 = a
  generalize numB y.2.2 = b
  generalize x.1 = x1
  generalize y.1 = y1
  generalize x.2.1 = x2
  generalize y.2.1 = y2
  congr 1
  apply propext
  by_cases h1 : x1 < y1
  · simp [h1]
  · by_cases h2 : y1 < x1
    · simp [h1, h2]; omega
    · have : x1 = y1 := by omega
      subst this
      by_cases h3 : x2 < y2
      · simp [h3]
      · by_cases h4 : y2 < x2
        · simp [h3, h4]; omega
        · have : x2 = y2 := by omega
          subst this
          by_cases h5 : a < b
          · simp [h5]
          · by_cases h6 : b < a <;> simp [h5, h6]
theorem ltE_iff (x y : Ed) : ltE x y = true ↔ x.1 < y.1 ∨ x.1 = y.1 ∧ (x.2.1 < y.2.1 ∨ x.2.1 = y.2.1 ∧ (numB x.2.2 < numB y.2.2)) := by unfold ltE; simp
theorem ltE_no (x y : Ed) : ltE x y = false ↔ ¬ (x.1 < y.1 ∨ x.1 = y.1 ∧ (x.2.1 < y.2.1 ∨ x.2.1 = y.2.1 ∧ (numB x.2.2 < numB y.2.2))) := by unfold ltE; simp
theorem numB_inj {a b : Bool} (h : numB a = numB b) : a = b := by cases a <;> cases b <;> simp [numB] at h <;> rfl
theorem swoE : SWO ltE where
  irrefl x := by rw [ltE_no]; omega
  trans x y z h1 h2 := by rw [ltE_iff] at *; omega
  ntrans x y z h1 h2 := by rw [ltE_no] at *; omega
theorem totE (x y : Ed) (h1 : ltE x y = false) (h2 : ltE y x = false) : x = y := by
  rw [ltE_no] at h1 h2
  have e1 : x.1 = y.1 := by omega
  have e2 : x.2.1 = y.2.1 := by omega
  have e3 : numB x.2.2 = numB y.2.2 := by omega
  exact Prod.ext e1 (Prod.ext e2 (numB_inj e3))
theorem mem_addE {l : List Ed} {e x : Ed} : x ∈ addE l e ↔ x ∈ l ∨ x = e := by
  unfold addE
  split
  · rename_i h
    constructor
    · exact Or.inl
    · rintro (h' | rfl)
      · exact h'
      · exact h
  · simp
theorem addE_nodup {l : List Ed} {e : Ed} (h : l.Nodup) : (addE l e).Nodup := by
  unfold addE
  split
  · exact h
  · rename_i hn
    rw [List.nodup_append]
    refine ⟨h, by simp, fun a ha b hb => ?_⟩
    obtain rfl : b = e := by simpa using hb
    rintro rfl
    exact hn ha
theorem addE_len (l : List Ed) (e : Ed) : (addE l e).length ≤ l.length + 1 := by
  unfold addE
  split <;> simp
theorem addAll_append (l a b : List Ed) : addAll l (a ++ b) = addAll (addAll l a) b := by unfold addAll; rw [List.foldl_append]
theorem mem_addAll : ∀ {m l : List Ed} {x : Ed}, x ∈ addAll l m ↔ x ∈ l ∨ x ∈ m
  | [], l, x => by simp [addAll]
  | e :: m, l, x => by
    show x ∈ addAll (addE l e) m ↔ _
    rw [mem_addAll, mem_addE]; simp [or_assoc]
theorem addAll_nodup : ∀ {m l : List Ed}, l.Nodup → (addAll l m).Nodup
  | [], _, h => h
  | e :: m, l, h => by
    show (addAll (addE l e) m).Nodup
    exact addAll_nodup (addE_nodup h)
theorem addAll_len : ∀ (m l : List Ed), (addAll l m).length ≤ l.length + m.length
  | [], l => by simp [addAll]
  | e :: m, l => by
    show (addAll (addE l e) m).length ≤ _
    have := addAll_len m (addE l e)
    have := addE_len l e
    simp only [List.length_cons]; omega
theorem sort_perm (l : List Ed) : (sortE l).Perm l := List.mergeSort_perm l _
theorem sort_le (l : List Ed) : (sortE l).Pairwise fun x y => ltE y x = false := by
  have h := List.pairwise_mergeSort (le := fun x y => !ltE y x) (fun a b c h1 h2 => by
    simp only [Bool.not_eq_true'] at *
    exact swoE.ntrans c b a h2 h1) (fun a b => by
    cases h : ltE b a
    · rfl
    · have : ltE a b = false := by rw [ltE_no]; rw [ltE_iff] at h; omega
      simp [this]) l
  exact h.imp fun h => by simpa using h
theorem sort_lt {l : List Ed} (h : l.Nodup) : (sortE l).Pairwise fun x y => ltE x y = true := by
  have h1 := sort_le l
  have h2 : (sortE l).Nodup := (sort_perm l).nodup_iff.2 h
  exact (h1.and h2).imp fun ⟨a, b⟩ => by
    cases hc : ltE _ _
    · exact absurd (totE _ _ hc a) b
    · rfl
theorem strict_nodup {l : List Ed} (h : l.Pairwise fun x y => ltE x y = true) : l.Nodup := h.imp fun {a b} hab e => by subst e; rw [swoE.irrefl] at hab; cases hab
/-- Of what has these edges there is one that rises. -/
theorem strict_unique : ∀ {l m : List Ed}, (l.Pairwise fun x y => ltE x y = true) → (m.Pairwise fun x y => ltE x y = true) → (∀ x, x ∈ l ↔ x ∈ m) → l = m
  | [], [], _, _, _ => rfl
  | [], b :: m, _, _, h => by have := (h b).2 (by simp); simp at this
  | a :: l, [], _, _, h => by have := (h a).1 (by simp); simp at this
  | a :: l, b :: m, h1, h2, h => by
    obtain ⟨p1, q1⟩ := List.pairwise_cons.1 h1
    obtain ⟨p2, q2⟩ := List.pairwise_cons.1 h2
    have hab : a = b := by
      have ha : a ∈ b :: m := (h a).1 (by simp)
      have hb : b ∈ a :: l := (h b).2 (by simp)
      rcases List.mem_cons.1 ha with e | ha
      · exact e
      rcases List.mem_cons.1 hb with e | hb
      · exact e.symm
      have x1 := p2 a ha
      have x2 := p1 b hb
      rw [ltE_iff] at x1 x2
      omega
    subst hab
    have n1 := strict_nodup h1
    have n2 := strict_nodup h2
    rw [List.nodup_cons] at n1 n2
    congr 1
    refine strict_unique q1 q2 fun x => ⟨fun hx => ?_, fun hx => ?_⟩
    · rcases List.mem_cons.1 ((h x).1 (List.mem_cons_of_mem _ hx)) with rfl | h'
      · exact absurd hx n1.1
      · exact h'
    · rcases List.mem_cons.1 ((h x).2 (List.mem_cons_of_mem _ hx)) with rfl | h'
      · exact absurd hx n2.1
      · exact h'
theorem mem_edgesT (g : Gr) (x : Ed) : x ∈ edgesT g ↔ x ∈ allE g.rules := by
  unfold edgesT
  rw [(sort_perm _).mem_iff, mem_addAll]; simp
theorem edgesT_rise (g : Gr) : (edgesT g).Pairwise fun x y => ltE x y = true := sort_lt (addAll_nodup List.nodup_nil)
theorem edgesT_eq {g : Gr} {l : List Ed} (h : l.Pairwise fun x y => ltE x y = true) (hm : ∀ x, x ∈ l ↔ x ∈ allE g.rules) : edgesT g = l :=
  strict_unique (edgesT_rise g) h fun x => (mem_edgesT g x).trans (hm x).symm
theorem seqE_len (h : Int) (n : Bool) : ∀ l : List Sy, (seqE h n l).length ≤ l.length
  | [] => Nat.le_refl _
  | s :: l => by
    have := seqE_len h n l
    unfold seqE
    split <;> simp only [List.length_cons] <;> omega
theorem mem_seqE (h : Int) (n : Bool) (x : Ed) : ∀ l : List Sy, x ∈ seqE h n l ↔ x.1 = h ∧ x.2.2 = n ∧ ∃ s, s ∈ l ∧ s.name ≠ -1 ∧ s.name = x.2.1
  | [] => by simp [seqE]
  | s :: l => by
    unfold seqE
    split
    · rename_i e
      rw [mem_seqE h n x l]
      simp only [List.mem_cons, exists_eq_or_imp]
      constructor
      · rintro ⟨a, b, c⟩; exact ⟨a, b, Or.inr c⟩
      · rintro ⟨a, b, c⟩
        rcases c with ⟨c, _⟩ | c
        · exact absurd e c
        · exact ⟨a, b, c⟩
    · rename_i e
      simp only [List.mem_cons, exists_eq_or_imp]
      rw [mem_seqE h n x l]
      constructor
      · rintro (rfl | ⟨a, b, c⟩)
        · exact ⟨rfl, rfl, Or.inl ⟨e, rfl⟩⟩
        · exact ⟨a, b, Or.inr c⟩
      · rintro ⟨a, b, c⟩
        rcases c with ⟨_, c⟩ | c
        · left; exact Prod.ext a (Prod.ext c.symm b)
        · right; exact ⟨a, b, c⟩
theorem mem_cnsE (h : Int) (x : Ed) : ∀ l : List Cn, x ∈ cnsE h l ↔ ∃ c, c ∈ l ∧ x ∈ seqE h c.neg c.seq
  | [] => by simp [cnsE]
  | c :: l => by
    unfold cnsE
    rw [List.mem_append, mem_cnsE h x l]; simp
theorem mem_allE (x : Ed) : ∀ l : List Ru, x ∈ allE l ↔ ∃ r, r ∈ l ∧ x ∈ cnsE r.head r.conj
  | [] => by simp [allE]
  | c :: l => by
    unfold allE
    rw [List.mem_append, mem_allE x l]; simp
theorem seqE_append (h : Int) (n : Bool) : ∀ l m : List Sy, seqE h n (l ++ m) = seqE h n l ++ seqE h n m
  | [], m => rfl
  | s :: l, m => by
    show (if s.name = -1 then seqE h n (l ++ m) else (h, s.name, n) :: seqE h n (l ++ m)) = (if s.name = -1 then seqE h n l else (h, s.name, n) :: seqE h n l) ++ seqE h n m
    rw [seqE_append h n l m]
    split <;> rfl
theorem cnsE_append (h : Int) : ∀ l m : List Cn, cnsE h (l ++ m) = cnsE h l ++ cnsE h m
  | [], m => rfl
  | s :: l, m => by
    show seqE h s.neg s.seq ++ cnsE h (l ++ m) = (seqE h s.neg s.seq ++ cnsE h l) ++ cnsE h m
    rw [cnsE_append h l m, List.append_assoc]
theorem allE_append : ∀ l m : List Ru, allE (l ++ m) = allE l ++ allE m
  | [], m => rfl
  | s :: l, m => by
    show cnsE s.head s.conj ++ allE (l ++ m) = (cnsE s.head s.conj ++ allE l) ++ allE m
    rw [allE_append l m, List.append_assoc]
theorem mayCs_len (k : Nat) (h : Int) : ∀ (l : List Cn) (n m : Nat), n ≤ 1024 → mayCs k n l = some m → n + (cnsE h l).length ≤ m ∧ m ≤ 1024
  | [], n, m, hn, e => by
    simp only [mayCs, Option.some.injEq] at e
    subst e
    exact ⟨by simp [cnsE], hn⟩
  | c :: l, n, m, hn, e => by
    unfold mayCs at e
    split at e
    · rename_i hc
      have h9 := mayCs_len k h l _ m hc.1 e
      have := seqE_len h c.neg c.seq
      refine ⟨?_, h9.2⟩
      show n + (seqE h c.neg c.seq ++ cnsE h l).length ≤ m
      rw [List.length_append]; omega
    · cases e
theorem mayRs_len (k : Nat) : ∀ (l : List Ru) (n : Nat), n ≤ 1024 → mayRs k n l = true → n + (allE l).length ≤ 1024
  | [], n, hn, e => by simpa [allE] using hn
  | r :: l, n, hn, e => by
    unfold mayRs at e
    split at e
    · split at e
      · cases e
      · rename_i m hm
        obtain ⟨h1, h2⟩ := mayCs_len k r.head r.conj n m hn hm
        have := mayRs_len k l m h2 e
        show n + (cnsE r.head r.conj ++ allE l).length ≤ 1024
        rw [List.length_append]; omega
    · cases e
/-- Edges of a grammar that may be: no more than its symbols. -/
theorem allE_len {g : Gr} (h : mayG g = true) : (allE g.rules).length ≤ 1024 := by
  unfold mayG mayRules at h
  simp only [Bool.and_eq_true] at h
  have := mayRs_len _ _ 0 (Nat.zero_le _) h.2.2.2.2.2
  omega
theorem mayHeads_num (k : Nat) : ∀ (l : List Ru) (z : Int), mayHeads k z l = true → ∀ r, r ∈ l → 0 ≤ r.head ∧ r.head < (k : Int)
  | [], _, _, r, hr => by simp at hr
  | a :: l, z, h, r, hr => by
    unfold mayHeads at h
    simp only [Bool.and_eq_true] at h
    rcases List.mem_cons.1 hr with rfl | hr
    · have := h.1; unfold isNum at this; simpa using this
    · exact mayHeads_num k l _ h.2.2 r hr
theorem mayCs_row (k : Nat) : ∀ (l : List Cn) (n m : Nat), mayCs k n l = some m → ∀ c, c ∈ l → mayRow k c.seq = true
  | [], _, _, _, c, hc => by simp at hc
  | a :: l, n, m, e, c, hc => by
    unfold mayCs at e
    split at e
    · rename_i h
      rcases List.mem_cons.1 hc with rfl | hc
      · exact h.2
      · exact mayCs_row k l _ m e c hc
    · cases e
theorem mayRs_row (k : Nat) : ∀ (l : List Ru) (n : Nat), mayRs k n l = true → ∀ r, r ∈ l → ∀ c, c ∈ r.conj → mayRow k c.seq = true
  | [], _, _, r, hr => by simp at hr
  | a :: l, n, e, r, hr => by
    unfold mayRs at e
    split at e
    · split at e
      · cases e
      · rename_i m hm
        rcases List.mem_cons.1 hr with rfl | hr
        · exact mayCs_row k _ n m hm
        · exact mayRs_row k l m e r hr
    · cases e
theorem mayG_names {g : Gr} (h : mayG g = true) : g.names.length ≤ 64 := by
  unfold mayG mayNames at h
  simp only [Bool.and_eq_true, decide_eq_true_eq] at h
  exact h.1.2.1
theorem mayG_head {g : Gr} (h : mayG g = true) : ∀ r, r ∈ g.rules → 0 ≤ r.head ∧ r.head < (g.names.length : Int) := by
  unfold mayG at h
  simp only [Bool.and_eq_true] at h
  exact mayHeads_num _ _ _ h.2.2.1
theorem mayG_sym {g : Gr} (h : mayG g = true) : ∀ r, r ∈ g.rules → ∀ c, c ∈ r.conj → ∀ s, s ∈ c.seq → s.name = -1 ∨ 0 ≤ s.name ∧ s.name < (g.names.length : Int) := by
  unfold mayG mayRules at h
  simp only [Bool.and_eq_true] at h
  intro r hr c hc s hs
  have := mayRs_row _ _ _ h.2.2.2.2.2 r hr c hc
  unfold mayRow at this
  simp only [Bool.and_eq_true, List.all_eq_true] at this
  have := this.2 s hs
  unfold maySym at this
  split at this
  · left; assumption
  · right
    simp only [Bool.and_eq_true] at this
    have := this.1; unfold isNum at this; simpa using this
end Go.Proofs.Ytdoibpgkfdpbdaa
