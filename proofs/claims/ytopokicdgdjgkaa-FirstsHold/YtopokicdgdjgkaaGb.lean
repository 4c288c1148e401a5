/- Places in conjuncts, as plain data. No program in sight. -/
import Derived.Test.YtopokicdgdjgkaaGa
namespace Go.Proofs.Ytopokicdgdjgkaa
set_option linter.unusedVariables false

abbrev Plc := Int × Int × Int
def sqP (i j : Nat) : Nat → Nat → List Plc
  | _, 0 => []
  | k, m + 1 => ((i : Int), (j : Int), (k : Int)) :: sqP i j (k + 1) m
def cnP (i : Nat) : Nat → List Cn → List Plc
  | _, [] => []
  | j, c :: l => sqP i j 0 (c.seq.length + 1) ++ cnP i (j + 1) l
def ruP : Nat → List Ru → List Plc
  | _, [] => []
  | i, r :: l => cnP i 0 r.conj ++ ruP (i + 1) l
theorem sqP_len (i j : Nat) : ∀ m k, (sqP i j k m).length = m
  | 0, _ => rfl
  | m + 1, k => by simp [sqP, sqP_len i j m]
/-- What a grammar that may be has at most. -/
def PlIn (l : List Ru) : Prop := l.length ≤ 256 ∧ ∀ r, r ∈ l → r.conj.length ≤ 8 ∧ ∀ c, c ∈ r.conj → c.seq.length ≤ 64
theorem cnP_len (i : Nat) : ∀ (l : List Cn) (j : Nat), (∀ c, c ∈ l → c.seq.length ≤ 64) → (cnP i j l).length ≤ l.length * 65
  | [], _, _ => by simp [cnP]
  | c :: l, j, h => by
    have h1 := cnP_len i l (j + 1) (fun c hc => h c (List.mem_cons_of_mem _ hc))
    have h2 := h c (List.mem_cons_self ..)
    simp only [cnP, List.length_append, sqP_len, List.length_cons]; omega
theorem ruP_len : ∀ (l : List Ru) (i : Nat), (∀ r, r ∈ l → r.conj.length ≤ 8 ∧ ∀ c, c ∈ r.conj → c.seq.length ≤ 64) → (ruP i l).length ≤ l.length * 520
  | [], _, _ => by simp [ruP]
  | r :: l, i, h => by
    have h1 := ruP_len l (i + 1) (fun c hc => h c (List.mem_cons_of_mem _ hc))
    have h2 := h r (List.mem_cons_self ..)
    have h3 := cnP_len i r.conj 0 h2.2
    simp only [ruP, List.length_append, List.length_cons]; omega
theorem PlIn.len {l : List Ru} (h : PlIn l) : (ruP 0 l).length ≤ 133120 := by
  have := ruP_len l 0 h.2
  have := h.1
  omega
theorem mayCsP (k : Nat) : ∀ (l : List Cn) (n m : Nat), mayCs k n l = some m → ∀ c, c ∈ l → c.seq.length ≤ 64
  | [], _, _, _, c, hc => by simp at hc
  | a :: l, n, m, e, c, hc => by
    unfold mayCs at e
    split at e
    · rename_i h
      rcases List.mem_cons.1 hc with rfl | hc
      · have := h.2
        unfold mayRow at this
        simp only [Bool.and_eq_true, decide_eq_true_eq] at this
        exact this.1
      · exact mayCsP k l _ m e c hc
    · cases e
theorem mayRsP (k : Nat) : ∀ (l : List Ru) (n : Nat), mayRs k n l = true → ∀ r, r ∈ l → r.conj.length ≤ 8 ∧ ∀ c, c ∈ r.conj → c.seq.length ≤ 64
  | [], _, _, r, hr => by simp at hr
  | a :: l, n, e, r, hr => by
    unfold mayRs at e
    split at e
    · rename_i h
      split at e
      · cases e
      · rename_i m hm
        rcases List.mem_cons.1 hr with rfl | hr
        · exact ⟨h.2, mayCsP k _ n m hm⟩
        · exact mayRsP k l m e r hr
    · cases e
theorem mayG_plIn {g : Gr} (h : mayG g = true) : PlIn g.rules := by
  unfold mayG mayRules at h
  simp only [Bool.and_eq_true, decide_eq_true_eq] at h
  exact ⟨h.2.2.2.2.1, mayRsP _ _ _ h.2.2.2.2.2⟩
theorem cnP_drop {i j : Nat} {l : List Cn} {c : Cn} (h : l[j]? = some c) : cnP i j (l.drop j) = sqP i j 0 (c.seq.length + 1) ++ cnP i (j + 1) (l.drop (j + 1)) := by
  obtain ⟨hl, e⟩ := List.getElem?_eq_some_iff.1 h
  rw [List.drop_eq_getElem_cons hl, e]; rfl
theorem ruP_drop {i : Nat} {l : List Ru} {r : Ru} (h : l[i]? = some r) : ruP i (l.drop i) = cnP i 0 (r.conj.drop 0) ++ ruP (i + 1) (l.drop (i + 1)) := by
  obtain ⟨hl, e⟩ := List.getElem?_eq_some_iff.1 h
  rw [List.drop_eq_getElem_cons hl, e]; rfl
theorem ruP_end {l : List Ru} : ruP l.length (l.drop l.length) = [] := by simp [ruP]
theorem cnP_end {i : Nat} {l : List Cn} : cnP i l.length (l.drop l.length) = [] := by simp [cnP]
theorem sqP_more {i j k n : Nat} (h : k < n) : sqP i j k (n - k) = ((i : Int), (j : Int), (k : Int)) :: sqP i j (k + 1) (n - (k + 1)) := by
  obtain ⟨m, e⟩ : ∃ m, n - k = m + 1 := ⟨n - k - 1, by omega⟩
  rw [e, show n - (k + 1) = m by omega]; rfl
end Go.Proofs.Ytopokicdgdjgkaa
