/- A name that is another one, its negation, both: ranks; plain. No program in sight. -/
import Derived.Test.YtfjejnkjlnkkhaaGreatDoorGc
namespace Go.Proofs.YtfjejnkjlnkkhaaGreatDoor
set_option linter.unusedVariables false

section
variable {b : Nat → Nat} {n m k : Nat} {L : List Ru} {M M' : SpM}
theorem ext_at {r0 r : Ru} {q : Nat} (h : (L ++ [r0])[q]? = some r) : L[q]? = some r ∨ q = L.length ∧ r = r0 := by
  by_cases hq : q < L.length
  · left
    rw [List.getElem?_append_left hq] at h
    exact h
  · right
    rw [List.getElem?_append_right (by omega)] at h
    have h1 : q - L.length = 0 := by
      have := (List.getElem?_eq_some_iff.1 h).1
      simp at this
      omega
    rw [h1] at h
    simp at h
    exact ⟨by omega, h.symm⟩
/-- What has a rank beside a new name had it without it. -/
theorem rkS_back {r0 : Ru} (hf : FrM L m) (h0 : r0.head.toNat = m) (hM : ∀ x i j, x ≠ m → M' x i j = M x i j) : ∀ t,
    (∀ x i j, x ≠ m → (rkS b (L ++ [r0]) M' t).1 x i j = true → (rkS b L M t).1 x i j = true) ∧ ∀ q c p i j, q < L.length → (rkS b (L ++ [r0]) M' t).2 q c p i j = true → (rkS b L M t).2 q c p i j = true
  | 0 => ⟨fun _ _ _ _ h => (by cases h), fun _ _ _ _ _ _ h => (by cases h)⟩
  | t + 1 => by
    obtain ⟨h1, h2⟩ := rkS_back hf h0 hM t
    refine ⟨fun x i j hx h => ?_, fun q c p i j hq h => ?_⟩
    · obtain ⟨hm, q, r, e1, e2, e3, e4⟩ := rkS_name.1 h
      rcases ext_at e1 with e1' | ⟨-, rfl⟩
      · have hrL : r ∈ L := List.mem_of_getElem? e1'
        have hql : q < L.length := (List.getElem?_eq_some_iff.1 e1').1
        refine rkS_name.2 ⟨by rw [← hM x i j hx]; exact hm, q, r, e1', e2, ?_, ?_⟩
        · rw [← red3_self] at e3 ⊢
          rw [red3_congr (A' := M') (X' := M') (fun c hc s hs hn i j => (hM _ i j ((hf r hrL).2 c hc s hs hn)).symm) (fun c hc s hs hn i j => (hM _ i j ((hf r hrL).2 c hc s hs hn)).symm)]
          exact e3
        · unfold ranS at e4 ⊢
          rw [List.all_eq_true] at e4 ⊢
          intro c hc
          have h9 := e4 c hc
          rw [Bool.or_eq_true] at h9 ⊢
          rcases h9 with h9 | h9
          · exact Or.inl h9
          · exact Or.inr (h2 q c 0 i j hql h9)
      · exact absurd (e2.symm.trans h0) hx
    · have hr : L[q]? = some L[q] := List.getElem?_eq_getElem hq
      have hr' : (L ++ [r0])[q]? = some L[q] := by rw [List.getElem?_append_left hq]; exact hr
      have hrL : L[q] ∈ L := List.getElem_mem hq
      cases hd : L[q].conj[c]? with
      | none =>
        have h' : (match (L ++ [r0])[q]? with | none => false | some r => match r.conj[c]? with | none => false | some d => decide (p ≤ d.seq.length) && (restB b M' (d.seq.drop p) i j && stpS b (rkS b (L ++ [r0]) M' t).1 (rkS b (L ++ [r0]) M' t).2 q c p d.seq i j)) = true := h
        rw [hr'] at h'
        simp only at h'
        rw [hd] at h'
        cases h'
      | some d =>
        obtain ⟨e1, e2, e3⟩ := (rkS_rest hr' hd).1 h
        have hdL : d ∈ L[q].conj := List.mem_of_getElem? hd
        refine (rkS_rest hr hd).2 ⟨e1, ?_, ?_⟩
        · rw [restB_congr (N := M') fun s hs hn i j => (hM _ i j ((hf _ hrL).2 d hdL s (List.mem_of_mem_drop hs) hn)).symm]
          exact e2
        · unfold stpS at e3 ⊢
          cases hs : d.seq[p]? with
          | none => rw [hs] at e3; exact e3
          | some s =>
            rw [hs] at e3
            simp only at e3 ⊢
            split at e3
            · rename_i en
              rw [if_pos en]
              simp only [Bool.and_eq_true] at e3 ⊢
              exact ⟨e3.1, e3.2.1, h2 _ _ _ _ _ hq e3.2.2⟩
            · rename_i en
              rw [if_neg en]
              rw [List.any_eq_true] at e3 ⊢
              obtain ⟨e, he, h9⟩ := e3
              simp only [Bool.and_eq_true] at h9
              refine ⟨e, he, ?_⟩
              simp only [Bool.and_eq_true]
              exact ⟨h9.1, h1 _ _ _ ((hf _ hrL).2 d hdL s (List.mem_of_getElem? hs) en) h9.2.1, h2 _ _ _ _ _ hq h9.2.2⟩
/-- The three rows of conjuncts. -/
def sgP (k : Nat) : List Cn := [⟨false, [⟨(k : Int), 0, 0⟩]⟩]
def sgN (k : Nat) : List Cn := [⟨true, [⟨(k : Int), 0, 0⟩]⟩]
def sgB (k : Nat) : List Cn := [⟨false, [⟨(k : Int), 0, 0⟩]⟩, ⟨true, [⟨(k : Int), 0, 0⟩]⟩]
theorem restB_nm {y i j : Nat} (h : i ≤ j) : restB b M [⟨(y : Int), 0, 0⟩] i j = M y i j := by
  show (if (y : Int) = -1 then _ else (List.range (j + 1)).any fun k2 => decide (i ≤ k2) && (M ((y : Int)).toNat i k2 && restB b M [] k2 j)) = _
  rw [if_neg (by omega), Bool.eq_iff_iff, List.any_eq_true]
  simp only [Bool.and_eq_true, decide_eq_true_eq, List.mem_range, Int.toNat_natCast]
  constructor
  · rintro ⟨k2, h1, h2, h3, h4⟩
    have : k2 = j := of_decide_eq_true h4
    subst this; exact h3
  · intro h1
    exact ⟨j, by omega, h, h1, decide_eq_true rfl⟩
theorem hol_pos {i j : Nat} (h : i ≤ j) : holB3 b M ⟨(m : Int), sgP k⟩ i j = M k i j := by
  unfold holB3 sgP conB3
  simp only [List.all_cons, List.all_nil, Bool.and_true]
  rw [restB_nm h]
  cases M k i j <;> rfl
theorem hol_neg {i j : Nat} (h : i ≤ j) : holB3 b M ⟨(m : Int), sgN k⟩ i j = !M k i j := by
  unfold holB3 sgN conB3
  simp only [List.all_cons, List.all_nil, Bool.and_true]
  rw [restB_nm h]
  cases M k i j <;> rfl
theorem hol_bot {i j : Nat} (h : i ≤ j) : holB3 b M ⟨(m : Int), sgB k⟩ i j = false := by
  unfold holB3 sgB conB3
  simp only [List.all_cons, List.all_nil, Bool.and_true]
  rw [restB_nm h]
  cases M k i j <;> rfl
/-- What has a negation alone has rank one. -/
theorem rank_neg {i j : Nat} (hr : (rkS b (L ++ [⟨(m : Int), sgN k⟩]) M' n).1 m i j = true) (hM : M' m i j = true) (hij : i ≤ j) (hk : M' k i j = false) : rnkN b (L ++ [⟨(m : Int), sgN k⟩]) M' n m i j = 1 := by
  have h1 : rnkN b (L ++ [⟨(m : Int), sgN k⟩]) M' n m i j ≠ 0 := (fstAt_pos (rkN_up m i j) rfl n).2 hr
  have h2 : rnkN b (L ++ [⟨(m : Int), sgN k⟩]) M' n m i j ≤ 1 := by
    refine fstAt_le (rkN_up m i j) rfl ?_
    show (rkS b (L ++ [⟨(m : Int), sgN k⟩]) M' (0 + 1)).1 m i j = true
    refine rkS_name.2 ⟨hM, L.length, ⟨(m : Int), sgN k⟩, by simp, by simp, ?_, ?_⟩
    · rw [hol_neg hij, hk]; rfl
    · unfold ranS sgN
      rfl
  omega
/-- What is another one has a rank above that one's. -/
theorem rank_pos {n' i j : Nat} (hf : FrM L m) (hkm : k ≠ m) (hE : ∀ x i j, x ≠ m → M' x i j = M x i j) (hr : (rkS b (L ++ [⟨(m : Int), sgP k⟩]) M' n').1 m i j = true) : rnkN b L M n k i j < rnkN b (L ++ [⟨(m : Int), sgP k⟩]) M' n' m i j := by
  have h1 : rnkN b (L ++ [⟨(m : Int), sgP k⟩]) M' n' m i j ≠ 0 := (fstAt_pos (rkN_up m i j) rfl n').2 hr
  obtain ⟨h2, -, -⟩ := fstAt_is (rkN_up m i j) rfl n' h1
  obtain ⟨R, hR⟩ : ∃ R, rnkN b (L ++ [⟨(m : Int), sgP k⟩]) M' n' m i j = R := ⟨_, rfl⟩
  have h3 : (rkS b (L ++ [⟨(m : Int), sgP k⟩]) M' R).1 m i j = true := by rw [← hR]; exact h2
  rw [hR] at h1 ⊢
  cases R with
  | zero => exact absurd rfl h1
  | succ R1 =>
    obtain ⟨-, q, r, e1, e2, e3, e4⟩ := rkS_name.1 h3
    rcases ext_at e1 with e1' | ⟨hq, rfl⟩
    · exact absurd e2 (hf r (List.mem_of_getElem? e1')).1
    · have h5 : (rkS b (L ++ [⟨(m : Int), sgP k⟩]) M' R1).2 q 0 0 i j = true := by
        unfold ranS at e4
        have := List.all_eq_true.1 e4 0 (List.mem_range.2 (by show 0 < 1; omega))
        exact this
      cases R1 with
      | zero => cases h5
      | succ R2 =>
        obtain ⟨-, -, h6⟩ := (rkS_rest e1 (c := 0) (d := ⟨false, [⟨(k : Int), 0, 0⟩]⟩) rfl).1 h5
        have h7 : (if (k : Int) = -1 then decide (i < j) && (inR b ⟨(k : Int), 0, 0⟩ i && (rkS b (L ++ [⟨(m : Int), sgP k⟩]) M' R2).2 q 0 (0 + 1) (i + 1) j) else (List.range (j + 1)).any fun e => decide (i ≤ e) && ((rkS b (L ++ [⟨(m : Int), sgP k⟩]) M' R2).1 ((k : Int)).toNat i e && (rkS b (L ++ [⟨(m : Int), sgP k⟩]) M' R2).2 q 0 (0 + 1) e j)) = true := h6
        rw [if_neg (by omega), List.any_eq_true] at h7
        obtain ⟨e, -, h8⟩ := h7
        simp only [Bool.and_eq_true, Int.toNat_natCast] at h8
        have h9 := rkR_in e1 (c := 0) (d := ⟨false, [⟨(k : Int), 0, 0⟩]⟩) rfl h8.2.2
        have h10 : e = j := of_decide_eq_true h9
        subst h10
        have h11 := ((rkS_back hf (by simp) hE R2).1 k i e hkm h8.2.1)
        have h12 : rnkN b L M n k i e ≤ R2 := fstAt_le (rkN_up k i e) rfl h11
        omega
end
end Go.Proofs.YtfjejnkjlnkkhaaGreatDoor
