/- BinSizes: its grammar and what Bin makes of it. No program in sight but by imports. -/
import Derived.Test.YtgpklcpmabafmaaDoorBinSizesW
import Derived.Test.YtgpklcpmabafmaaDoorBinNamesT
namespace Go.Proofs.YtgpklcpmabafmaaDoor
set_option linter.unusedVariables false
set_option linter.unusedSimpArgs false

theorem rusZ_at {K : Nat → Nat} {N : Nat → Bool} {m i : Nat} (h : i < m) : (rusZ K N m)[i]? = some ⟨0, [⟨N i, sqZ i (K i)⟩]⟩ := by
  unfold rusZ; rw [List.getElem?_map, List.getElem?_range h]; rfl
theorem rowsR_app : ∀ (a b : List Ru), rowsR (a ++ b) = rowsR a ++ rowsR b
  | [], b => rfl
  | r :: a, b => by
    show rowsC r.conj ++ rowsR (a ++ b) = rowsC r.conj ++ rowsR a ++ rowsR b
    rw [rowsR_app a b, List.append_assoc]
theorem rows_Z (K : Nat → Nat) (N : Nat → Bool) : ∀ m, (rowsR (rusZ K N m)).length = moreZ K m
  | 0 => rfl
  | m + 1 => by
    rw [rusZ_succ, rowsR_app, List.length_append, rows_Z K N m]
    show moreZ K m + ((addT (sqZ m (K m)) ++ []) ++ []).length = moreZ K m + (K m - 2)
    simp only [List.append_nil]
    rw [addT_len, sqZ_len]
theorem sqZ_may {i k : Nat} (hi : i ≤ 8) (hk : k ≤ 7) : mayRow 1 (sqZ i k) = true := by
  unfold mayRow
  simp only [Bool.and_eq_true, decide_eq_true_eq, List.all_eq_true]
  refine ⟨by rw [sqZ_len]; omega, fun s hs => ?_⟩
  unfold sqZ at hs
  obtain ⟨j, hj, rfl⟩ := List.mem_map.1 hs
  have hj2 := List.mem_range.1 hj
  unfold maySym
  rw [if_pos rfl]
  simp only [Bool.and_eq_true, decide_eq_true_eq]
  omega
theorem heads_Z (K : Nat → Nat) (N : Nat → Bool) (m : Nat) (hm : 0 < m) : mayHeads 1 (-1) (rusZ K N m) = true := by
  have h0 : ∀ (l : List Ru), (∀ r, r ∈ l → r.head = 0) → mayHeads 1 0 l = true := fun l => by
    induction l with
    | nil => intro _; rfl
    | cons r l ih =>
      intro h
      show (isNum r.head 1 && ((decide (r.head = 0) || decide (r.head = 0 + 1)) && mayHeads 1 r.head l)) = true
      rw [h r (by simp), ih (fun q hq => h q (by simp [hq]))]
      rfl
  have hall : ∀ r, r ∈ rusZ K N m → r.head = 0 := fun r hr => by
    unfold rusZ at hr
    obtain ⟨i, _, rfl⟩ := List.mem_map.1 hr
    rfl
  cases hl : rusZ K N m with
  | nil =>
    have := rusZ_len K N m
    rw [hl] at this
    simp at this
    omega
  | cons r l =>
    rw [hl] at hall
    show (isNum r.head 1 && ((decide (r.head = -1) || decide (r.head = -1 + 1)) && mayHeads 1 r.head l)) = true
    rw [hall r (by simp), h0 l (fun q hq => hall q (by simp [hq]))]
    rfl
theorem symsR_Z (K : Nat → Nat) (hK : ∀ i, K i ≤ 7) (N : Nat → Bool) : ∀ m, symsR (rusZ K N m) ≤ 7 * m
  | 0 => Nat.le_refl _
  | m + 1 => by
    rw [rusZ_succ, symsR_appY]
    have := symsR_Z K hK N m
    have := hK m
    show symsR (rusZ K N m) + ((sqZ m (K m)).length + 0 + 0) ≤ _
    rw [sqZ_len]
    omega
theorem may_Z (K : Nat → Nat) (hK : ∀ i, K i ≤ 7) (N : Nat → Bool) (m : Nat) (h0 : 0 < m) (hm : m ≤ 8) : mayG (gZ K N m) = true := by
  have hl := rusZ_len K N m
  unfold mayG gZ mayRules
  simp only [Bool.and_eq_true, decide_eq_true_eq]
  refine ⟨by kernel_rfl, by kernel_rfl, heads_Z K N m h0, by omega, by omega, ?_⟩
  refine mayRs_ofY _ 0 (fun r hr => ?_) (by have := symsR_Z K hK N m; omega)
  unfold rusZ at hr
  obtain ⟨i, hi, rfl⟩ := List.mem_map.1 hr
  have hi2 := List.mem_range.1 hi
  refine ⟨⟨Nat.le_refl _, by show 1 ≤ 8; omega⟩, fun c hc => ?_⟩
  rw [List.mem_singleton.1 hc]
  exact sqZ_may (by omega) (hK i)
theorem restR_at (n : Nat) : ∀ (l : List (List Sy)) (i q : Nat) (r : List Sy), l[q]? = some r → (restR n i l)[q]? = some ⟨((n + (i + q) : Nat) : Int), [⟨false, pairT r ((n + (i + q) + 1 : Nat) : Int)⟩]⟩
  | [], i, q, r, h => by simp at h
  | d :: l, i, q, r, h => by
    cases q with
    | zero =>
      have e : d = r := by simpa using h
      subst e
      rfl
    | succ q =>
      have h2 : l[q]? = some r := by simpa using h
      have h3 := restR_at n l (i + 1) q r h2
      show (restR n (i + 1) l)[q]? = _
      rw [h3, show i + 1 + q = i + (q + 1) by omega]
theorem addT_two : ∀ (l : List Sy), ∀ r, r ∈ addT l → 2 ≤ r.length
  | [], r, h => by cases h
  | s :: l, r, h => by
    by_cases hc : 2 ≤ l.length
    · rw [addT_long (by simp; omega)] at h
      rcases List.mem_cons.1 h with h | h
      · rw [h]; exact hc
      · exact addT_two l r h
    · rw [addT_short (by simp; omega)] at h; cases h
theorem rowsR_two : ∀ (L : List Ru), ∀ r, r ∈ rowsR L → 2 ≤ r.length
  | [], r, h => by cases h
  | q :: L, r, h => by
    have hc : ∀ (l : List Cn), ∀ r, r ∈ rowsC l → 2 ≤ r.length := fun l => by
      induction l with
      | nil => intro r h; cases h
      | cons c l ih =>
        intro r h
        rcases List.mem_append.1 h with h | h
        · exact addT_two c.seq r h
        · exact ih r h
    rcases List.mem_append.1 h with h | h
    · exact hc q.conj r h
    · exact rowsR_two L r h
theorem pairT_two {l : List Sy} (h : 2 ≤ l.length) (k : Int) : (pairT l k).length = 2 := by
  unfold pairT
  split
  · omega
  · rfl
theorem cutR_at (n : Nat) : ∀ (L : List Ru) (q i : Nat) (h : Int) (b : Bool) (sq : List Sy), L[i]? = some ⟨h, [⟨b, sq⟩]⟩ → ∃ z : Nat, (cutR n q L)[i]? = some ⟨h, [⟨b, pairT sq ((n + z : Nat) : Int)⟩]⟩
  | [], q, i, h, b, sq, e => by simp at e
  | d :: L, q, i, h, b, sq, e => by
    cases i with
    | zero =>
      have e2 : d = ⟨h, [⟨b, sq⟩]⟩ := by simpa using e
      subst e2
      exact ⟨q, rfl⟩
    | succ i =>
      have e2 : L[i]? = some ⟨h, [⟨b, sq⟩]⟩ := by simpa using e
      exact cutR_at n L _ i h b sq e2
end Go.Proofs.YtgpklcpmabafmaaDoor
