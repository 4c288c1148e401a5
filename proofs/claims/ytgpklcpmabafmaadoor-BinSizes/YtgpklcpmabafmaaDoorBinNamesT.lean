/- BinNames: its grammar, its new names. No program in sight but by imports. -/
import Derived.Test.YtgpklcpmabafmaaDoorBinNamesW
import Derived.Test.YtgpklcpmabafmaaDoorBinY
namespace Go.Proofs.YtgpklcpmabafmaaDoor
set_option linter.unusedVariables false
set_option linter.unusedSimpArgs false

set_option maxRecDepth 100000 in
theorem dec_dS : ∀ n, n < 100 → (decT n).data.toList = dS n := by decide +kernel
theorem nmQ_eq {n : Nat} (h : n < 100) : nmQ n = nmS n := by
  have h1 : (nmQ n).data.toList = (nmS n).data.toList := by
    show _ = 95 :: dS n
    rw [← dec_dS n h]
    unfold nmQ
    simp
  exact ByteArray.ext (Array.toList_inj.1 h1)
theorem nmS_inj {a b : Nat} (ha : a < 100) (hb : b < 100) (h : nmS a = nmS b) : a = b := dD_inj a b ha hb (by rw [nm_eqY ha, nm_eqY hb, h])
theorem nmS_S (k : Nat) : nmS k ≠ ⟨#[83]⟩ := fun e => by
  have h : (nmS k).data.toList = (⟨#[83]⟩ : ByteArray).data.toList := by rw [e]
  have h2 : 95 :: dS k = [83] := h
  injection h2 with h2 _
  cases h2
theorem namesB_s (T : Nat → Nat) (i : Nat) : namesB T (i + 1) = if usedB T i (T i) = true then namesB T i else namesB T i ++ [nmQ (T i)] := rfl
theorem rulesB_s (T : Nat → Nat) (k i : Nat) : rulesB T k (i + 1) = if usedB T i (T i) = true then rulesB T k i else rulesB T k i ++ [⟨((namesB T i).length : Int), [⟨false, []⟩]⟩] := rfl
theorem used_iff (T : Nat → Nat) (hT : ∀ i, T i < 16) : ∀ i t, t < 100 → (usedB T i t = true ↔ nmS t ∈ namesB T i)
  | 0, t, ht => by
    constructor
    · intro h; cases h
    · intro h; exact absurd (List.mem_singleton.1 h) (nmS_S t)
  | i + 1, t, ht => by
    have ih := used_iff T hT i
    show (usedB T i t || decide (t = T i)) = true ↔ _
    rw [Bool.or_eq_true, decide_eq_true_eq, ih t ht, namesB_s]
    by_cases hu : usedB T i (T i) = true
    · rw [if_pos hu]
      constructor
      · rintro (h | h)
        · exact h
        · rw [h]; exact (ih (T i) (by have := hT i; omega)).1 hu
      · exact Or.inl
    · rw [if_neg hu, List.mem_append, List.mem_singleton, nmQ_eq (by have := hT i; omega)]
      constructor
      · rintro (h | h)
        · exact Or.inl h
        · exact Or.inr (by rw [h])
      · rintro (h | h)
        · exact Or.inl h
        · exact Or.inr (nmS_inj ht (by have := hT i; omega) h)
theorem may_namesB (T : Nat → Nat) (hT : ∀ i, T i < 16) : ∀ i, i ≤ 8 → mayNames (namesB T i) = true
  | 0, _ => by kernel_rfl
  | i + 1, hi => by
    have ih := may_namesB T hT i (by omega)
    rw [namesB_s]
    by_cases hu : usedB T i (T i) = true
    · rw [if_pos hu]; exact ih
    · rw [if_neg hu]
      have h16 := hT i
      refine mayNames_appY ih (fun s hs => ?_) (by simp) (fun s hs h => ?_) (by have := namesB_len T i; simp; omega)
      · rw [List.mem_singleton.1 hs, nmQ_eq (by omega)]; exact nm_namesY _ (by omega)
      · rw [List.mem_singleton.1 hs, nmQ_eq (by omega)] at h
        exact hu ((used_iff T hT i (T i) (by omega)).2 h)
theorem rulesB_is (T : Nat → Nat) (k : Nat) : ∀ i, rulesB T k i = ⟨0, [⟨false, List.replicate k ⟨0, 0, 0⟩⟩]⟩ :: restR 1 0 (List.replicate ((namesB T i).length - 1) [])
  | 0 => rfl
  | i + 1 => by
    have ih := rulesB_is T k i
    have hl := (namesB_len T i).1
    rw [rulesB_s, namesB_s]
    by_cases hu : usedB T i (T i) = true
    · rw [if_pos hu, if_pos hu]; exact ih
    · rw [if_neg hu, if_neg hu, ih, List.length_append]
      have hr : ∀ n j, restR 1 j (List.replicate n []) ++ [(⟨((1 + (j + n) : Nat) : Int), [⟨false, []⟩]⟩ : Ru)] = restR 1 j (List.replicate (n + 1) []) := fun n => by
        induction n with
        | zero => intro j; rfl
        | succ n ih =>
          intro j
          show (⟨((1 + j : Nat) : Int), [⟨false, pairT [] _⟩]⟩ : Ru) :: (restR 1 (j + 1) (List.replicate n []) ++ _) = (⟨((1 + j : Nat) : Int), [⟨false, pairT [] _⟩]⟩ : Ru) :: restR 1 (j + 1) (List.replicate (n + 1) [])
          rw [← ih (j + 1), show j + (n + 1) = j + 1 + n by omega]
      have h2 := hr ((namesB T i).length - 1) 0
      rw [show (1 + (0 + ((namesB T i).length - 1)) : Nat) = (namesB T i).length by omega] at h2
      rw [List.cons_append, h2]
      simp only [List.length_cons, List.length_nil]
      rw [show (namesB T i).length - 1 + 1 = (namesB T i).length + (0 + 1) - 1 by omega]
theorem rowsR_shortY : ∀ (L : List Ru), (∀ r, r ∈ L → ∀ c, c ∈ r.conj → c.seq.length ≤ 2) → rowsR L = []
  | [], _ => rfl
  | r :: L, h => by
    have hc : ∀ (l : List Cn), (∀ c, c ∈ l → c.seq.length ≤ 2) → rowsC l = [] := fun l => by
      induction l with
      | nil => intro _; rfl
      | cons c l ih =>
        intro h
        show addT c.seq ++ rowsC l = []
        rw [addT_short (h c (by simp)), ih (fun d hd => h d (by simp [hd]))]
        rfl
    show rowsC r.conj ++ rowsR L = []
    rw [hc r.conj (h r (by simp)), rowsR_shortY L (fun q hq => h q (by simp [hq]))]
    rfl
theorem syms_cutRY (n : Nat) : ∀ (L : List Ru) (q : Nat), (∀ r, r ∈ L → r.conj.length ≤ 1) → symsR (cutR n q L) ≤ 2 * L.length
  | [], _, _ => Nat.zero_le _
  | r :: L, q, h => by
    show symsC (cutC n q r.conj) + symsR (cutR n (q + (rowsC r.conj).length) L) ≤ 2 * (L.length + 1)
    have := syms_cutCY n r.conj q
    have := h r (by simp)
    have := syms_cutRY n L (q + (rowsC r.conj).length) (fun s hs => h s (by simp [hs]))
    omega
theorem restR_one (n : Nat) : ∀ (l : List (List Sy)) (i : Nat), ∀ r, r ∈ restR n i l → r.conj.length = 1
  | [], _, r, h => by cases h
  | d :: l, i, r, h => by
    have h1 : r ∈ (⟨((n + i : Nat) : Int), [⟨false, pairT d ((n + i + 1 : Nat) : Int)⟩]⟩ :: restR n (i + 1) l : List Ru) := h
    rcases List.mem_cons.1 h1 with h1 | h1
    · rw [h1]; rfl
    · exact restR_one n l _ r h1
theorem rows_N (T : Nat → Nat) (r i : Nat) : (rowsR (gN T (3 + r) i).rules).length = r + 1 := by
  show (rowsR (rulesB T (3 + r) i)).length = _
  rw [rulesB_is]
  show ((addT (List.replicate (3 + r) ⟨0, 0, 0⟩) ++ []) ++ rowsR (restR 1 0 _)).length = _
  rw [rowsR_shortY _ (restR_two 1 _ 0)]
  simp only [List.append_nil]
  rw [addT_len, List.length_replicate]
  omega
theorem may_N (T : Nat → Nat) (hT : ∀ i, T i < 16) (k i : Nat) (hk : k ≤ 10) (hi : i ≤ 8) : mayG (gN T k i) = true := by
  have hl := namesB_len T i
  have hr := rulesB_is T k i
  have hrl := rulesB_len T k i
  unfold mayG gN mayRules
  simp only [Bool.and_eq_true, decide_eq_true_eq]
  refine ⟨may_namesB T hT i hi, ?_, ?_, by omega, by omega, ?_⟩
  · exact isNum_natY (i := 0) (by omega)
  · rw [hr]
    show (isNum 0 _ && ((decide ((0 : Int) = -1) || decide ((0 : Int) = -1 + 1)) && mayHeads _ 0 (restR 1 0 _))) = true
    have h1 := isNum_natY (i := 0) (k := (namesB T i).length) (by omega)
    have h2 := heads_restY (n := 1) (k := (namesB T i).length) (List.replicate ((namesB T i).length - 1) []) 0 (by simp; omega)
    rw [show (((1 + 0 : Nat) : Int) - 1) = 0 from rfl] at h2
    rw [h2]
    rw [show isNum 0 (namesB T i).length = true from h1]
    rfl
  · refine mayRs_ofY _ 0 (fun r hr' => ?_) ?_
    · rw [hr] at hr'
      rcases List.mem_cons.1 hr' with e | hr'
      · rw [e]
        refine ⟨⟨Nat.le_refl _, by show 1 ≤ 8; omega⟩, fun c hc => ?_⟩
        rw [List.mem_singleton.1 hc]
        unfold mayRow
        simp only [Bool.and_eq_true, decide_eq_true_eq, List.all_eq_true, List.length_replicate]
        refine ⟨by omega, fun s hs => ?_⟩
        rw [List.eq_of_mem_replicate hs]
        exact maySym_natY (i := 0) (by omega)
      · exact restR_okY (n := 1) (by omega) _ 0 (fun x hx => by rw [List.eq_of_mem_replicate hx]; rfl) (fun x hx => by have := List.eq_of_mem_replicate (List.mem_of_getLast? hx); rw [this]; simp) (by simp; omega) r hr'
    · rw [hr]
      show 0 + ((List.replicate k (⟨0, 0, 0⟩ : Sy)).length + 0 + symsR (restR 1 0 _)) ≤ 1024
      have := syms_restY 1 (List.replicate ((namesB T i).length - 1) []) 0
      rw [List.length_replicate] at this
      rw [List.length_replicate]
      omega
theorem fresh_preS (ns : List ByteArray) : ∀ k m, ∃ t, freshS ns (m + k) = freshS ns m ++ t
  | 0, m => ⟨[], by simp⟩
  | k + 1, m => by
    obtain ⟨t, h⟩ := fresh_preS ns k m
    exact ⟨t ++ (if inB ns (nmS (m + k)) = true then [] else [nmS (m + k)]), by
      show freshS ns (m + k) ++ (if inB ns (nmS (m + k)) = true then [] else [nmS (m + k)]) = _
      rw [h, List.append_assoc]⟩
theorem fresh_manyS {ns : List ByteArray} : 100 ≤ (freshS ns 100).length + ns.length := by
  have h1 := fresh_hit dD ns 100
  have h2 := nodup_le (hitT dD ns 100) ns (hit_nodup dD ns dD_inj 100 (by omega)) (fun x hx => (hit_mem dD ns 100 x hx).1)
  rw [fresh_eqY 100 (by omega)] at h1
  omega
theorem fresh_takeS {ns : List ByteArray} {q : Nat} (m : Nat) (hm : m < 100) (h : (freshS ns m).length = q) : freshS ns m = (freshS ns 100).take q := by
  obtain ⟨t, e⟩ := fresh_preS ns (100 - m) m
  rw [show m + (100 - m) = 100 by omega] at e
  rw [e, ← h, List.take_left]
theorem fresh_memS {ns : List ByteArray} {x : ByteArray} (h : x ∈ freshS ns 100) : x ∉ ns ∧ ∃ i, i < 100 ∧ x = nmS i := by
  rw [← fresh_eqY 100 (by omega)] at h
  obtain ⟨h1, i, h2, h3⟩ := fresh_memY 100 x h
  exact ⟨h1, i, h2, by rw [h3, nm_eqY h2]⟩
theorem fresh_nodupS {ns : List ByteArray} : (freshS ns 100).Nodup := by
  rw [← fresh_eqY 100 (by omega)]
  exact fresh_nodupY dD_inj 100 (by omega)
/-- A Bin of known names may be. -/
theorem bin_mayZ {g : Gr} (hM : mayG g = true) {l : List ByteArray} (hN : mayNames (g.names ++ l) = true) (hl : l.length = (rowsR g.rules).length) (h2 : g.rules.length + (rowsR g.rules).length ≤ 256) (h3 : symsR (cutR g.names.length 0 g.rules) + 2 * (rowsR g.rules).length ≤ 1024) : mayG ⟨g.start, g.names ++ l, cutR g.names.length 0 g.rules ++ restR g.names.length 0 (rowsR g.rules)⟩ = true := by
  obtain ⟨p1, p2, p3, p4, p5⟩ := may_partsY hM
  have hlen : (g.names ++ l).length = g.names.length + (rowsR g.rules).length := by rw [List.length_append, hl]
  unfold mayG mayRules
  simp only [Bool.and_eq_true, decide_eq_true_eq]
  rw [hlen]
  refine ⟨hN, isNum_leY p2 (by omega), heads_binY rfl g.rules 0 (-1) p3, ?_, ?_, ?_⟩
  · rw [List.length_append, cutR_len]; omega
  · rw [List.length_append, cutR_len, restR_len]; omega
  · refine mayRs_ofY _ 0 (fun r hr => ?_) ?_
    · rcases List.mem_append.1 hr with hr | hr
      · exact cutR_okY (by omega) g.rules 0 p5 (by omega) r hr
      · exact restR_okY (by omega) _ 0 (rowsR_mayY g.rules p5) (last_rowsRY g.rules) (by omega) r hr
    · rw [symsR_appY]
      have := syms_restY g.names.length (rowsR g.rules) 0
      omega
theorem names_takeS {ns : List ByteArray} (h : mayNames ns = true) {q : Nat} (hq : ns.length + q ≤ 64) : mayNames (ns ++ (freshS ns 100).take q) = true := by
  refine mayNames_appY h (fun s hs => ?_) ((List.take_sublist _ _).nodup fresh_nodupS) (fun s hs => (fresh_memS (List.mem_of_mem_take hs)).1) (by have := List.length_take_le q (freshS ns 100); omega)
  obtain ⟨-, i, h2, h3⟩ := fresh_memS (List.mem_of_mem_take hs)
  rw [h3]; exact nm_namesY i h2
end Go.Proofs.YtgpklcpmabafmaaDoor
