/- The row of names of FirstsRows, plainly. -/
import Derived.Test.YtopokicdgdjgkaaFirL
import Derived.Test.YtopokicdgdjgkaaRefDec
namespace Go.Proofs.Ytopokicdgdjgkaa
set_option linter.unusedVariables false
set_option linter.unusedSimpArgs false

theorem mayCs_ofF {k : Nat} : ∀ (l : List Cn) (n : Nat), (∀ c, c ∈ l → mayRow k c.seq = true) → n + symsC l ≤ 1024 → mayCs k n l = some (n + symsC l)
  | [], n, _, _ => rfl
  | c :: l, n, h, hs => by
    have hs' : n + (c.seq.length + symsC l) ≤ 1024 := hs
    show (if n + c.seq.length ≤ 1024 ∧ mayRow k c.seq = true then mayCs k (n + c.seq.length) l else none) = some (n + (c.seq.length + symsC l))
    rw [if_pos ⟨by omega, h c (by simp)⟩, mayCs_ofF l _ (fun d hd => h d (by simp [hd])) (by omega)]
    congr 1
    omega
def symsL : List Ru → Nat
  | [] => 0
  | r :: l => symsC r.conj + symsL l
theorem mayRs_ofF {k : Nat} : ∀ (L : List Ru) (n : Nat), (∀ r, r ∈ L → RuOk k r) → n + symsL L ≤ 1024 → mayRs k n L = true
  | [], n, _, _ => rfl
  | r :: L, n, h, hs => by
    have hs' : n + (symsC r.conj + symsL L) ≤ 1024 := hs
    have hr := h r (by simp)
    show (if 1 ≤ r.conj.length ∧ r.conj.length ≤ 8 then (match mayCs k n r.conj with | none => false | some m => mayRs k m L) else false) = true
    rw [if_pos hr.1, mayCs_ofF r.conj n hr.2 (by omega)]
    exact mayRs_ofF L _ (fun q hq => h q (by simp [hq])) (by omega)
def nmR (i : Nat) : ByteArray := ⟨#[110]⟩ ++ decT i
def namesR : Nat → List ByteArray
  | 0 => [⟨#[83]⟩]
  | i + 1 => namesR i ++ [nmR i]
theorem namesR_len : ∀ i, (namesR i).length = i + 1
  | 0 => rfl
  | i + 1 => by show (namesR i ++ [nmR i]).length = _; rw [List.length_append, namesR_len i]; rfl
theorem namesR_may : ∀ k, k < 21 → mayNames (namesR k) = true := by decide +kernel
theorem namesR_small : ∀ k, k < 21 → (namesR k).all (fun s => decide (s.size ≤ 1000)) = true := by decide +kernel
def syR : Nat → List Sy
  | 0 => []
  | i + 1 => syR i ++ [⟨((i + 1 : Nat) : Int), 0, 0⟩]
theorem syR_len : ∀ i, (syR i).length = i
  | 0 => rfl
  | i + 1 => by show (syR i ++ [_]).length = _; rw [List.length_append, syR_len i]; rfl
/-- What a name adds: its byte, and nothing at all where it is marked. -/
def addR (T : Nat → Bool) (j : Nat) : List Ru := ⟨((j + 1 : Nat) : Int), [⟨false, [⟨-1, ((97 + j : Nat) : Int), ((97 + j : Nat) : Int)⟩]⟩]⟩ :: (if T j = true then [⟨((j + 1 : Nat) : Int), [⟨false, []⟩]⟩] else [])
def rulesK (T : Nat → Bool) (k : Nat) : Nat → List Ru
  | 0 => [⟨0, [⟨false, syR k⟩]⟩]
  | j + 1 => rulesK T k j ++ addR T j
def gK (T : Nat → Bool) (k : Nat) : Gr := ⟨0, namesR k, rulesK T k k⟩
/-- The same rules from one on. -/
def fromK (T : Nat → Bool) : Nat → Nat → List Ru
  | j, 0 => []
  | j, m + 1 => addR T j ++ fromK T (j + 1) m
theorem fromK_snoc (T : Nat → Bool) : ∀ m j, fromK T j (m + 1) = fromK T j m ++ addR T (j + m)
  | 0, j => by show addR T j ++ [] = [] ++ addR T (j + 0); simp
  | m + 1, j => by
    show addR T j ++ fromK T (j + 1) (m + 1) = (addR T j ++ fromK T (j + 1) m) ++ addR T (j + (m + 1))
    rw [fromK_snoc T m (j + 1), List.append_assoc, show j + 1 + m = j + (m + 1) by omega]
theorem rulesK_from (T : Nat → Bool) (k : Nat) : ∀ j, rulesK T k j = ⟨0, [⟨false, syR k⟩]⟩ :: fromK T 0 j
  | 0 => rfl
  | j + 1 => by
    show rulesK T k j ++ addR T j = _
    rw [rulesK_from T k j, fromK_snoc, Nat.zero_add]
    rfl
theorem rulesK_mem {T : Nat → Bool} {k : Nat} : ∀ {j : Nat} {r : Ru}, r ∈ rulesK T k j → r = ⟨0, [⟨false, syR k⟩]⟩ ∨ ∃ i, i < j ∧ (r = ⟨((i + 1 : Nat) : Int), [⟨false, [⟨-1, ((97 + i : Nat) : Int), ((97 + i : Nat) : Int)⟩]⟩]⟩ ∨ T i = true ∧ r = ⟨((i + 1 : Nat) : Int), [⟨false, []⟩]⟩)
  | 0, r, h => Or.inl (List.mem_singleton.1 h)
  | j + 1, r, h => by
    rcases List.mem_append.1 h with h | h
    · rcases rulesK_mem h with h | ⟨i, hi, h⟩
      · exact Or.inl h
      · exact Or.inr ⟨i, by omega, h⟩
    · refine Or.inr ⟨j, by omega, ?_⟩
      rcases List.mem_cons.1 h with h | h
      · exact Or.inl h
      · by_cases ht : T j = true
        · rw [if_pos ht] at h; exact Or.inr ⟨ht, List.mem_singleton.1 h⟩
        · rw [if_neg ht] at h; cases h
theorem rulesK_0 (T : Nat → Bool) (k j : Nat) : (⟨0, [⟨false, syR k⟩]⟩ : Ru) ∈ rulesK T k j := by rw [rulesK_from]; exact List.mem_cons_self ..
theorem rulesK_b {T : Nat → Bool} {k : Nat} : ∀ {j i : Nat}, i < j → (⟨((i + 1 : Nat) : Int), [⟨false, [⟨-1, ((97 + i : Nat) : Int), ((97 + i : Nat) : Int)⟩]⟩]⟩ : Ru) ∈ rulesK T k j
  | j + 1, i, h => by
    by_cases e : i = j
    · subst e; exact List.mem_append_right _ (List.mem_cons_self ..)
    · exact List.mem_append_left _ (rulesK_b (by omega))
theorem rulesK_e {T : Nat → Bool} {k : Nat} : ∀ {j i : Nat}, i < j → T i = true → (⟨((i + 1 : Nat) : Int), [⟨false, []⟩]⟩ : Ru) ∈ rulesK T k j
  | j + 1, i, h, ht => by
    by_cases e : i = j
    · subst e
      refine List.mem_append_right _ (List.mem_cons_of_mem _ ?_)
      rw [if_pos ht]; exact List.mem_cons_self ..
    · exact List.mem_append_left _ (rulesK_e (by omega) ht)
theorem addR_len (T : Nat → Bool) (j : Nat) : 1 ≤ (addR T j).length ∧ (addR T j).length ≤ 2 := by
  unfold addR; split <;> simp
theorem rulesK_len (T : Nat → Bool) (k : Nat) : ∀ j, 1 ≤ (rulesK T k j).length ∧ (rulesK T k j).length ≤ 2 * j + 1
  | 0 => by show 1 ≤ 1 ∧ 1 ≤ _; omega
  | j + 1 => by
    have h1 := rulesK_len T k j
    have h2 := addR_len T j
    show 1 ≤ (rulesK T k j ++ addR T j).length ∧ (rulesK T k j ++ addR T j).length ≤ _
    rw [List.length_append]; omega
theorem symsL_app : ∀ l m : List Ru, symsL (l ++ m) = symsL l + symsL m
  | [], m => by show symsL m = 0 + _; omega
  | r :: l, m => by show symsC r.conj + symsL (l ++ m) = symsC r.conj + symsL l + symsL m; rw [symsL_app l m]; omega
theorem addR_syms (T : Nat → Bool) (j : Nat) : symsL (addR T j) = 1 := by unfold addR; split <;> rfl
theorem rulesK_syms (T : Nat → Bool) (k : Nat) : ∀ j, symsL (rulesK T k j) = k + j
  | 0 => by show (syR k).length + 0 + 0 = _; rw [syR_len]
  | j + 1 => by show symsL (rulesK T k j ++ addR T j) = _; rw [symsL_app, addR_syms, rulesK_syms T k j]; omega
theorem heads_from (T : Nat → Bool) (n : Nat) : ∀ m j, j + m + 1 = n → mayHeads n (j : Int) (fromK T j m) = true
  | 0, j, h => by show decide ((j : Int) = (n : Int) - 1) = true; exact decide_eq_true (by omega)
  | m + 1, j, h => by
    have ih := heads_from T n m (j + 1) (by omega)
    have n1 : isNum ((j + 1 : Nat) : Int) n = true := by unfold isNum; simp only [Bool.and_eq_true, decide_eq_true_eq]; omega
    have a1 : (decide (((j + 1 : Nat) : Int) = (j : Int)) || decide (((j + 1 : Nat) : Int) = (j : Int) + 1)) = true := by rw [Bool.or_eq_true]; right; exact decide_eq_true (by omega)
    have a2 : (decide (((j + 1 : Nat) : Int) = ((j + 1 : Nat) : Int)) || decide (((j + 1 : Nat) : Int) = ((j + 1 : Nat) : Int) + 1)) = true := by rw [Bool.or_eq_true]; left; exact decide_eq_true rfl
    show mayHeads n (j : Int) (addR T j ++ fromK T (j + 1) m) = true
    unfold addR
    split
    · show (isNum ((j + 1 : Nat) : Int) n && ((decide (((j + 1 : Nat) : Int) = (j : Int)) || decide (((j + 1 : Nat) : Int) = (j : Int) + 1)) && (isNum ((j + 1 : Nat) : Int) n && ((decide (((j + 1 : Nat) : Int) = ((j + 1 : Nat) : Int)) || decide (((j + 1 : Nat) : Int) = ((j + 1 : Nat) : Int) + 1)) && mayHeads n ((j + 1 : Nat) : Int) (fromK T (j + 1) m))))) = true
      rw [n1, a1, a2, ih]; rfl
    · show (isNum ((j + 1 : Nat) : Int) n && ((decide (((j + 1 : Nat) : Int) = (j : Int)) || decide (((j + 1 : Nat) : Int) = (j : Int) + 1)) && mayHeads n ((j + 1 : Nat) : Int) (fromK T (j + 1) m))) = true
      rw [n1, a1, ih]; rfl
theorem syR_may {n : Nat} : ∀ k, k < n → ∀ s, s ∈ syR k → maySym n s = true
  | 0, _, s, h => by cases h
  | k + 1, hk, s, h => by
    rcases List.mem_append.1 h with h | h
    · exact syR_may k (by omega) s h
    · rw [List.mem_singleton.1 h]
      unfold maySym isNum
      rw [if_neg (by show ¬ ((k + 1 : Nat) : Int) = -1; omega)]
      simp only [Bool.and_eq_true, decide_eq_true_eq]
      refine ⟨⟨?_, ?_⟩, trivial, trivial⟩ <;> omega
theorem gK_may (T : Nat → Bool) {k : Nat} (hk : k < 21) : mayG (gK T k) = true := by
  have hl := rulesK_len T k k
  have hh : mayHeads (k + 1) (-1) (rulesK T k k) = true := by
    rw [rulesK_from]
    show (isNum 0 (k + 1) && ((decide ((0 : Int) = -1) || decide ((0 : Int) = -1 + 1)) && mayHeads (k + 1) 0 (fromK T 0 k))) = true
    have h := heads_from T (k + 1) k 0 (by omega)
    rw [show (((0 : Nat) : Int)) = 0 from rfl] at h
    rw [h]
    unfold isNum
    simp
  have hr : mayRs (k + 1) 0 (rulesK T k k) = true := by
    refine mayRs_ofF _ 0 (fun r hr => ?_) (by rw [rulesK_syms]; omega)
    rcases rulesK_mem hr with rfl | ⟨i, hi, rfl | ⟨_, rfl⟩⟩
    · refine ⟨⟨by simp, by simp⟩, fun c hc => ?_⟩
      rw [List.mem_singleton.1 hc]
      show mayRow (k + 1) (syR k) = true
      unfold mayRow
      simp only [Bool.and_eq_true, decide_eq_true_eq, List.all_eq_true]
      exact ⟨by rw [syR_len]; omega, syR_may k (by omega)⟩
    · refine ⟨⟨by simp, by simp⟩, fun c hc => ?_⟩
      rw [List.mem_singleton.1 hc]
      show mayRow (k + 1) [⟨-1, ((97 + i : Nat) : Int), ((97 + i : Nat) : Int)⟩] = true
      unfold mayRow
      simp only [Bool.and_eq_true, decide_eq_true_eq, List.all_eq_true]
      refine ⟨by simp, fun s hs => ?_⟩
      rw [List.mem_singleton.1 hs]
      unfold maySym
      rw [if_pos rfl]
      simp only [Bool.and_eq_true, decide_eq_true_eq]
      omega
    · refine ⟨⟨by simp, by simp⟩, fun c hc => ?_⟩
      rw [List.mem_singleton.1 hc]
      rfl
  unfold mayG mayRules
  show (mayNames (namesR k) && (isNum 0 (namesR k).length && (mayHeads (namesR k).length (-1) (rulesK T k k) && (decide (1 ≤ (rulesK T k k).length) && (decide ((rulesK T k k).length ≤ 256) && mayRs (namesR k).length 0 (rulesK T k k)))))) = true
  rw [namesR_len, namesR_may k hk, hh, hr, decide_eq_true hl.1, decide_eq_true (by omega)]
  unfold isNum
  simp
theorem gK_short (T : Nat → Bool) {k : Nat} (hk : k < 21) : Short (gK T k).rules := fun r hr c hc => by
  rcases rulesK_mem hr with rfl | ⟨i, hi, rfl | ⟨_, rfl⟩⟩ <;> rw [List.mem_singleton.1 hc]
  · show (syR k).length ≤ _; rw [syR_len]; omega
  · show 1 ≤ _; omega
  · show 0 ≤ _; omega
/-- All so far are marked. -/
def openK (T : Nat → Bool) : Nat → Bool
  | 0 => true
  | j + 1 => openK T j && T j
def wantK (T : Nat → Bool) : Nat → Nat → Nat
  | 0 => zB
  | j + 1 => if openK T j = true then orB (wantK T j) (rngB ((97 + j : Nat) : Int) ((97 + j : Nat) : Int)) else wantK T j
theorem wantK_ok (T : Nat → Bool) : ∀ j, okB (wantK T j)
  | 0 => okB_zB
  | j + 1 => by
    show okB (if openK T j = true then _ else _)
    split
    · exact okB_or (wantK_ok T j) (okB_rng _ _)
    · exact wantK_ok T j
def EK (T : Nat → Bool) (k : Nat) : Nat → Bool := fun i => if i = 0 then openK T k else decide (i ≤ k) && T (i - 1)
def BK (T : Nat → Bool) (k : Nat) : Nat → Nat → Nat := fun i => if i = 0 then wantK T k else if i ≤ k then rngB ((96 + i : Nat) : Int) ((96 + i : Nat) : Int) else zB
theorem EK_s {T : Nat → Bool} {k i : Nat} (h : i < k) : EK T k (i + 1) = T i := by
  unfold EK
  rw [if_neg (by omega), decide_eq_true (by omega), Bool.true_and]; rfl
theorem BK_s {T : Nat → Bool} {k i : Nat} (h : i < k) : BK T k (i + 1) = rngB ((97 + i : Nat) : Int) ((97 + i : Nat) : Int) := by
  unfold BK
  rw [if_neg (by omega), if_pos (by omega), show 96 + (i + 1) = 97 + i by omega]
theorem emp_syR {T : Nat → Bool} {k : Nat} {E : Nat → Bool} (hE : ∀ i, i < k → E (i + 1) = T i) : ∀ j, j ≤ k → empB E (syR j) = openK T j
  | 0, _ => rfl
  | j + 1, h => by
    show (syR j ++ [_]).all (symB E) = _
    rw [List.all_append, show (syR j).all (symB E) = openK T j from emp_syR hE j (by omega)]
    show (openK T j && ([_].all (symB E))) = (openK T j && T j)
    rw [List.all_cons, List.all_nil, Bool.and_true, sym_nm, hE j (by omega)]
/-- What comes of a row and what stands behind it, all in one. -/
theorem com_all (E : Nat → Bool) (B : Nat → Nat → Nat) (c : Fo) : ∀ l, (comF E B c l).1 = if empB E l = true then orB (comT E B l).1 c.1 else (comT E B l).1
  | [] => by show c.1 = (if true = true then orB zB c.1 else zB); rw [if_pos rfl]; funext i; unfold orB zB; rw [Nat.zero_or]
  | s :: l => by
    have ih := com_all E B c l
    have e : empB E (s :: l) = (symB E s && empB E l) := rfl
    rw [e]
    show (aheadT E B s (comF E B c l)).1 = if _ then orB (aheadT E B s (comT E B l)).1 c.1 else (aheadT E B s (comT E B l)).1
    unfold aheadT
    by_cases hn : s.name = -1
    · rw [if_pos hn, if_pos hn]
      have : symB E s = false := by unfold symB; rw [decide_eq_false (by simpa using hn)]; rfl
      rw [this, Bool.false_and, if_neg (by decide)]
    · rw [if_neg hn, if_neg hn]
      have hs : symB E s = E s.name.toNat := by unfold symB; rw [decide_eq_true hn, Bool.true_and]
      rw [hs]
      cases hE : E s.name.toNat with
      | false => rw [if_pos rfl, if_pos rfl, Bool.false_and, if_neg (by decide)]
      | true =>
        rw [if_neg (show ¬ (true = false) by decide), if_neg (show ¬ (true = false) by decide), Bool.true_and]
        show orB (B s.name.toNat) (comF E B c l).1 = if empB E l = true then orB (orB (B s.name.toNat) (comT E B l).1) c.1 else orB (B s.name.toNat) (comT E B l).1
        rw [ih]
        split
        · funext i; unfold orB; rw [Nat.or_assoc]
        · rfl
theorem com_snoc (E : Nat → Bool) (B : Nat → Nat → Nat) (c : Fo) (s : Sy) : ∀ l, comF E B c (l ++ [s]) = comF E B (aheadT E B s c) l
  | [] => rfl
  | x :: l => by show aheadT E B x (comF E B c (l ++ [s])) = aheadT E B x (comF E B (aheadT E B s c) l); rw [com_snoc E B c s l]
theorem com_syR (T : Nat → Bool) (k : Nat) : ∀ j, j ≤ k → (comT (EK T k) (BK T k) (syR j)).1 = wantK T j
  | 0, _ => rfl
  | j + 1, h => by
    show (comT _ _ (syR j ++ [_])).1 = _
    rw [comF_com, com_snoc, com_all, emp_syR (k := k) (fun i hi => EK_s hi) j (by omega), com_syR T k j (by omega)]
    show (if openK T j = true then orB (wantK T j) (aheadT (EK T k) (BK T k) ⟨((j + 1 : Nat) : Int), 0, 0⟩ (zB, false)).1 else wantK T j) = if openK T j = true then orB (wantK T j) (rngB ((97 + j : Nat) : Int) ((97 + j : Nat) : Int)) else wantK T j
    have e : (aheadT (EK T k) (BK T k) ⟨((j + 1 : Nat) : Int), 0, 0⟩ (zB, false)).1 = rngB ((97 + j : Nat) : Int) ((97 + j : Nat) : Int) := by
      rw [← BK_s (T := T) (k := k) (by omega)]
      cases hE : EK T k (j + 1) with
      | true => rw [com_yes hE]; funext i; unfold orB zB; rw [Nat.or_zero]
      | false => rw [com_no hE]
    rw [e]
theorem gK_fst (T : Nat → Bool) (k : Nat) : FstOk (gK T k) (EK T k) (BK T k) := by
  have hcl : ClosE (gK T k).rules (EK T k) := fun r hr c hc he => by
    rcases rulesK_mem hr with rfl | ⟨i, hi, rfl | ⟨ht, rfl⟩⟩ <;> rw [List.mem_singleton.1 hc] at he
    · rw [show empB (EK T k) (syR k) = openK T k from emp_syR (fun i hi => EK_s hi) k (Nat.le_refl _)] at he
      exact he
    · cases he
    · show EK T k (((i + 1 : Nat) : Int).toNat) = true
      rw [Int.toNat_natCast, EK_s hi]; exact ht
  have hle : ∀ C, ClosE (gK T k).rules C → ∀ i, EK T k i = true → C i = true := fun C hC => by
    have h1 : ∀ i, i < k → T i = true → C (i + 1) = true := fun i hi ht => hC _ (rulesK_e hi ht) _ (List.mem_cons_self ..) rfl
    have h2 : ∀ j, j ≤ k → openK T j = true → empB C (syR j) = true := fun j => by
      induction j with
      | zero => intro _ _; rfl
      | succ j ih =>
        intro hj ho
        have ho : (openK T j && T j) = true := ho
        rw [Bool.and_eq_true] at ho
        show (syR j ++ [_]).all (symB C) = true
        rw [List.all_append, show (syR j).all (symB C) = true from ih (by omega) ho.1, List.all_cons, List.all_nil, sym_nm, h1 j (by omega) ho.2]; rfl
    intro i hi
    unfold EK at hi
    split at hi
    · rename_i e; subst e
      exact hC _ (rulesK_0 T k k) _ (List.mem_cons_self ..) (h2 k (Nat.le_refl _) hi)
    · rw [Bool.and_eq_true, decide_eq_true_eq] at hi
      have := h1 (i - 1) (by omega) hi.2
      rw [show i - 1 + 1 = i by omega] at this
      exact this
  refine ⟨⟨hcl, hle, fun i hi => ?_⟩, fun i => ?_, fun r hr c hc => ?_, fun C hC => ?_⟩
  · unfold EK at hi
    split at hi
    · rename_i e; subst e
      exact ⟨_, _, rulesK_0 T k k, List.mem_cons_self .., rfl, by rw [show empB (EK T k) (syR k) = openK T k from emp_syR (fun i hi => EK_s hi) k (Nat.le_refl _)]; exact hi⟩
    · rename_i e
      rw [Bool.and_eq_true, decide_eq_true_eq] at hi
      exact ⟨_, _, rulesK_e (T := T) (k := k) (j := k) (i := i - 1) (by omega) hi.2, List.mem_cons_self .., by show ((i - 1 + 1 : Nat) : Int).toNat = i; rw [Int.toNat_natCast]; omega, rfl⟩
  · unfold BK
    split
    · exact wantK_ok T k
    · split
      · exact okB_rng _ _
      · exact okB_zB
  · rcases rulesK_mem hr with rfl | ⟨i, hi, rfl | ⟨ht, rfl⟩⟩ <;> rw [List.mem_singleton.1 hc]
    · show leB (comT (EK T k) (BK T k) (syR k)).1 (BK T k 0)
      rw [com_syR T k k (Nat.le_refl _)]
      exact leB.refl _
    · show leB (rngB ((97 + i : Nat) : Int) ((97 + i : Nat) : Int)) (BK T k (((i + 1 : Nat) : Int).toNat))
      rw [Int.toNat_natCast, BK_s hi]
      exact leB.refl _
    · exact leB_zero _
  · have hb : ∀ i, leB (BK T k (i + 1)) (C (i + 1)) := fun i => by
      by_cases hi : i < k
      · rw [BK_s hi]
        have := hC _ (rulesK_b (T := T) (k := k) hi) _ (List.mem_cons_self ..)
        rw [Int.toNat_natCast] at this
        exact this
      · unfold BK; rw [if_neg (by omega), if_neg (by omega)]; exact leB_zero _
    have h0 : ∀ j, j ≤ k → leB (wantK T j) (comT (EK T k) C (syR j)).1 := fun j => by
      induction j with
      | zero => intro _; exact leB_zero _
      | succ j ih =>
        intro hj
        show leB (if openK T j = true then _ else _) (comT _ _ (syR j ++ [_])).1
        rw [comF_com, com_snoc, com_all, emp_syR (k := k) (fun i hi => EK_s hi) j (by omega)]
        split
        · refine leB_or ((ih (by omega)).trans (leB_left _ _)) (leB.trans ?_ (leB_right _ _))
          have h2 := hb j
          rw [BK_s (by omega)] at h2
          refine h2.trans ?_
          cases hE : EK T k (j + 1) with
          | true => rw [com_yes hE]; exact leB_left _ _
          | false => rw [com_no hE]; exact leB.refl _
        · exact ih (by omega)
    intro i
    cases i with
    | zero =>
      show leB (wantK T k) (C 0)
      exact (h0 k (Nat.le_refl _)).trans (hC _ (rulesK_0 T k k) _ (List.mem_cons_self ..))
    | succ i => exact hb i
theorem okB_full {a : Nat → Nat} (h : okB a) : leB a (fun _ => 18446744073709551615) := fun j hj i hi => by
  have h1 : i < 64 := by
    refine Nat.lt_of_not_le fun h9 => ?_
    have : (a j).testBit i = false := Nat.testBit_lt_two_pow (Nat.lt_of_lt_of_le (h j) (by have := Nat.pow_le_pow_right (show 0 < 2 by omega) h9; exact this))
    rw [this] at hi; cases hi
  show (18446744073709551615 : Nat).testBit i = true
  rw [show (18446744073709551615 : Nat) = 2 ^ 64 - 1 by rfl, Nat.testBit_two_pow_sub_one]
  exact decide_eq_true h1
theorem comF_ok {E : Nat → Bool} {B : Nat → Nat → Nat} (hB : ∀ k, okB (B k)) {c : Fo} (hc : okB c.1) : ∀ l, okB (comF E B c l).1
  | [] => hc
  | s :: l => ahead_ok hB (comF_ok hB hc l)
theorem syR_name : ∀ k (s : Sy), s ∈ syR k → s.name.toNat ≠ 0
  | 0, s, h => by cases h
  | k + 1, s, h => by
    rcases List.mem_append.1 h with h | h
    · exact syR_name k s h
    · rw [List.mem_singleton.1 h]
      show ((k + 1 : Nat) : Int).toNat ≠ 0
      rw [Int.toNat_natCast]; omega
/-- Behind the start stands the end alone; behind the last name too. -/
theorem gK_fol {T : Nat → Bool} {k : Nat} {E : Nat → Bool} {B : Nat → Nat → Nat} {D : Nat → Fo} (hB : ∀ k, okB (B k)) (hc : ClosF (gK T k) E B D) (hl : LeastF (gK T k) E B D) : (D 0).2 = true ∧ (∀ j, j < 4 → (D 0).1 j = 0) ∧ (D k).2 = true := by
  have h0 : (D 0).2 = true := hc.1
  refine ⟨h0, fun j hj => ?_, ?_⟩
  · have hC : ClosF (gK T k) E B (fun i => if i = 0 then (zB, true) else ((fun _ => 18446744073709551615), true)) := by
      have ok : ∀ i, okB ((if i = 0 then (zB, true) else ((fun _ => 18446744073709551615), true) : Fo)).1 := fun i => by
        split
        · exact okB_zB
        · intro j; show 18446744073709551615 < _; decide
      refine ⟨rfl, fun r hr c hc l1 s l2 e hn => ?_⟩
      have hnz : s.name.toNat ≠ 0 := by
        rcases rulesK_mem hr with rfl | ⟨i, hi, rfl | ⟨ht, rfl⟩⟩ <;> rw [List.mem_singleton.1 hc] at e
        · exact syR_name k s (by rw [show syR k = l1 ++ s :: l2 from e]; simp)
        · exfalso
          have e : [(⟨-1, ((97 + i : Nat) : Int), ((97 + i : Nat) : Int)⟩ : Sy)] = l1 ++ s :: l2 := e
          cases l1 with
          | nil => injection e with e1 e2; rw [← e1] at hn; exact hn rfl
          | cons a l1 => injection e with e1 e2; cases l1 <;> cases e2
        · exfalso
          have e : ([] : List Sy) = l1 ++ s :: l2 := e
          cases l1 <;> cases e
      show leF _ (if s.name.toNat = 0 then _ else _)
      rw [if_neg hnz]
      exact ⟨okB_full (comF_ok hB (ok _) l2), fun _ => rfl⟩
    have h1 := hl _ hC 0
    have h2 : leB (D 0).1 zB := h1.1
    exact h2.anti (leB_zero _) j hj
  · cases k with
    | zero => exact h0
    | succ k =>
      have h1 := hc.2 _ (rulesK_0 T (k + 1) (k + 1)) _ (List.mem_cons_self ..) (syR k) ⟨((k + 1 : Nat) : Int), 0, 0⟩ [] rfl (by show ((k + 1 : Nat) : Int) ≠ -1; omega)
      have h2 : leF (D 0) (D (((k + 1 : Nat) : Int).toNat)) := h1
      rw [Int.toNat_natCast] at h2
      exact h2.2 h0
end Go.Proofs.Ytopokicdgdjgkaa
