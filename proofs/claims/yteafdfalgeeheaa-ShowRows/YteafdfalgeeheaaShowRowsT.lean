/- ShowRows: the law's grammar, that it may be, and its text, put together as the law does it. No program in sight. -/
import Derived.Test.YteafdfalgeeheaaRefDec
import Derived.Test.YteafdfalgeeheaaShowBackT
namespace Go.Proofs.Yteafdfalgeeheaa
set_option linter.unusedVariables false

def nmS (j : Nat) : ByteArray := (⟨#[110]⟩ : ByteArray) ++ decT j
def nmsS (k : Nat) : List ByteArray := (List.range k).map nmS
def sqS (i : Nat) : List Sy := [⟨(i : Int), 0, 0⟩, ⟨-1, 120, 120⟩, ⟨-1, 121, 121⟩]
def negS (j c : Nat) : Bool := (c + j) % 2 == 1
def cnS (i j c : Nat) : Cn := ⟨negS j c, sqS i⟩
/-- The first c conjuncts of the j-th rule of name i. -/
def cnsS (i j c : Nat) : List Cn := (List.range c).map (cnS i j)
def ruS (cn : Nat → Nat) (i j : Nat) : Ru := ⟨(i : Int), cnsS i j (cn i)⟩
/-- The first n rules of name i. -/
def rowS (cn : Nat → Nat) (i n : Nat) : List Ru := (List.range n).map (ruS cn i)
/-- The rules of the first i names. -/
def rusS (m cn : Nat → Nat) : Nat → List Ru
  | 0 => []
  | i + 1 => rusS m cn i ++ rowS cn i (m i)
def grS (m cn : Nat → Nat) (st k : Nat) : Gr := ⟨(st : Int), nmsS k, rusS m cn k⟩

/-- The texts, as far as they have come. -/
def cT (i j c : Nat) : List UInt8 := (if negS j c then [126] else []) ++ ((nmS i).data.toList ++ [32, 34, 120, 121, 34])
def conjsS (i j c : Nat) : List UInt8 := joinN [32, 38, 32] (cT i j) c
def altsS (cn : Nat → Nat) (i n : Nat) : List UInt8 := joinN [32, 124, 32] (fun j => conjsS i j (cn i)) n
def dfS (m cn : Nat → Nat) (i : Nat) : List UInt8 := (nmS i).data.toList ++ [32, 61, 32] ++ altsS cn i (m i) ++ [59, 10]
def dfsS (m cn : Nat → Nat) : Nat → List UInt8
  | 0 => []
  | i + 1 => dfsS m cn i ++ dfS m cn i
def txS (m cn : Nat → Nat) (st k : Nat) : List UInt8 := [115, 116, 97, 114, 116, 32] ++ (nmS st).data.toList ++ [59, 10] ++ dfsS m cn k

theorem nms_at {k i : Nat} (h : i < k) : (nmsS k).getD i ⟨#[]⟩ = nmS i := by
  unfold nmsS
  simp [List.getD, h]
theorem nms_len (k : Nat) : (nmsS k).length = k := by simp [nmsS]
theorem parts_S {k i : Nat} (h : i < k) : partsT (nmsS k) (sqS i) = [.inr (.inr (nmS i)), .inl [120, 121]] := by
  have e : ((i : Int)).toNat = i := by omega
  have e1 : symP (nmsS k) [] ⟨(i : Int), 0, 0⟩ = [.inr (.inr (nmS i))] := by
    unfold symP
    rw [if_pos (by show (i : Int) ≠ -1; omega)]
    show ([] ++ [.inr (.inr ((nmsS k).getD ((i : Int)).toNat ⟨#[]⟩))] : List Part) = _
    rw [e, nms_at h]
    rfl
  show List.foldl (symP (nmsS k)) [] (sqS i) = _
  unfold sqS
  rw [List.foldl_cons, e1]
  rfl
theorem conj_S {k i : Nat} (h : i < k) (j c : Nat) : conjT (nmsS k) (cnS i j c) = cT i j c := by
  unfold conjT
  show (if negS j c then [126] else []) ++ joinN [32] (partAt (partsT (nmsS k) (sqS i))) (partsT (nmsS k) (sqS i)).length = _
  rw [parts_S h]
  unfold cT
  congr 1
  show (([] ++ [] ++ (nmS i).data.toList) ++ [32] ++ quoT 34 [120, 121]) = _
  rw [show quoT 34 [120, 121] = [34, 120, 121, 34] by decide]
  simp
theorem conjs_S {k i : Nat} (h : i < k) (j n : Nat) : conjsT (nmsS k) (cnsS i j n) = conjsS i j n := by
  unfold conjsT conjsS
  rw [show (cnsS i j n).length = n by simp [cnsS]]
  refine joinN_congr _ _ _ n fun c hc => ?_
  unfold conjAt
  rw [show (cnsS i j n).getD c ⟨false, []⟩ = cnS i j c by unfold cnsS; simp [List.getD, hc]]
  exact conj_S h j c
theorem alts_S (cn : Nat → Nat) {k i : Nat} (h : i < k) (n : Nat) : altsT (nmsS k) (rowS cn i n) = altsS cn i n := by
  unfold altsT altsS
  rw [show (rowS cn i n).length = n by simp [rowS]]
  refine joinN_congr _ _ _ n fun j hj => ?_
  unfold ruleAt
  rw [show (rowS cn i n).getD j ⟨0, []⟩ = ruS cn i j by unfold rowS; simp [List.getD, hj]]
  exact conjs_S h j _
theorem row_head {cn : Nat → Nat} {i n : Nat} {r : Ru} (h : r ∈ rowS cn i n) : r.head = (i : Int) := by
  obtain ⟨j, _, rfl⟩ := List.mem_map.1 h
  rfl
theorem of_row (cn : Nat → Nat) (i n : Nat) (k : Nat) : rulesOfT (rowS cn i n) k = if i = k then rowS cn i n else [] := by
  unfold rulesOfT
  split
  · rename_i e; subst e
    rw [List.filter_eq_self]
    intro r hr
    rw [row_head hr]; simp
  · rename_i e
    rw [List.filter_eq_nil_iff]
    intro r hr
    rw [row_head hr]
    simp; omega
theorem of_rus (m cn : Nat → Nat) (i : Nat) : ∀ n, rulesOfT (rusS m cn n) i = if i < n then rowS cn i (m i) else []
  | 0 => rfl
  | n + 1 => by
    have e : rulesOfT (rusS m cn (n + 1)) i = rulesOfT (rusS m cn n) i ++ rulesOfT (rowS cn n (m n)) i := by
      unfold rulesOfT; rw [← List.filter_append]; rfl
    rw [e, of_rus m cn i n, of_row]
    by_cases h1 : i < n
    · rw [if_pos h1, if_neg (by omega), if_pos (by omega), List.append_nil]
    · by_cases h2 : n = i
      · subst h2; rw [if_neg h1, if_pos rfl, if_pos (by omega)]; rfl
      · rw [if_neg h1, if_neg h2, if_neg (by omega)]; rfl
theorem def_S (m cn : Nat → Nat) {k i : Nat} (h : i < k) : defT (nmsS k) (rusS m cn k) i = dfS m cn i := by
  unfold defT dfS
  rw [nms_at h, of_rus, if_pos h, alts_S cn h]
theorem defs_S (m cn : Nat → Nat) (k : Nat) : ∀ n, n ≤ k → defsT (nmsS k) (rusS m cn k) n = dfsS m cn n
  | 0, _ => rfl
  | n + 1, h => by
    show defsT (nmsS k) (rusS m cn k) n ++ defT (nmsS k) (rusS m cn k) n = dfsS m cn n ++ dfS m cn n
    rw [defs_S m cn k n (by omega), def_S m cn (by omega)]
/-- The law's text is the one that is shown. -/
theorem show_S (m cn : Nat → Nat) {st k : Nat} (h : st < k) : showL (grS m cn st k) = txS m cn st k := by
  unfold showL txS
  show [115, 116, 97, 114, 116, 32] ++ ((nmsS k).getD ((st : Int)).toNat ⟨#[]⟩).data.toList ++ [59, 10] ++ defsT (nmsS k) (rusS m cn k) (nmsS k).length = _
  rw [show ((st : Int)).toNat = st by omega, nms_at h, nms_len, defs_S m cn k k (Nat.le_refl _)]

theorem names_S : ∀ k, k < 5 → 1 ≤ k → mayNames (nmsS k) = true := by decide +kernel
theorem row_S : ∀ k, k < 5 → ∀ i, i < k → mayRow k (sqS i) = true := by decide +kernel
theorem mayCs_S {k i : Nat} (hk : k < 5) (h : i < k) (j : Nat) : ∀ (l : List Nat) (n : Nat), n + 3 * l.length ≤ 1024 → mayCs k n (l.map (cnS i j)) = some (n + 3 * l.length)
  | [], n, _ => rfl
  | c :: l, n, hn => by
    have hl : (cnS i j c).seq.length = 3 := rfl
    simp only [List.length_cons] at hn
    show (if n + (cnS i j c).seq.length ≤ 1024 ∧ mayRow k (cnS i j c).seq = true then mayCs k (n + (cnS i j c).seq.length) (l.map (cnS i j)) else none) = _
    rw [hl, if_pos ⟨by omega, row_S k hk i h⟩, mayCs_S hk h j l (n + 3) (by omega)]
    simp only [List.length_cons]
    congr 1; omega
theorem mayRs_row {cn : Nat → Nat} {k i : Nat} (hk : k < 5) (h : i < k) (h1 : 1 ≤ cn i) (h2 : cn i ≤ 4) : ∀ (l : List Nat) (n : Nat) (rest : List Ru), n + 12 * l.length ≤ 1024 → (∀ n', n' ≤ n + 12 * l.length → mayRs k n' rest = true) → mayRs k n (l.map (ruS cn i) ++ rest) = true
  | [], n, rest, _, hr => hr n (by omega)
  | j :: l, n, rest, hn, hr => by
    simp only [List.length_cons] at hn
    have hc : (ruS cn i j).conj.length = cn i := by simp [ruS, cnsS]
    have hm : mayCs k n (ruS cn i j).conj = some (n + 3 * cn i) := by
      have := mayCs_S hk h j (List.range (cn i)) n (by simp; omega)
      rwa [List.length_range] at this
    show (if 1 ≤ (ruS cn i j).conj.length ∧ (ruS cn i j).conj.length ≤ 8 then (match mayCs k n (ruS cn i j).conj with | none => false | some m => mayRs k m (l.map (ruS cn i) ++ rest)) else false) = true
    rw [hc, if_pos ⟨h1, by omega⟩, hm]
    exact mayRs_row hk h h1 h2 l _ rest (by omega) fun n' hn' => hr n' (by simp only [List.length_cons]; omega)
theorem mayRs_S {m cn : Nat → Nat} {k : Nat} (hk : k < 5) (hm : ∀ i, 1 ≤ m i ∧ m i ≤ 4) (hc : ∀ i, 1 ≤ cn i ∧ cn i ≤ 4) : ∀ (i : Nat), i ≤ k → ∀ (n : Nat) (rest : List Ru), n + 48 * i ≤ 1024 → (∀ n', n' ≤ n + 48 * i → mayRs k n' rest = true) → mayRs k n (rusS m cn i ++ rest) = true
  | 0, _, n, rest, _, hr => hr n (by omega)
  | i + 1, hi, n, rest, hn, hr => by
    show mayRs k n ((rusS m cn i ++ rowS cn i (m i)) ++ rest) = true
    rw [List.append_assoc]
    have h1 := (hm i).2
    refine mayRs_S hk hm hc i (by omega) n _ (by omega) fun n' hn' => ?_
    refine mayRs_row hk (by omega) (hc i).1 (hc i).2 (List.range (m i)) n' rest (by rw [List.length_range]; omega) fun n2 hn2 => hr n2 (by rw [List.length_range] at hn2; omega)
theorem heads_row {cn : Nat → Nat} {k i : Nat} (h : i < k) (rest : List Ru) (hr : mayHeads k (i : Int) rest = true) : ∀ (l : List Nat) (last : Int), last = (i : Int) ∨ (last = (i : Int) - 1 ∧ l ≠ []) → mayHeads k last (l.map (ruS cn i) ++ rest) = true
  | [], last, e => by
    rcases e with e | ⟨_, e⟩
    · subst e; exact hr
    · exact absurd rfl e
  | j :: l, last, e => by
    show (isNum (i : Int) k && ((decide ((i : Int) = last) || decide ((i : Int) = last + 1)) && mayHeads k (i : Int) (l.map (ruS cn i) ++ rest))) = true
    rw [heads_row h rest hr l (i : Int) (Or.inl rfl)]
    have h1 : isNum (i : Int) k = true := by unfold isNum; simp; omega
    rw [h1]
    rcases e with e | ⟨e, _⟩ <;> simp [e]
theorem heads_S {m cn : Nat → Nat} {k : Nat} (hm : ∀ i, 1 ≤ m i ∧ m i ≤ 4) : ∀ (i : Nat), i ≤ k → ∀ rest, mayHeads k ((i : Int) - 1) rest = true → mayHeads k (-1) (rusS m cn i ++ rest) = true
  | 0, _, rest, hr => hr
  | i + 1, hi, rest, hr => by
    show mayHeads k (-1) ((rusS m cn i ++ rowS cn i (m i)) ++ rest) = true
    rw [List.append_assoc]
    refine heads_S hm i (by omega) _ ?_
    refine heads_row (by omega) rest (by rwa [show (((i + 1 : Nat) : Int) - 1) = (i : Int) by omega] at hr) (List.range (m i)) _ (Or.inr ⟨rfl, fun e => ?_⟩)
    have := congrArg List.length e
    rw [List.length_range] at this
    have := (hm i).1
    simp at *; omega
theorem rus_len {m cn : Nat → Nat} (hm : ∀ i, 1 ≤ m i ∧ m i ≤ 4) : ∀ i, i ≤ (rusS m cn i).length ∧ (rusS m cn i).length ≤ 4 * i
  | 0 => ⟨Nat.le_refl _, Nat.le_refl _⟩
  | i + 1 => by
    have h := rus_len (cn := cn) hm i
    have e : (rusS m cn (i + 1)).length = (rusS m cn i).length + m i := by
      show (rusS m cn i ++ rowS cn i (m i)).length = _
      rw [List.length_append]; simp [rowS]
    have := hm i
    rw [e]; omega
/-- It may be. -/
theorem may_S {m cn : Nat → Nat} {st k : Nat} (hk : k < 5) (h : st < k) (hm : ∀ i, 1 ≤ m i ∧ m i ≤ 4) (hc : ∀ i, 1 ≤ cn i ∧ cn i ≤ 4) : mayG (grS m cn st k) = true := by
  have h1 : mayNames (nmsS k) = true := names_S k hk (by omega)
  have h2 : isNum (st : Int) k = true := by unfold isNum; simp; omega
  have h3 : mayHeads k (-1) (rusS m cn k) = true := by
    have := heads_S (cn := cn) hm k (Nat.le_refl _) [] (by unfold mayHeads; simp)
    rwa [List.append_nil] at this
  have h4 : mayRs k 0 (rusS m cn k) = true := by
    have := mayRs_S hk hm hc k (Nat.le_refl _) 0 [] (by omega) (fun _ _ => rfl)
    rwa [List.append_nil] at this
  have h5 := rus_len (cn := cn) hm k
  unfold mayG
  show (mayNames (nmsS k) && (isNum (st : Int) (nmsS k).length && (mayHeads (nmsS k).length (-1) (rusS m cn k) && mayRules (nmsS k).length (rusS m cn k)))) = true
  rw [nms_len, h1, h2, h3]
  unfold mayRules
  rw [h4]
  simp; omega
end Go.Proofs.Yteafdfalgeeheaa
