/- What the document's test of a grammar says is what mayG says. No program in sight. -/
import Derived.Test.YtopnhbgialbicaaRefMayP
import Derived.Test.YtopnhbgialbicaaShowBackT
namespace Go.Proofs.Ytopnhbgialbicaa
set_option linter.unusedVariables false

theorem nameD_eq (s : ByteArray) : nameMayD s = isNameT s := by
  rw [isName_eq]
  unfold nameMayD nameMayT
  rw [show startB.toList = [115, 116, 97, 114, 116] from ByteArray.toList_mk ..]
  rfl
theorem place_pre {a r : List ByteArray} {s : ByteArray} (h : place (a ++ r) s = some a.length) : place a s = none := by
  induction a with
  | nil => rfl
  | cons x a ih =>
    simp only [List.cons_append, place, List.length_cons] at h ⊢
    by_cases e : x = s
    · rw [if_pos e] at h
      injection h with h
      omega
    · rw [if_neg e] at h ⊢
      cases hp : place (a ++ r) s with
      | none => rw [hp] at h; simp at h
      | some k =>
        rw [hp] at h
        simp at h
        rw [ih (by rw [hp, h])]; rfl
theorem again_all : ∀ (r seen : List ByteArray), (∀ i s, r[i]? = some s → place (seen ++ r) s = some (seen.length + i)) → againT seen r seen.length = seen.length + r.length
  | [], seen, _ => rfl
  | s :: r, seen, h => by
    have h0 := h 0 s rfl
    have h1 : known seen s = false := by unfold known; rw [place_pre h0]; rfl
    unfold againT
    rw [if_neg (by rw [h1]; decide)]
    have h2 := again_all r (seen ++ [s]) (fun i t ht => by
      have := h (i + 1) t (by simpa using ht)
      rw [List.append_assoc, List.length_append]
      show place (seen ++ ([s] ++ r)) t = _
      rw [List.singleton_append, this]
      simp; omega)
    rw [List.length_append] at h2
    simp only [List.length_cons, List.length_nil, Nat.zero_add] at h2 ⊢
    rw [h2]; omega
theorem namesOk_eq (l : List ByteArray) : namesOk l = (l.all isNameT && decide (again l = l.length)) := by
  rw [Bool.eq_iff_iff]
  unfold namesOk
  rw [List.all_eq_true, Bool.and_eq_true, List.all_eq_true, decide_eq_true_eq]
  constructor
  · intro h
    have h' : ∀ i s, l[i]? = some s → nameMayD s = true ∧ place l s = some i := fun i s hs => by
      have hi : i < l.length := (List.getElem?_eq_some_iff.1 hs).1
      have := h i (List.mem_range.2 hi)
      unfold nameAt at this
      rw [List.getD_eq_getElem?_getD, hs, Bool.and_eq_true, decide_eq_true_eq] at this
      refine ⟨this.1, ?_⟩
      have h2 : findT l s = (i : Int) := this.2
      unfold findT at h2
      cases hp : place l s with
      | none => rw [hp] at h2; simp only at h2; omega
      | some k => rw [hp] at h2; simp only at h2; congr; omega
    refine ⟨fun s hs => ?_, ?_⟩
    · obtain ⟨i, hi⟩ := List.getElem?_of_mem hs
      rw [← nameD_eq]; exact (h' i s hi).1
    · have := again_all l [] (fun i s hs => by simpa using (h' i s hs).2)
      show againT [] l 0 = l.length
      simpa using this
  · rintro ⟨h1, h2⟩ i hi
    have hi := List.mem_range.1 hi
    unfold nameAt
    rw [Bool.and_eq_true, decide_eq_true_eq, nameD_eq]
    refine ⟨h1 _ ?_, ?_⟩
    · rw [List.getD_eq_getElem?_getD, List.getElem?_eq_getElem hi]; exact List.getElem_mem hi
    · unfold findT; rw [place_at h2 hi]
theorem mayCs_eq (K : Nat) : ∀ (l : List Cn) (n : Nat), n ≤ 1024 → mayCs K n l = if rowsOk K l = true ∧ n + rowsSum l ≤ 1024 then some (n + rowsSum l) else none
  | [], n, h => by
    rw [if_pos ⟨rfl, h⟩]; rfl
  | c :: l, n, h => by
    have e1 : rowsOk K (c :: l) = (mayRow K c.seq && rowsOk K l) := rfl
    have e2 : rowsSum (c :: l) = c.seq.length + rowsSum l := by simp [rowsSum]
    unfold mayCs
    by_cases h1 : n + c.seq.length ≤ 1024 ∧ mayRow K c.seq = true
    · rw [if_pos h1, mayCs_eq K l _ h1.1, e1, e2, h1.2, Bool.true_and, Nat.add_assoc]
    · rw [if_neg h1, if_neg]
      rintro ⟨h2, h3⟩
      rw [e1, Bool.and_eq_true] at h2
      rw [e2] at h3
      exact h1 ⟨by omega, h2.1⟩
theorem ruGo_big (K : Nat) : ∀ (l : List Ru) (h : Int) (m : Nat), 1024 < m → ruGo K h m l = false
  | [], h, m, hm => by
    show (_ && _) = false
    rw [show decide (m ≤ 1024) = false by rw [decide_eq_false_iff_not]; omega, Bool.and_false]
  | r :: l, h, m, hm => by
    show (_ && (_ && _)) = false
    rw [ruGo_big K l _ _ (by omega), Bool.and_false, Bool.and_false]
theorem ruGo_eq (K : Nat) : ∀ (l : List Ru) (h : Int) (m : Nat), m ≤ 1024 → ruGo K h m l = (mayHeads K h l && mayRs K m l)
  | [], h, m, hm => by
    show (_ && _) = (_ && true)
    rw [show decide (m ≤ 1024) = true by rw [decide_eq_true_eq]; exact hm]; rfl
  | r :: l, h, m, hm => by
    have e1 : ruGo K h m (r :: l) = (headOk K h r && (ruleOk K r.conj && ruGo K r.head (m + rowsSum r.conj) l)) := rfl
    have e2 : mayHeads K h (r :: l) = (headOk K h r && mayHeads K r.head l) := by
      rw [show mayHeads K h (r :: l) = (isNum r.head K && ((decide (r.head = h) || decide (r.head = h + 1)) && mayHeads K r.head l)) from rfl]
      unfold headOk isNum
      generalize mayHeads K r.head l = x
      cases decide (0 ≤ r.head) <;> cases decide (r.head = h) <;> cases decide (r.head = h + 1) <;> cases decide (r.head < (K : Int)) <;> simp
    have e3 : mayRs K m (r :: l) = (ruleOk K r.conj && (decide (m + rowsSum r.conj ≤ 1024) && mayRs K (m + rowsSum r.conj) l)) := by
      rw [show mayRs K m (r :: l) = (if 1 ≤ r.conj.length ∧ r.conj.length ≤ 8 then (match mayCs K m r.conj with | none => false | some m => mayRs K m l) else false) from rfl]
      unfold ruleOk
      by_cases c1 : 1 ≤ r.conj.length ∧ r.conj.length ≤ 8
      · rw [if_pos c1, mayCs_eq K _ _ hm]
        by_cases c2 : rowsOk K r.conj = true ∧ m + rowsSum r.conj ≤ 1024
        · rw [if_pos c2]; simp [c1.1, c1.2, c2.1, c2.2]
        · rw [if_neg c2]
          by_cases c3 : rowsOk K r.conj = true
          · have : ¬ m + rowsSum r.conj ≤ 1024 := fun e => c2 ⟨c3, e⟩
            simp [this]
          · simp [c3]
      · rw [if_neg c1]
        by_cases c4 : 1 ≤ r.conj.length
        · have : ¬ r.conj.length ≤ 8 := fun e => c1 ⟨c4, e⟩
          simp [this]
        · simp [c4]
    rw [e1, e2, e3]
    by_cases c : m + rowsSum r.conj ≤ 1024
    · rw [ruGo_eq K l _ _ c]
      cases headOk K h r <;> cases ruleOk K r.conj <;> cases mayHeads K r.head l <;> simp [c]
    · rw [ruGo_big K l _ _ (by omega)]
      cases headOk K h r <;> cases ruleOk K r.conj <;> simp [c]
theorem refMay_eq (g : Gr) : refMayT g = mayG g := by
  unfold refMayT mayG mayNames mayRules sizesOk
  rw [namesOk_eq, ruGo_eq _ _ _ _ (by omega)]
  cases decide (1 ≤ g.names.length) <;> cases decide (g.names.length ≤ 64) <;> cases isNum g.start g.names.length <;> cases decide (1 ≤ g.rules.length) <;> cases decide (g.rules.length ≤ 256) <;> cases g.names.all isNameT <;> cases decide (again g.names = g.names.length) <;> cases mayHeads g.names.length (-1) g.rules <;> simp
end Go.Proofs.Ytopnhbgialbicaa
