/- DependsMore, plain: a symbol more at a conjunct's end: one edge more, or none. -/
import Derived.Test.YtdoibpgkfdpbdaaDepPl
namespace Go.Proofs.Ytdoibpgkfdpbdaa
set_option linter.unusedVariables false

theorem split_at {α : Type} : ∀ (l : List α) (r : Nat) (x : α), l[r]? = some x → ∃ A B, A.length = r ∧ l = A ++ x :: B ∧ ∀ y, l.set r y = A ++ y :: B
  | [], r, x, h => by simp at h
  | a :: l, 0, x, h => by
    simp at h
    exact ⟨[], l, rfl, by rw [h]; rfl, fun y => rfl⟩
  | a :: l, r + 1, x, h => by
    simp at h
    obtain ⟨A, B, h1, h2, h3⟩ := split_at l r x h
    exact ⟨a :: A, B, by simp [h1], by rw [h2]; rfl, fun y => by rw [List.set_cons_succ, h3]; rfl⟩
def moreC (cn : Cn) (t : Int) : Cn := ⟨cn.neg, cn.seq ++ [⟨t, 0, 0⟩]⟩
def moreR (ru : Ru) (c : Nat) (cn : Cn) (t : Int) : Ru := ⟨ru.head, ru.conj.set c (moreC cn t)⟩
def moreG (g : Gr) (r : Nat) (ru : Ru) (c : Nat) (cn : Cn) (t : Int) : Gr := ⟨g.start, g.names, g.rules.set r (moreR ru c cn t)⟩
theorem more_mem {g : Gr} {r c : Nat} {ru : Ru} {cn : Cn} {t : Int} (h1 : g.rules[r]? = some ru) (h2 : ru.conj[c]? = some cn) (ht : t ≠ -1) (x : Ed) : x ∈ allE (moreG g r ru c cn t).rules ↔ x ∈ allE g.rules ∨ x = (ru.head, t, cn.neg) := by
  obtain ⟨A, B, _, e1, e2⟩ := split_at _ _ _ h1
  obtain ⟨C, D, _, e3, e4⟩ := split_at _ _ _ h2
  have e5 : (moreG g r ru c cn t).rules = A ++ moreR ru c cn t :: B := e2 _
  have e6 : (moreR ru c cn t).conj = C ++ moreC cn t :: D := e4 _
  have e7 : x ∈ seqE ru.head cn.neg (cn.seq ++ [⟨t, 0, 0⟩]) ↔ x ∈ seqE ru.head cn.neg cn.seq ∨ x = (ru.head, t, cn.neg) := by
    rw [seqE_append, List.mem_append, mem_seqE _ _ _ [_]]
    refine or_congr Iff.rfl ⟨?_, ?_⟩
    · rintro ⟨h1, h2, s, hs, _, h3⟩
      obtain rfl : s = ⟨t, 0, 0⟩ := by simpa using hs
      obtain ⟨a, b, c⟩ := x
      simp only at h1 h2 h3
      rw [h1, h2, ← h3]
    · rintro rfl
      exact ⟨rfl, rfl, ⟨t, 0, 0⟩, by simp, ht, rfl⟩
  rw [e5, e1, mem_allE, mem_allE]
  have e8 : x ∈ cnsE ru.head (C ++ moreC cn t :: D) ↔ x ∈ cnsE ru.head (C ++ cn :: D) ∨ x = (ru.head, t, cn.neg) := by
    rw [mem_cnsE, mem_cnsE]
    constructor
    · rintro ⟨y, hy, hx⟩
      rcases List.mem_append.1 hy with hy | hy
      · exact Or.inl ⟨y, List.mem_append.2 (Or.inl hy), hx⟩
      · rcases List.mem_cons.1 hy with rfl | hy
        · rcases e7.1 hx with h | h
          · exact Or.inl ⟨cn, by simp, h⟩
          · exact Or.inr h
        · exact Or.inl ⟨y, List.mem_append.2 (Or.inr (List.mem_cons_of_mem _ hy)), hx⟩
    · rintro (⟨y, hy, hx⟩ | h)
      · rcases List.mem_append.1 hy with hy | hy
        · exact ⟨y, List.mem_append.2 (Or.inl hy), hx⟩
        · rcases List.mem_cons.1 hy with rfl | hy
          · exact ⟨moreC y t, by simp, e7.2 (Or.inl hx)⟩
          · exact ⟨y, List.mem_append.2 (Or.inr (List.mem_cons_of_mem _ hy)), hx⟩
      · exact ⟨moreC cn t, by simp, e7.2 (Or.inr h)⟩
  constructor
  · rintro ⟨y, hy, hx⟩
    rcases List.mem_append.1 hy with hy | hy
    · exact Or.inl ⟨y, List.mem_append.2 (Or.inl hy), hx⟩
    · rcases List.mem_cons.1 hy with rfl | hy
      · rw [e6] at hx
        rcases e8.1 hx with h | h
        · exact Or.inl ⟨ru, by simp, by rw [e3]; exact h⟩
        · exact Or.inr h
      · exact Or.inl ⟨y, List.mem_append.2 (Or.inr (List.mem_cons_of_mem _ hy)), hx⟩
  · rintro (⟨y, hy, hx⟩ | h)
    · rcases List.mem_append.1 hy with hy | hy
      · exact ⟨y, List.mem_append.2 (Or.inl hy), hx⟩
      · rcases List.mem_cons.1 hy with rfl | hy
        · refine ⟨moreR y c cn t, by simp, ?_⟩
          rw [e6]
          exact e8.2 (Or.inl (by rw [← e3]; exact hx))
        · exact ⟨y, List.mem_append.2 (Or.inr (List.mem_cons_of_mem _ hy)), hx⟩
    · refine ⟨moreR ru c cn t, by simp, ?_⟩
      rw [e6]
      exact e8.2 (Or.inr h)
theorem ins_at (x : Ed) : ∀ l : List Ed, (l.Pairwise fun a b => ltE a b = true) → x ∉ l → ∃ A B, l = A ++ B ∧ (A ++ x :: B).Pairwise fun a b => ltE a b = true
  | [], _, _ => ⟨[], [], rfl, by simp⟩
  | y :: l, h, hx => by
    have h' := h
    rw [List.pairwise_cons] at h
    cases hxy : ltE x y with
    | true =>
      refine ⟨[], y :: l, rfl, ?_⟩
      show (x :: y :: l).Pairwise _
      rw [List.pairwise_cons]
      refine ⟨fun z hz => ?_, h'⟩
      rcases List.mem_cons.1 hz with rfl | hz
      · exact hxy
      · exact swoE.trans _ _ _ hxy (h.1 z hz)
    | false =>
      have hyx : ltE y x = true := by
        cases hh : ltE y x with
        | true => rfl
        | false => exact absurd (totE x y hxy hh) (fun e => hx (by rw [e]; simp))
      obtain ⟨A, B, e, hp⟩ := ins_at x l h.2 (fun hm => hx (List.mem_cons_of_mem _ hm))
      refine ⟨y :: A, B, by rw [e]; rfl, ?_⟩
      show (y :: (A ++ x :: B)).Pairwise _
      rw [List.pairwise_cons]
      refine ⟨fun z hz => ?_, hp⟩
      rcases List.mem_append.1 hz with hz | hz
      · exact h.1 z (by rw [e]; exact List.mem_append.2 (Or.inl hz))
      · rcases List.mem_cons.1 hz with rfl | hz
        · exact hyx
        · exact h.1 z (by rw [e]; exact List.mem_append.2 (Or.inr hz))
/-- The edges of the grammar with a symbol more: the same, or with one put in. -/
theorem more_edges {g : Gr} {r c : Nat} {ru : Ru} {cn : Cn} {t : Int} (h1 : g.rules[r]? = some ru) (h2 : ru.conj[c]? = some cn) (ht : t ≠ -1) :
    ((ru.head, t, cn.neg) ∈ edgesT g ∧ edgesT (moreG g r ru c cn t) = edgesT g) ∨ ∃ A B, edgesT g = A ++ B ∧ edgesT (moreG g r ru c cn t) = A ++ (ru.head, t, cn.neg) :: B := by
  by_cases hx : (ru.head, t, cn.neg) ∈ edgesT g
  · refine Or.inl ⟨hx, edgesT_eq (edgesT_rise g) fun x => ?_⟩
    rw [more_mem h1 h2 ht, mem_edgesT]
    refine ⟨Or.inl, ?_⟩
    rintro (h | rfl)
    · exact h
    · rwa [mem_edgesT] at hx
  · obtain ⟨A, B, e, hp⟩ := ins_at _ _ (edgesT_rise g) hx
    refine Or.inr ⟨A, B, e, edgesT_eq hp fun x => ?_⟩
    rw [more_mem h1 h2 ht, ← mem_edgesT, e]
    simp only [List.mem_append, List.mem_cons]
    constructor
    · rintro (h | h | h)
      · exact Or.inl (Or.inl h)
      · exact Or.inr h
      · exact Or.inl (Or.inr h)
    · rintro ((h | h) | h)
      · exact Or.inl h
      · exact Or.inr (Or.inr h)
      · exact Or.inr (Or.inl h)
end Go.Proofs.Ytdoibpgkfdpbdaa
