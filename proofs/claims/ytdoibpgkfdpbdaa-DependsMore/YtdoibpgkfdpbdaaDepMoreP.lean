/- DependsMore, plain: where the edge more stands. -/
import Derived.Test.YtdoibpgkfdpbdaaDepMoreT
namespace Go.Proofs.Ytdoibpgkfdpbdaa
set_option linter.unusedVariables false

/-- M is L, or L with x put in at p, where L has another one or none. -/
structure OneMore (L M : List Ed) (x : Ed) (p : Nat) : Prop where
  mem : x ∈ M
  lo : ∀ (i : Nat) (e : Ed), M[i]? = some e → i < p → L[i]? = some e
  at' : ∀ (e : Ed), M[p]? = some e → e = x ∧ L[p]? ≠ some x
  hi : ∀ (i : Nat) (e : Ed), M[i]? = some e → p < i → L[i - 1]? = some e
  len : (p = M.length ∧ L.length = M.length) ∨ (p < M.length ∧ M.length = L.length + 1)
theorem more_pos {g : Gr} {r c : Nat} {ru : Ru} {cn : Cn} {t : Int} (h1 : g.rules[r]? = some ru) (h2 : ru.conj[c]? = some cn) (ht : t ≠ -1) :
    ∃ p, OneMore (edgesT g) (edgesT (moreG g r ru c cn t)) (ru.head, t, cn.neg) p := by
  rcases more_edges h1 h2 ht with ⟨hx, e⟩ | ⟨A, B, e1, e2⟩
  · rw [e]
    exact ⟨(edgesT g).length, hx, fun i e h _ => h, fun e h => by simp at h, fun i e h hi => by have := (List.getElem?_eq_some_iff.1 h).1; omega, Or.inl ⟨rfl, rfl⟩⟩
  · have hr := edgesT_rise (moreG g r ru c cn t)
    rw [e1, e2]
    rw [e2] at hr
    refine ⟨A.length, by simp, fun i e h hi => ?_, fun e h => ?_, fun i e h hi => ?_, Or.inr ⟨by simp, by simp; omega⟩⟩
    · rw [List.getElem?_append_left hi] at h ⊢; exact h
    · rw [List.getElem?_append_right (Nat.le_refl _), Nat.sub_self] at h
      refine ⟨by simpa using h.symm, fun h9 => ?_⟩
      rw [List.getElem?_append_right (Nat.le_refl _), Nat.sub_self] at h9
      cases B with
      | nil => simp at h9
      | cons y B =>
        obtain rfl : y = (ru.head, t, cn.neg) := by simpa using h9
        have h3 := (List.pairwise_append.1 hr).2.1
        rw [List.pairwise_cons] at h3
        have h4 := h3.1 _ (List.mem_cons_self)
        have h5 := swoE.irrefl (ru.head, t, cn.neg)
        rw [h4] at h5; cases h5
    · rw [List.getElem?_append_right (by omega)] at h ⊢
      rw [show i - A.length = (i - 1 - A.length) + 1 by omega, List.getElem?_cons_succ] at h
      exact h
end Go.Proofs.Ytdoibpgkfdpbdaa
