/- A rule's conjunct more takes nothing away, plainly. -/
import Derived.Test.YtopokicdgdjgkaaFirX
import Derived.Test.YtopokicdgdjgkaaMoreC
namespace Go.Proofs.Ytopokicdgdjgkaa
set_option linter.unusedVariables false

theorem more_sub {L : List Ru} {k : Nat} {r : Ru} {c : Cn} (hr : L[k]? = some r) {q : Ru} (hq : q ∈ L) : ∃ q', q' ∈ moreL L k r c ∧ q'.head = q.head ∧ ∀ d, d ∈ q.conj → d ∈ q'.conj := by
  have hkl : k < L.length := (List.getElem?_eq_some_iff.1 hr).1
  obtain ⟨i, hi⟩ := List.getElem?_of_mem hq
  by_cases h : i = k
  · subst h
    rw [hr] at hi; injection hi with hi; subst hi
    exact ⟨⟨r.head, r.conj ++ [c]⟩, List.mem_of_getElem? (i := i) (by unfold moreL; rw [List.getElem?_set_self hkl]), rfl, fun d hd => List.mem_append_left _ hd⟩
  · exact ⟨q, List.mem_of_getElem? (i := i) (by unfold moreL; rw [List.getElem?_set_ne (Ne.symm h)]; exact hi), rfl, fun d hd => hd⟩
theorem more_mem {L : List Ru} {k : Nat} {r : Ru} {c : Cn} (hr : L[k]? = some r) {q : Ru} (hq : q ∈ moreL L k r c) : ∃ q', q' ∈ L ∧ ∀ d, d ∈ q.conj → d ∈ q'.conj ∨ d = c := by
  unfold moreL at hq
  rcases List.mem_or_eq_of_mem_set hq with h | h
  · exact ⟨q, h, fun d hd => Or.inl hd⟩
  · subst h
    exact ⟨r, List.mem_of_getElem? hr, fun d hd => by
      rcases List.mem_append.1 hd with hd | hd
      · exact Or.inl hd
      · exact Or.inr (List.mem_singleton.1 hd)⟩
def moreG (g : Gr) (k : Nat) (r : Ru) (c : Cn) : Gr := ⟨g.start, g.names, moreL g.rules k r c⟩
theorem more_emp {g : Gr} {k : Nat} {r : Ru} {c : Cn} (hr : g.rules[k]? = some r) {E E' : Nat → Bool} (h : EmpOk g.rules E) (h' : EmpOk (moreG g k r c).rules E') : ∀ i, E i = true → E' i = true :=
  h.le E' fun q hq d hd he => by
    obtain ⟨q', h1, h2, h3⟩ := more_sub (c := c) hr hq
    rw [← h2]
    exact h'.cl q' h1 d (h3 d hd) he
theorem more_fst {g : Gr} {k : Nat} {r : Ru} {c : Cn} (hr : g.rules[k]? = some r) {E E' : Nat → Bool} {B B' : Nat → Nat → Nat} (h : FstOk g E B) (h' : FstOk (moreG g k r c) E' B') : ∀ i, leB (B i) (B' i) :=
  h.le B' fun q hq d hd => by
    obtain ⟨q', h1, h2, h3⟩ := more_sub (c := c) hr hq
    have h4 := h'.cl q' h1 d (h3 d hd)
    rw [h2] at h4
    refine leB.trans ?_ h4
    rw [comF_com, comF_com]
    exact (com_mono (more_emp hr h.eo h'.eo) (fun _ => leB.refl _) (leF.refl _) d.seq).1
theorem more_fol {g : Gr} {k : Nat} {r : Ru} {c : Cn} (hr : g.rules[k]? = some r) {E E' : Nat → Bool} {B B' : Nat → Nat → Nat} {D D' : Nat → Fo} (h : FstOk g E B) (h' : FstOk (moreG g k r c) E' B') (hd : LeastF g E B D) (hd' : ClosF (moreG g k r c) E' B' D') : ∀ i, leF (D i) (D' i) :=
  hd D' ⟨hd'.1, fun q hq d hdd l1 s l2 e hn => by
    obtain ⟨q', h1, h2, h3⟩ := more_sub (c := c) hr hq
    have h4 := hd'.2 q' h1 d (h3 d hdd) l1 s l2 e hn
    rw [h2] at h4
    exact (com_mono (more_emp hr h.eo h'.eo) (more_fst hr h h') (leF.refl _) l2).trans h4⟩
end Go.Proofs.Ytopokicdgdjgkaa
