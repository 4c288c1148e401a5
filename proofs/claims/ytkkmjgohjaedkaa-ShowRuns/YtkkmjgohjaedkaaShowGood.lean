/- Parts of a row that may be: known names, ends that are not crossed. No program in sight. -/
import Derived.Test.YtkkmjgohjaedkaaShowPl
namespace Go.Proofs.Ytkkmjgohjaedkaa
set_option linter.unusedVariables false

theorem getD_mem {α : Type} {l : List α} {i : Nat} (d : α) (h : i < l.length) : l.getD i d ∈ l := by
  rw [List.getD, List.getElem?_eq_getElem h]; exact List.getElem_mem h
/-- A part that is good: a known name, ends that are not crossed. -/
def GoodP (names : List ByteArray) (p : Part) : Prop := (∀ s, p = .inr (.inr s) → s ∈ names) ∧ ∀ a c, p = .inr (.inl (a, c)) → a.toNat ≤ c.toNat
theorem good_add (names : List ByteArray) (c : UInt8) : ∀ ps : List Part, (∀ p, p ∈ ps → GoodP names p) → ∀ p, p ∈ addT ps c → GoodP names p
  | [], _, p, hp => by
    obtain rfl : p = .inl [c] := by simpa [addT] using hp
    exact ⟨fun s e => (by cases e), fun a c e => (by cases e)⟩
  | [.inl l], _, p, hp => by
    obtain rfl : p = .inl (l ++ [c]) := by simpa [addT] using hp
    exact ⟨fun s e => (by cases e), fun a c e => (by cases e)⟩
  | [.inr x], h, p, hp => by
    have hp' : p = .inr x ∨ p = .inl [c] := by simpa [addT] using hp
    rcases hp' with rfl | rfl
    · exact h _ (by simp)
    · exact ⟨fun s e => (by cases e), fun a c e => (by cases e)⟩
  | q :: r :: ps, h, p, hp => by
    have hp' : p ∈ q :: addT (r :: ps) c := by simpa only [addT] using hp
    rcases List.mem_cons.1 hp' with e | e
    · subst e; exact h _ List.mem_cons_self
    · exact good_add names c (r :: ps) (fun x hx => h x (List.mem_cons_of_mem _ hx)) p e
theorem good_sym {names : List ByteArray} {s : Sy} (hs : maySym names.length s = true) (ps : List Part) (h : ∀ p, p ∈ ps → GoodP names p) : ∀ p, p ∈ symP names ps s → GoodP names p := by
  obtain ⟨nm, lo, hi⟩ := s
  intro p hp
  unfold maySym at hs
  unfold symP at hp
  simp only at hs hp
  by_cases e : nm = -1
  · rw [if_pos e] at hs
    simp only [Bool.and_eq_true, decide_eq_true_eq] at hs
    rw [if_neg (by simpa using e)] at hp
    by_cases e2 : lo = hi
    · rw [if_neg (by simpa using e2)] at hp
      exact good_add names _ ps h p hp
    · rw [if_pos e2] at hp
      rcases List.mem_append.1 hp with e3 | e3
      · exact h p e3
      · obtain rfl : p = .inr (.inl (byteOf lo, byteOf hi)) := by simpa using e3
        refine ⟨fun s e => (by cases e), fun a c e => ?_⟩
        injection e with e; injection e with e; injection e with e4 e5
        subst e4 e5
        have h1 := byteOf_nat (n := lo) (by omega) (by omega)
        have h2 := byteOf_nat (n := hi) (by omega) (by omega)
        omega
  · rw [if_neg e] at hs
    simp only [isNum, Bool.and_eq_true, decide_eq_true_eq] at hs
    rw [if_pos e] at hp
    rcases List.mem_append.1 hp with e3 | e3
    · exact h p e3
    · obtain rfl : p = .inr (.inr (names.getD nm.toNat ⟨#[]⟩)) := by simpa using e3
      refine ⟨fun s e => ?_, fun a c e => (by cases e)⟩
      injection e with e; injection e with e
      subst e
      exact getD_mem _ (by omega)
theorem good_fold {names : List ByteArray} : ∀ (l : List Sy) (ps : List Part), (∀ s, s ∈ l → maySym names.length s = true) → (∀ p, p ∈ ps → GoodP names p) → ∀ p, p ∈ l.foldl (symP names) ps → GoodP names p
  | [], ps, _, h => h
  | s :: l, ps, hs, h => good_fold l _ (fun x hx => hs x (List.mem_cons_of_mem _ hx)) (good_sym (hs s List.mem_cons_self) ps h)
theorem good_parts {names : List ByteArray} {l : List Sy} (h : mayRow names.length l = true) : ∀ p, p ∈ partsT names l → GoodP names p := by
  simp only [mayRow, Bool.and_eq_true, decide_eq_true_eq, List.all_eq_true] at h
  unfold partsT
  match l, h with
  | [], _ =>
    intro p hp
    obtain rfl : p = .inl [] := by simpa using hp
    exact ⟨fun s e => (by cases e), fun a c e => (by cases e)⟩
  | s :: l, h => exact good_fold (s :: l) [] h.2 (fun p hp => by simp at hp)
def symsR (r : Ru) : Nat := (r.conj.map fun c => c.seq.length).sum
theorem mayCs_spec (K : Nat) : ∀ (l : List Cn) (n m : Nat), mayCs K n l = some m → m = n + (l.map fun c => c.seq.length).sum ∧ (n ≤ 1024 → m ≤ 1024) ∧ ∀ c, c ∈ l → mayRow K c.seq = true
  | [], n, m, h => by
    have h' : some n = some m := h
    injection h' with h'; subst h'
    exact ⟨by simp, fun h => h, fun c hc => by simp at hc⟩
  | c :: l, n, m, h => by
    unfold mayCs at h
    by_cases e : n + c.seq.length ≤ 1024 ∧ mayRow K c.seq = true
    · rw [if_pos e] at h
      obtain ⟨h1, h2, h3⟩ := mayCs_spec K l _ m h
      refine ⟨by rw [h1, List.map_cons, List.sum_cons]; omega, fun _ => h2 e.1, fun d hd => ?_⟩
      rcases List.mem_cons.1 hd with e' | e'
      · subst e'; exact e.2
      · exact h3 d e'
    · rw [if_neg e] at h; cases h
theorem mayRs_spec (K : Nat) : ∀ (l : List Ru) (n : Nat), mayRs K n l = true → n ≤ 1024 → n + (l.map symsR).sum ≤ 1024 ∧ ∀ r, r ∈ l → 1 ≤ r.conj.length ∧ r.conj.length ≤ 8 ∧ ∀ c, c ∈ r.conj → mayRow K c.seq = true
  | [], n, _, h => ⟨by simpa using h, fun r hr => by simp at hr⟩
  | x :: l, n, h, hn => by
    unfold mayRs at h
    by_cases e : 1 ≤ x.conj.length ∧ x.conj.length ≤ 8
    · rw [if_pos e] at h
      cases hc : mayCs K n x.conj with
      | none => rw [hc] at h; cases h
      | some m =>
        rw [hc] at h
        obtain ⟨h1, h2, h3⟩ := mayCs_spec K x.conj n m hc
        obtain ⟨h4, h5⟩ := mayRs_spec K l m h (h2 hn)
        refine ⟨by rw [List.map_cons, List.sum_cons]; unfold symsR at h4 ⊢; omega, fun r hr => ?_⟩
        rcases List.mem_cons.1 hr with e' | e'
        · subst e'; exact ⟨e.1, e.2, h3⟩
        · exact h5 r e'
    · rw [if_neg e] at h; cases h
/-- What the program's Show leans on. -/
structure Showable (g : Gr) : Prop where
  nm : ∀ s, s ∈ g.names → s.size ≤ 1000
  n2 : g.names.length ≤ 64
  st : 0 ≤ g.start ∧ g.start < (g.names.length : Int)
  r2 : g.rules.length ≤ 256
  ru : ∀ r, r ∈ g.rules → r.conj.length ≤ 1048576 ∧ ∀ c, c ∈ r.conj → mayRow g.names.length c.seq = true
theorem showable {g : Gr} (h : mayG g = true) : Showable g := by
  simp only [mayG, mayNames, mayRules, isNum, Bool.and_eq_true, decide_eq_true_eq, List.all_eq_true] at h
  obtain ⟨⟨h1, h2, h3, h4⟩, ⟨h5, h6⟩, h7, h8, h9, h10⟩ := h
  obtain ⟨h11, h12⟩ := mayRs_spec _ _ _ h10 (by omega)
  refine ⟨fun s hs => ?_, h2, ⟨h5, h6⟩, h9, fun r hr => ⟨by have := (h12 r hr).2.1; omega, (h12 r hr).2.2⟩⟩
  have := h3 s hs
  simp only [isNameT, Bool.and_eq_true, decide_eq_true_eq] at this
  omega
end Go.Proofs.Ytkkmjgohjaedkaa
