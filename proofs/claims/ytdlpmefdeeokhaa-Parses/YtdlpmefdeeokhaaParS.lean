/- How long the texts of starts are at most. No program in sight. -/
import Derived.Test.YtdlpmefdeeokhaaNotePl
import Derived.Test.YtdlpmefdeeokhaaNoteParse
namespace Go.Proofs.Ytdlpmefdeeokhaa
set_option linter.unusedVariables false

theorem strOf_sz (l : List Int) : (strOf l).size = l.length := by show (List.toArray _).size = _; simp
theorem textS_len (b : Nat → Int) (n : Nat) : ∀ f k acc l to, textS b n f k acc = some (l, to) → l.length ≤ acc.length + f
  | 0, _, _, _, _, h => by cases h
  | f + 1, k, acc, l, to, h => by
    have h' : (if k < n ∧ b k = 34 then some (acc, k + 1) else match signF b n k 34 with
      | none => none
      | some (c, to) => textS b n f to (acc ++ [c])) = some (l, to) := h
    split at h'
    · injection h' with h'; injection h' with e1 e2; subst e1; omega
    · split at h'
      · cases h'
      · rename_i c t hs
        have := textS_len b n f t _ l to h'
        simp only [List.length_append, List.length_cons, List.length_nil] at this
        omega
theorem cut_size (b : Nat → Int) (i j : Nat) : (strOf (cut b i j)).size ≤ j - i := by
  rw [strOf_sz]; simp [cut]
theorem tokF_size {b : Nat → Int} {n k : Nat} {t : Tok} {to : Nat} (h : tokF b n k = .tok t to) : t.text.size ≤ n + 32 := by
  unfold tokF at h
  split at h
  · unfold nameG at h
    split at h
    · cases h
    · obtain ⟨rfl, -⟩ := got_inj h
      have := cut_size b k (nameE b n k)
      unfold nameT
      split
      · exact Nat.zero_le _
      · show (strOf (cut b k (nameE b n k))).size ≤ _
        omega
  · split at h
    · unfold textG at h
      split at h
      · cases h
      · rename_i l to' hl
        obtain ⟨rfl, -⟩ := got_inj h
        show (strOf l).size ≤ _
        rw [strOf_sz]
        have := textS_len _ _ _ _ _ _ _ hl
        simp only [List.length_nil] at this
        omega
    · split at h
      · unfold rangeG at h
        split at h
        · cases h
        · obtain ⟨rfl, -⟩ := got_inj h
          exact Nat.zero_le _
      · split at h
        · obtain ⟨rfl, -⟩ := got_inj h
          exact Nat.zero_le _
        · cases h
theorem lexS_size (b : Nat → Int) (n : Nat) : ∀ f k l, lexS b n f k = .ok l → ∀ t, t ∈ l → t.text.size ≤ n + 32
  | 0, k, l, h, t, ht => by injection h with h; subst h; cases ht
  | f + 1, k, l, h, t, ht => by
    have h' : (if n ≤ skp b n false k then Except.ok [] else match tokF b n (skp b n false k) with
      | .ok (t, to) => Res.cons t (lexS b n f to)
      | .error true => .error (skp b n false k, 201)
      | .error false => .error (skp b n false k, 200)) = .ok l := h
    by_cases h1 : n ≤ skp b n false k
    · rw [if_pos h1] at h'; injection h' with h'; subst h'; cases ht
    · rw [if_neg h1] at h'
      rcases hg : tokF b n (skp b n false k) with (_ | _) | ⟨u, to⟩
      · rw [hg] at h'; cases h'
      · rw [hg] at h'; cases h'
      · rw [hg] at h'
        have h2 : Res.cons u (lexS b n f to) = .ok l := h'
        cases hg2 : lexS b n f to with
        | error e => rw [hg2] at h2; cases h2
        | ok l2 =>
          rw [hg2] at h2
          obtain rfl : u :: l2 = l := by injection h2
          rcases List.mem_cons.1 ht with e | e
          · subst e; exact tokF_size hg
          · exact lexS_size b n f to l2 hg2 t e
theorem all_snoc {α : Type} {P : α → Prop} {l : List α} {y : α} (h : ∀ x, x ∈ l → P x) (hy : P y) : ∀ x, x ∈ l ++ [y] → P x := by
  intro x hx
  rcases List.mem_append.1 hx with e | e
  · exact h x e
  · rw [List.mem_singleton.1 e]; exact hy
theorem all_none {α : Type} {P : α → Prop} : ∀ x, x ∈ ([] : List α) → P x := fun x h => by cases h
/-- The starts so far, and the start in hand. -/
def smS (N : Nat) (p : Pm) : Prop := (∀ x, x ∈ p.starts → x.size ≤ N) ∧ p.start.size ≤ N
theorem tItem_smS {N : Nat} {p q : Pm} {t : Tok} (h : smS N p) (e : tItem p t = some q) : smS N q := by
  unfold tItem at e
  split at e
  · injection e with e; subst e; exact h
  · cases e
theorem take_smS {N : Nat} {p q : Pm} {t : Tok} (h : smS N p) (ht : t.text.size ≤ N) (e : take p t = some q) : smS N q := by
  unfold take at e
  match hs : p.st with
  | 0 =>
    rw [hs] at e
    have e' : take0 p t = some q := e
    unfold take0 at e'
    split at e'
    · injection e' with e'; subst e'; exact h
    · split at e'
      · injection e' with e'; subst e'; exact h
      · cases e'
  | 1 =>
    rw [hs] at e
    have e' : take1 p t = some q := e
    unfold take1 at e'
    split at e'
    · injection e' with e'; subst e'; exact ⟨h.1, ht⟩
    · cases e'
  | 2 =>
    rw [hs] at e
    have e' : take2 p t = some q := e
    unfold take2 at e'
    split at e'
    · injection e' with e'; subst e'; exact ⟨all_snoc h.1 h.2, h.2⟩
    · cases e'
  | 3 =>
    rw [hs] at e
    have e' : take3 p t = some q := e
    unfold take3 at e'
    split at e'
    · injection e' with e'; subst e'; exact h
    · cases e'
  | 4 =>
    rw [hs] at e
    have e' : take4 p t = some q := e
    unfold take4 at e'
    split at e'
    · injection e' with e'; subst e'; exact h
    · exact tItem_smS h e'
  | 5 =>
    rw [hs] at e
    exact tItem_smS h e
  | m + 6 =>
    rw [hs] at e
    have e' : take6 p t = some q := e
    unfold take6 at e'
    split at e'
    · injection e' with e'; subst e'; exact h
    · split at e'
      · injection e' with e'; subst e'; exact h
      · split at e'
        · injection e' with e'; subst e'; exact h
        · exact tItem_smS h e'
theorem feed_smS {N : Nat} : ∀ (l : List Tok) (p q : Pm), smS N p → (∀ t, t ∈ l → t.text.size ≤ N) → feed p l = .ok q → smS N q
  | [], p, q, h, _, e => by injection e with e; subst e; exact h
  | t :: l, p, q, h, hl, e => by
    have e' : (match take p t with
      | none => Except.error t.pl
      | some q => feed q l) = .ok q := e
    cases ht : take p t with
    | none => rw [ht] at e'; cases e'
    | some p2 =>
      rw [ht] at e'
      exact feed_smS l p2 q (take_smS h (hl t (List.mem_cons_self)) ht) (fun x hx => hl x (List.mem_cons_of_mem _ hx)) e'
theorem starts_size (s : ByteArray) : ∀ x, x ∈ (prAns (parseT s)).1.starts → x.size ≤ 9000000000000000000 := by
  cases h : parseT s with
  | error e => intro x hx; cases hx
  | ok r =>
    intro x hx
    have hx : x ∈ r.starts := hx
    by_cases hs : 65536 < s.size
    · rw [parseT, if_pos hs] at h; cases h
    · rw [parseT, if_neg hs] at h
      cases hL : lexT s with
      | error e => rw [hL] at h; cases h
      | ok l =>
        rw [hL] at h
        have h1 : shutP s.size (feed pm0 l) = .ok r := h
        cases hF : feed pm0 l with
        | error e => rw [hF] at h1; cases h1
        | ok q =>
          rw [hF] at h1
          have h2 : (if q.st = 0 then Except.ok ⟨q.starts, q.defs⟩ else .error (s.size, 300)) = (.ok r : Pres) := h1
          have hl : ∀ t, t ∈ l → t.text.size ≤ s.size + 32 := by
            rw [lexT, lexB, if_neg hs] at hL
            exact lexS_size _ _ _ _ _ hL
          have h3 := feed_smS (N := s.size + 32) l pm0 q ⟨fun x hx => (by cases hx), by show (0 : Nat) ≤ _; omega⟩ hl hF
          split at h2
          · injection h2 with h2
            subst h2
            have := h3.1 x hx
            omega
          · cases h2
end Go.Proofs.Ytdlpmefdeeokhaa
