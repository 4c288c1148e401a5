/- What Parse makes is not too great for Build. No program in sight. -/
import Derived.Test.YtkkfacbbelochaaNotePl
import Derived.Test.YtkkfacbbelochaaGramOk
namespace Go.Proofs.Ytkkfacbbelochaa

theorem strOf_sz (l : List Int) : (strOf l).size = l.length := by show (List.toArray _).size = _; simp
theorem textS_len (b : Nat → Int) (n : Nat) : ∀ f k acc l to, textS b n f k acc = some (l, to) → l.length ≤ acc.length + f
  | 0, _, _, _, _, h => by cases h
  | f + 1, k, acc, l, to, h => by
    have h' : (if k < n ∧ b k = 34 then some (acc, k + 1) else match signF b n k 34 with
      | none => none
      | some (c, to) => textS b n f to (acc ++ [c])) = some (l, to) := h
    split at h'
    · injection h' with h'; injection h' with e1 e2; subst e1; omega
    · split at h'
      · cases h'
      · rename_i c t hs
        have := textS_len b n f t _ l to h'
        simp only [List.length_append, List.length_cons, List.length_nil] at this
        omega
theorem cut_size (b : Nat → Int) (i j : Nat) : (strOf (cut b i j)).size ≤ j - i := by
  rw [strOf_sz]; simp [cut]
theorem tokF_size {b : Nat → Int} {n k : Nat} {t : Tok} {to : Nat} (h : tokF b n k = .tok t to) : t.text.size ≤ n + 32 := by
  unfold tokF at h
  split at h
  · unfold nameG at h
    split at h
    · cases h
    · obtain ⟨rfl, -⟩ := got_inj h
      have := cut_size b k (nameE b n k)
      unfold nameT
      split
      · exact Nat.zero_le _
      · show (strOf (cut b k (nameE b n k))).size ≤ _
        omega
  · split at h
    · unfold textG at h
      split at h
      · cases h
      · rename_i l to' hl
        obtain ⟨rfl, -⟩ := got_inj h
        show (strOf l).size ≤ _
        rw [strOf_sz]
        have := textS_len _ _ _ _ _ _ _ hl
        simp only [List.length_nil] at this
        omega
    · split at h
      · unfold rangeG at h
        split at h
        · cases h
        · obtain ⟨rfl, -⟩ := got_inj h
          exact Nat.zero_le _
      · split at h
        · obtain ⟨rfl, -⟩ := got_inj h
          exact Nat.zero_le _
        · cases h
theorem lexS_size (b : Nat → Int) (n : Nat) : ∀ f k l, lexS b n f k = .ok l → ∀ t, t ∈ l → t.text.size ≤ n + 32
  | 0, k, l, h, t, ht => by injection h with h; subst h; cases ht
  | f + 1, k, l, h, t, ht => by
    have h' : (if n ≤ skp b n false k then Except.ok [] else match tokF b n (skp b n false k) with
      | .ok (t, to) => Res.cons t (lexS b n f to)
      | .error true => .error (skp b n false k, 201)
      | .error false => .error (skp b n false k, 200)) = .ok l := h
    by_cases h1 : n ≤ skp b n false k
    · rw [if_pos h1] at h'; injection h' with h'; subst h'; cases ht
    · rw [if_neg h1] at h'
      rcases hg : tokF b n (skp b n false k) with (_ | _) | ⟨u, to⟩
      · rw [hg] at h'; cases h'
      · rw [hg] at h'; cases h'
      · rw [hg] at h'
        have h2 : Res.cons u (lexS b n f to) = .ok l := h'
        cases hg2 : lexS b n f to with
        | error e => rw [hg2] at h2; cases h2
        | ok l2 =>
          rw [hg2] at h2
          obtain rfl : u :: l2 = l := by injection h2
          rcases List.mem_cons.1 ht with e | e
          · subst e; exact tokF_size hg
          · exact lexS_size b n f to l2 hg2 t e
theorem lexS_cnt (b : Nat → Int) (n : Nat) : ∀ f k l, lexS b n f k = .ok l → l.length ≤ f
  | 0, k, l, h => by injection h with h; subst h; exact Nat.le_refl _
  | f + 1, k, l, h => by
    have h' : (if n ≤ skp b n false k then Except.ok [] else match tokF b n (skp b n false k) with
      | .ok (t, to) => Res.cons t (lexS b n f to)
      | .error true => .error (skp b n false k, 201)
      | .error false => .error (skp b n false k, 200)) = .ok l := h
    by_cases h1 : n ≤ skp b n false k
    · rw [if_pos h1] at h'; injection h' with h'; subst h'; exact Nat.zero_le _
    · rw [if_neg h1] at h'
      rcases hg : tokF b n (skp b n false k) with (_ | _) | ⟨u, to⟩
      · rw [hg] at h'; cases h'
      · rw [hg] at h'; cases h'
      · rw [hg] at h'
        have h2 : Res.cons u (lexS b n f to) = .ok l := h'
        cases hg2 : lexS b n f to with
        | error e => rw [hg2] at h2; cases h2
        | ok l2 =>
          rw [hg2] at h2
          obtain rfl : u :: l2 = l := by injection h2
          have := lexS_cnt b n f to l2 hg2
          simp only [List.length_cons]; omega

def okC (N : Nat) (c : Cj) : Prop := ∀ i, i ∈ c.items → i.text.size ≤ N
def okA (N K : Nat) (a : List Cj) : Prop := a.length ≤ K ∧ ∀ c, c ∈ a → okC N c
def okD (N K : Nat) (d : Df) : Prop := d.name.size ≤ N ∧ d.alts.length ≤ K ∧ ∀ a, a ∈ d.alts → okA N K a
structure Sm (N K : Nat) (p : Pm) : Prop where
  st : ∀ s, s ∈ p.starts → s.size ≤ N
  df : ∀ d, d ∈ p.defs → okD N K d
  s0 : p.start.size ≤ N
  nm : p.name.size ≤ N
  al : ∀ a, a ∈ p.alts → okA N K a
  ac : ∀ c, c ∈ p.alt → okC N c
  it : ∀ i, i ∈ p.items → i.text.size ≤ N
theorem all_snoc {α : Type} {P : α → Prop} {l : List α} {y : α} (h : ∀ x, x ∈ l → P x) (hy : P y) : ∀ x, x ∈ l ++ [y] → P x := by
  intro x hx
  rcases List.mem_append.1 hx with e | e
  · exact h x e
  · rw [List.mem_singleton.1 e]; exact hy
theorem all_none {α : Type} {P : α → Prop} : ∀ x, x ∈ ([] : List α) → P x := fun x h => by cases h
theorem sm0 (N K : Nat) : Sm N K pm0 := ⟨all_none, all_none, Nat.zero_le _, Nat.zero_le _, all_none, all_none, all_none⟩
theorem tItem_sm {N K : Nat} {p q : Pm} {t : Tok} (h : Sm N K p) (ht : t.text.size ≤ N) (e : tItem p t = some q) : Sm N K q := by
  unfold tItem at e
  split at e
  · injection e with e; subst e
    exact ⟨h.st, h.df, h.s0, h.nm, h.al, h.ac, all_snoc (P := fun i : It => i.text.size ≤ N) h.it ht⟩
  · cases e
theorem take_sm {N K k : Nat} {p q : Pm} {t : Tok} (h : Sm N K p) (hf : Fits p k) (hk : k + 1 ≤ K) (ht : t.text.size ≤ N) (e : take p t = some q) : Sm N K q := by
  have h3 := hf.alts; have h4 := hf.alt
  have hcj : okC N ⟨p.neg, p.items⟩ := h.it
  have hal : okA N K (p.alt ++ [⟨p.neg, p.items⟩]) := ⟨by simp; omega, all_snoc (P := okC N) h.ac hcj⟩
  unfold take at e
  match hs : p.st with
  | 0 =>
    rw [hs] at e
    have e' : take0 p t = some q := e
    unfold take0 at e'
    split at e'
    · injection e' with e'; subst e'
      exact ⟨h.st, h.df, h.s0, h.nm, h.al, h.ac, h.it⟩
    · split at e'
      · injection e' with e'; subst e'
        exact ⟨h.st, h.df, h.s0, ht, h.al, h.ac, h.it⟩
      · cases e'
  | 1 =>
    rw [hs] at e
    have e' : take1 p t = some q := e
    unfold take1 at e'
    split at e'
    · injection e' with e'; subst e'
      exact ⟨h.st, h.df, ht, h.nm, h.al, h.ac, h.it⟩
    · cases e'
  | 2 =>
    rw [hs] at e
    have e' : take2 p t = some q := e
    unfold take2 at e'
    split at e'
    · injection e' with e'; subst e'
      exact ⟨all_snoc (P := fun s : ByteArray => s.size ≤ N) h.st h.s0, h.df, h.s0, h.nm, h.al, h.ac, h.it⟩
    · cases e'
  | 3 =>
    rw [hs] at e
    have e' : take3 p t = some q := e
    unfold take3 at e'
    split at e'
    · injection e' with e'; subst e'
      exact ⟨h.st, h.df, h.s0, h.nm, h.al, h.ac, h.it⟩
    · cases e'
  | 4 =>
    rw [hs] at e
    have e' : take4 p t = some q := e
    unfold take4 at e'
    split at e'
    · injection e' with e'; subst e'
      exact ⟨h.st, h.df, h.s0, h.nm, h.al, h.ac, h.it⟩
    · exact tItem_sm h ht e'
  | 5 =>
    rw [hs] at e
    exact tItem_sm h ht e
  | m + 6 =>
    rw [hs] at e
    have e' : take6 p t = some q := e
    unfold take6 at e'
    split at e'
    · injection e' with e'; subst e'
      exact ⟨h.st, h.df, h.s0, h.nm, h.al, all_snoc (P := okC N) h.ac hcj, all_none⟩
    · split at e'
      · injection e' with e'; subst e'
        exact ⟨h.st, h.df, h.s0, h.nm, all_snoc (P := okA N K) h.al hal, all_none, all_none⟩
      · split at e'
        · injection e' with e'; subst e'
          exact ⟨h.st, all_snoc (P := okD N K) h.df ⟨h.nm, by simp; omega, all_snoc (P := okA N K) h.al hal⟩, h.s0, Nat.zero_le _, all_none, all_none, all_none⟩
        · exact tItem_sm h ht e'
theorem feed_sm {N K : Nat} : ∀ (l : List Tok) (p q : Pm) (k : Nat), Sm N K p → Fits p k → k + l.length ≤ K → (∀ t, t ∈ l → t.text.size ≤ N) → feed p l = .ok q → Sm N K q ∧ q.defs.length ≤ K
  | [], p, q, k, h, hf, hk, ht, e => by
    injection e with e; subst e
    exact ⟨h, Nat.le_trans hf.defs (by simpa using hk)⟩
  | t :: l, p, q, k, h, hf, hk, ht, e => by
    have e' : (match take p t with
      | none => Except.error t.pl
      | some q => feed q l) = .ok q := e
    simp only [List.length_cons] at hk
    cases hT : take p t with
    | none => rw [hT] at e'; cases e'
    | some p' =>
      rw [hT] at e'
      exact feed_sm l p' q (k + 1) (take_sm h hf (by omega) (ht t (List.mem_cons_self ..)) hT) (take_fits hf hT) (by omega) (fun u hu => ht u (List.mem_cons_of_mem _ hu)) e'
theorem rules_cnt (names : List ByteArray) {N K : Nat} : ∀ (l : List Df), (∀ d, d ∈ l → okD N K d) → (rulesT names l).length ≤ l.length * K
  | [], _ => by simp [rulesT]
  | d :: l, h => by
    have h1 := rules_cnt names l (fun d hd => h d (List.mem_cons_of_mem _ hd))
    have h2 := (h d (List.mem_cons_self ..)).2.1
    have h3 : rulesT names (d :: l) = rulesD names d ++ rulesT names l := rfl
    have h4 : (rulesD names d).length = d.alts.length := by simp [rulesD]
    rw [h3, List.length_append, h4, List.length_cons, Nat.add_mul]
    omega
theorem parse_sized {s : ByteArray} {r : Rw} (h : parseT s = .ok r) : Sized r := by
  unfold parseT at h
  split at h
  · cases h
  · rename_i hs
    cases hA : lexT s with
    | error e => rw [hA] at h; cases h
    | ok l =>
      rw [hA] at h
      have h' : shutP s.size (feed pm0 l) = .ok r := h
      rw [lexT, lexB, if_neg hs, lexK] at hA
      have c1 := lexS_cnt _ _ _ _ _ hA
      have c2 := lexS_size _ _ _ _ _ hA
      cases hF : feed pm0 l with
      | error e => rw [hF] at h'; cases h'
      | ok q =>
        rw [hF] at h'
        have h2 : (if q.st = 0 then Except.ok ⟨q.starts, q.defs⟩ else .error (s.size, 300)) = (.ok r : Pres) := h'
        split at h2
        · injection h2 with h2; subst h2
          obtain ⟨hm, hd⟩ := feed_sm (N := 65568) (K := 65537) l pm0 q 0 (sm0 _ _) fits0 (by omega) (fun t ht => Nat.le_trans (c2 t ht) (by omega)) hF
          have hr := rules_cnt (namesT q.defs) q.defs hm.df
          have hr2 : q.defs.length * 65537 ≤ 65537 * 65537 := Nat.mul_le_mul_right _ hd
          exact ⟨fun d hd a ha c hc i hi => Nat.le_trans (((hm.df d hd).2.2 a ha).2 c hc i hi) (by omega), fun d hd => Nat.le_trans (hm.df d hd).1 (by omega), fun s hs => Nat.le_trans (hm.st s hs) (by omega), by show q.defs.length ≤ _; omega, by show (rulesT (namesT q.defs) q.defs).length ≤ _; omega, fun d hd a ha => Nat.le_trans ((hm.df d hd).2.2 a ha).1 (by omega)⟩
        · cases h2
/-- What Build makes may be. -/
theorem build_may {r : Rw} {g : Gr} (h : buildT r = .ok g) : mayG g = true ∧ tooLongT r.defs = false ∧ gramT r = g := by
  unfold buildT at h
  split at h
  · cases h
  · split at h
    · cases h
    · split at h
      · cases h
      · split at h
        · cases h
        · split at h
          · cases h
          · rename_i hl
            split at h
            · rename_i hm
              injection h with h; subst h
              exact ⟨hm, by simpa using hl, rfl⟩
            · cases h
theorem build_short {r : Rw} {g : Gr} (hS : Sized r) (h : buildT r = .ok g) : Short g.rules ∧ ∀ s, s ∈ g.names → s.size ≤ maxLen := by
  obtain ⟨-, h1, h2⟩ := build_may h
  subst h2
  exact ⟨hS.short h1, hS.names⟩
end Go.Proofs.Ytkkfacbbelochaa
