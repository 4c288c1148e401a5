/- DependsBoth, plain: two grammars, one behind the other. -/
import Derived.Test.YtdoibpgkfdpbdaaDepPl
import Derived.Test.YtdoibpgkfdpbdaaRefDec
namespace Go.Proofs.Ytdoibpgkfdpbdaa
set_option linter.unusedVariables false

/-- The first n are told by f, the others are as they were. -/
def part {α : Type} (f : α → α) (l : List α) (n : Nat) : List α := (l.take n).map f ++ l.drop n
theorem part_zero {α : Type} (f : α → α) (l : List α) : part f l 0 = l := by simp [part]
theorem part_all {α : Type} (f : α → α) (l : List α) {n : Nat} (h : n = l.length) : part f l n = l.map f := by subst h; simp [part]
theorem part_len {α : Type} (f : α → α) (l : List α) {n : Nat} (h : n ≤ l.length) : (part f l n).length = l.length := by simp [part]; omega
theorem part_get {α : Type} (f : α → α) (l : List α) {n : Nat} (h : n < l.length) : (part f l n)[n]? = l[n]? := by
  unfold part
  rw [List.getElem?_append_right (by simp; omega), List.length_map, List.length_take, Nat.min_eq_left (by omega), Nat.sub_self, List.getElem?_drop]
  rfl
theorem part_set {α : Type} (f : α → α) (l : List α) {n : Nat} {x : α} (h : l[n]? = some x) : (part f l n).set n (f x) = part f l (n + 1) := by
  have hl : n < l.length := (List.getElem?_eq_some_iff.1 h).1
  have e0 : l.take (n + 1) = l.take n ++ [x] := by rw [List.take_add_one, h]; rfl
  have e1 : l.drop n = x :: l.drop (n + 1) := by
    rw [List.drop_eq_getElem_cons hl]
    rw [List.getElem?_eq_getElem hl] at h
    injection h with h
    rw [h]
  unfold part
  rw [e0, e1, List.map_append, List.set_append, List.length_map, List.length_take, Nat.min_eq_left (by omega)]
  simp
theorem set_same {α : Type} {l : List α} {n : Nat} {x : α} (h : l[n]? = some x) : l.set n x = l := by
  apply List.ext_getElem?
  intro i
  by_cases hi : i = n
  · subst hi
    rw [List.getElem?_set_self (List.getElem?_eq_some_iff.1 h).1, h]
  · rw [List.getElem?_set_ne (Ne.symm hi)]
def shS (k : Nat) (s : Sy) : Sy := ⟨if s.name ≥ 0 then s.name + k else s.name, s.lo, s.hi⟩
def shC (k : Nat) (c : Cn) : Cn := ⟨c.neg, c.seq.map (shS k)⟩
/-- A rule's conjuncts alone. -/
def shK (k : Nat) (r : Ru) : Ru := ⟨r.head, r.conj.map (shC k)⟩
def shR (k : Nat) (r : Ru) : Ru := ⟨r.head + k, r.conj.map (shC k)⟩
def shE (k : Nat) (e : Ed) : Ed := (e.1 + k, e.2.1 + k, e.2.2)
/-- The names of both. -/
def nmA (k : Nat) : List ByteArray := (List.range k).map fun i => ⟨#[97]⟩ ++ decT i
def nmB (m : Nat) : List ByteArray := (List.range m).map fun i => ⟨#[98]⟩ ++ decT i
def bothG (g h : Gr) : Gr := ⟨g.start, nmA g.names.length ++ nmB h.names.length, g.rules ++ h.rules.map (shR g.names.length)⟩
theorem seq_sh (k : Nat) (h : Int) (n : Bool) : ∀ l : List Sy, (∀ s, s ∈ l → s.name = -1 ∨ 0 ≤ s.name) → seqE (h + k) n (l.map (shS k)) = (seqE h n l).map (shE k)
  | [], _ => rfl
  | s :: l, hl => by
    have ih := seq_sh k h n l (fun s hs => hl s (List.mem_cons_of_mem _ hs))
    show (if (shS k s).name = -1 then seqE (h + k) n (l.map (shS k)) else (h + k, (shS k s).name, n) :: seqE (h + k) n (l.map (shS k))) = (if s.name = -1 then seqE h n l else (h, s.name, n) :: seqE h n l).map (shE k)
    rw [ih]
    rcases hl s (List.mem_cons_self) with h1 | h1
    · have e : (shS k s).name = -1 := by show (if s.name ≥ 0 then _ else _) = _; rw [if_neg (by omega)]; exact h1
      rw [if_pos e, if_pos h1]
    · have e : (shS k s).name = s.name + k := by show (if s.name ≥ 0 then _ else _) = _; rw [if_pos (by omega)]
      rw [if_neg (by rw [e]; omega), if_neg (by omega), e]
      rfl
theorem cns_sh (k : Nat) (h : Int) : ∀ l : List Cn, (∀ c, c ∈ l → ∀ s, s ∈ c.seq → s.name = -1 ∨ 0 ≤ s.name) → cnsE (h + k) (l.map (shC k)) = (cnsE h l).map (shE k)
  | [], _ => rfl
  | c :: l, hl => by
    show seqE (h + k) c.neg (c.seq.map (shS k)) ++ cnsE (h + k) (l.map (shC k)) = (seqE h c.neg c.seq ++ cnsE h l).map (shE k)
    rw [cns_sh k h l (fun d hd => hl d (List.mem_cons_of_mem _ hd)), seq_sh k h c.neg c.seq (hl c (List.mem_cons_self)), List.map_append]
theorem all_sh (k : Nat) : ∀ l : List Ru, (∀ r, r ∈ l → ∀ c, c ∈ r.conj → ∀ s, s ∈ c.seq → s.name = -1 ∨ 0 ≤ s.name) → allE (l.map (shR k)) = (allE l).map (shE k)
  | [], _ => rfl
  | r :: l, hl => by
    show cnsE (r.head + k) (r.conj.map (shC k)) ++ allE (l.map (shR k)) = (cnsE r.head r.conj ++ allE l).map (shE k)
    rw [all_sh k l (fun d hd => hl d (List.mem_cons_of_mem _ hd)), cns_sh k r.head r.conj (hl r (List.mem_cons_self)), List.map_append]
theorem both_edges {g h : Gr} (hg : mayG g = true) (hh : mayG h = true) : edgesT (bothG g h) = edgesT g ++ (edgesT h).map (shE g.names.length) := by
  have hk : ∀ r, r ∈ h.rules → ∀ c, c ∈ r.conj → ∀ s, s ∈ c.seq → s.name = -1 ∨ 0 ≤ s.name := fun r hr c hc s hs => by
    rcases mayG_sym hh r hr c hc s hs with h1 | h1
    · exact Or.inl h1
    · exact Or.inr h1.1
  refine edgesT_eq ?_ fun x => ?_
  · rw [List.pairwise_append]
    refine ⟨edgesT_rise g, ?_, fun a ha b hb => ?_⟩
    · rw [List.pairwise_map]
      refine (edgesT_rise h).imp fun {a b} hab => ?_
      rw [ltE_iff] at hab ⊢
      show a.1 + _ < b.1 + _ ∨ a.1 + _ = b.1 + _ ∧ (a.2.1 + _ < b.2.1 + _ ∨ a.2.1 + _ = b.2.1 + _ ∧ numB a.2.2 < numB b.2.2)
      omega
    · rw [ltE_iff]
      obtain ⟨c, hc, rfl⟩ := List.mem_map.1 hb
      rw [mem_edgesT, mem_allE] at ha hc
      obtain ⟨r, hr, h1⟩ := ha
      obtain ⟨q, hq, h2⟩ := hc
      rw [mem_cnsE] at h1 h2
      obtain ⟨c1, _, h1⟩ := h1
      obtain ⟨c2, _, h2⟩ := h2
      rw [mem_seqE] at h1 h2
      have e1 := mayG_head hg r hr
      have e2 := mayG_head hh q hq
      show a.1 < c.1 + _ ∨ _
      left
      rw [h1.1, h2.1]
      omega
  · show x ∈ edgesT g ++ (edgesT h).map (shE g.names.length) ↔ x ∈ allE (g.rules ++ h.rules.map (shR g.names.length))
    rw [allE_append, all_sh _ _ hk, List.mem_append, List.mem_append, mem_edgesT, List.mem_map, List.mem_map]
    refine or_congr Iff.rfl ⟨?_, ?_⟩
    · rintro ⟨a, ha, e⟩; exact ⟨a, (mem_edgesT h a).1 ha, e⟩
    · rintro ⟨a, ha, e⟩; exact ⟨a, (mem_edgesT h a).2 ha, e⟩
end Go.Proofs.Ytdoibpgkfdpbdaa
