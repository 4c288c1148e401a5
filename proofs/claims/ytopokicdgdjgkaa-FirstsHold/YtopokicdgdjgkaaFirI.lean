/- What a name begins with, gathered conjunct by conjunct. No program in sight. -/
import Derived.Test.YtopokicdgdjgkaaFirL
namespace Go.Proofs.Ytopokicdgdjgkaa
set_option linter.unusedVariables false
set_option linter.unusedSimpArgs false

def IvP (E : Nat → Bool) (B : Nat → Nat → Nat) (k : Nat) (S : List Sy → Prop) (e : Bool) (A : Nat → Nat) : Prop := okB A ∧ leB A (B k) ∧ (e = true → E k = true) ∧ ∀ l, S l → (empB E l = true → e = true) ∧ leB (comT E B l).1 A
def S2 (L : List Ru) (k i : Nat) : List Sy → Prop := fun l => ∃ r, r ∈ L.take i ∧ r.head.toNat = k ∧ ∃ c, c ∈ r.conj ∧ c.seq = l
def S3 (L : List Ru) (k i : Nat) (r : Ru) (j : Nat) : List Sy → Prop := fun l => S2 L k i l ∨ ∃ c, c ∈ r.conj.take j ∧ c.seq = l
theorem IvP.zero (E : Nat → Bool) (B : Nat → Nat → Nat) (L : List Ru) (k : Nat) : IvP E B k (S2 L k 0) false zB :=
  ⟨okB_zB, leB_zero _, fun h => (by cases h), fun l ⟨r, hr, _⟩ => (by cases hr)⟩
theorem IvP.less {E : Nat → Bool} {B : Nat → Nat → Nat} {k : Nat} {S T : List Sy → Prop} {e : Bool} {A : Nat → Nat} (h : IvP E B k S e A) (hT : ∀ l, T l → S l) : IvP E B k T e A := ⟨h.1, h.2.1, h.2.2.1, fun l hl => h.2.2.2 l (hT l hl)⟩
theorem IvP.into {E : Nat → Bool} {B : Nat → Nat → Nat} {k i : Nat} {L : List Ru} {r : Ru} {e : Bool} {A : Nat → Nat} (h : IvP E B k (S2 L k i) e A) : IvP E B k (S3 L k i r 0) e A :=
  h.less fun l hl => hl.elim id fun ⟨c, hc, _⟩ => by cases hc
theorem take_mem {α : Type} {l : List α} {i : Nat} {a b : α} (h : l[i]? = some a) (hb : b ∈ l.take (i + 1)) : b ∈ l.take i ∨ b = a := by
  rw [List.take_add_one, h] at hb
  rcases List.mem_append.1 hb with hb | hb
  · exact Or.inl hb
  · exact Or.inr (List.mem_singleton.1 hb)
theorem IvP.skip {E : Nat → Bool} {B : Nat → Nat → Nat} {k i j : Nat} {L : List Ru} {r : Ru} {e : Bool} {A : Nat → Nat} (h : IvP E B k (S3 L k i r j) e A) (hr : L[i]? = some r) (hk : r.head.toNat ≠ k) : IvP E B k (S2 L k (i + 1)) e A :=
  h.less fun l ⟨q, hq, h2, h3⟩ => by
    rcases take_mem hr hq with hq | rfl
    · exact Or.inl ⟨q, hq, h2, h3⟩
    · exact absurd h2 hk
theorem IvP.out {E : Nat → Bool} {B : Nat → Nat → Nat} {k i j : Nat} {L : List Ru} {r : Ru} {e : Bool} {A : Nat → Nat} (h : IvP E B k (S3 L k i r j) e A) (hr : L[i]? = some r) (hj : j = r.conj.length) : IvP E B k (S2 L k (i + 1)) e A :=
  h.less fun l ⟨q, hq, h2, c, hc, h3⟩ => by
    rcases take_mem hr hq with hq | rfl
    · exact Or.inl ⟨q, hq, h2, c, hc, h3⟩
    · exact Or.inr ⟨c, by rw [hj, List.take_length]; exact hc, h3⟩
theorem IvP.add {E : Nat → Bool} {B : Nat → Nat → Nat} {k i j : Nat} {L : List Ru} {r : Ru} {e e' : Bool} {A A' : Nat → Nat} {c : Cn} (h : IvP E B k (S3 L k i r j) e A) (hc : r.conj[j]? = some c) (h1 : leB A A') (h2 : leB (comT E B c.seq).1 A') (h3 : leB A' (B k)) (ok : okB A') (he : e' = (e || empB E c.seq)) (hE : empB E c.seq = true → E k = true) : IvP E B k (S3 L k i r (j + 1)) e' A' := by
  refine ⟨ok, h3, fun h9 => ?_, fun l hl => ?_⟩
  · rw [he, Bool.or_eq_true] at h9
    rcases h9 with h9 | h9
    · exact h.2.2.1 h9
    · exact hE h9
  · have old : S3 L k i r j l → (empB E l = true → e' = true) ∧ leB (comT E B l).1 A' := fun h9 => by
      obtain ⟨q1, q2⟩ := h.2.2.2 l h9
      exact ⟨fun h => by rw [he, q1 h]; rfl, q2.trans h1⟩
    rcases hl with hl | ⟨d, hd, rfl⟩
    · exact old (Or.inl hl)
    · rcases take_mem hc hd with hd | rfl
      · exact old (Or.inr ⟨d, hd, rfl⟩)
      · exact ⟨fun h => by rw [he, h, Bool.or_true], h2⟩
theorem IvP.done {g : Gr} {E : Nat → Bool} {B : Nat → Nat → Nat} (hf : FstOk g E B) {k i : Nat} {e : Bool} {A : Nat → Nat} (h : IvP E B k (S2 g.rules k i) e A) (hi : i = g.rules.length) : E k = e ∧ ∀ j, j < 4 → B k j = A j := by
  have all : ∀ r, r ∈ g.rules → r.head.toNat = k → ∀ c, c ∈ r.conj → (empB E c.seq = true → e = true) ∧ leB (comT E B c.seq).1 A := fun r hr hk c hc => h.2.2.2 _ ⟨r, by rw [hi, List.take_length]; exact hr, hk, c, hc, rfl⟩
  constructor
  · cases he : E k with
    | true =>
      obtain ⟨r, c, hr, hc, h1, h2⟩ := hf.eo.su k he
      exact ((all r hr h1 c hc).1 h2).symm
    | false =>
      cases e with
      | false => rfl
      | true => rw [h.2.2.1 rfl] at he; cases he
  · refine leB.anti ?_ h.2.1
    have hle : ∀ j, leB ((fun j => if j = k then A else B j) j) (B j) := fun j => by
      show leB (if j = k then A else B j) (B j)
      split
      · rename_i e; subst e; exact h.2.1
      · exact leB.refl _
    have hC : ClosB g.rules E (fun j => if j = k then A else B j) := fun r hr c hc => by
      have h1 : leB (comT E (fun j => if j = k then A else B j) c.seq).1 (comT E B c.seq).1 := by
        rw [comF_com, comF_com]
        exact (com_mono (fun _ e => e) hle (leF.refl _) c.seq).1
      show leB _ (if r.head.toNat = k then A else B r.head.toNat)
      split
      · rename_i e; exact h1.trans (all r hr e c hc).2
      · exact h1.trans (hf.cl r hr c hc)
    have := hf.le _ hC k
    simpa using this
/-- Within a row: the first m symbols come to nothing; A has what they begin with. -/
def IvM (E : Nat → Bool) (B : Nat → Nat → Nat) (k : Nat) (l : List Sy) (A0 : Nat → Nat) (m : Nat) (A : Nat → Nat) : Prop :=
  okB A ∧ leB A0 A ∧ leB A (B k) ∧ empB E (l.take m) = true ∧ leB (comT E B l).1 (orB A (comT E B (l.drop m)).1) ∧ leB (comT E B (l.drop m)).1 (B k)
theorem IvM.zero {E : Nat → Bool} {B : Nat → Nat → Nat} {k : Nat} {l : List Sy} {A : Nat → Nat} (ok : okB A) (h1 : leB A (B k)) (h2 : leB (comT E B l).1 (B k)) : IvM E B k l A 0 A :=
  ⟨ok, leB.refl _, h1, rfl, leB_right _ _, h2⟩
theorem IvM.next {E : Nat → Bool} {B : Nat → Nat → Nat} (hB : ∀ k, okB (B k)) {k m y : Nat} {lo up : Int} {l : List Sy} {A0 A : Nat → Nat} (h : IvM E B k l A0 m A) (hx : l[m]? = some ⟨(y : Int), lo, up⟩) (hy : E y = true) : IvM E B k l A0 (m + 1) (orB A (B y)) := by
  obtain ⟨o1, h1, h2, h3, h4, h5⟩ := h
  have e1 : (comT E B (l.drop m)).1 = orB (B y) (comT E B (l.drop (m + 1))).1 := by rw [comT_drop hx]; exact com_yes hy
  rw [e1] at h4 h5
  have h6 : leB (B y) (B k) := (leB_left _ _).trans h5
  refine ⟨okB_or o1 (hB y), h1.trans (leB_left _ _), leB_or h2 h6, ?_, ?_, (leB_right _ _).trans h5⟩
  · unfold empB at h3 ⊢
    rw [takeAll hx, h3, sym_nm, hy]; rfl
  · exact h4.trans (leB_or ((leB_left _ _).trans (leB_left _ _)) (leB_or ((leB_right _ _).trans (leB_left _ _)) (leB_right _ _)))
/-- The row's end is met. -/
theorem IvM.end {E : Nat → Bool} {B : Nat → Nat → Nat} {k m : Nat} {l : List Sy} {A0 A : Nat → Nat} (h : IvM E B k l A0 m A) (hm : m = l.length) : empB E l = true ∧ leB (comT E B l).1 A := by
  obtain ⟨o1, h1, h2, h3, h4, h5⟩ := h
  rw [hm, List.take_length] at h3
  rw [hm, List.drop_length] at h4
  exact ⟨h3, h4.trans (leB_or (leB.refl _) (leB_zero _))⟩
/-- A symbol is met that may not come to nothing. -/
theorem IvM.stop {E : Nat → Bool} {B : Nat → Nat → Nat} {k m : Nat} {l : List Sy} {A0 A R : Nat → Nat} {x : Sy} (h : IvM E B k l A0 m A) (hx : l[m]? = some x) (hs : symB E x = false) (hR : (aheadT E B x (comT E B (l.drop (m + 1)))).1 = R) (okR : okB R) : okB (orB A R) ∧ leB A0 (orB A R) ∧ leB (comT E B l).1 (orB A R) ∧ leB (orB A R) (B k) ∧ empB E l = false := by
  obtain ⟨o1, h1, h2, h3, h4, h5⟩ := h
  have e1 : (comT E B (l.drop m)).1 = R := by rw [comT_drop hx, hR]
  rw [e1] at h4 h5
  exact ⟨okB_or o1 okR, h1.trans (leB_left _ _), h4, leB_or h2 h5, allFalse hx hs⟩
end Go.Proofs.Ytopokicdgdjgkaa
