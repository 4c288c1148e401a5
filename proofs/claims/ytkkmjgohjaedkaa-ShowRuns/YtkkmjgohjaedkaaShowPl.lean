/- A grammar's text, as a plain function. No program in sight. -/
import Derived.Test.YtkkmjgohjaedkaaGramPl
namespace Go.Proofs.Ytkkmjgohjaedkaa
set_option linter.unusedVariables false

def hexT (n : Nat) : UInt8 := if n < 10 then UInt8.ofNat (48 + n) else UInt8.ofNat (87 + n)
def escT (q c : UInt8) : List UInt8 :=
  if c.toNat < 32 ∨ 126 < c.toNat then [92, 120, hexT (c.toNat / 16), hexT (c.toNat % 16)]
  else if c = q ∨ c = 92 then [92, c] else [c]
def quoT (q : UInt8) (l : List UInt8) : List UInt8 := [q] ++ l.flatMap (escT q) ++ [q]
/-- A part of a conjunct: a text, a range, a name. -/
abbrev Part := List UInt8 ⊕ ((UInt8 × UInt8) ⊕ ByteArray)
def byteOf (n : Int) : UInt8 := UInt8.ofNat n.toNat
def addT : List Part → UInt8 → List Part
  | [], c => [.inl [c]]
  | [.inl l], c => [.inl (l ++ [c])]
  | [p], c => [p, .inl [c]]
  | p :: q :: ps, c => p :: addT (q :: ps) c
def symP (names : List ByteArray) (ps : List Part) (s : Sy) : List Part :=
  if s.name ≠ -1 then ps ++ [.inr (.inr (names.getD s.name.toNat ⟨#[]⟩))]
  else if s.lo ≠ s.hi then ps ++ [.inr (.inl (byteOf s.lo, byteOf s.hi))]
  else addT ps (byteOf s.lo)
def partsT (names : List ByteArray) (l : List Sy) : List Part := if l.isEmpty then [.inl []] else l.foldl (symP names) []
def partT : Part → List UInt8
  | .inl l => quoT 34 l
  | .inr (.inl (a, b)) => quoT 39 [a] ++ [46, 46] ++ quoT 39 [b]
  | .inr (.inr s) => s.data.toList
/-- n things with the same between any two of them. -/
def joinN (between : List UInt8) (t : Nat → List UInt8) : Nat → List UInt8
  | 0 => []
  | k + 1 => joinN between t k ++ (if 0 < k then between else []) ++ t k
def partAt (l : List Part) (i : Nat) : List UInt8 := partT (l.getD i (.inl []))
def conjT (names : List ByteArray) (c : Cn) : List UInt8 := (if c.neg then [126] else []) ++ joinN [32] (partAt (partsT names c.seq)) (partsT names c.seq).length
def conjAt (names : List ByteArray) (l : List Cn) (i : Nat) : List UInt8 := conjT names (l.getD i ⟨false, []⟩)
def conjsT (names : List ByteArray) (l : List Cn) : List UInt8 := joinN [32, 38, 32] (conjAt names l) l.length
def ruleAt (names : List ByteArray) (l : List Ru) (i : Nat) : List UInt8 := conjsT names (l.getD i ⟨0, []⟩).conj
def altsT (names : List ByteArray) (l : List Ru) : List UInt8 := joinN [32, 124, 32] (ruleAt names l) l.length
def rulesOfT (l : List Ru) (k : Nat) : List Ru := l.filter fun r => decide (r.head = (k : Int))
def defT (names : List ByteArray) (rules : List Ru) (k : Nat) : List UInt8 :=
  (names.getD k ⟨#[]⟩).data.toList ++ [32, 61, 32] ++ altsT names (rulesOfT rules k) ++ [59, 10]
def defsT (names : List ByteArray) (rules : List Ru) : Nat → List UInt8
  | 0 => []
  | k + 1 => defsT names rules k ++ defT names rules k
def showL (g : Gr) : List UInt8 := [115, 116, 97, 114, 116, 32] ++ (g.names.getD g.start.toNat ⟨#[]⟩).data.toList ++ [59, 10] ++ defsT g.names g.rules g.names.length
def showT (g : Gr) : ByteArray := ⟨(showL g).toArray⟩

theorem escT_len (q c : UInt8) : (escT q c).length ≤ 4 := by
  unfold escT; split
  · simp
  · split <;> simp
theorem flat_len {α : Type} (f : α → List UInt8) (m : Nat) (h : ∀ a, (f a).length ≤ m) : ∀ l : List α, (l.flatMap f).length ≤ l.length * m
  | [] => by simp
  | a :: l => by
    have := flat_len f m h l
    have := h a
    rw [List.flatMap_cons, List.length_append, List.length_cons, Nat.succ_mul]; omega
theorem quoT_len (q : UInt8) (l : List UInt8) : (quoT q l).length ≤ l.length * 4 + 2 := by
  have := flat_len (escT q) 4 (escT_len q) l
  simp only [quoT, List.length_append, List.length_cons, List.length_nil]; omega
theorem joinN_len (b : List UInt8) (t : Nat → List UInt8) (m : Nat) : ∀ n, (∀ i, i < n → (t i).length ≤ m) → (joinN b t n).length ≤ n * (b.length + m)
  | 0, _ => by simp [joinN]
  | n + 1, h => by
    have h1 := joinN_len b t m n (fun i hi => h i (by omega))
    have h2 := h n (by omega)
    have h3 : (if 0 < n then b else []).length ≤ b.length := by split <;> simp
    simp only [joinN, List.length_append, Nat.succ_mul]; omega
theorem joinN_mono (b : List UInt8) (t : Nat → List UInt8) : ∀ n k, k ≤ n → (joinN b t k).length ≤ (joinN b t n).length
  | 0, k, h => by obtain rfl : k = 0 := by omega
                  exact Nat.le_refl _
  | n + 1, k, h => by
    by_cases e : k = n + 1
    · subst e; exact Nat.le_refl _
    · have := joinN_mono b t n k (by omega)
      simp only [joinN, List.length_append]; omega
theorem joinN_congr (b : List UInt8) (t t' : Nat → List UInt8) : ∀ n, (∀ i, i < n → t i = t' i) → joinN b t n = joinN b t' n
  | 0, _ => rfl
  | n + 1, h => by simp only [joinN]; rw [joinN_congr b t t' n (fun i hi => h i (by omega)), h n (by omega)]
theorem addT_snoc : ∀ (ps : List Part) (p : Part) (c : UInt8), addT (ps ++ [p]) c = match p with | .inl l => ps ++ [.inl (l ++ [c])] | _ => ps ++ [p, .inl [c]]
  | [], .inl l, c => rfl
  | [], .inr x, c => rfl
  | q :: ps, p, c => by
    have h := addT_snoc ps p c
    cases ps with
    | nil =>
      simp only [List.nil_append, List.cons_append] at h ⊢
      cases p <;> simp only [addT] at h ⊢ <;> rfl
    | cons r ps =>
      simp only [List.cons_append] at h ⊢
      simp only [addT]
      rw [h]
      cases p <;> rfl
theorem byteOf_nat {n : Int} (h0 : 0 ≤ n) (h1 : n ≤ 255) : ((byteOf n).toNat : Int) = n := by
  unfold byteOf
  rw [UInt8.toNat_ofNat']
  omega
end Go.Proofs.Ytkkmjgohjaedkaa
