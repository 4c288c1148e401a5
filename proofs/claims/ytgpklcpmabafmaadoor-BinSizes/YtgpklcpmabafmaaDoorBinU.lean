/- What Bin makes, as plain functions: new names, their numbers' digits, which grammars come out. No program in sight. -/
import Derived.Test.YtgpklcpmabafmaaDoorBinT
import Derived.Test.YtgpklcpmabafmaaDoorSeqT
import Derived.Shelf.Strconv.Itoa3
namespace Go.Proofs.YtgpklcpmabafmaaDoor
set_option linter.unusedVariables false
set_option linter.unusedSimpArgs false
open Go.RowKit

/-- Is it there? -/
def inB (ns : List ByteArray) (t : ByteArray) : Bool := ns.any fun a => decide (a.data.toList = t.data.toList)
theorem inB_iff {ns : List ByteArray} {t : ByteArray} : inB ns t = true ↔ t ∈ ns := by
  unfold inB
  rw [List.any_eq_true]
  constructor
  · rintro ⟨a, ha, h⟩
    have h1 : a.data.toList = t.data.toList := of_decide_eq_true h
    have h2 : a = t := by
      cases a; cases t
      simp only [ByteArray.mk.injEq]
      exact Array.toList_inj.1 h1
    rw [← h2]; exact ha
  · intro h
    exact ⟨t, h, decide_eq_true rfl⟩
section
variable (D : Nat → ByteArray) (ns : List ByteArray)
/-- The name of a number. -/
def nmD (k : Nat) : ByteArray := ⟨#[95]⟩ ++ D k
/-- Those of the numbers below k that are not there. -/
def freshT : Nat → List ByteArray
  | 0 => []
  | k + 1 => freshT k ++ (if inB ns (nmD D k) = true then [] else [nmD D k])
/-- Those that are. -/
def hitT : Nat → List ByteArray
  | 0 => []
  | k + 1 => (if inB ns (nmD D k) = true then [nmD D k] else []) ++ hitT k
theorem fresh_hit : ∀ k, (freshT D ns k).length + (hitT D ns k).length = k
  | 0 => rfl
  | k + 1 => by
    have := fresh_hit k
    show (freshT D ns k ++ _).length + (_ ++ hitT D ns k).length = _
    split <;> simp <;> omega
theorem hit_mem : ∀ k, ∀ x ∈ hitT D ns k, x ∈ ns ∧ ∃ i, i < k ∧ x = nmD D i
  | 0, x, h => by cases h
  | k + 1, x, h => by
    rcases List.mem_append.1 h with h | h
    · split at h
      · rename_i hc
        rw [List.mem_singleton.1 h]
        exact ⟨inB_iff.1 hc, k, by omega, rfl⟩
      · cases h
    · obtain ⟨h1, i, h2, h3⟩ := hit_mem k x h
      exact ⟨h1, i, by omega, h3⟩
theorem hit_nodup (hD : ∀ a b, a < 100 → b < 100 → nmD D a = nmD D b → a = b) : ∀ k, k ≤ 100 → (hitT D ns k).Nodup
  | 0, _ => List.nodup_nil
  | k + 1, hk => by
    show ((if inB ns (nmD D k) = true then [nmD D k] else []) ++ hitT D ns k).Nodup
    split
    · refine List.nodup_cons.2 ⟨fun h => ?_, hit_nodup hD k (by omega)⟩
      obtain ⟨-, i, h2, h3⟩ := hit_mem D ns k _ h
      have := hD k i (by omega) (by omega) h3
      omega
    · exact hit_nodup hD k (by omega)
end
theorem nodup_le {α : Type} : ∀ (l m : List α), l.Nodup → (∀ x ∈ l, x ∈ m) → l.length ≤ m.length
  | [], m, _, _ => Nat.zero_le _
  | x :: l, m, hn, hs => by
    classical
    have h1 := List.nodup_cons.1 hn
    have h2 : x ∈ m := hs x (by simp)
    have h3 := nodup_le l (m.erase x) h1.2 (fun y hy => (List.mem_erase_of_ne (fun e => h1.1 (by rw [← e]; exact hy))).2 (hs y (by simp [hy])))
    rw [List.length_erase_of_mem h2] at h3
    have : 0 < m.length := List.length_pos_of_mem h2
    simp only [List.length_cons]
    omega
/-- What Bin makes, with the new names of numbers below m. -/
def binG (D : Nat → ByteArray) (g : Gr) (m : Nat) : Gr := ⟨g.start, g.names ++ freshT D g.names m, cutR g.names.length 0 g.rules ++ restR g.names.length 0 (rowsR g.rules)⟩
theorem mayCs_rows (k : Nat) : ∀ (l : List Cn) (n m : Nat), mayCs k n l = some m → n ≤ 1024 → n + (rowsC l).length ≤ m ∧ m ≤ 1024
  | [], n, m, h, hn => by
    have h1 : some n = some m := h
    injection h1 with h1
    subst h1
    exact ⟨Nat.le_refl _, hn⟩
  | c :: l, n, m, h, hn => by
    have h1 : (if n + c.seq.length ≤ 1024 ∧ mayRow k c.seq = true then mayCs k (n + c.seq.length) l else none) = some m := h
    by_cases hc : n + c.seq.length ≤ 1024 ∧ mayRow k c.seq = true
    · rw [if_pos hc] at h1
      have h2 := mayCs_rows k l _ m h1 hc.1
      refine ⟨?_, h2.2⟩
      show n + (addT c.seq ++ rowsC l).length ≤ m
      rw [List.length_append, addT_len]
      omega
    · rw [if_neg hc] at h1; cases h1
theorem mayRs_rows (k : Nat) : ∀ (L : List Ru) (n : Nat), mayRs k n L = true → n ≤ 1024 → n + (rowsR L).length ≤ 1024
  | [], n, _, hn => hn
  | r :: L, n, h, hn => by
    have h1 : (if 1 ≤ r.conj.length ∧ r.conj.length ≤ 8 then (match mayCs k n r.conj with | none => false | some m => mayRs k m L) else false) = true := h
    by_cases hc : 1 ≤ r.conj.length ∧ r.conj.length ≤ 8
    · rw [if_pos hc] at h1
      cases hm : mayCs k n r.conj with
      | none => rw [hm] at h1; cases h1
      | some m =>
        rw [hm] at h1
        have h2 := mayCs_rows k r.conj n m hm hn
        have h3 := mayRs_rows k L m h1 h2.2
        show n + (rowsC r.conj ++ rowsR L).length ≤ 1024
        rw [List.length_append]
        omega
    · rw [if_neg hc] at h1; cases h1
theorem addT_le : ∀ (l : List Sy), ∀ r, r ∈ addT l → r.length ≤ l.length
  | [], r, h => by cases h
  | s :: l, r, h => by
    by_cases hc : 2 ≤ l.length
    · rw [addT_long (by simp; omega)] at h
      rcases List.mem_cons.1 h with h | h
      · rw [h]; simp
      · have := addT_le l r h; simp; omega
    · rw [addT_short (by simp; omega)] at h; cases h
theorem rowsC_le {n : Nat} : ∀ (l : List Cn), (∀ c, c ∈ l → c.seq.length ≤ n) → ∀ r, r ∈ rowsC l → r.length ≤ n
  | [], _, r, h => by cases h
  | c :: l, hl, r, h => by
    rcases List.mem_append.1 h with h | h
    · exact Nat.le_trans (addT_le c.seq r h) (hl c (by simp))
    · exact rowsC_le l (fun c hc => hl c (by simp [hc])) r h
theorem rowsR_le {n : Nat} : ∀ (L : List Ru), (∀ r, r ∈ L → ∀ c, c ∈ r.conj → c.seq.length ≤ n) → ∀ r, r ∈ rowsR L → r.length ≤ n
  | [], _, r, h => by cases h
  | q :: L, hl, r, h => by
    rcases List.mem_append.1 h with h | h
    · exact rowsC_le q.conj (hl q (by simp)) r h
    · exact rowsR_le L (fun r hr => hl r (by simp [hr])) r h
theorem cutC_two (n : Nat) : ∀ (l : List Cn) (q : Nat), ∀ c, c ∈ cutC n q l → c.seq.length ≤ 2
  | [], _, c, h => by cases h
  | d :: l, q, c, h => by
    have h1 : c ∈ (⟨d.neg, pairT d.seq ((n + q : Nat) : Int)⟩ :: cutC n (q + (addT d.seq).length) l : List Cn) := h
    rcases List.mem_cons.1 h1 with h1 | h1
    · rw [h1]; exact pairT_len _ _
    · exact cutC_two n l _ c h1
theorem cutR_two (n : Nat) : ∀ (L : List Ru) (q : Nat), ∀ r, r ∈ cutR n q L → ∀ c, c ∈ r.conj → c.seq.length ≤ 2
  | [], _, r, h => by cases h
  | d :: L, q, r, h => by
    have h1 : r ∈ (⟨d.head, cutC n q d.conj⟩ :: cutR n (q + (rowsC d.conj).length) L : List Ru) := h
    rcases List.mem_cons.1 h1 with h1 | h1
    · rw [h1]; exact cutC_two n d.conj q
    · exact cutR_two n L _ r h1
theorem restR_two (n : Nat) : ∀ (l : List (List Sy)) (i : Nat), ∀ r, r ∈ restR n i l → ∀ c, c ∈ r.conj → c.seq.length ≤ 2
  | [], _, r, h => by cases h
  | d :: l, i, r, h => by
    have h1 : r ∈ (⟨((n + i : Nat) : Int), [⟨false, pairT d ((n + i + 1 : Nat) : Int)⟩]⟩ :: restR n (i + 1) l : List Ru) := h
    rcases List.mem_cons.1 h1 with h1 | h1
    · rw [h1]
      intro c hc
      rw [List.mem_singleton.1 hc]
      exact pairT_len _ _
    · exact restR_two n l _ r h1
theorem fresh_small {D : Nat → ByteArray} (hD : ∀ k, k < 100 → (D k).size ≤ 20) {ns : List ByteArray} : ∀ m, m ≤ 99 → ∀ s, s ∈ freshT D ns m → s.size ≤ 21
  | 0, _, s, h => by cases h
  | m + 1, hm, s, h => by
    rcases List.mem_append.1 h with h | h
    · exact fresh_small hD m (by omega) s h
    · split at h
      · cases h
      · rw [List.mem_singleton.1 h]
        have := hD m (by omega)
        unfold nmD
        rw [ByteArray.size_append]
        have h1 : (⟨#[95]⟩ : ByteArray).size = 1 := rfl
        omega
/-- A number's digits. -/
def dD (k : Nat) : ByteArray := ⟨(Lib.decDigits k).toArray⟩
/-- Digits of numbers below a hundred, without recursion. -/
def dS (k : Nat) : List UInt8 := if k < 10 then [UInt8.ofNat (48 + k)] else [UInt8.ofNat (48 + k / 10), UInt8.ofNat (48 + k % 10)]
theorem dec_small {k : Nat} (hk : k < 100) : Lib.decDigits k = dS k := by
  unfold dS
  by_cases h : k < 10
  · rw [Lib.decDigits, dif_pos h, if_pos h]
  · rw [Lib.decDigits, dif_neg h, if_neg h, Lib.decDigits, dif_pos (by omega)]
    rfl
theorem dS_inj : ∀ a, a < 100 → ∀ b, b < 100 → dS a = dS b → a = b := by decide +kernel
theorem dD_size (k : Nat) (hk : k < 100) : (dD k).size ≤ 20 := by
  have h1 : (dD k).size = (Lib.decDigits k).length := by unfold dD; rfl
  rw [h1, dec_small hk]
  unfold dS
  split <;> simp
theorem dD_inj (a b : Nat) (ha : a < 100) (hb : b < 100) (h : nmD dD a = nmD dD b) : a = b := by
  have h1 : (nmD dD a).data.toList = (nmD dD b).data.toList := by rw [h]
  have h2 : ∀ k, (nmD dD k).data.toList = 95 :: Lib.decDigits k := fun k => by
    unfold nmD dD
    simp
  rw [h2, h2] at h1
  injection h1 with _ h1
  rw [dec_small ha, dec_small hb] at h1
  exact dS_inj a ha b hb h1
end Go.Proofs.YtgpklcpmabafmaaDoor
