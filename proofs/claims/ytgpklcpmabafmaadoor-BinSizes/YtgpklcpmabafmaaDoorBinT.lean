/- Conjuncts of two, as plain functions. No program in sight. -/
import Derived.Test.YtgpklcpmabafmaaDoorGramPl
namespace Go.Proofs.YtgpklcpmabafmaaDoor
set_option linter.unusedVariables false

/-- A row's symbols, or its first one and a name for the others. -/
def pairT (l : List Sy) (k : Int) : List Sy := if l.length ≤ 2 then l else [l.headD ⟨0, 0, 0⟩, ⟨k, 0, 0⟩]
/-- The rests of a row that become names. -/
def addT : List Sy → List (List Sy)
  | [] => []
  | _ :: l => if 2 ≤ l.length then l :: addT l else []
def rowsC : List Cn → List (List Sy)
  | [] => []
  | c :: l => addT c.seq ++ rowsC l
def rowsR : List Ru → List (List Sy)
  | [] => []
  | r :: l => rowsC r.conj ++ rowsR l
/-- The conjuncts cut, q rests ahead of them. -/
def cutC (n : Nat) : Nat → List Cn → List Cn
  | _, [] => []
  | q, c :: l => ⟨c.neg, pairT c.seq ((n + q : Nat) : Int)⟩ :: cutC n (q + (addT c.seq).length) l
def cutR (n : Nat) : Nat → List Ru → List Ru
  | _, [] => []
  | q, r :: l => ⟨r.head, cutC n q r.conj⟩ :: cutR n (q + (rowsC r.conj).length) l
/-- The rests' rules, from the i-th on. -/
def restR (n : Nat) : Nat → List (List Sy) → List Ru
  | _, [] => []
  | i, r :: l => ⟨((n + i : Nat) : Int), [⟨false, pairT r ((n + i + 1 : Nat) : Int)⟩]⟩ :: restR n (i + 1) l
theorem addT_short {l : List Sy} (h : l.length ≤ 2) : addT l = [] := by
  cases l with
  | nil => rfl
  | cons s l =>
    show (if 2 ≤ l.length then _ else _) = _
    rw [if_neg (by simp at h; omega)]
theorem addT_long {s : Sy} {l : List Sy} (h : 2 < (s :: l).length) : addT (s :: l) = l :: addT l := by
  show (if 2 ≤ l.length then _ else _) = _
  rw [if_pos (by simp at h; omega)]
theorem addT_len : ∀ l : List Sy, (addT l).length = l.length - 2
  | [] => rfl
  | s :: l => by
    by_cases h : 2 ≤ l.length
    · rw [addT_long (by simp; omega)]
      simp only [List.length_cons]
      rw [addT_len l]
      omega
    · rw [addT_short (by simp; omega)]
      simp only [List.length_cons, List.length_nil]
      omega
theorem pairT_short {l : List Sy} {k : Int} (h : l.length ≤ 2) : pairT l k = l := if_pos h
theorem pairT_long {s : Sy} {l : List Sy} {k : Int} (h : 2 < (s :: l).length) : pairT (s :: l) k = [s, ⟨k, 0, 0⟩] := if_neg (by omega)
theorem pairT_len (l : List Sy) (k : Int) : (pairT l k).length ≤ 2 := by
  unfold pairT
  split
  · assumption
  · simp
theorem restR_len (n : Nat) : ∀ (l : List (List Sy)) (i : Nat), (restR n i l).length = l.length
  | [], _ => rfl
  | r :: l, i => by
    show (_ :: restR n (i + 1) l).length = _
    simp [restR_len n l (i + 1)]
theorem cutC_len (n : Nat) : ∀ (l : List Cn) (q : Nat), (cutC n q l).length = l.length
  | [], _ => rfl
  | c :: l, q => by
    show (_ :: cutC n _ l).length = _
    simp [cutC_len n l]
theorem cutR_len (n : Nat) : ∀ (l : List Ru) (q : Nat), (cutR n q l).length = l.length
  | [], _ => rfl
  | r :: l, q => by
    show (_ :: cutR n _ l).length = _
    simp [cutR_len n l]
end Go.Proofs.YtgpklcpmabafmaaDoor
