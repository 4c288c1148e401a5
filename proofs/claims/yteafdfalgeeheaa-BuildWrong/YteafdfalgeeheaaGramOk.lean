/- What the searches say of sizes. No program in sight. -/
import Derived.Test.YteafdfalgeeheaaGramMake
namespace Go.Proofs.Yteafdfalgeeheaa
set_option linter.unusedVariables false

def wsum : List (ByteArray × It) → Nat
  | [] => 0
  | x :: l => width x.2 + wsum l
theorem wsum_append : ∀ l m, wsum (l ++ m) = wsum l + wsum m
  | [], m => by simp [wsum]
  | x :: l, m => by simp [wsum, wsum_append l m]; omega
theorem wsum_mem {α : Type} (f : α → List (ByteArray × It)) : ∀ (l : List α) (a : α), a ∈ l → wsum (f a) ≤ wsum (l.flatMap f)
  | [], a, h => by cases h
  | b :: l, a, h => by
    rw [List.flatMap_cons, wsum_append]
    rcases List.mem_cons.1 h with e | e
    · subst e; omega
    · have := wsum_mem f l a e; omega
theorem wsum_none : ∀ (l : List (ByteArray × It)) (n : Nat), n ≤ 1024 → findS stopL stepL n l = none → n + wsum l ≤ 1024
  | [], n, hn, _ => by simpa [wsum] using hn
  | x :: l, n, hn, h => by
    rw [findS] at h
    by_cases hs : stopL n x.2 = true
    · rw [if_pos hs] at h; cases h
    · rw [if_neg hs] at h
      have h1 : n + width x.2 ≤ 1024 := by simpa [stopL] using hs
      have := wsum_none l (stepL n x.2) h1 h
      simp only [wsum, stepL] at this ⊢
      omega
theorem symT_len (names : List ByteArray) (i : It) : (symT names i).length = width i := by
  unfold symT width
  by_cases h0 : i.kind = 0
  · rw [if_pos h0, if_neg (by omega)]; rfl
  · rw [if_neg h0]
    by_cases h1 : i.kind = 1
    · rw [if_pos h1, if_pos h1]; exact bytesT_len _
    · rw [if_neg h1, if_neg h1]
      split <;> rfl
theorem rowT_sum (names : List ByteArray) (n : ByteArray) : ∀ l : List It, (rowT names l).length = wsum (l.map fun i => (n, i))
  | [] => rfl
  | i :: l => by
    rw [rowT, List.flatMap_cons, List.length_append, symT_len, List.map_cons, wsum, ← rowT_sum names n l]; rfl
theorem short_row {names : List ByteArray} {l : List Df} (h : tooLongT l = false) {d : Df} (hd : d ∈ l) {a : List Cj} (ha : a ∈ d.alts) {c : Cj} (hc : c ∈ a) : (rowT names c.items).length ≤ 1024 := by
  have h0 : findS stopL stepL 0 (flat l) = none := by
    unfold tooLongT at h
    cases hf : findS stopL stepL 0 (flat l) with
    | none => rfl
    | some x => rw [hf] at h; cases h
  have h1 := wsum_none _ 0 (by omega) h0
  have h2 := wsum_mem flatD l d hd
  have h3 := wsum_mem (flatA d.name) d.alts a ha
  have h4 := wsum_mem (flatC d.name) a c hc
  rw [rowT_sum names d.name]
  simp only [flat, flatD, flatA, flatC] at *
  omega
/-- Declarations that are not too great. -/
structure Sized (r : Rw) : Prop where
  fit : Fit r.defs
  nms : ∀ d, d ∈ r.defs → d.name.size ≤ 140737488355328
  sts : ∀ s, s ∈ r.starts → s.size ≤ 140737488355328
  len : r.defs.length ≤ 4294967296
  rul : (rulesT (namesT r.defs) r.defs).length ≤ 1099511627776
  cnj : ∀ d, d ∈ r.defs → ∀ a, a ∈ d.alts → a.length ≤ 1099511627776
theorem Sized.fine {r : Rw} (h : Sized r) (ht : tooLongT r.defs = false) : Fine (namesT r.defs) r.defs :=
  ⟨h.fit, h.nms, h.rul, h.cnj, fun d hd a ha c hc => Nat.le_trans (short_row ht hd ha hc) (by omega)⟩
theorem Sized.short {r : Rw} (h : Sized r) (ht : tooLongT r.defs = false) : Short (gramT r).rules := by
  intro q hq c hc
  obtain ⟨d, hd, h1⟩ := List.mem_flatMap.1 hq
  obtain ⟨a, ha, h2⟩ := List.mem_map.1 h1
  subst h2
  obtain ⟨j, hj, h3⟩ := List.mem_map.1 hc
  subst h3
  exact Nat.le_trans (short_row ht hd ha hj) (by omega)
theorem Sized.names {r : Rw} (h : Sized r) : ∀ s, s ∈ namesT r.defs → s.size ≤ maxLen := by
  intro s hs
  obtain ⟨d, hd, h1⟩ := List.mem_map.1 hs
  subst h1
  have := h.nms d hd
  unfold maxLen; omega
theorem Sized.starts {r : Rw} (h : Sized r) : ∀ s, s ∈ r.starts → s.size ≤ maxLen := fun s hs => by
  have := h.sts s hs
  unfold maxLen; omega
theorem namesT_len (l : List Df) : (namesT l).length = l.length := by simp [namesT]
end Go.Proofs.Yteafdfalgeeheaa
