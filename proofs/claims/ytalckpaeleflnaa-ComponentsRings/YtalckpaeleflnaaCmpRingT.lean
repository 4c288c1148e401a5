/- Rings of edges, and rings cut open: who reaches whom. No program in sight. -/
import Derived.Test.YtalckpaeleflnaaCmpLawT
namespace Go.Proofs.Ytalckpaeleflnaa
set_option linter.unusedVariables false

/-- The edge from i to the next one in a ring of k, k at least 1; b: its sign. -/
def ringE (k : Nat) (s : Nat → Bool) (i : Nat) : Ed := ((i : Int), (((i + 1) % k : Nat) : Int), s i)
def ringL (k : Nat) (s : Nat → Bool) (j : Nat) : List Ed := (List.range j).map (ringE k s)
theorem ringL_length (k : Nat) (s : Nat → Bool) (j : Nat) : (ringL k s j).length = j := by simp [ringL]
theorem ringL_snoc (k : Nat) (s : Nat → Bool) (j : Nat) : ringL k s (j + 1) = ringL k s j ++ [ringE k s j] := by simp [ringL, List.range_succ]
def openL (k : Nat) (s : Nat → Bool) (c : Nat) : List Ed := (ringL k s k).take c ++ (ringL k s k).drop (c + 1)
theorem mem_ring {k j : Nat} {s : Nat → Bool} {e : Ed} : e ∈ ringL k s j ↔ ∃ i, i < j ∧ e = ringE k s i := by
  unfold ringL
  rw [List.mem_map]
  constructor
  · rintro ⟨i, hi, rfl⟩; exact ⟨i, List.mem_range.1 hi, rfl⟩
  · rintro ⟨i, hi, rfl⟩; exact ⟨i, List.mem_range.2 hi, rfl⟩
theorem ring_get {k j i : Nat} {s : Nat → Bool} (hi : i < j) : (ringL k s j)[i]? = some (ringE k s i) := by simp [ringL, hi]
theorem mem_open {k c : Nat} {s : Nat → Bool} {e : Ed} (hc : c < k) : e ∈ openL k s c ↔ ∃ i, i < k ∧ i ≠ c ∧ e = ringE k s i := by
  unfold openL
  rw [List.mem_append]
  constructor
  · rintro (h | h)
    · obtain ⟨n, hn⟩ := List.getElem?_of_mem h
      have hlt := (List.getElem?_eq_some_iff.1 hn).1
      rw [List.length_take, ringL_length] at hlt
      rw [List.getElem?_take_of_lt (by omega), ring_get (by omega)] at hn
      exact ⟨n, by omega, by omega, by injection hn with hn; exact hn.symm⟩
    · obtain ⟨n, hn⟩ := List.getElem?_of_mem h
      have hlt := (List.getElem?_eq_some_iff.1 hn).1
      rw [List.length_drop, ringL_length] at hlt
      rw [List.getElem?_drop, ring_get (by omega)] at hn
      exact ⟨c + 1 + n, by omega, by omega, by injection hn with hn; exact hn.symm⟩
  · rintro ⟨i, hi, hne, rfl⟩
    by_cases h : i < c
    · refine Or.inl (List.mem_of_getElem? (i := i) ?_)
      rw [List.getElem?_take_of_lt h, ring_get hi]
    · refine Or.inr (List.mem_of_getElem? (i := i - (c + 1)) ?_)
      rw [List.getElem?_drop, show c + 1 + (i - (c + 1)) = i by omega, ring_get hi]
theorem eds_ring {k m : Nat} {s : Nat → Bool} (hk : 0 < k) (hm : k ≤ m) {l : List Ed} (h : ∀ e, e ∈ l → ∃ i, i < k ∧ e = ringE k s i) : edsB (m : Int) l = true := by
  unfold edsB
  rw [List.all_eq_true]
  intro e he
  obtain ⟨i, hi, rfl⟩ := h e he
  have := Nat.mod_lt (i + 1) hk
  unfold edB endB ringE
  simp only [Bool.and_eq_true, decide_eq_true_eq]
  omega
section
variable {k : Nat} {s : Nat → Bool}
theorem next_eq (i : Nat) (hk : 0 < k) (hi : i < k) : (i + 1) % k = if i + 1 = k then 0 else i + 1 := by
  split
  · rename_i h; rw [h, Nat.mod_self]
  · exact Nat.mod_eq_of_lt (by omega)
/-- In a ring each reaches each that is not ahead of it. -/
theorem ring_up {l : List Ed} (hl : ∀ i, i + 1 < k → ringE k s i ∈ l) : ∀ d i, i + d < k → Way l i (i + d)
  | 0, i, _ => Way.refl _ _
  | d + 1, i, h => by
    have h1 := ring_up hl d i (by omega)
    have h2 := Way.edge (hl (i + d) (by omega))
    have e : (i + d + 1) % k = i + d + 1 := Nat.mod_eq_of_lt (by omega)
    unfold ringE at h2
    simp only [Int.toNat_natCast, e] at h2
    exact h1.trans h2
theorem ring_way (hk : 0 < k) {i j : Nat} (hi : i < k) (hj : j < k) : Way (ringL k s k) i j := by
  have up : ∀ a b, a ≤ b → b < k → Way (ringL k s k) a b := fun a b hab hb => by
    have := ring_up (k := k) (s := s) (l := ringL k s k) (fun i hi => mem_ring.2 ⟨i, by omega, rfl⟩) (b - a) a (by omega)
    rwa [show a + (b - a) = b by omega] at this
  have last : Way (ringL k s k) (k - 1) 0 := by
    have h2 := Way.edge (mem_ring.2 ⟨k - 1, by omega, rfl⟩ : ringE k s (k - 1) ∈ ringL k s k)
    unfold ringE at h2
    simp only [Int.toNat_natCast] at h2
    rwa [show k - 1 + 1 = k by omega, Nat.mod_self] at h2
  exact (up i (k - 1) (by omega) (by omega)).trans (last.trans (up 0 j (by omega) hj))
/-- What a ring cut open at c reaches: further on, as far as c. By how far each stands from the one behind c. -/
def pos (k c i : Nat) : Nat := if i ≤ c then i + k - (c + 1) else i - (c + 1)
theorem open_way {c : Nat} (hc : c < k) {i j : Nat} (h : Way (openL k s c) i j) : i = j ∨ i < k ∧ j < k ∧ pos k c i < pos k c j := by
  refine Way.ind (l := openL k s c) (S := fun x => i = x ∨ i < k ∧ x < k ∧ pos k c i < pos k c x) (fun e he hx => ?_) h (Or.inl rfl)
  obtain ⟨a, ha, hne, rfl⟩ := (mem_open hc).1 he
  have e1 : (ringE k s a).1.toNat = a := by unfold ringE; simp
  have e2 : (ringE k s a).2.1.toNat = if a + 1 = k then 0 else a + 1 := by unfold ringE; simp only [Int.toNat_natCast]; exact next_eq a (by omega) ha
  have hp : (if a + 1 = k then 0 else a + 1) < k ∧ pos k c a < pos k c (if a + 1 = k then 0 else a + 1) := by
    refine ⟨by split <;> omega, ?_⟩
    unfold pos
    split <;> split <;> (try split) <;> omega
  rw [e1] at hx
  rw [e2]
  rcases hx with hx | hx
  · exact Or.inr ⟨by omega, hp.1, by rw [hx]; exact hp.2⟩
  · exact Or.inr ⟨hx.1, hp.1, by omega⟩
theorem open_full {c : Nat} (hc : c < k) : Way (openL k s c) ((c + 1) % k) c := by
  have hk : 0 < k := by omega
  have up1 : ∀ d i, i + d < k → c ∉ List.range' i d → Way (openL k s c) i (i + d) := by
    intro d
    induction d with
    | zero => intro i _ _; exact Way.refl _ _
    | succ d ih =>
      intro i h hn
      have hn1 : c ∉ List.range' i d := fun hh => hn (by rw [List.mem_range'_1] at *; omega)
      have hn2 : i + d ≠ c := fun hh => hn (by rw [List.mem_range'_1]; omega)
      have h1 := ih i (by omega) hn1
      have h2 := Way.edge ((mem_open (s := s) hc).2 ⟨i + d, by omega, hn2, rfl⟩)
      have e : (i + d + 1) % k = i + d + 1 := Nat.mod_eq_of_lt (by omega)
      unfold ringE at h2
      simp only [Int.toNat_natCast, e] at h2
      exact h1.trans h2
  rw [next_eq c hk hc]
  by_cases h : c + 1 = k
  · rw [if_pos h]
    have := up1 c 0 (by omega) (by rw [List.mem_range'_1]; omega)
    rwa [Nat.zero_add] at this
  · rw [if_neg h]
    have a1 := up1 (k - 1 - (c + 1)) (c + 1) (by omega) (by rw [List.mem_range'_1]; omega)
    rw [show c + 1 + (k - 1 - (c + 1)) = k - 1 by omega] at a1
    have a2 := Way.edge ((mem_open (s := s) hc).2 ⟨k - 1, by omega, by omega, rfl⟩)
    unfold ringE at a2
    simp only [Int.toNat_natCast] at a2
    rw [show k - 1 + 1 = k by omega, Nat.mod_self] at a2
    have a3 := up1 c 0 (by omega) (by rw [List.mem_range'_1]; omega)
    rw [Nat.zero_add] at a3
    exact a1.trans (a2.trans a3)
theorem ring_out {l : List Ed} (hl : ∀ e, e ∈ l → ∃ i, i < k ∧ e = ringE k s i) {i j : Nat} (h : Way l i j) : i = j ∨ i < k := by
  obtain ⟨n, h⟩ := h
  cases n with
  | zero => exact Or.inl h
  | succ n =>
    obtain ⟨e, he, h1, _⟩ := h
    obtain ⟨a, ha, rfl⟩ := hl e he
    unfold ringE at h1
    simp only [Int.toNat_natCast] at h1
    exact Or.inr (by omega)
theorem ring_comp {m : Nat} (hk : 0 < k) (hm : k ≤ m) {i : Nat} (hi : i < m) : comp m (ringL k s k) i = if i < k then 0 else i := by
  have hl := eds_ring (l := ringL k s k) hk hm (fun e he => mem_ring.1 he)
  split
  · rename_i h
    refine lst_eq (Nat.zero_le _) (fun _ => ?_) (fun j hj => by omega)
    rw [both_iff hl hi (by omega)]
    exact ⟨ring_way hk h hk, ring_way hk hk h⟩
  · rename_i h
    refine lst_eq (Nat.le_refl _) (fun h' => absurd h' (Nat.lt_irrefl _)) (fun j hj => ?_)
    rw [← Bool.not_eq_true, both_iff hl hi (by omega)]
    rintro ⟨h1, _⟩
    rcases ring_out (fun e he => mem_ring.1 he) h1 with h2 | h2 <;> omega
theorem open_comp {m c : Nat} (hm : k ≤ m) (hc : c < k) {i : Nat} (hi : i < m) : comp m (openL k s c) i = i := by
  have hl := eds_ring (l := openL k s c) (by omega) hm (fun e he => by obtain ⟨a, h1, _, h2⟩ := (mem_open hc).1 he; exact ⟨a, h1, h2⟩)
  refine lst_eq (Nat.le_refl _) (fun h' => absurd h' (Nat.lt_irrefl _)) (fun j hj => ?_)
  rw [← Bool.not_eq_true, both_iff hl hi (by omega)]
  rintro ⟨h1, h2⟩
  rcases open_way hc h1 with h3 | h3
  · omega
  · rcases open_way hc h2 with h4 | h4 <;> omega
theorem open_not {c : Nat} (hc : c < k) (hk : 2 ≤ k) : ¬ Way (openL k s c) c ((c + 1) % k) := fun h => by
  rw [next_eq c (by omega) hc] at h
  rcases open_way hc h with h1 | ⟨_, h2, h3⟩
  · split at h1 <;> omega
  · unfold pos at h3
    split at h3 <;> split at h3 <;> (try split at h3) <;> omega
end
end Go.Proofs.Ytalckpaeleflnaa
