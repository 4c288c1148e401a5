/- A name over another one; a grammar without negations: their levels, plain. No program in sight. -/
import Derived.Test.YtkihbgikdbaelaaStrT
namespace Go.Proofs.Ytkihbgikdbaelaa
set_option linter.unusedVariables false

section
variable {n : Nat} {l : List Ed} {k : Nat} {neg : Bool}
theorem over_to (hl : edsB (n : Int) l = true) {i : Nat} (hi : i < n) : ¬ Way l i n := fun h => by
  have := Way.ind (S := fun x => x < n) (fun e he _ => (eds_lt hl he).2) h hi
  omega
theorem over_way (hl : edsB (n : Int) l = true) {i j : Nat} (hi : i < n) : Way (l ++ [((n : Int), (k : Int), neg)]) i j ↔ Way l i j := by
  rw [way_snoc]
  simp only [Int.toNat_natCast]
  constructor
  · rintro (h | h)
    · exact h
    · exact absurd h.1 (over_to hl hi)
  · exact Or.inl
theorem over_eds (hl : edsB (n : Int) l = true) (hk : k < n) : edsB ((n + 1 : Nat) : Int) (l ++ [((n : Int), (k : Int), neg)]) = true := by
  unfold edsB at *
  rw [List.all_append, Bool.and_eq_true]
  refine ⟨List.all_eq_true.2 fun e he => ?_, ?_⟩
  · have := edB_lt (List.all_eq_true.1 hl e he)
    unfold edB endB
    simp only [Bool.and_eq_true, decide_eq_true_eq]; omega
  · simp [edB, endB]; omega
theorem over_clean (hl : edsB (n : Int) l = true) (hk : k < n) (hc : Clean l) : Clean (l ++ [((n : Int), (k : Int), neg)]) := fun e he hn hw => by
  rcases List.mem_append.1 he with he | he
  · rw [over_way hl (eds_lt hl he).2] at hw
    exact hc e he hn hw
  · obtain rfl : e = ((n : Int), (k : Int), neg) := by simpa using he
    simp only [Int.toNat_natCast] at hw
    rw [over_way hl hk] at hw
    exact over_to hl hk hw
def overF (n k : Nat) (neg : Bool) (f : Nat → Nat) (i : Nat) : Nat := if i = n then f k + (if neg = true then 1 else 0) else f i
theorem over_lev (hl : edsB (n : Int) l = true) (hk : k < n) (hc : Clean l) {i : Nat} (hi : i < n + 1) : levT (n + 1) (l ++ [((n : Int), (k : Int), neg)]) i = overF n k neg (levT n l) i := by
  have hs := lev_sol hl hc
  refine (lev_eq (over_eds hl hk) (over_clean hl hk hc) (fun e he => ?_) (fun h hh i hi => ?_) hi).symm
  · rcases List.mem_append.1 he with he | he
    · obtain ⟨h1, h2⟩ := eds_lt hl he
      unfold overF
      rw [if_neg (by omega), if_neg (by omega)]
      exact hs e he
    · obtain rfl : e = ((n : Int), (k : Int), neg) := by simpa using he
      unfold overF stp
      simp only [Int.toNat_natCast]
      rw [if_neg (by omega), if_pos trivial]
      exact Nat.le_refl _
  · have hm : ∀ j, levT n l j ≤ h j := fun j => lev_least (fun e he => hh e (List.mem_append_left _ he)) j
    unfold overF
    split
    · rename_i e; subst e
      have h1 := hh ((i : Int), (k : Int), neg) (by simp)
      simp only [Int.toNat_natCast] at h1
      have h2 := hm k
      unfold stp at h1
      simp only at h1
      omega
    · exact hm i
end
/-- The grammar with a name more over another one. -/
def overG (g : Gr) (k : Nat) (neg : Bool) (s : ByteArray) : Gr := ⟨g.start, g.names ++ [s], g.rules ++ [⟨(g.names.length : Int), [⟨neg, [⟨(k : Int), 0, 0⟩]⟩]⟩]⟩
theorem over_edges {g : Gr} {k : Nat} {neg : Bool} {s : ByteArray} (hM : mayG g = true) (hl : edsB (g.names.length : Int) (edgesT g) = true) : edgesT (overG g k neg s) = edgesT g ++ [((g.names.length : Int), (k : Int), neg)] := by
  refine edgesT_eq ?_ fun x => ?_
  · rw [List.pairwise_append]
    refine ⟨edgesT_rise g, by simp, fun a ha b hb => ?_⟩
    obtain rfl : b = ((g.names.length : Int), (k : Int), neg) := by simpa using hb
    have := edB_lt (List.all_eq_true.1 hl a ha)
    rw [ltE_iff]
    left; show a.1 < (g.names.length : Int); omega
  · show _ ↔ x ∈ allE (g.rules ++ [⟨(g.names.length : Int), [⟨neg, [⟨(k : Int), 0, 0⟩]⟩]⟩])
    rw [allE_append, List.mem_append, List.mem_append, mem_edgesT]
    have : allE [⟨(g.names.length : Int), [⟨neg, [⟨(k : Int), 0, 0⟩]⟩]⟩] = [((g.names.length : Int), (k : Int), neg)] := by
      have hk : ¬ (k : Int) = -1 := by omega
      simp [allE, cnsE, seqE, hk]
    rw [this]
/-- Without negations. -/
def posC (c : Cn) : Cn := ⟨false, c.seq⟩
def posR (r : Ru) : Ru := ⟨r.head, r.conj.map posC⟩
def posG (g : Gr) : Gr := ⟨g.start, g.names, g.rules.map posR⟩
theorem pos_neg (g : Gr) : ∀ e, e ∈ edgesT (posG g) → e.2.2 = false := fun e he => by
  rw [mem_edgesT, mem_allE] at he
  obtain ⟨r, hr, he⟩ := he
  rw [mem_cnsE] at he
  obtain ⟨c, hc, he⟩ := he
  rw [mem_seqE] at he
  obtain ⟨r', _, rfl⟩ := List.mem_map.1 hr
  obtain ⟨c', _, rfl⟩ := List.mem_map.1 hc
  exact he.2.1
theorem pos_clean (g : Gr) : Clean (edgesT (posG g)) := fun e he hn => by rw [pos_neg g e he] at hn; cases hn
theorem pos_lev (g : Gr) (n i : Nat) : levT n (edgesT (posG g)) i = 0 := by
  have : Sol (edgesT (posG g)) fun _ => 0 := fun e he => by
    unfold stp
    rw [pos_neg g e he]; simp
  have := lev_least (n := n) this i
  omega
theorem pos_heads (k : Nat) : ∀ (l : List Ru) (z : Int), mayHeads k z (l.map posR) = mayHeads k z l
  | [], _ => rfl
  | r :: l, z => by
    show (isNum r.head k && _) = _
    rw [pos_heads k l]; rfl
theorem pos_cs (k : Nat) : ∀ (l : List Cn) (n : Nat), mayCs k n (l.map posC) = mayCs k n l
  | [], _ => rfl
  | c :: l, n => by
    show mayCs k n (posC c :: l.map posC) = _
    have h1 : (posC c).seq = c.seq := rfl
    unfold mayCs
    rw [h1]
    split
    · exact pos_cs k l _
    · rfl
theorem pos_rs (k : Nat) : ∀ (l : List Ru) (n : Nat), mayRs k n (l.map posR) = mayRs k n l
  | [], _ => rfl
  | r :: l, n => by
    show mayRs k n (posR r :: l.map posR) = _
    unfold mayRs
    have hl : (posR r).conj.length = r.conj.length := by simp [posR]
    have hc : mayCs k n (posR r).conj = mayCs k n r.conj := pos_cs k r.conj n
    rw [hl, hc]
    split
    · split
      · rfl
      · exact pos_rs k l _
    · rfl
theorem pos_may (g : Gr) : mayG (posG g) = mayG g := by
  unfold mayG mayRules posG
  simp only [pos_heads, pos_rs, List.length_map]
end Go.Proofs.Ytkihbgikdbaelaa
