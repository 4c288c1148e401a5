/- A row of names, each of which has the empty text or not: the grammar, that it may be, who has the empty text. No program in sight. -/
import Derived.Test.YtkihbgikdbaelaaNulT
import Derived.Test.YtkihbgikdbaelaaDepRowsT
namespace Go.Proofs.Ytkihbgikdbaelaa
set_option linter.unusedVariables false

def sNm : ByteArray := ⟨#[83]⟩
def nmsE (i : Nat) : List ByteArray := sNm :: nmsR i
def symE (j : Nat) : Sy := ⟨(j : Int) + 1, 0, 0⟩
def symsE (i : Nat) : List Sy := (List.range i).map symE
def ruZ (m : Nat) : Ru := ⟨0, [⟨false, symsE m⟩]⟩
def sqK (b : Bool) : List Sy := if b = true then [] else [⟨-1, 0, 255⟩]
def ruK (ev : Nat → Bool) (j : Nat) : Ru := ⟨(j : Int) + 1, [⟨false, sqK (ev j)⟩]⟩
def rusK (ev : Nat → Bool) (i : Nat) : List Ru := (List.range i).map (ruK ev)
def rusE (m : Nat) (ev : Nat → Bool) (i : Nat) : List Ru := ruZ m :: rusK ev i
def grE (m : Nat) (ev : Nat → Bool) : Gr := ⟨0, nmsE m, rusE m ev m⟩
theorem nmsE_len (m : Nat) : (nmsE m).length = m + 1 := by simp [nmsE, nmsR_len]
theorem symsE_len (m : Nat) : (symsE m).length = m := by simp [symsE]
theorem rusE_len (m : Nat) (ev : Nat → Bool) (i : Nat) : (rusE m ev i).length = i + 1 := by simp [rusE, rusK]
theorem nmsE_succ (i : Nat) : nmsE (i + 1) = nmsE i ++ [nmR i] := by unfold nmsE; rw [nmsR_succ]; rfl
theorem symsE_succ (i : Nat) : symsE (i + 1) = symsE i ++ [symE i] := by unfold symsE; rw [List.range_succ, List.map_append]; rfl
theorem rusE_succ (m : Nat) (ev : Nat → Bool) (i : Nat) : rusE m ev (i + 1) = rusE m ev i ++ [ruK ev i] := by unfold rusE rusK; rw [List.range_succ, List.map_append]; rfl
theorem heads_only (k : Nat) : ∀ (l : List Ru) (z : Int), mayHeads k z l = mayHeads k z (l.map fun r => ⟨r.head, []⟩)
  | [], _ => rfl
  | r :: l, z => by
    show (isNum r.head k && ((decide (r.head = z) || decide (r.head = z + 1)) && mayHeads k r.head l)) = _
    rw [heads_only k l]; rfl
theorem rusE_heads (m : Nat) (ev : Nat → Bool) (i : Nat) : (rusE m ev i).map (fun r => (⟨r.head, []⟩ : Ru)) = ⟨0, []⟩ :: (List.range i).map fun j : Nat => (⟨(j : Int) + 1, []⟩ : Ru) := by
  unfold rusE rusK
  rw [List.map_cons, List.map_map]; rfl
theorem heads_tab : ∀ m, m < 31 → mayHeads (m + 1) (-1) (⟨0, []⟩ :: (List.range m).map fun j : Nat => (⟨(j : Int) + 1, []⟩ : Ru)) = true := by decide +kernel
theorem names_tab : ∀ m, m < 31 → mayNames (nmsE m) = true := by decide +kernel
theorem row_tab : ∀ m, m < 31 → mayRow (m + 1) (symsE m) = true := by decide +kernel
theorem sqK_may (k : Nat) (b : Bool) : (sqK b).length ≤ 1 ∧ mayRow k (sqK b) = true := by
  unfold sqK
  cases b <;> simp [mayRow, maySym]
theorem mayRs_small (k : Nat) (ev : Nat → Bool) : ∀ (l : List Nat) (n : Nat), n + l.length ≤ 1024 → mayRs k n (l.map (ruK ev)) = true
  | [], _, _ => rfl
  | j :: l, n, h => by
    rw [List.length_cons] at h
    obtain ⟨h1, h2⟩ := sqK_may k (ev j)
    show mayRs k n (ruK ev j :: l.map (ruK ev)) = true
    unfold mayRs ruK
    rw [if_pos (by simp)]
    have e : mayCs k n [⟨false, sqK (ev j)⟩] = some (n + (sqK (ev j)).length) := by
      simp only [mayCs]
      rw [if_pos ⟨by omega, h2⟩]
    simp only [e]
    exact mayRs_small k ev l _ (by omega)
theorem grE_may (m : Nat) (ev : Nat → Bool) (h : m < 31) : mayG (grE m ev) = true := by
  unfold mayG grE mayRules
  simp only [Bool.and_eq_true, decide_eq_true_eq]
  rw [nmsE_len, rusE_len]
  refine ⟨names_tab m h, by simp [isNum], ?_, by omega, by omega, ?_⟩
  · rw [heads_only, rusE_heads]; exact heads_tab m h
  · show mayRs (m + 1) 0 (ruZ m :: rusK ev m) = true
    unfold mayRs
    rw [if_pos (by simp [ruZ])]
    have e : mayCs (m + 1) 0 (ruZ m).conj = some m := by
      simp only [ruZ, mayCs]
      rw [if_pos ⟨by rw [symsE_len]; omega, row_tab m h⟩, symsE_len]; simp
    simp only [e]
    exact mayRs_small (m + 1) ev _ m (by simp; omega)
theorem grE_neg (m : Nat) (ev : Nat → Bool) : ∀ r, r ∈ (grE m ev).rules → ∀ c, c ∈ r.conj → c.neg = false := fun r hr c hc => by
  rcases List.mem_cons.1 hr with rfl | hr
  · obtain rfl : c = ⟨false, symsE m⟩ := by simpa [ruZ] using hc
    rfl
  · obtain ⟨j, _, rfl⟩ := List.mem_map.1 hr
    obtain rfl : c = ⟨false, sqK (ev j)⟩ := by simpa [ruK] using hc
    rfl
theorem neg_clean {g : Gr} (h : ∀ r, r ∈ g.rules → ∀ c, c ∈ r.conj → c.neg = false) : Clean (edgesT g) := fun e he hn => by
  rw [mem_edgesT, mem_allE] at he
  obtain ⟨r, hr, he⟩ := he
  rw [mem_cnsE] at he
  obtain ⟨c, hc, he⟩ := he
  rw [mem_seqE] at he
  rw [he.2.1, h r hr c hc] at hn; cases hn
theorem ruK_hol (M : Nat → Bool) (ev : Nat → Bool) (j : Nat) : holB M (ruK ev j) = ev j := by
  unfold holB ruK conB empB sqK
  cases ev j <;> simp [symB]
theorem ruZ_hol (M : Nat → Bool) (m : Nat) : holB M (ruZ m) = (List.range m).all fun j => M (j + 1) := by
  unfold holB ruZ conB empB symsE
  simp only [List.all_cons, List.all_nil, Bool.and_true, List.all_map]
  have : ∀ j, ((symB M) ∘ symE) j = M (j + 1) := fun j => by
    show symB M (symE j) = _
    unfold symB symE
    have h1 : ¬ (j : Int) + 1 = -1 := by omega
    have h2 : ((j : Int) + 1).toNat = j + 1 := by omega
    simp [h1, h2]
  rw [show ((symB M) ∘ symE) = fun j => M (j + 1) from funext this]
  cases (List.range m).all fun j => M (j + 1) <;> rfl
theorem grE_one {m : Nat} {ev M : Nat → Bool} (h : Stb (grE m ev).rules M) {j : Nat} (hj : j < m) : M (j + 1) = ev j := by
  rw [h.supp (j + 1)]
  show (ruZ m :: rusK ev m).any _ = _
  rw [List.any_cons]
  have e0 : (decide ((ruZ m).head.toNat = j + 1) && holB M (ruZ m)) = false := by simp [ruZ]
  rw [e0, Bool.false_or]
  unfold rusK
  rw [List.any_map, Bool.eq_iff_iff, List.any_eq_true]
  constructor
  · rintro ⟨i, hi, hh⟩
    simp only [Function.comp, Bool.and_eq_true, decide_eq_true_eq] at hh
    have : i = j := by
      have h1 := hh.1
      unfold ruK at h1
      simp only at h1; omega
    subst this
    rw [ruK_hol] at hh; exact hh.2
  · intro hh
    refine ⟨j, List.mem_range.2 hj, ?_⟩
    simp only [Function.comp, Bool.and_eq_true, decide_eq_true_eq]
    exact ⟨by unfold ruK; simp only; omega, by rw [ruK_hol]; exact hh⟩
theorem grE_zero {m : Nat} {ev M : Nat → Bool} (h : Stb (grE m ev).rules M) : M 0 = (List.range m).all ev := by
  have h1 : M 0 = holB M (ruZ m) := by
    rw [h.supp 0]
    show (ruZ m :: rusK ev m).any _ = _
    rw [List.any_cons]
    have e0 : (rusK ev m).any (fun r => decide (r.head.toNat = 0) && holB M r) = false := by
      rw [List.any_eq_false]
      intro r hr
      obtain ⟨j, _, rfl⟩ := List.mem_map.1 hr
      simp [ruK]
    rw [e0, Bool.or_false]
    simp [ruZ]
  rw [h1, ruZ_hol, Bool.eq_iff_iff, List.all_eq_true, List.all_eq_true]
  exact ⟨fun hh j hj => by rw [← grE_one h (List.mem_range.1 hj)]; exact hh j hj, fun hh j hj => by rw [grE_one h (List.mem_range.1 hj)]; exact hh j hj⟩
theorem rangeAll_succ (ev : Nat → Bool) (i : Nat) : (List.range (i + 1)).all ev = ((List.range i).all ev && ev i) := by rw [List.range_succ]; simp
theorem grE_short (m : Nat) (ev : Nat → Bool) (h : m < 31) : Short (grE m ev).rules := fun r hr c hc => by
  rcases List.mem_cons.1 hr with rfl | hr
  · obtain rfl : c = ⟨false, symsE m⟩ := by simpa [ruZ] using hc
    show (symsE m).length ≤ _
    rw [symsE_len]; omega
  · obtain ⟨j, _, rfl⟩ := List.mem_map.1 hr
    obtain rfl : c = ⟨false, sqK (ev j)⟩ := by simpa [ruK] using hc
    have := (sqK_may 1 (ev j)).1
    show (sqK (ev j)).length ≤ _
    omega
theorem nmsE_size (m : Nat) (s : ByteArray) (h : s ∈ nmsE m) : s.size ≤ 21 := by
  rcases List.mem_cons.1 h with rfl | h
  · show 1 ≤ 21; omega
  · exact nm_sizeR s m h
end Go.Proofs.Ytkihbgikdbaelaa
