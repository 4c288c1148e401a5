/- Names in a row, each needs the next one: the grammar, that it may be, its edges. No program in sight. -/
import Derived.Test.YtipnfiaphmddiaaDepPl
import Derived.Test.YtipnfiaphmddiaaRefDec
import Derived.Test.YtipnfiaphmddiaaGramMayG
namespace Go.Proofs.Ytipnfiaphmddiaa
set_option linter.unusedVariables false

def nmR (j : Nat) : ByteArray := (⟨#[110]⟩ : ByteArray) ++ decT j
def cjR (k : Nat) (ng : Nat → Bool) (i : Nat) : List Cn := if i + 1 < k then [⟨false, []⟩, ⟨ng i, [⟨(i : Int) + 1, 0, 0⟩, ⟨(i : Int) + 1, 0, 0⟩]⟩] else [⟨false, []⟩]
def ruR (k : Nat) (ng : Nat → Bool) (i : Nat) : Ru := ⟨(i : Int), cjR k ng i⟩
def nmsR (m : Nat) : List ByteArray := (List.range m).map nmR
def rusR (k : Nat) (ng : Nat → Bool) (m : Nat) : List Ru := (List.range m).map (ruR k ng)
def grR (k : Nat) (ng : Nat → Bool) : Gr := ⟨0, nmsR k, rusR k ng k⟩
def wantR (ng : Nat → Bool) (m : Nat) : List Ed := (List.range m).map fun i : Nat => ((i : Int), (i : Int) + 1, ng i)
def erC (c : Cn) : Cn := ⟨false, c.seq⟩
def erR (r : Ru) : Ru := ⟨r.head, r.conj.map erC⟩
theorem mayCs_er (k : Nat) : ∀ (l : List Cn) (n : Nat), mayCs k n (l.map erC) = mayCs k n l
  | [], _ => rfl
  | c :: l, n => by
    show mayCs k n (erC c :: l.map erC) = mayCs k n (c :: l)
    unfold mayCs
    show (if n + c.seq.length ≤ 1024 ∧ mayRow k c.seq = true then mayCs k (n + c.seq.length) (l.map erC) else none) = _
    rw [mayCs_er k l]
theorem mayRs_er (k : Nat) : ∀ (l : List Ru) (n : Nat), mayRs k n (l.map erR) = mayRs k n l
  | [], _ => rfl
  | r :: l, n => by
    show mayRs k n (erR r :: l.map erR) = mayRs k n (r :: l)
    unfold mayRs
    show (if 1 ≤ (r.conj.map erC).length ∧ (r.conj.map erC).length ≤ 8 then (match mayCs k n (r.conj.map erC) with | none => false | some m => mayRs k m (l.map erR)) else false) = _
    rw [List.length_map, mayCs_er]
    cases mayCs k n r.conj with
    | none => rfl
    | some m => simp only [mayRs_er k l]
theorem mayHeads_er (k : Nat) : ∀ (l : List Ru) (z : Int), mayHeads k z (l.map erR) = mayHeads k z l
  | [], _ => rfl
  | r :: l, z => by
    show mayHeads k z (erR r :: l.map erR) = mayHeads k z (r :: l)
    unfold mayHeads
    show (isNum r.head k && ((decide (r.head = z) || decide (r.head = z + 1)) && mayHeads k r.head (l.map erR))) = _
    rw [mayHeads_er k l]
theorem rus_er (k : Nat) (ng : Nat → Bool) (m : Nat) : (rusR k ng m).map erR = rusR k (fun _ => false) m := by
  unfold rusR
  rw [List.map_map]
  apply List.map_congr_left
  intro i _
  show erR (ruR k ng i) = ruR k (fun _ => false) i
  unfold ruR erR cjR
  split <;> rfl
theorem may_er (k : Nat) (ng : Nat → Bool) : mayG (grR k ng) = mayG (grR k (fun _ => false)) := by
  unfold mayG mayRules grR
  simp only
  rw [← rus_er k ng k, mayHeads_er, mayRs_er, List.length_map]
theorem may_tab : ∀ k, k < 34 → 2 ≤ k → mayG (grR k (fun _ => false)) = true := by decide +kernel
theorem may_rows (k : Nat) (ng : Nat → Bool) (h : k < 34) (h2 : 2 ≤ k) : mayG (grR k ng) = true := (may_er k ng).trans (may_tab k h h2)
theorem want_rise (ng : Nat → Bool) (m : Nat) : (wantR ng m).Pairwise fun x y => ltE x y = true := by
  unfold wantR
  rw [List.pairwise_map]
  refine (List.pairwise_lt_range (n := m)).imp fun {a b} h => ?_
  rw [ltE_iff]
  left
  show (a : Int) < (b : Int)
  omega
theorem want_mem (ng : Nat → Bool) (m : Nat) (x : Ed) : x ∈ wantR ng m ↔ ∃ i, i < m ∧ x = ((i : Int), (i : Int) + 1, ng i) := by
  unfold wantR
  simp only [List.mem_map, List.mem_range]
  constructor
  · rintro ⟨i, hi, rfl⟩; exact ⟨i, hi, rfl⟩
  · rintro ⟨i, hi, rfl⟩; exact ⟨i, hi, rfl⟩
theorem edges_rows (k : Nat) (ng : Nat → Bool) : edgesT (grR k ng) = wantR ng (k - 1) := by
  refine edgesT_eq (want_rise _ _) fun x => ?_
  rw [want_mem, mem_allE]
  constructor
  · rintro ⟨i, hi, rfl⟩
    refine ⟨ruR k ng i, List.mem_map.2 ⟨i, List.mem_range.2 (by omega), rfl⟩, ?_⟩
    rw [mem_cnsE]
    refine ⟨⟨ng i, [⟨(i : Int) + 1, 0, 0⟩, ⟨(i : Int) + 1, 0, 0⟩]⟩, ?_, ?_⟩
    · show _ ∈ cjR k ng i
      unfold cjR
      rw [if_pos (by omega)]
      simp
    · rw [mem_seqE]
      exact ⟨rfl, rfl, ⟨(i : Int) + 1, 0, 0⟩, by simp, by show (i : Int) + 1 ≠ -1; omega, rfl⟩
  · rintro ⟨r, hr, hx⟩
    obtain ⟨i, hi, rfl⟩ := List.mem_map.1 hr
    rw [mem_cnsE] at hx
    obtain ⟨c, hc, hx⟩ := hx
    rw [mem_seqE] at hx
    obtain ⟨e1, e2, s, hs, hne, e3⟩ := hx
    have hc2 : c ∈ cjR k ng i := hc
    unfold cjR at hc2
    split at hc2
    · rename_i hlt
      simp only [List.mem_cons, List.not_mem_nil, or_false] at hc2
      rcases hc2 with rfl | rfl
      · simp at hs
      · refine ⟨i, by omega, Prod.ext e1 (Prod.ext ?_ e2)⟩
        have : s.name = (i : Int) + 1 := by simp at hs; rw [hs]
        rw [← e3, this]
    · simp only [List.mem_cons, List.not_mem_nil, or_false] at hc2
      subst hc2
      simp at hs
theorem decF_lenR : ∀ (f n : Nat) (acc : List Int), (decF f n acc).length ≤ f + acc.length
  | 0, _, acc => by rw [decF]; omega
  | f + 1, n, acc => by
    rw [decF]
    split
    · omega
    · have := decF_lenR f (n / 10) ((48 + ((n % 10 : Nat) : Int)) :: acc)
      rw [List.length_cons] at this
      omega
theorem dec_sizeR (n : Nat) : (decT n).size ≤ 20 := by
  have h : (decT n).size = (decF 20 n []).length := by simp [decT, strOf, ByteArray.size]
  have := decF_lenR 20 n []
  rw [h]
  simpa using this
theorem nm_sizeR (s : ByteArray) (m : Nat) (h : s ∈ nmsR m) : s.size ≤ 21 := by
  obtain ⟨i, _, rfl⟩ := List.mem_map.1 h
  have := dec_sizeR i
  show ((⟨#[110]⟩ : ByteArray) ++ decT i).size ≤ 21
  rw [ByteArray.size_append]
  have : (⟨#[110]⟩ : ByteArray).size = 1 := rfl
  omega
theorem shortRow (k : Nat) (ng : Nat → Bool) (m : Nat) : Short (rusR k ng m) := fun r hr c hc => by
  obtain ⟨i, _, rfl⟩ := List.mem_map.1 hr
  have hc2 : c ∈ cjR k ng i := hc
  unfold cjR at hc2
  split at hc2
  · simp only [List.mem_cons, List.not_mem_nil, or_false] at hc2
    rcases hc2 with rfl | rfl <;> simp
  · simp only [List.mem_cons, List.not_mem_nil, or_false] at hc2
    subst hc2
    simp
theorem nmsR_succ (m : Nat) : nmsR (m + 1) = nmsR m ++ [nmR m] := by unfold nmsR; rw [List.range_succ, List.map_append]; rfl
theorem rusR_succ (k : Nat) (ng : Nat → Bool) (m : Nat) : rusR k ng (m + 1) = rusR k ng m ++ [ruR k ng m] := by unfold rusR; rw [List.range_succ, List.map_append]; rfl
theorem wantR_succ (ng : Nat → Bool) (m : Nat) : wantR ng (m + 1) = wantR ng m ++ [((m : Int), (m : Int) + 1, ng m)] := by unfold wantR; rw [List.range_succ, List.map_append]; rfl
theorem nmsR_len (m : Nat) : (nmsR m).length = m := by simp [nmsR]
theorem rusR_len (k : Nat) (ng : Nat → Bool) (m : Nat) : (rusR k ng m).length = m := by simp [rusR]
theorem wantR_len (ng : Nat → Bool) (m : Nat) : (wantR ng m).length = m := by simp [wantR]
end Go.Proofs.Ytipnfiaphmddiaa
