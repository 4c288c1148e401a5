/- Bytes of a proof that count more nodes than are there, or less: none. No program in sight. -/
import Derived.Test.YtgeajdfajfdjcaaPkT
namespace Go.Proofs.Ytgeajdfajfdjcaa
set_option linter.unusedVariables false

theorem ndR_nil : ndR [] = none := rfl
theorem many_nil {α : Type} {R : PRd α} (h : R [] = none) (k : Nat) : manyR R (k + 1) [] = none := by simp [manyR, h]
theorem nds_there {ns : List Nd} (h : ns.all ndOk = true) : manyR ndR ns.length (ns.flatMap ndB) = some (ns, []) := by
  have := (many_codec nd_codec).1 ns [] h
  rwa [List.append_nil] at this
theorem nds_more {ns : List Nd} (h : ns.all ndOk = true) (k : Nat) : manyR ndR (ns.length + (k + 1)) (ns.flatMap ndB) = none := by
  rw [manyR_add, nds_there h]
  simp only [many_nil ndR_nil]
theorem ndB_ne (n : Nd) : ndB n ≠ [] := by
  intro h
  have := congrArg List.length h
  unfold ndB hdB at this
  simp [beZ_len] at this
theorem nds_less {ns : List Nd} (h : ns.all ndOk = true) (hn : ns ≠ []) : ∃ r, r ≠ [] ∧ manyR ndR (ns.length - 1) (ns.flatMap ndB) = some (ns.dropLast, r) := by
  obtain ⟨ms, x, rfl⟩ : ∃ ms x, ns = ms ++ [x] := ⟨ns.dropLast, ns.getLast hn, (List.dropLast_concat_getLast hn).symm⟩
  rw [List.all_append, Bool.and_eq_true] at h
  refine ⟨ndB x, ndB_ne x, ?_⟩
  have := (many_codec nd_codec).1 ms (ndB x) h.1
  simpa using this
/-- The bytes of a proof, but for how many nodes there are. -/
def ctB' (c : Ct) (n : Int) : List UInt8 := [84, 67] ++ (beZ 4 c.root ++ (beZ 4 n ++ c.nodes.flatMap ndB))
theorem ctB_as (c : Ct) : ctB c = ctB' c c.nodes.length := rfl
theorem ctB'_len (c : Ct) (n : Int) : (ctB' c n).length = (ctB c).length := by
  unfold ctB' ctB; simp [beZ_len]
theorem ctR_count {c : Ct} {n : Int} (h : ctOk c = true) (hf : fitZ 4 n = true) (hb : 65536 < n ∨ ∀ ns r, manyR ndR n.toNat (c.nodes.flatMap ndB) = some (ns, r) → r ≠ []) : ctR (ctB' c n) = none := by
  unfold ctOk at h
  simp only [Bool.and_eq_true] at h
  unfold ctR ctR0 ctB'
  simp only [List.cons_append, List.nil_append, List.take_succ_cons, List.take_zero, if_true, List.drop_succ_cons, List.drop_zero, two_num h.1.1 hf]
  by_cases hbig : 65536 < n
  · simp only [if_pos hbig]
  · rw [if_neg hbig]
    rcases hb with hb | hb
    · exact absurd hb hbig
    · cases hm : manyR ndR n.toNat (c.nodes.flatMap ndB) with
      | none => rfl
      | some q =>
        obtain ⟨ns, r⟩ := q
        have := hb ns r hm
        cases r with
        | nil => exact absurd rfl this
        | cons a r => rfl
theorem fit4 {z : Int} (h0 : 0 ≤ z) (h1 : z < 4294967296) : fitZ 4 z = true := by
  have e : (256 : Int) ^ 4 = 4294967296 := by decide
  unfold fitZ
  simp only [Bool.and_eq_true, decide_eq_true_eq]
  omega
theorem count_more {c : Ct} (h : ctOk c = true) (hn : c.nodes.length ≤ 65536) (k : Nat) (hk : k < 64) : ctR (ctB' c ((c.nodes.length + (k + 1) : Nat) : Int)) = none := by
  refine ctR_count h (fit4 (by omega) (by omega)) (Or.inr fun ns r hm => ?_)
  unfold ctOk at h
  simp only [Bool.and_eq_true] at h
  rw [Int.toNat_natCast, nds_more h.2] at hm
  cases hm
theorem count_less {c : Ct} (h : ctOk c = true) (hn : c.nodes.length ≤ 65536) (h0 : c.nodes ≠ []) : ctR (ctB' c ((c.nodes.length - 1 : Nat) : Int)) = none := by
  refine ctR_count h (fit4 (by omega) (by omega)) (Or.inr fun ns r hm => ?_)
  unfold ctOk at h
  simp only [Bool.and_eq_true] at h
  obtain ⟨r', h1, h2⟩ := nds_less h.2 h0
  rw [Int.toNat_natCast, h2] at hm
  have := Option.some.inj hm
  rw [← (Prod.mk.inj this).2]; exact h1
theorem ctB_front (c : Ct) : (ctB c).take 6 = [84, 67] ++ beZ 4 c.root := by
  unfold ctB
  rw [← List.append_assoc, List.take_append_of_le_length (by simp [beZ_len]), List.take_of_length_le (by simp [beZ_len])]
theorem ctB_back (c : Ct) : (ctB c).drop 10 = c.nodes.flatMap ndB := by
  unfold ctB
  have e : [84, 67] ++ (beZ 4 c.root ++ (beZ 4 (c.nodes.length : Int) ++ c.nodes.flatMap ndB)) = ([84, 67] ++ beZ 4 c.root ++ beZ 4 (c.nodes.length : Int)) ++ c.nodes.flatMap ndB := by simp
  rw [e]
  exact List.drop_left' (by simp [beZ_len])
theorem xx_none (l : List UInt8) : ctR (88 :: 88 :: l) = none := by
  unfold ctR ctR0
  rw [if_neg (by simp)]
end Go.Proofs.Ytgeajdfajfdjcaa
