/- The program's tests of a grammar's parts: each against its plain function. -/
import Derived.Test.YtopnhbgialbicaaGramMem
import Derived.Test.YtopnhbgialbicaaLexAwake
namespace Go.Proofs.Ytopnhbgialbicaa
set_option linter.unusedVariables false
open Go.ChangeShapes Go.WideShapes Go.ChangeAt Go.RowKit

theorem isNumber_any (n : Int) (k : Nat) (w : World) : Calls Try.prog 17 #[.int .i64 n, .int .i64 (k : Int)] w fun e w' => e = .returned (.bool (isNum n k)) ∧ w = w' := by
  by_cases h1 : 0 ≤ n
  · by_cases h2 : n < (k : Int)
    · rw [show isNum n k = true by simp [isNum, h1, h2]]
      go_enter Try.func17, Try.ntmps17
      go_wp2
      go_ret
      exact ⟨rfl, rfl⟩
    · rw [show isNum n k = false by simp [isNum, h1, h2]]
      go_enter Try.func17, Try.ntmps17
      go_wp2
      go_ret
      exact ⟨rfl, rfl⟩
  · rw [show isNum n k = false by simp [isNum, h1]]
    go_enter Try.func17, Try.ntmps17
    go_wp2
    go_ret
    exact ⟨rfl, rfl⟩

set_option maxHeartbeats 2000000 in
theorem maySymbol_any (nm lo hi : Int) (k : Nat) (w : World) : Calls Try.prog 39 #[.agg #[.int .i64 nm, .int .i64 lo, .int .i64 hi], .int .i64 (k : Int)] w fun e w' => e = .returned (.bool (maySym k ⟨nm, lo, hi⟩)) ∧ Below w.heap.size w w' := by
  by_cases h0 : nm = -1
  · subst h0
    have E : maySym k ⟨-1, lo, hi⟩ = (decide (0 ≤ lo) && (decide (lo ≤ hi) && decide (hi ≤ 255))) := rfl
    rw [E]
    by_cases h1 : 0 ≤ lo
    · by_cases h2 : lo ≤ hi
      · by_cases h3 : hi ≤ 255
        · rw [show (decide (0 ≤ lo) && (decide (lo ≤ hi) && decide (hi ≤ 255))) = true by simp [h1, h2, h3]]
          go_enter Try.func39, Try.ntmps39
          go_wp2
          go_ret
          exact ⟨rfl, bel1 _ _⟩
        · rw [show (decide (0 ≤ lo) && (decide (lo ≤ hi) && decide (hi ≤ 255))) = false by simp [h1, h2, h3]]
          go_enter Try.func39, Try.ntmps39
          go_wp2
          go_ret
          exact ⟨rfl, bel1 _ _⟩
      · rw [show (decide (0 ≤ lo) && (decide (lo ≤ hi) && decide (hi ≤ 255))) = false by simp [h1, h2]]
        go_enter Try.func39, Try.ntmps39
        go_wp2
        go_ret
        exact ⟨rfl, bel1 _ _⟩
    · rw [show (decide (0 ≤ lo) && (decide (lo ≤ hi) && decide (hi ≤ 255))) = false by simp [h1]]
      go_enter Try.func39, Try.ntmps39
      go_wp2
      go_ret
      exact ⟨rfl, bel1 _ _⟩
  · have E : maySym k ⟨nm, lo, hi⟩ = (isNum nm k && (decide (lo = 0) && decide (hi = 0))) := by unfold maySym; rw [if_neg h0]
    rw [E]
    have NU := fun w => isNumber_any nm k w
    cases hn : isNum nm k with
    | false =>
      rw [hn] at NU
      rw [show (false && (decide (lo = 0) && decide (hi = 0))) = false from rfl]
      go_enter Try.func39, Try.ntmps39
      go_wp2_with (go_at_call 17; refine (NU _).mono ?_; rintro e wn ⟨rfl, rfl⟩)
      go_ret
      exact ⟨rfl, bel1 _ _⟩
    | true =>
      rw [hn] at NU
      by_cases h1 : lo = 0
      · by_cases h2 : hi = 0
        · rw [show (true && (decide (lo = 0) && decide (hi = 0))) = true by simp [h1, h2]]
          go_enter Try.func39, Try.ntmps39
          go_wp2_with (go_at_call 17; refine (NU _).mono ?_; rintro e wn ⟨rfl, rfl⟩)
          go_ret
          exact ⟨rfl, bel1 _ _⟩
        · have h2' : (hi == 0) = false := by simp [h2]
          rw [show (true && (decide (lo = 0) && decide (hi = 0))) = false by simp [h1, h2]]
          go_enter Try.func39, Try.ntmps39
          go_wp2_with (go_at_call 17; refine (NU _).mono ?_; rintro e wn ⟨rfl, rfl⟩)
          go_ret
          exact ⟨rfl, bel1 _ _⟩
      · have h1' : (lo == 0) = false := by simp [h1]
        rw [show (true && (decide (lo = 0) && decide (hi = 0))) = false by simp [h1]]
        go_enter Try.func39, Try.ntmps39
        go_wp2_with (go_at_call 17; refine (NU _).mono ?_; rintro e wn ⟨rfl, rfl⟩)
        go_ret
        exact ⟨rfl, bel1 _ _⟩

theorem take_all {α : Type} {p : α → Bool} {l : List α} {k : Nat} {a : α} (h : l[k]? = some a) : (l.take (k + 1)).all p = ((l.take k).all p && p a) := by
  rw [List.take_add_one, h]
  simp
theorem all_false {α : Type} {p : α → Bool} {l : List α} {k : Nat} {a : α} (h : l[k]? = some a) (hp : p a = false) : l.all p = false := by
  rw [List.all_eq_false]
  exact ⟨a, List.mem_of_getElem? h, by rw [hp]; decide⟩
set_option maxHeartbeats 2000000 in
theorem mayRow_any (K : Nat) (v : Value) (l : List Sy) (w : World) {F : Nat → Prop} (ha : IsSys w F v l) : Calls Try.prog 33 #[v, .int .i64 (K : Int)] w fun e w' => e = .returned (.bool (mayRow K l)) ∧ Below w.heap.size w w' := by
  obtain ⟨p, cp, rfl, hm, hca⟩ := ha
  replace hm := hm.1
  unfold maxLen at hm
  have HA : Hid (0 < l.length → ∃ g o, p = some ⟨g, o, none⟩ ∧ F g ∧ g < w.heap.size ∧ (∀ j c, (sysV l)[j]? = some c → w.cell? ⟨g, o + j, none⟩ = some c) ∧ ∀ j, j < ((sysV l)).length → w.frozen? ⟨g, o + j, none⟩ = false) := hca
  clear hca
  by_cases h64 : l.length ≤ 64
  · rw [show mayRow K l = l.all (maySym K) by simp [mayRow, h64]]
    obtain ⟨R, hR⟩ : ∃ R, R = l.all (maySym K) := ⟨_, rfl⟩
    have HR : Hid (R = l.all (maySym K)) := hR
    rw [← hR]
    clear hR
    go_enter Try.func33, Try.ntmps33
    go_wp2
    go_loopw [12] (fun i wr => ∃ k : Nat, k ≤ l.length ∧ i = .int .i64 k ∧ Hid (Below w.heap.size w wr) ∧ Hid ((l.take k).all (maySym K) = true)) (fun i _ => l.length - (intOf i).toNat)
    case atStart => exact ⟨0, by omega, rfl, Below.refl _ _, rfl⟩
    case round =>
      obtain ⟨k, hk, rfl, HW, HT⟩ := hrel
      by_cases hlt : k < l.length
      · obtain ⟨t, ht⟩ : ∃ t, l[k]? = some t := ⟨_, List.getElem?_eq_getElem hlt⟩
        obtain ⟨g1, o1, hp, -, hg1, ca, -⟩ := HA.out (by omega)
        subst hp
        obtain ⟨i0, i1, i2⟩ := sysV_at l k t ht
        have a0 := (HW.out.cell (p := ⟨_, _, none⟩) hg1).trans (ca _ _ i0)
        have a1 := (HW.out.cell (p := ⟨_, _, none⟩) hg1).trans (reas (ca _ _ i1))
        have a2 := (HW.out.cell (p := ⟨_, _, none⟩) hg1).trans (reas (ca _ _ i2))
        obtain ⟨nm, lo, hi⟩ := t
        simp only at a0 a1 a2
        have MS := fun w => maySymbol_any nm lo hi K w
        cases hs : maySym K ⟨nm, lo, hi⟩ with
        | true =>
          rw [hs] at MS
          have HN : Hid ((l.take (k + 1)).all (maySym K) = true) := by show _ = _; rw [take_all ht, hs, HT.out]; rfl
          clear ca ht hg1 i0 i1 i2 hs
          go_wp2_with (go_at_call 39; refine (MS _).mono ?_; rintro e w2 ⟨rfl, b2⟩)
          go_roundw
          case rel => exact ⟨k + 1, by omega, by go_num, HW.out.trans (((Below.refl _ _).alloc (Nat.le_refl _) _).mono HW.out.size |>.trans (b2.mono (Nat.le_trans HW.out.size (le_alloc _ _)))), HN⟩
          case measure => simp [intOf]; omega
        | false =>
          rw [hs] at MS
          have HN : Hid (R = false) := by show _ = _; rw [HR.out]; exact all_false ht hs
          clear ca ht hg1 i0 i1 i2 hs
          go_wp2_with (go_at_call 39; refine (MS _).mono ?_; rintro e w2 ⟨rfl, b2⟩)
          go_ret
          exact ⟨by rw [HN.out]; rfl, HW.out.trans (((Below.refl _ _).alloc (Nat.le_refl _) _).mono HW.out.size |>.trans (b2.mono (Nat.le_trans HW.out.size (le_alloc _ _))))⟩
      · obtain rfl : k = l.length := by omega
        have HN : Hid (R = true) := by show _ = _; rw [HR.out]; have := HT.out; rwa [List.take_length] at this
        go_wp2
        go_ret
        exact ⟨by rw [HN.out]; rfl, HW.out⟩
  · rw [show mayRow K l = false by simp [mayRow, h64]]
    go_enter Try.func33, Try.ntmps33
    go_wp2
    go_ret
    exact ⟨rfl, Below.refl _ _⟩
end Go.Proofs.Ytopnhbgialbicaa
