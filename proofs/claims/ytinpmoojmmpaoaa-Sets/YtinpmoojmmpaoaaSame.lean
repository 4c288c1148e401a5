/- Two rows of pairs in new memory are held against one another; a number of an error. -/
import Derived.Test.YtinpmoojmmpaoaaBut
import Derived.Test.YtinpmoojmmpaoaaEq
import Derived.Test.YtinpmoojmmpaoaaRows
import Derived.Deep.QuietTactic
import Derived.BigQuiet
import Derived.RegionTactic
namespace Go.Proofs.Ytinpmoojmmpaoaa
open Go.ChangeShapes Go.WideShapes Go.ChangeAt Go.RowKit

theorem num_any (n : Int) (w : World) : Calls Try.prog 11 #[.int .i64 n] w fun e w' => e = .returned (.int .i64 n) ∧ w = w' := by
  go_enter Try.func11, Try.ntmps11
  go_wp2
  go_ret
  exact ⟨rfl, rfl⟩

theorem same_unlike (p q : Option Addr) (n m c d : Nat) (w : World) (h : n ≠ m) (_hn : n ≤ 256) (_hm : m ≤ 256) :
    Calls Try.prog 20 #[.slice p n c, .slice q m d] w fun e w' => e = .returned (.bool false) ∧ w = w' := by
  have h2 : ((n : Int) != (m : Int)) = true := by simp; omega
  go_enter Try.func20, Try.ntmps20
  go_wp2
  go_ret
  exact ⟨rfl, rfl⟩

theorem take_getD (l : List (Nat × Nat)) (k : Nat) (hk : k < l.length) : l.take (k + 1) = l.take k ++ [l.getD k (0, 0)] := by
  rw [List.take_add_one, List.getElem?_eq_getElem hk, List.getD_eq_getElem?_getD, List.getElem?_eq_getElem hk]; rfl

set_option maxHeartbeats 1000000 in
theorem same_like (p q : Option Addr) (n c d : Nat) (b1 b2 : Nat) (l m : List (Nat × Nat)) (w : World) (hn : n ≤ 256)
    (h1 : w.ownsRow b1 40 2 (.slice p n c) n (flat l)) (h2 : w.ownsRow b2 40 2 (.slice q n d) n (flat m)) :
    Calls Try.prog 20 #[.slice p n c, .slice q n d] w fun e w' => e = .returned (.bool (decide (l = m))) ∧ Below w.heap.size w w' := by
  go_enter Try.func20, Try.ntmps20
  go_wp2
  go_loopw [5] (fun i wr => ∃ k : Nat, k ≤ n ∧ i = .int .i64 k ∧ l.take k = m.take k ∧ Below w.heap.size w wr) (fun i _ => n - (intOf i).toNat)
  case atStart => exact ⟨0, by omega, rfl, rfl, Below.refl _ _⟩
  case round =>
    obtain ⟨k, hk, rfl, ht, hW⟩ := hrel
    by_cases hlt : k < n
    · have o1 := owns_keep h1 hW
      have o2 := owns_keep h2 hW
      obtain ⟨hl, g1, hp, c1, c2⟩ := owns_cells o1 k hlt
      obtain ⟨hm, g2, hq, c3, c4⟩ := owns_cells o2 k hlt
      subst hp hq
      have HT : Hid (l.take k = m.take k) := ht
      have heq := Try.eqPair
      have HE : Hid (((((l.getD k (0, 0)).1 : Nat) : Int) == (((m.getD k (0, 0)).1 : Nat) : Int) && (((l.getD k (0, 0)).2 : Nat) : Int) == (((m.getD k (0, 0)).2 : Nat) : Int)) = decide (l.getD k (0, 0) = m.getD k (0, 0))) := by
        show _ = _
        rw [Bool.eq_iff_iff]
        simp only [Bool.and_eq_true, beq_iff_eq, decide_eq_true_eq, Prod.ext_iff, Int.ofNat_inj]
      generalize ((((l.getD k (0, 0)).1 : Nat) : Int)) = x1 at c1 HE
      generalize ((((l.getD k (0, 0)).2 : Nat) : Int)) = y1 at c2 HE
      generalize ((((m.getD k (0, 0)).1 : Nat) : Int)) = x2 at c3 HE
      generalize ((((m.getD k (0, 0)).2 : Nat) : Int)) = y2 at c4 HE
      have HL : Hid (n = l.length) := hl
      have HM : Hid (n = m.length) := hm
      clear ht o1 o2 h1 h2 hl hm
      by_cases hxy : (x1 == x2 && y1 == y2) = true
      · go_wp2
        go_region
        go_wp2
        go_roundw
        case rel =>
          have h1 := HL.out
          have h2 := HM.out
          have h3 : l.getD k (0, 0) = m.getD k (0, 0) := of_decide_eq_true (HE.out.symm.trans hxy)
          exact ⟨k + 1, by omega, by go_num, by rw [take_getD l k (by omega), take_getD m k (by omega), HT.out, h3], hW.drew⟩
        case measure => simp [intOf]; omega
      · have hxy' : (x1 == x2 && y1 == y2) = false := Bool.eq_false_iff.2 hxy
        clear hxy
        go_wp2
        go_region
        go_wp2
        go_ret
        refine ⟨ret_bool ?_, hW.drew⟩
        have h3 : ¬ l.getD k (0, 0) = m.getD k (0, 0) := of_decide_eq_false (HE.out.symm.trans hxy')
        exact (decide_eq_false (fun h => h3 (by rw [h]))).symm
    · have HE : Hid (l = m) := by
        have h3 := owns_len h1
        have h4 := owns_len h2
        show l = m
        rw [← List.take_of_length_le (l := l) (i := k) (by omega), ht, List.take_of_length_le (by omega)]
      clear ht h1 h2
      go_wp2
      go_ret
      exact ⟨ret_bool (decide_eq_true HE.out).symm, hW⟩

theorem same_any (u v : Value) (n n' : Nat) (b1 b2 : Nat) (l m : List (Nat × Nat)) (w : World) (hn : n ≤ 256) (hn' : n' ≤ 256)
    (h1 : w.ownsRow b1 40 2 u n (flat l)) (h2 : w.ownsRow b2 40 2 v n' (flat m)) :
    Calls Try.prog 20 #[u, v] w fun e w' => e = .returned (.bool (decide (l = m))) ∧ Below w.heap.size w w' := by
  have e1 := owns_len h1
  have e2 := owns_len h2
  obtain ⟨p, c, rfl⟩ := owns_slice h1
  obtain ⟨q, d, rfl⟩ := owns_slice h2
  by_cases h : n = n'
  · subst h
    exact same_like p q n c d b1 b2 l m w hn h1 h2
  · refine (same_unlike p q n n' c d w h hn hn').mono ?_
    rintro e w' ⟨rfl, rfl⟩
    exact ⟨ret_bool (decide_eq_false (fun hh => h (by rw [e1, e2, hh]))).symm, Below.refl _ _⟩
end Go.Proofs.Ytinpmoojmmpaoaa
