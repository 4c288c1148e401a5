/- The document's edgesMay, reached, Reaches, against their plain functions. -/
import Derived.Test.YtalckpaeleflnaaCmpTop
import Derived.Test.YtalckpaeleflnaaCmpRefT
import Derived.Laws.MakeOwn
namespace Go.Proofs.Ytalckpaeleflnaa
set_option linter.unusedVariables false
open Go.ChangeShapes Go.WideShapes Go.ChangeAt Go.RowKit

theorem eds_bad {n : Int} {l : List Ed} {k : Nat} {t : Ed} (ht : l[k]? = some t) (h : edB n t = false) : edsB n l = false := by
  unfold edsB
  rw [← Bool.not_eq_true, List.all_eq_true]
  intro hh
  have := hh _ (List.mem_of_getElem? ht)
  rw [h] at this; cases this
theorem mayE_bad {n : Int} {l : List Ed} (h : edsB n l = false) : mayE n l = false := by unfold mayE; rw [h]; simp
set_option maxHeartbeats 4000000 in
theorem mayRef_any (n : Int) (v : Value) (l : List Ed) (w : World) {F : Nat → Prop} (ha : IsEds w F v l) :
    Calls Try.prog 21 #[.int .i64 n, v] w fun e w' => e = .returned (.bool (mayE n l)) ∧ w = w' := by
  obtain ⟨p, cp, rfl⟩ := ha.slc
  have HA : Hid (IsEds w F (.slice p l.length cp) l) := ha
  have hm9 : l.length ≤ 9223372036854775807 := by have := ha.len; unfold maxLen at this; omega
  clear ha
  go_enter Try.func21, Try.ntmps21
  go_wp2
  go_loopw [5] (fun i wr => ∃ k : Nat, k ≤ l.length ∧ i = .int .i64 k ∧ Hid (wr = w) ∧ Hid ((l.take k).all (edB n) = true)) (fun i _ => l.length - (intOf i).toNat)
  case atStart => exact ⟨0, by omega, rfl, rfl, by show _ = _; simp⟩
  case round =>
    obtain ⟨k, hk, rfl, HWR, HT⟩ := hrel
    obtain rfl : wr = w := HWR.out
    clear HWR
    by_cases hlt : k < l.length
    · obtain ⟨t, ht⟩ : ∃ t, l[k]? = some t := ⟨_, List.getElem?_eq_getElem hlt⟩
      obtain ⟨g1, o1, hp, -, a0, a1, a2⟩ := HA.out.at ht
      subst hp
      obtain ⟨t0, t1, t2⟩ := t
      simp only at a0 a1 a2
      have HH : Hid (l[k]? = some (t0, t1, t2)) := ht
      clear ht
      by_cases c : (0 ≤ t0 ∧ t0 < n) ∧ 0 ≤ t1 ∧ t1 < n
      · have HD : Hid ((l.take (k + 1)).all (edB n) = true) := all_take HH.out HT.out (by unfold edB endB; simp [c])
        have n0 : ¬ t0 < 0 := by omega
        have n1 : ¬ n ≤ t0 := by omega
        have n2 : ¬ t1 < 0 := by omega
        have n3 : ¬ n ≤ t1 := by omega
        clear c
        go_wp2
        go_roundw
        case rel => exact ⟨k + 1, by omega, by go_num, by trivial, HD⟩
        case measure => simp [intOf]; omega
      · have HD : Hid (mayE n l = false) := mayE_bad (eds_bad HH.out (by unfold edB endB; rw [← Bool.not_eq_true]; simp only [Bool.and_eq_true, decide_eq_true_eq]; exact c))
        by_cases n0 : t0 < 0
        · clear c
          go_wp2
          go_ret
          exact ⟨ret_bool HD.out.symm, rfl⟩
        by_cases n1 : n ≤ t0
        · clear c
          go_wp2
          go_ret
          exact ⟨ret_bool HD.out.symm, rfl⟩
        by_cases n2 : t1 < 0
        · clear c
          go_wp2
          go_ret
          exact ⟨ret_bool HD.out.symm, rfl⟩
        have n3 : n ≤ t1 := by omega
        clear c
        go_wp2
        go_ret
        exact ⟨ret_bool HD.out.symm, rfl⟩
    · obtain rfl : k = l.length := by omega
      have HD : Hid (mayE n l = (decide (0 ≤ n) && decide (n ≤ 64))) := by
        have := HT.out
        rw [List.take_length] at this
        show _ = _
        unfold mayE edsB
        rw [this]; simp
      by_cases n0 : 0 ≤ n
      · by_cases n1 : n ≤ 64
        · go_wp2
          go_ret
          exact ⟨ret_bool (by rw [HD.out]; simp [n0, n1]), rfl⟩
        · go_wp2
          go_ret
          exact ⟨ret_bool (by rw [HD.out, decide_eq_false (p := n ≤ 64) (by omega)]; simp), rfl⟩
      · go_wp2
        go_ret
        exact ⟨ret_bool (by rw [HD.out, decide_eq_false (p := 0 ≤ n) (by omega)]; rfl), rfl⟩

def boolsA (n : Nat) (s : Nat → Bool) : Array Value := ((List.range n).map fun i => Value.bool (s i)).toArray
theorem boolsA_size (n : Nat) (s : Nat → Bool) : (boolsA n s).size = n := by simp [boolsA]
theorem boolsA_at {n : Nat} (s : Nat → Bool) {k : Nat} (hk : k < n) : (boolsA n s)[k]? = some (.bool (s k)) := by simp [boolsA, hk]
theorem boolsA_put (n : Nat) (s : Nat → Bool) (k : Nat) : (boolsA n s).setIfInBounds k (.bool true) = boolsA n (putS s k) := by
  apply Array.ext_getElem?
  intro i
  rw [Array.getElem?_setIfInBounds, boolsA_size]
  by_cases e : k = i
  · subst e
    rw [if_pos rfl]
    by_cases hk : k < n
    · rw [if_pos hk, boolsA_at _ hk]; simp [putS]
    · rw [if_neg hk, Array.getElem?_eq_none (by rw [boolsA_size]; omega)]
  · rw [if_neg e]
    by_cases hi : i < n
    · rw [boolsA_at _ hi, boolsA_at _ hi]; simp [putS, Ne.symm e]
    · rw [Array.getElem?_eq_none (by rw [boolsA_size]; omega), Array.getElem?_eq_none (by rw [boolsA_size]; omega)]
theorem made_bools (n : Nat) : madeCells #[.bool false] n = boolsA n (fun _ => false) := by
  apply Array.ext_getElem?
  intro i
  by_cases hi : i < n
  · rw [boolsA_at _ hi]
    simp [madeCells, hi, Nat.mod_one]
  · rw [Array.getElem?_eq_none (by rw [size_madeCells]; omega), Array.getElem?_eq_none (by rw [boolsA_size]; omega)]
/-- Block b is the bools s. -/
def BlAt (w : World) (b n : Nat) (s : Nat → Bool) : Prop := w.heap[b]? = some (.cells (boolsA n s) 4)
section
variable {w w' : World} {b n : Nat} {s : Nat → Bool}
theorem BlAt.lt (h : BlAt w b n s) : b < w.heap.size := heap_lt h
theorem BlAt.cell (h : BlAt w b n s) {k : Nat} (hk : k < n) : w.cell? ⟨b, k, none⟩ = some (.bool (s k)) := by
  rw [cell_of_row _ _ k _ _ (0, 0) h]; exact boolsA_at s hk
theorem BlAt.frozen (h : BlAt w b n s) (k : Nat) : w.frozen? ⟨b, k, none⟩ = false := by simp [World.frozen?, show w.heap[b]? = _ from h]
theorem BlAt.keep (h : BlAt w b n s) (hb : Below w.heap.size w w') : BlAt w' b n s := (hb.block b h.lt).trans h
theorem BlAt.put (h : BlAt w b n s) (k : Nat) : BlAt (w.setCell ⟨b, k, none⟩ (.bool true)) b n (putS s k) := by
  unfold BlAt at *
  simp only [World.setCell, Array.getElem?_modify, if_pos, h, Option.map_some]
  rw [← boolsA_put]; rfl
theorem BlAt.new (w : World) (n : Nat) (s : Nat → Bool) : BlAt (w.alloc (.cells (boolsA n s) 4)) w.heap.size n s := heap_alloc_new w _
end
theorem Try.infoBool : (Try.prog.info? 4).map (fun i => (i.zero, i.size, i.bytes)) = some (some (.bool false), 1, 1) := by kernel_rfl
theorem make_bools (n : Nat) (hn : n ≤ 64) (w : World) : (Instr.makeSlice 47 (.int .i64 (n : Int)) (.int .i64 (n : Int))).run Try.prog w = .ok (.slice (some ⟨w.heap.size, 0, none⟩) n n) (w.alloc (.cells (boolsA n (fun _ => false)) 4)) := by
  obtain ⟨i, hi, hz, hs, hb⟩ := info_parts Try.infoBool
  have h := run_make (P := Try.prog) w 47 4 i _ Try.underlying47 hi hz .i64 .i64 (n : Int) (n : Int) (by omega) (Int.le_refl _) (by rw [hb]; omega) (by omega)
  simp only [Int.toNat_natCast, hs, Nat.mul_one] at h
  rw [← made_bools]
  exact h
theorem take_rnd {l : List Ed} {k : Nat} {t : Ed} (ht : l[k]? = some t) (s : Nat → Bool) : rndS s (l.take (k + 1)) = stepS (rndS s (l.take k)) t := by
  rw [List.take_add_one, ht]; exact rndS_snoc _ _ _
set_option maxHeartbeats 4000000 in
set_option maxRecDepth 100000 in
theorem reached_any (n f : Nat) (v : Value) (l : List Ed) (w : World) {F : Nat → Prop} (ha : IsEds w F v l) (hm : mayE (n : Int) l = true) (hf : f < n) :
    Calls Try.prog 22 #[.int .i64 (n : Int), v, .int .i64 (f : Int)] w fun e w' => e = .returned (.slice (some ⟨w.heap.size, 0, none⟩) n n) ∧ Hid (BlAt w' w.heap.size n (wayB n l f)) ∧ Hid (Below w.heap.size w w') := by
  obtain ⟨p, cp, rfl⟩ := ha.slc
  have HA : Hid (IsEds w F (.slice p l.length cp) l) := ha
  have hm9 : l.length ≤ 9223372036854775807 := by have := ha.len; unfold maxLen at this; omega
  have hn : n ≤ 64 := by have := mayE_all hm; omega
  have HM : Hid (edsB (n : Int) l = true) := (mayE_all hm).2.2
  have hmk := make_bools n hn
  have hz := boolsA_at (n := n) (fun _ => false) hf
  have hzs := boolsA_size n (fun _ => false)
  clear ha hm
  go_enter Try.func22, Try.ntmps22
  go_wp2
  clear hmk hz hzs
  go_loopw [8] (fun x wr => ∃ r : Nat, r ≤ n ∧ x = .int .i64 r ∧ Hid (BlAt wr w.heap.size n (itS f l r)) ∧ Hid (Below w.heap.size w wr)) (fun x _ => n - (intOf x).toNat)
  case atStart =>
    refine ⟨0, Nat.zero_le _, rfl, ?_, ?_⟩
    · first
        | exact BlAt.put (BlAt.new w n _) f
        | (rw [boolsA_put]; exact BlAt.new w n _)
    · first
        | exact bel1 _ _
        | exact (bel1 _ _).setCell (p := ⟨w.heap.size, f, none⟩) (Nat.le_refl _) _
  case round =>
    obtain ⟨r, hr, rfl, HS, HB⟩ := hrel
    by_cases hlt : r < n
    · obtain ⟨s0, hs0⟩ : ∃ s0, s0 = itS f l r := ⟨_, rfl⟩
      have HE : Hid (itS f l (r + 1) = rndS s0 l) := by show _ = _; rw [hs0]; rfl
      rw [← hs0] at HS
      clear hs0
      go_wp2
      go_loopw [9] (fun x wr => ∃ q : Nat, q ≤ l.length ∧ x = .int .i64 q ∧ Hid (BlAt wr w.heap.size n (rndS s0 (l.take q))) ∧ Hid (Below w.heap.size w wr)) (fun x _ => l.length - (intOf x).toNat)
      case atStart => exact ⟨0, Nat.zero_le _, rfl, HS, HB⟩
      case round =>
        obtain ⟨q, hq, rfl, HQ, HBq⟩ := hrel
        by_cases hlq : q < l.length
        · obtain ⟨t, ht⟩ : ∃ t, l[q]? = some t := ⟨_, List.getElem?_eq_getElem hlq⟩
          obtain ⟨g1, o1, hp, -, a0, a1, a2⟩ := (HA.out.any HBq.out).at ht
          subst hp
          have hed := edB_lt (List.all_eq_true.1 HM.out t (List.mem_of_getElem? ht))
          obtain ⟨t0, t1, t2⟩ := t
          simp only at a0 a1 a2 hed
          obtain ⟨x, rfl⟩ : ∃ x : Nat, t0 = (x : Int) := ⟨t0.toNat, by omega⟩
          obtain ⟨y, rfl⟩ : ∃ y : Nat, t1 = (y : Int) := ⟨t1.toNat, by omega⟩
          obtain ⟨s1, hs1⟩ : ∃ s1, s1 = rndS s0 (l.take q) := ⟨_, rfl⟩
          have HN : Hid (rndS s0 (l.take (q + 1)) = stepS s1 (x, y, t2)) := by show _ = _; rw [hs1]; exact take_rnd ht _
          rw [← hs1] at HQ
          have hx : x < n := by omega
          have hy : y < n := by omega
          have cx := HQ.out.cell hx
          have cy := HQ.out.cell hy
          have fy := HQ.out.frozen y
          clear ht hed hs1
          cases e0 : s1 x with
          | false =>
            rw [e0] at cx
            have HZ : Hid (BlAt wr w.heap.size n (rndS s0 (l.take (q + 1)))) := by
              show BlAt _ _ _ _
              rw [HN.out, show stepS s1 (x, y, t2) = s1 from if_neg (by show ¬ s1 ((x : Int).toNat) = true; rw [Int.toNat_natCast, e0]; simp)]
              exact HQ.out
            go_wp2
            go_roundw
            case rel => exact ⟨q + 1, by omega, by go_num, HZ, HBq⟩
            case measure => simp [intOf]; omega
          | true =>
            rw [e0] at cx
            have HZ : Hid (BlAt (wr.setCell ⟨w.heap.size, y, none⟩ (.bool true)) w.heap.size n (rndS s0 (l.take (q + 1)))) := by
              show BlAt _ _ _ _
              rw [HN.out, show stepS s1 (x, y, t2) = putS s1 y from if_pos (by show s1 ((x : Int).toNat) = true; rw [Int.toNat_natCast, e0])]
              exact HQ.out.put y
            have HB2 : Hid (Below w.heap.size w (wr.setCell ⟨w.heap.size, y, none⟩ (.bool true))) := HBq.out.setCell (p := ⟨w.heap.size, y, none⟩) (Nat.le_refl _) _
            go_wp2
            go_roundw
            case rel => exact ⟨q + 1, by omega, by go_num, HZ, HB2⟩
            case measure => simp [intOf]; omega
        · obtain rfl : q = l.length := by omega
          rw [List.take_length, ← HE.out] at HQ
          go_wp2
          go_roundw
          case rel => exact ⟨r + 1, by omega, by go_num, HQ, HBq⟩
          case measure => simp [intOf]; omega
    · obtain rfl : r = n := by omega
      have HZ : Hid (BlAt wr w.heap.size r (wayB r l f)) := by
        show BlAt _ _ _ _
        rw [show wayB r l f = itS f l r from funext fun j => (it_way HM.out hf j).symm]
        exact HS.out
      go_wp2
      go_ret
      exact ⟨rfl, HZ, HB⟩
set_option maxHeartbeats 4000000 in
set_option maxRecDepth 100000 in
theorem reachRef_any (n : Int) (v : Value) (l : List Ed) (a b : Int) (w : World) {F : Nat → Prop} (ha : IsEds w F v l) :
    Calls Try.prog 14 #[.int .i64 n, v, .int .i64 a, .int .i64 b] w fun e w' => e = .returned (.bool (reachT n l a b)) ∧ Hid (Below w.heap.size w w') := by
  have K1 := mayRef_any n v l w ha
  have HA : Hid (IsEds w F v l) := ha
  obtain ⟨p, cp, hp⟩ := ha.slc
  clear ha
  cases hm : mayE n l with
  | false =>
    rw [hm] at K1
    have HD : Hid (reachT n l a b = false) := by show _ = _; unfold reachT; rw [hm]; rfl
    subst hp
    clear hm
    go_enter Try.func14, Try.ntmps14
    go_wp2_with (go_at_call 21; refine K1.mono ?_; rintro e w1 ⟨rfl, rfl⟩)
    go_ret
    exact ⟨ret_bool HD.out.symm, Below.refl _ _⟩
  | true =>
    rw [hm] at K1
    by_cases c : (0 ≤ a ∧ a < n) ∧ 0 ≤ b ∧ b < n
    · have hz := mayE_all hm
      obtain ⟨m, rfl⟩ : ∃ m : Nat, n = (m : Int) := ⟨n.toNat, by omega⟩
      obtain ⟨x, rfl⟩ : ∃ x : Nat, a = (x : Int) := ⟨a.toNat, by omega⟩
      obtain ⟨y, rfl⟩ : ∃ y : Nat, b = (y : Int) := ⟨b.toNat, by omega⟩
      have hx : x < m := by omega
      have hy : y < m := by omega
      have HD : Hid (wayB m l x y = reachT m l x y) := by
        show _ = _
        unfold reachT endB
        rw [hm]; simp [hx, hy]
      have K2 := reached_any m x v l w HA.out hm hx
      subst hp
      clear hm hz c
      go_enter Try.func14, Try.ntmps14
      go_wp2_with (first
        | (go_at_call 21; refine K1.mono ?_; rintro e w1 ⟨rfl, rfl⟩)
        | (go_at_call 22; refine K2.mono ?_; rintro e w2 ⟨rfl, HB2, H2⟩; have cy := HB2.out.cell hy))
      go_ret
      exact ⟨ret_bool HD.out, H2⟩
    · have HD : Hid (reachT n l a b = false) := by
        show _ = _
        unfold reachT endB
        rw [← Bool.not_eq_true]
        simp only [Bool.and_eq_true, decide_eq_true_eq]
        intro h; exact c ⟨h.1.1.2, h.1.2⟩
      subst hp
      clear hm
      by_cases n0 : a < 0
      · clear c
        go_enter Try.func14, Try.ntmps14
        go_wp2_with (go_at_call 21; refine K1.mono ?_; rintro e w1 ⟨rfl, rfl⟩)
        go_ret
        exact ⟨ret_bool HD.out.symm, Below.refl _ _⟩
      by_cases n1 : n ≤ a
      · clear c
        go_enter Try.func14, Try.ntmps14
        go_wp2_with (go_at_call 21; refine K1.mono ?_; rintro e w1 ⟨rfl, rfl⟩)
        go_ret
        exact ⟨ret_bool HD.out.symm, Below.refl _ _⟩
      by_cases n2 : b < 0
      · clear c
        go_enter Try.func14, Try.ntmps14
        go_wp2_with (go_at_call 21; refine K1.mono ?_; rintro e w1 ⟨rfl, rfl⟩)
        go_ret
        exact ⟨ret_bool HD.out.symm, Below.refl _ _⟩
      have n3 : n ≤ b := by omega
      clear c
      go_enter Try.func14, Try.ntmps14
      go_wp2_with (go_at_call 21; refine K1.mono ?_; rintro e w1 ⟨rfl, rfl⟩)
      go_ret
      exact ⟨ret_bool HD.out.symm, Below.refl _ _⟩
end Go.Proofs.Ytalckpaeleflnaa
