/- Rows of bits in memory; isEnd, may, add, has, least of comps. -/
import Derived.Test.YtkihbgikdbaelaaHangT
import Derived.Test.YtkihbgikdbaelaaDepSame
import Derived.ProofKit
import Derived.OpenShut
import Derived.WalkLawsBesides
import Derived.Deep.Heap
import Derived.Deep.WholeRow
import Derived.Deep.MidRow
import Derived.Laws.StructEq
import Derived.BigQuiet
namespace Go.Proofs.Ytkihbgikdbaelaa
set_option linter.unusedVariables false
open Go.ChangeShapes Go.WideShapes Go.ChangeAt Go.RowKit

theorem bel_alloc {W w' : World} {o : Obj} (h : Below W.heap.size W w') : Below W.heap.size W (w'.alloc o) := h.alloc h.size o
theorem heap_lt {w : World} {b : Nat} {o : Obj} (h : w.heap[b]? = some o) : b < w.heap.size := by
  by_cases hh : b < w.heap.size
  · exact hh
  · rw [Array.getElem?_eq_none (by omega)] at h; cases h

theorem Reads.nil (w : World) (F : Nat → Prop) : Reads w F (.slice none 0 0) 0 [] := ⟨none, 0, rfl, ⟨Nat.zero_le _, Nat.zero_le _⟩, fun h => absurd h (Nat.lt_irrefl _)⟩

theorem IsEds.len {w : World} {F : Nat → Prop} {v : Value} {l : List Ed} (h : IsEds w F v l) : l.length ≤ maxLen := by
  obtain ⟨p, c, e, h, _⟩ := h
  exact h.1
def rowsL (r : Nat → Nat) : List Value := (List.range 64).map fun i => .int .u64 ((r i : Nat) : Int)
def rowsA (r : Nat → Nat) : Array Value := (rowsL r).toArray
def zR : Nat → Nat := fun _ => 0
theorem rowsA_size (r : Nat → Nat) : (rowsA r).size = 64 := by simp [rowsA, rowsL]
theorem rowsA_at (r : Nat → Nat) {k : Nat} (hk : k < 64) : (rowsA r)[k]? = some (.int .u64 ((r k : Nat) : Int)) := by
  simp [rowsA, rowsL, hk]
theorem rowsA_one (r : Nat → Nat) : (rowsA r).all (·.oneCell') = true := by
  refine Array.all_eq_true_iff_forall_mem.2 fun v hv => ?_
  simp only [rowsA, rowsL, List.mem_toArray, List.mem_map] at hv
  obtain ⟨i, _, rfl⟩ := hv
  rfl
theorem rowsA_put (r : Nat → Nat) {k : Nat} (hk : k < 64) (n : Nat) : (rowsA r).setIfInBounds k (.int .u64 ((n : Nat) : Int)) = rowsA (putR r k n) := by
  apply Array.ext_getElem?
  intro i
  rw [Array.getElem?_setIfInBounds, rowsA_size]
  by_cases e : k = i
  · subst e
    rw [if_pos rfl, if_pos hk, rowsA_at _ hk]; simp [putR]
  · rw [if_neg e]
    by_cases hi : i < 64
    · rw [rowsA_at _ hi, rowsA_at _ hi]; simp [putR, Ne.symm e]
    · rw [Array.getElem?_eq_none (by rw [rowsA_size]; omega), Array.getElem?_eq_none (by rw [rowsA_size]; omega)]
theorem rowsA_congr {r s : Nat → Nat} (h : ∀ i, i < 64 → r i = s i) : rowsA r = rowsA s := by
  unfold rowsA rowsL
  congr 1
  refine List.map_congr_left fun i hi => ?_
  rw [h i (List.mem_range.1 hi)]
/-- Block b is the rows of bits r. -/
def RwAt (w : World) (b : Nat) (r : Nat → Nat) : Prop := w.heap[b]? = some (.cells (rowsA r) 95)
section
variable {w w' : World} {b : Nat} {r : Nat → Nat}
theorem RwAt.lt (h : RwAt w b r) : b < w.heap.size := heap_lt h
theorem RwAt.cell (h : RwAt w b r) {k : Nat} (hk : k < 64) : w.cell? ⟨b, k, none⟩ = some (.int .u64 ((r k : Nat) : Int)) := by
  rw [cell_of_row _ _ k _ _ (0, 0) h]; exact rowsA_at r hk
theorem RwAt.frozen (h : RwAt w b r) (k : Nat) : w.frozen? ⟨b, k, none⟩ = false := by simp [World.frozen?, show w.heap[b]? = _ from h]
theorem RwAt.keep (h : RwAt w b r) (hb : Below w.heap.size w w') : RwAt w' b r := (hb.block b h.lt).trans h
theorem RwAt.blk (h : RwAt w b r) (hb : w'.heap[b]? = w.heap[b]?) : RwAt w' b r := hb.trans h
theorem RwAt.put (h : RwAt w b r) {k : Nat} (hk : k < 64) (n : Nat) : RwAt (w.setCell ⟨b, k, none⟩ (.int .u64 ((n : Nat) : Int))) b (putR r k n) := by
  unfold RwAt at *
  simp only [World.setCell, Array.getElem?_modify, if_pos, h, Option.map_some]
  rw [← rowsA_put r hk]; rfl
theorem RwAt.new (w : World) (r : Nat → Nat) : RwAt (w.alloc (.cells (rowsA r) 95)) w.heap.size r := heap_alloc_new w _
theorem RwAt.whole (h : RwAt w b r) : w.rangeAt b 0 (rowsL r) := fun j v hv => by
  have hj : j < 64 := by have := (List.getElem?_eq_some_iff.1 hv).1; simpa [rowsL] using this
  have := rowsA_at r hj
  unfold rowsA at this
  rw [List.getElem?_toArray, hv] at this
  rw [Nat.zero_add, h.cell hj, ← this]
end
/-- All blocks but b are as they were, and there are no more. -/
structure Only (b : Nat) (w w' : World) : Prop where
  os : w'.os = w.os
  tape : w'.tape = w.tape
  output : w'.output = w.output
  size : w'.heap.size = w.heap.size
  block : ∀ k, k ≠ b → w'.heap[k]? = w.heap[k]?
theorem Only.drew (b : Nat) (w : World) : Only b w w.drew := ⟨rfl, rfl, rfl, rfl, fun _ _ => rfl⟩
theorem Only.refl (b : Nat) (w : World) : Only b w w := ⟨rfl, rfl, rfl, rfl, fun _ _ => rfl⟩
theorem Only.set {b : Nat} {w w' : World} (h : Only b w w') (k : Nat) (v : Value) : Only b w (w'.setCell ⟨b, k, none⟩ v) :=
  ⟨h.os, h.tape, h.output, (Go.Deep.nblk_setCell _ _ _).trans h.size, fun i hi => (Go.Deep.blk_setCell_other _ _ _ _ hi).trans (h.block i hi)⟩
theorem Only.below {b B : Nat} {w w' : World} (h : Only b w w') (hB : B ≤ b) : Below B w w' := ⟨h.os, h.tape, h.output, by rw [h.size]; exact Nat.le_refl _, fun k hk => h.block k (by omega)⟩

theorem Try.infoRows : (Try.prog.info? 95).map (·.size) = some 64 := by kernel_rfl
theorem zero_rows : (#[.int .u64 0, .int .u64 0, .int .u64 0, .int .u64 0, .int .u64 0, .int .u64 0, .int .u64 0, .int .u64 0, .int .u64 0, .int .u64 0, .int .u64 0, .int .u64 0, .int .u64 0, .int .u64 0, .int .u64 0, .int .u64 0, .int .u64 0, .int .u64 0, .int .u64 0, .int .u64 0, .int .u64 0, .int .u64 0, .int .u64 0, .int .u64 0, .int .u64 0, .int .u64 0, .int .u64 0, .int .u64 0, .int .u64 0, .int .u64 0, .int .u64 0, .int .u64 0, .int .u64 0, .int .u64 0, .int .u64 0, .int .u64 0, .int .u64 0, .int .u64 0, .int .u64 0, .int .u64 0, .int .u64 0, .int .u64 0, .int .u64 0, .int .u64 0, .int .u64 0, .int .u64 0, .int .u64 0, .int .u64 0, .int .u64 0, .int .u64 0, .int .u64 0, .int .u64 0, .int .u64 0, .int .u64 0, .int .u64 0, .int .u64 0, .int .u64 0, .int .u64 0, .int .u64 0, .int .u64 0, .int .u64 0, .int .u64 0, .int .u64 0, .int .u64 0] : Array Value) = rowsA zR := by rfl
/-- A whole array into the block that was made last. -/
theorem wpList_store_rows {ops : Array Oper} {rest : List Oper} {op : Oper} {a : Act} {w : World} {Q : Exit → Act → World → Prop} (hgd : op.guard = none) (x y : Operand) (ho : op.op = .store 95 x y) (r s : Nat → Nat)
    (hx : a.eval x = .pointer (some ⟨w.heap.size, 0, none⟩)) (hy : a.eval y = .agg (rowsA r)) (h : wpList Try.prog ops Q rest (a.put op.dst undef) (w.alloc (.cells (rowsA r) 95))) : wpList Try.prog ops Q (op :: rest) a (w.alloc (.cells (rowsA s) 95)) :=
  wpList_plain hgd fun K hK => by
    have := run_storeAt_new (P := Try.prog) w 95 (rowsA s) (rowsA r) (by rw [rowsA_size]; exact Try.infoRows) (by rw [rowsA_size, rowsA_size]) (rowsA_one r)
    unfold Oper.wp execOp
    simp only [ho, hx, hy, Sem.run_bind, this, Result.andThen_ok]
    exact hK _ _ h
theorem ret_bool {a b : Bool} (h : a = b) : Ending.returned (.bool a) = .returned (.bool b) := by rw [h]
theorem ret_int {k : IntKind} {a b : Int} (h : a = b) : Ending.returned (.int k a) = .returned (.int k b) := by rw [h]
theorem bit_test (n : Nat) (r : Nat) (hn : n < 18446744073709551616) : (bits .and .u64 ((n : Int) / 2 ^ r) 1 == 1) = n.testBit r := by
  have e : ((n : Int) / 2 ^ r) = ((n / 2 ^ r : Nat) : Int) := by simp
  rw [Nat.testBit_eq_decide_div_mod_eq]
  have hlt : n / 2 ^ r < 18446744073709551616 := Nat.lt_of_le_of_lt (Nat.div_le_self _ _) hn
  rw [e]
  generalize n / 2 ^ r = m at hlt
  rw [and_one_u64 _ (by omega) (by omega)]
  rw [Bool.eq_iff_iff]
  simp only [beq_iff_eq, decide_eq_true_eq]
  omega
theorem bit_put (n r : Nat) (hn : n < 18446744073709551616) (hr : r < 64) : bits .or .u64 ((n : Nat) : Int) (IntKind.u64.wrap (2 ^ r)) = ((n ||| 2 ^ r : Nat) : Int) := by
  have hp : 2 ^ r < 18446744073709551616 := two_lt hr
  have e : (2 : Int) ^ r = ((2 ^ r : Nat) : Int) := by simp
  rw [e, IntKind.wrap_u64]
  generalize 2 ^ r = m at hp
  rw [show ((m : Int) % 18446744073709551616) = (m : Int) by omega]
  exact u64_or_nat _ _ hn hp
theorem isEnd_any (n i : Int) (w : World) : Calls Try.prog 69 #[.int .i64 n, .int .i64 i] w fun e w' => e = .returned (.bool (endB n i)) ∧ w = w' := by
  by_cases h0 : 0 ≤ i
  · by_cases h1 : i < n
    · go_enter Try.func69, Try.ntmps69
      go_wp2
      go_ret
      exact ⟨ret_bool (by simp [endB, h0, h1]), rfl⟩
    · go_enter Try.func69, Try.ntmps69
      go_wp2
      go_ret
      exact ⟨ret_bool (by simp [endB, h1]), rfl⟩
  · go_enter Try.func69, Try.ntmps69
    go_wp2
    go_ret
    exact ⟨ret_bool (by simp [endB]; omega), rfl⟩
set_option maxHeartbeats 1000000 in
theorem has7_any {w : World} {b : Nat} {r : Nat → Nat} (i j : Nat) (h : RwAt w b r) (hr : okR r) (hi : i < 64) (hj : j < 64) :
    Calls Try.prog 71 #[.pointer (some ⟨b, 0, none⟩), .int .i64 (i : Int), .int .i64 (j : Int)] w fun e w' => e = .returned (.bool (bit r i j)) ∧ w = w' := by
  have hc := h.cell hi
  have HB : Hid ((bits .and .u64 (((r i : Nat) : Int) / 2 ^ j) 1 == 1) = bit r i j) := bit_test _ _ (hr i)
  have hlt := h.lt
  clear h hr
  go_enter Try.func71, Try.ntmps71
  go_wp2
  go_ret
  exact ⟨ret_bool HB.out, rfl⟩
set_option maxHeartbeats 1000000 in
theorem add7_any {w : World} {b : Nat} {r : Nat → Nat} (i j : Nat) (h : RwAt w b r) (hr : okR r) (hi : i < 64) (hj : j < 64) :
    Calls Try.prog 70 #[.pointer (some ⟨b, 0, none⟩), .int .i64 (i : Int), .int .i64 (j : Int)] w fun e w' => e = .returned (.tuple #[]) ∧ Hid (RwAt w' b (addR r i j)) ∧ Hid (Only b w w') := by
  have hc := h.cell hi
  have hf := h.frozen i
  have HR : Hid (RwAt w b r) := h
  have HB : Hid (bits .or .u64 ((r i : Nat) : Int) (IntKind.u64.wrap (2 ^ j)) = ((r i ||| 2 ^ j : Nat) : Int)) := bit_put _ _ (hr i) hj
  clear h hr
  go_enter Try.func70, Try.ntmps70
  go_wp2
  go_region
  all_goals
    go_wp2
    go_end0
    refine ⟨rfl, ?_, ?_⟩
    · rw [HB.out]; exact RwAt.put (w := w.drew) HR.out hi _
    · exact (Only.drew _ _).set _ _
theorem all_take {l : List Ed} {p : Ed → Bool} {k : Nat} {t : Ed} (ht : l[k]? = some t) (h : (l.take k).all p = true) (hp : p t = true) : (l.take (k + 1)).all p = true := by
  rw [List.take_add_one, ht]
  simp only [Option.toList, List.all_append, h, List.all_cons, hp, List.all_nil]; rfl
set_option maxHeartbeats 2000000 in
theorem may7_any (n : Int) (v : Value) (l : List Ed) (w : World) {F : Nat → Prop} (ha : IsEds w F v l) :
    Calls Try.prog 48 #[.int .i64 n, v] w fun e w' => e = .returned (.bool (mayE n l)) ∧ Hid (Below w.heap.size w w') := by
  obtain ⟨p, cp, rfl⟩ := ha.slc
  have HL : Hid (l.length ≤ maxLen) := ha.len
  have HA : Hid (IsEds w F (.slice p l.length cp) l) := ha
  have hm9 : l.length ≤ 9223372036854775807 := by have := ha.len; unfold maxLen at this; omega
  clear ha
  by_cases h0 : n < 0
  · go_enter Try.func48, Try.ntmps48
    go_wp2
    go_ret
    exact ⟨ret_bool (by simp [mayE]; omega), Below.refl _ _⟩
  by_cases h1 : 64 < n
  · go_enter Try.func48, Try.ntmps48
    go_wp2
    go_ret
    exact ⟨ret_bool (by simp [mayE]; omega), Below.refl _ _⟩
  have HN : Hid (mayE n l = edsB n l) := by show _ = _; unfold mayE; rw [decide_eq_true (by omega), decide_eq_true (by omega)]; rfl
  go_enter Try.func48, Try.ntmps48
  go_wp2
  go_loopw [15] (fun i wr => ∃ k : Nat, k ≤ l.length ∧ i = .int .i64 k ∧ Hid (Below w.heap.size w wr) ∧ Hid ((l.take k).all (edB n) = true)) (fun i _ => l.length - (intOf i).toNat)
  case atStart => exact ⟨0, by omega, rfl, Below.refl _ _, by show _ = _; simp⟩
  case round =>
    obtain ⟨k, hk, rfl, HW, HT⟩ := hrel
    by_cases hlt : k < l.length
    · obtain ⟨t, ht⟩ : ∃ t, l[k]? = some t := ⟨_, List.getElem?_eq_getElem hlt⟩
      obtain ⟨g1, o1, hp, -, a0, a1, a2⟩ := (HA.out.any HW.out).at ht
      subst hp
      obtain ⟨t0, t1, t2⟩ := t
      simp only at a0 a1 a2
      have HH : Hid (l[k]? = some (t0, t1, t2)) := ht
      clear ht
      cases e0 : endB n t0 with
      | false =>
        have HD : Hid (edsB n l = false) := by
          show _ = _
          unfold edsB
          rw [← Bool.not_eq_true, List.all_eq_true]
          intro hh
          have := hh _ (List.mem_of_getElem? HH.out)
          simp [edB, e0] at this
        go_wp2_with (go_at_call 69; refine (isEnd_any _ _ _).mono ?_; rintro e w1 ⟨rfl, rfl⟩; rw [e0])
        go_ret
        exact ⟨ret_bool (by rw [HN.out, HD.out]), bel_alloc HW.out⟩
      | true =>
        cases e1 : endB n t1 with
        | false =>
          have HD : Hid (edsB n l = false) := by
            show _ = _
            unfold edsB
            rw [← Bool.not_eq_true, List.all_eq_true]
            intro hh
            have := hh _ (List.mem_of_getElem? HH.out)
            simp [edB, e1] at this
          go_wp2_with (go_at_call 69; refine (isEnd_any _ _ _).mono ?_; rintro e w1 ⟨rfl, rfl⟩; first | rw [e0] | rw [e1])
          go_ret
          exact ⟨ret_bool (by rw [HN.out, HD.out]), bel_alloc HW.out⟩
        | true =>
          have HD : Hid ((l.take (k + 1)).all (edB n) = true) := all_take HH.out HT.out (by simp [edB, e0, e1])
          go_wp2_with (go_at_call 69; refine (isEnd_any _ _ _).mono ?_; rintro e w1 ⟨rfl, rfl⟩; first | rw [e0] | rw [e1])
          go_roundw
          case rel => exact ⟨k + 1, by omega, by go_num, bel_alloc HW.out, HD⟩
          case measure => simp [intOf]; omega
    · obtain rfl : k = l.length := by omega
      have HD : Hid (edsB n l = true) := by have := HT.out; rw [List.take_length] at this; exact this
      go_wp2
      go_ret
      exact ⟨ret_bool (by rw [HN.out, HD.out]), HW⟩
set_option maxHeartbeats 2000000 in
theorem least_any {w : World} {b : Nat} {r : Nat → Nat} (i : Nat) (h : RwAt w b r) (hr : okR r) (hi : i < 64) :
    Calls Try.prog 50 #[.pointer (some ⟨b, 0, none⟩), .int .i64 (i : Int)] w fun e w' => e = .returned (.int .i64 ((lst (fun j => bit r i j && bit r j i) i : Nat) : Int)) ∧ w = w' := by
  have HR : Hid (RwAt w b r) := h
  have HO : Hid (okR r) := hr
  clear h hr
  go_enter Try.func50, Try.ntmps50
  go_wp2
  go_loopw [7] (fun x wr => ∃ k : Nat, k ≤ i ∧ x = .int .i64 k ∧ Hid (wr = w) ∧ Hid (∀ j, j < k → (bit r i j && bit r j i) = false)) (fun x _ => i - (intOf x).toNat)
  case atStart => exact ⟨0, by omega, rfl, rfl, fun j hj => by omega⟩
  case round =>
    obtain ⟨k, hk, rfl, HWR, HT⟩ := hrel
    obtain rfl : wr = w := HWR.out
    clear HWR
    by_cases hlt : k < i
    · cases e0 : bit r i k with
      | false =>
        have HD : Hid (∀ j, j < k + 1 → (bit r i j && bit r j i) = false) := fun j hj => by
          by_cases e : j = k
          · rw [e, e0]; rfl
          · exact HT.out j (by omega)
        go_wp2_with (go_at_call 71; refine (has7_any _ _ HR.out HO.out ?_ ?_).mono ?_; omega; omega; rintro e w1 ⟨rfl, rfl⟩; rw [e0])
        go_roundw
        case rel => exact ⟨k + 1, by omega, by go_num, by trivial, HD⟩
        case measure => simp [intOf]; omega
      | true =>
        cases e1 : bit r k i with
        | false =>
          have HD : Hid (∀ j, j < k + 1 → (bit r i j && bit r j i) = false) := fun j hj => by
            by_cases e : j = k
            · rw [e, e1]; simp
            · exact HT.out j (by omega)
          go_wp2_with (go_at_call 71; refine (has7_any _ _ HR.out HO.out ?_ ?_).mono ?_; omega; omega; rintro e w1 ⟨rfl, rfl⟩; first | rw [e0] | rw [e1])
          go_roundw
          case rel => exact ⟨k + 1, by omega, by go_num, by trivial, HD⟩
          case measure => simp [intOf]; omega
        | true =>
          have HD : Hid (lst (fun j => bit r i j && bit r j i) i = k) := lst_eq hk (fun _ => by show (_ && _) = _; rw [e0, e1]; rfl) HT.out
          go_wp2_with (go_at_call 71; refine (has7_any _ _ HR.out HO.out ?_ ?_).mono ?_; omega; omega; rintro e w1 ⟨rfl, rfl⟩; first | rw [e0] | rw [e1])
          go_ret
          exact ⟨congrArg (fun x : Nat => Ending.returned (.int .i64 (x : Int))) HD.out.symm, rfl⟩
    · obtain rfl : k = i := by omega
      have HD : Hid (lst (fun j => bit r k j && bit r j k) k = k) := lst_eq (Nat.le_refl _) (fun h => absurd h (Nat.lt_irrefl _)) HT.out
      go_wp2
      go_ret
      exact ⟨congrArg (fun x : Nat => Ending.returned (.int .i64 (x : Int))) HD.out.symm, rfl⟩
end Go.Proofs.Ytkihbgikdbaelaa
