import Derived.Test.YtfjejnkjlnkkhaaGreatDoorGa
import Derived.Test.YtfjejnkjlnkkhaaGreatDoorGj
import Derived.ProofKit
import Derived.OpenShut
import Derived.WalkLawsBesides
import Derived.Deep.Heap
import Derived.Deep.WholeRow
import Derived.Deep.MidRow
import Derived.Laws.StructEq
import Derived.BigQuiet
import Derived.Laws.MakeOwn
/- Rows of bits in memory; isEnd, may, add, has, least of comps. -/
namespace Go.Proofs.YtfjejnkjlnkkhaaGreatDoor
set_option linter.unusedVariables false
open Go.ChangeShapes Go.WideShapes Go.ChangeAt Go.RowKit

theorem bel_alloc {W w' : World} {o : Obj} (h : Below W.heap.size W w') : Below W.heap.size W (w'.alloc o) := h.alloc h.size o
theorem heap_lt {w : World} {b : Nat} {o : Obj} (h : w.heap[b]? = some o) : b < w.heap.size := by
  by_cases hh : b < w.heap.size
  · exact hh
  · rw [Array.getElem?_eq_none (by omega)] at h; cases h

theorem Reads.nil (w : World) (F : Nat → Prop) : Reads w F (.slice none 0 0) 0 [] := ⟨none, 0, rfl, ⟨Nat.zero_le _, Nat.zero_le _⟩, fun h => absurd h (Nat.lt_irrefl _)⟩

theorem IsEds.len {w : World} {F : Nat → Prop} {v : Value} {l : List Ed} (h : IsEds w F v l) : l.length ≤ maxLen := by
  obtain ⟨p, c, e, h, _⟩ := h
  exact h.1
def rowsL (r : Nat → Nat) : List Value := (List.range 64).map fun i => .int .u64 ((r i : Nat) : Int)
def rowsA (r : Nat → Nat) : Array Value := (rowsL r).toArray
def zR : Nat → Nat := fun _ => 0
theorem rowsA_size (r : Nat → Nat) : (rowsA r).size = 64 := by simp [rowsA, rowsL]
theorem rowsA_at (r : Nat → Nat) {k : Nat} (hk : k < 64) : (rowsA r)[k]? = some (.int .u64 ((r k : Nat) : Int)) := by
  simp [rowsA, rowsL, hk]
theorem rowsA_one (r : Nat → Nat) : (rowsA r).all (·.oneCell') = true := by
  refine Array.all_eq_true_iff_forall_mem.2 fun v hv => ?_
  simp only [rowsA, rowsL, List.mem_toArray, List.mem_map] at hv
  obtain ⟨i, _, rfl⟩ := hv
  rfl
theorem rowsA_put (r : Nat → Nat) {k : Nat} (hk : k < 64) (n : Nat) : (rowsA r).setIfInBounds k (.int .u64 ((n : Nat) : Int)) = rowsA (putR r k n) := by
  apply Array.ext_getElem?
  intro i
  rw [Array.getElem?_setIfInBounds, rowsA_size]
  by_cases e : k = i
  · subst e
    rw [if_pos rfl, if_pos hk, rowsA_at _ hk]; simp [putR]
  · rw [if_neg e]
    by_cases hi : i < 64
    · rw [rowsA_at _ hi, rowsA_at _ hi]; simp [putR, Ne.symm e]
    · rw [Array.getElem?_eq_none (by rw [rowsA_size]; omega), Array.getElem?_eq_none (by rw [rowsA_size]; omega)]
/-- Block b is the rows of bits r. -/
def RwAt (w : World) (b : Nat) (r : Nat → Nat) : Prop := w.heap[b]? = some (.cells (rowsA r) 148)
section
variable {w w' : World} {b : Nat} {r : Nat → Nat}
theorem RwAt.lt (h : RwAt w b r) : b < w.heap.size := heap_lt h
theorem RwAt.cell (h : RwAt w b r) {k : Nat} (hk : k < 64) : w.cell? ⟨b, k, none⟩ = some (.int .u64 ((r k : Nat) : Int)) := by
  rw [cell_of_row _ _ k _ _ (0, 0) h]; exact rowsA_at r hk
theorem RwAt.frozen (h : RwAt w b r) (k : Nat) : w.frozen? ⟨b, k, none⟩ = false := by simp [World.frozen?, show w.heap[b]? = _ from h]
theorem RwAt.keep (h : RwAt w b r) (hb : Below w.heap.size w w') : RwAt w' b r := (hb.block b h.lt).trans h
theorem RwAt.blk (h : RwAt w b r) (hb : w'.heap[b]? = w.heap[b]?) : RwAt w' b r := hb.trans h
theorem RwAt.put (h : RwAt w b r) {k : Nat} (hk : k < 64) (n : Nat) : RwAt (w.setCell ⟨b, k, none⟩ (.int .u64 ((n : Nat) : Int))) b (putR r k n) := by
  unfold RwAt at *
  simp only [World.setCell, Array.getElem?_modify, if_pos, h, Option.map_some]
  rw [← rowsA_put r hk]; rfl
theorem RwAt.new (w : World) (r : Nat → Nat) : RwAt (w.alloc (.cells (rowsA r) 148)) w.heap.size r := heap_alloc_new w _
theorem RwAt.whole (h : RwAt w b r) : w.rangeAt b 0 (rowsL r) := fun j v hv => by
  have hj : j < 64 := by have := (List.getElem?_eq_some_iff.1 hv).1; simpa [rowsL] using this
  have := rowsA_at r hj
  unfold rowsA at this
  rw [List.getElem?_toArray, hv] at this
  rw [Nat.zero_add, h.cell hj, ← this]
end
/-- All blocks but b are as they were, and there are no more. -/
structure Only (b : Nat) (w w' : World) : Prop where
  os : w'.os = w.os
  tape : w'.tape = w.tape
  output : w'.output = w.output
  size : w'.heap.size = w.heap.size
  block : ∀ k, k ≠ b → w'.heap[k]? = w.heap[k]?
theorem Only.drew (b : Nat) (w : World) : Only b w w.drew := ⟨rfl, rfl, rfl, rfl, fun _ _ => rfl⟩
theorem Only.refl (b : Nat) (w : World) : Only b w w := ⟨rfl, rfl, rfl, rfl, fun _ _ => rfl⟩
theorem Only.set {b : Nat} {w w' : World} (h : Only b w w') (k : Nat) (v : Value) : Only b w (w'.setCell ⟨b, k, none⟩ v) :=
  ⟨h.os, h.tape, h.output, (Go.Deep.nblk_setCell _ _ _).trans h.size, fun i hi => (Go.Deep.blk_setCell_other _ _ _ _ hi).trans (h.block i hi)⟩
theorem Only.below {b B : Nat} {w w' : World} (h : Only b w w') (hB : B ≤ b) : Below B w w' := ⟨h.os, h.tape, h.output, by rw [h.size]; exact Nat.le_refl _, fun k hk => h.block k (by omega)⟩

theorem Tryz.infoRows : (Tryz.prog.info? 148).map (·.size) = some 64 := by kernel_rfl
theorem zero_rows : (#[.int .u64 0, .int .u64 0, .int .u64 0, .int .u64 0, .int .u64 0, .int .u64 0, .int .u64 0, .int .u64 0, .int .u64 0, .int .u64 0, .int .u64 0, .int .u64 0, .int .u64 0, .int .u64 0, .int .u64 0, .int .u64 0, .int .u64 0, .int .u64 0, .int .u64 0, .int .u64 0, .int .u64 0, .int .u64 0, .int .u64 0, .int .u64 0, .int .u64 0, .int .u64 0, .int .u64 0, .int .u64 0, .int .u64 0, .int .u64 0, .int .u64 0, .int .u64 0, .int .u64 0, .int .u64 0, .int .u64 0, .int .u64 0, .int .u64 0, .int .u64 0, .int .u64 0, .int .u64 0, .int .u64 0, .int .u64 0, .int .u64 0, .int .u64 0, .int .u64 0, .int .u64 0, .int .u64 0, .int .u64 0, .int .u64 0, .int .u64 0, .int .u64 0, .int .u64 0, .int .u64 0, .int .u64 0, .int .u64 0, .int .u64 0, .int .u64 0, .int .u64 0, .int .u64 0, .int .u64 0, .int .u64 0, .int .u64 0, .int .u64 0, .int .u64 0] : Array Value) = rowsA zR := by rfl
/-- A whole array into the block that was made last. -/
theorem wpList_store_rows {ops : Array Oper} {rest : List Oper} {op : Oper} {a : Act} {w : World} {Q : Exit → Act → World → Prop} (hgd : op.guard = none) (x y : Operand) (ho : op.op = .store 148 x y) (r s : Nat → Nat)
    (hx : a.eval x = .pointer (some ⟨w.heap.size, 0, none⟩)) (hy : a.eval y = .agg (rowsA r)) (h : wpList Tryz.prog ops Q rest (a.put op.dst undef) (w.alloc (.cells (rowsA r) 148))) : wpList Tryz.prog ops Q (op :: rest) a (w.alloc (.cells (rowsA s) 148)) :=
  wpList_plain hgd fun K hK => by
    have := run_storeAt_new (P := Tryz.prog) w 148 (rowsA s) (rowsA r) (by rw [rowsA_size]; exact Tryz.infoRows) (by rw [rowsA_size, rowsA_size]) (rowsA_one r)
    unfold Oper.wp execOp
    simp only [ho, hx, hy, Sem.run_bind, this, Result.andThen_ok]
    exact hK _ _ h
theorem ret_bool {a b : Bool} (h : a = b) : Ending.returned (.bool a) = .returned (.bool b) := by rw [h]
theorem ret_int {k : IntKind} {a b : Int} (h : a = b) : Ending.returned (.int k a) = .returned (.int k b) := by rw [h]
theorem bit_test (n : Nat) (r : Nat) (hn : n < 18446744073709551616) : (bits .and .u64 ((n : Int) / 2 ^ r) 1 == 1) = n.testBit r := by
  have e : ((n : Int) / 2 ^ r) = ((n / 2 ^ r : Nat) : Int) := by simp
  rw [Nat.testBit_eq_decide_div_mod_eq]
  have hlt : n / 2 ^ r < 18446744073709551616 := Nat.lt_of_le_of_lt (Nat.div_le_self _ _) hn
  rw [e]
  generalize n / 2 ^ r = m at hlt
  rw [and_one_u64 _ (by omega) (by omega)]
  rw [Bool.eq_iff_iff]
  simp only [beq_iff_eq, decide_eq_true_eq]
  omega
theorem bit_put (n r : Nat) (hn : n < 18446744073709551616) (hr : r < 64) : bits .or .u64 ((n : Nat) : Int) (IntKind.u64.wrap (2 ^ r)) = ((n ||| 2 ^ r : Nat) : Int) := by
  have hp : 2 ^ r < 18446744073709551616 := two_lt hr
  have e : (2 : Int) ^ r = ((2 ^ r : Nat) : Int) := by simp
  rw [e, IntKind.wrap_u64]
  generalize 2 ^ r = m at hp
  rw [show ((m : Int) % 18446744073709551616) = (m : Int) by omega]
  exact u64_or_nat _ _ hn hp
theorem isEnd_any (n i : Int) (w : World) : Calls Tryz.prog 113 #[.int .i64 n, .int .i64 i] w fun e w' => e = .returned (.bool (endB n i)) ∧ w = w' := by
  by_cases h0 : 0 ≤ i
  · by_cases h1 : i < n
    · go_enter Tryz.func113, Tryz.ntmps113
      go_wp2
      go_ret
      exact ⟨ret_bool (by simp [endB, h0, h1]), rfl⟩
    · go_enter Tryz.func113, Tryz.ntmps113
      go_wp2
      go_ret
      exact ⟨ret_bool (by simp [endB, h1]), rfl⟩
  · go_enter Tryz.func113, Tryz.ntmps113
    go_wp2
    go_ret
    exact ⟨ret_bool (by simp [endB]; omega), rfl⟩
set_option maxHeartbeats 1000000 in
theorem has7_any {w : World} {b : Nat} {r : Nat → Nat} (i j : Nat) (h : RwAt w b r) (hr : okR r) (hi : i < 64) (hj : j < 64) :
    Calls Tryz.prog 115 #[.pointer (some ⟨b, 0, none⟩), .int .i64 (i : Int), .int .i64 (j : Int)] w fun e w' => e = .returned (.bool (bit r i j)) ∧ w = w' := by
  have hc := h.cell hi
  have HB : Hid ((bits .and .u64 (((r i : Nat) : Int) / 2 ^ j) 1 == 1) = bit r i j) := bit_test _ _ (hr i)
  have hlt := h.lt
  clear h hr
  go_enter Tryz.func115, Tryz.ntmps115
  go_wp2
  go_ret
  exact ⟨ret_bool HB.out, rfl⟩
set_option maxHeartbeats 1000000 in
theorem add7_any {w : World} {b : Nat} {r : Nat → Nat} (i j : Nat) (h : RwAt w b r) (hr : okR r) (hi : i < 64) (hj : j < 64) :
    Calls Tryz.prog 114 #[.pointer (some ⟨b, 0, none⟩), .int .i64 (i : Int), .int .i64 (j : Int)] w fun e w' => e = .returned (.tuple #[]) ∧ Hid (RwAt w' b (addR r i j)) ∧ Hid (Only b w w') := by
  have hc := h.cell hi
  have hf := h.frozen i
  have HR : Hid (RwAt w b r) := h
  have HB : Hid (bits .or .u64 ((r i : Nat) : Int) (IntKind.u64.wrap (2 ^ j)) = ((r i ||| 2 ^ j : Nat) : Int)) := bit_put _ _ (hr i) hj
  clear h hr
  go_enter Tryz.func114, Tryz.ntmps114
  go_wp2
  go_region
  all_goals
    go_wp2
    go_end0
    refine ⟨rfl, ?_, ?_⟩
    · rw [HB.out]; exact RwAt.put (w := w.drew) HR.out hi _
    · exact (Only.drew _ _).set _ _
theorem all_take {l : List Ed} {p : Ed → Bool} {k : Nat} {t : Ed} (ht : l[k]? = some t) (h : (l.take k).all p = true) (hp : p t = true) : (l.take (k + 1)).all p = true := by
  rw [List.take_add_one, ht]
  simp only [Option.toList, List.all_append, h, List.all_cons, hp, List.all_nil]; rfl
set_option maxHeartbeats 2000000 in
theorem may7_any (n : Int) (v : Value) (l : List Ed) (w : World) {F : Nat → Prop} (ha : IsEds w F v l) :
    Calls Tryz.prog 85 #[.int .i64 n, v] w fun e w' => e = .returned (.bool (mayE n l)) ∧ Hid (Below w.heap.size w w') := by
  obtain ⟨p, cp, rfl⟩ := ha.slc
  have HL : Hid (l.length ≤ maxLen) := ha.len
  have HA : Hid (IsEds w F (.slice p l.length cp) l) := ha
  have hm9 : l.length ≤ 9223372036854775807 := by have := ha.len; unfold maxLen at this; omega
  clear ha
  by_cases h0 : n < 0
  · go_enter Tryz.func85, Tryz.ntmps85
    go_wp2
    go_ret
    exact ⟨ret_bool (by simp [mayE]; omega), Below.refl _ _⟩
  by_cases h1 : 64 < n
  · go_enter Tryz.func85, Tryz.ntmps85
    go_wp2
    go_ret
    exact ⟨ret_bool (by simp [mayE]; omega), Below.refl _ _⟩
  have HN : Hid (mayE n l = edsB n l) := by show _ = _; unfold mayE; rw [decide_eq_true (by omega), decide_eq_true (by omega)]; rfl
  go_enter Tryz.func85, Tryz.ntmps85
  go_wp2
  go_loopw [15] (fun i wr => ∃ k : Nat, k ≤ l.length ∧ i = .int .i64 k ∧ Hid (Below w.heap.size w wr) ∧ Hid ((l.take k).all (edB n) = true)) (fun i _ => l.length - (intOf i).toNat)
  case atStart => exact ⟨0, by omega, rfl, Below.refl _ _, by show _ = _; simp⟩
  case round =>
    obtain ⟨k, hk, rfl, HW, HT⟩ := hrel
    by_cases hlt : k < l.length
    · obtain ⟨t, ht⟩ : ∃ t, l[k]? = some t := ⟨_, List.getElem?_eq_getElem hlt⟩
      obtain ⟨g1, o1, hp, -, a0, a1, a2⟩ := (HA.out.any HW.out).at ht
      subst hp
      obtain ⟨t0, t1, t2⟩ := t
      simp only at a0 a1 a2
      have HH : Hid (l[k]? = some (t0, t1, t2)) := ht
      clear ht
      cases e0 : endB n t0 with
      | false =>
        have HD : Hid (edsB n l = false) := by
          show _ = _
          unfold edsB
          rw [← Bool.not_eq_true, List.all_eq_true]
          intro hh
          have := hh _ (List.mem_of_getElem? HH.out)
          simp [edB, e0] at this
        go_wp2_with (go_at_call 113; refine (isEnd_any _ _ _).mono ?_; rintro e w1 ⟨rfl, rfl⟩; rw [e0])
        go_ret
        exact ⟨ret_bool (by rw [HN.out, HD.out]), bel_alloc HW.out⟩
      | true =>
        cases e1 : endB n t1 with
        | false =>
          have HD : Hid (edsB n l = false) := by
            show _ = _
            unfold edsB
            rw [← Bool.not_eq_true, List.all_eq_true]
            intro hh
            have := hh _ (List.mem_of_getElem? HH.out)
            simp [edB, e1] at this
          go_wp2_with (go_at_call 113; refine (isEnd_any _ _ _).mono ?_; rintro e w1 ⟨rfl, rfl⟩; first | rw [e0] | rw [e1])
          go_ret
          exact ⟨ret_bool (by rw [HN.out, HD.out]), bel_alloc HW.out⟩
        | true =>
          have HD : Hid ((l.take (k + 1)).all (edB n) = true) := all_take HH.out HT.out (by simp [edB, e0, e1])
          go_wp2_with (go_at_call 113; refine (isEnd_any _ _ _).mono ?_; rintro e w1 ⟨rfl, rfl⟩; first | rw [e0] | rw [e1])
          go_roundw
          case rel => exact ⟨k + 1, by omega, by go_num, bel_alloc HW.out, HD⟩
          case measure => simp [intOf]; omega
    · obtain rfl : k = l.length := by omega
      have HD : Hid (edsB n l = true) := by have := HT.out; rw [List.take_length] at this; exact this
      go_wp2
      go_ret
      exact ⟨ret_bool (by rw [HN.out, HD.out]), HW⟩
set_option maxHeartbeats 2000000 in
theorem least_any {w : World} {b : Nat} {r : Nat → Nat} (i : Nat) (h : RwAt w b r) (hr : okR r) (hi : i < 64) :
    Calls Tryz.prog 87 #[.pointer (some ⟨b, 0, none⟩), .int .i64 (i : Int)] w fun e w' => e = .returned (.int .i64 ((lst (fun j => bit r i j && bit r j i) i : Nat) : Int)) ∧ w = w' := by
  have HR : Hid (RwAt w b r) := h
  have HO : Hid (okR r) := hr
  clear h hr
  go_enter Tryz.func87, Tryz.ntmps87
  go_wp2
  go_loopw [7] (fun x wr => ∃ k : Nat, k ≤ i ∧ x = .int .i64 k ∧ Hid (wr = w) ∧ Hid (∀ j, j < k → (bit r i j && bit r j i) = false)) (fun x _ => i - (intOf x).toNat)
  case atStart => exact ⟨0, by omega, rfl, rfl, fun j hj => by omega⟩
  case round =>
    obtain ⟨k, hk, rfl, HWR, HT⟩ := hrel
    obtain rfl : wr = w := HWR.out
    clear HWR
    by_cases hlt : k < i
    · cases e0 : bit r i k with
      | false =>
        have HD : Hid (∀ j, j < k + 1 → (bit r i j && bit r j i) = false) := fun j hj => by
          by_cases e : j = k
          · rw [e, e0]; rfl
          · exact HT.out j (by omega)
        go_wp2_with (go_at_call 115; refine (has7_any _ _ HR.out HO.out ?_ ?_).mono ?_; omega; omega; rintro e w1 ⟨rfl, rfl⟩; rw [e0])
        go_roundw
        case rel => exact ⟨k + 1, by omega, by go_num, by trivial, HD⟩
        case measure => simp [intOf]; omega
      | true =>
        cases e1 : bit r k i with
        | false =>
          have HD : Hid (∀ j, j < k + 1 → (bit r i j && bit r j i) = false) := fun j hj => by
            by_cases e : j = k
            · rw [e, e1]; simp
            · exact HT.out j (by omega)
          go_wp2_with (go_at_call 115; refine (has7_any _ _ HR.out HO.out ?_ ?_).mono ?_; omega; omega; rintro e w1 ⟨rfl, rfl⟩; first | rw [e0] | rw [e1])
          go_roundw
          case rel => exact ⟨k + 1, by omega, by go_num, by trivial, HD⟩
          case measure => simp [intOf]; omega
        | true =>
          have HD : Hid (lst (fun j => bit r i j && bit r j i) i = k) := lst_eq hk (fun _ => by show (_ && _) = _; rw [e0, e1]; rfl) HT.out
          go_wp2_with (go_at_call 115; refine (has7_any _ _ HR.out HO.out ?_ ?_).mono ?_; omega; omega; rintro e w1 ⟨rfl, rfl⟩; first | rw [e0] | rw [e1])
          go_ret
          exact ⟨congrArg (fun x : Nat => Ending.returned (.int .i64 (x : Int))) HD.out.symm, rfl⟩
    · obtain rfl : k = i := by omega
      have HD : Hid (lst (fun j => bit r k j && bit r j k) k = k) := lst_eq (Nat.le_refl _) (fun h => absurd h (Nat.lt_irrefl _)) HT.out
      go_wp2
      go_ret
      exact ⟨congrArg (fun x : Nat => Ending.returned (.int .i64 (x : Int))) HD.out.symm, rfl⟩
end Go.Proofs.YtfjejnkjlnkkhaaGreatDoor
/- walk, Comps of the program, against their plain functions; rows of numbers held against one another. -/
namespace Go.Proofs.YtfjejnkjlnkkhaaGreatDoor
set_option linter.unusedVariables false
open Go.ChangeShapes Go.WideShapes Go.ChangeAt Go.RowKit

theorem results_cell {fn : Func} {p : Tmp} {ty : TypeId} (h : fn.results = #[.cell p ty]) (tmps : Array Value) (P : Program) (w : World) :
    (results fn tmps).run P w = ((asAddr (tmps.getD p undef)).run P w).andThen fun a w₁ => (loadVar ty a).run P w₁ := by
  simp only [results, h]
  simp [Sem.run_bind, Result.andThen]
theorem setCells_below {B b : Nat} {w : World} (hB : B ≤ b) : ∀ (vs : List Value) (o : Nat) (w' : World), Below B w w' → Below B w (w'.setCells b o vs)
  | [], _, _, h => h
  | v :: vs, o, w', h => by
    rw [World.setCells]
    exact setCells_below hB vs (o + 1) _ (h.setCell (p := ⟨b, o, none⟩) hB v)
/-- The two arrays of walk: its result, still empty, and its rows r. -/
structure Wk (w : World) (r : Nat → Nat) (wr : World) : Prop where
  rw : RwAt wr (w.heap.size + 1) r
  z : RwAt wr w.heap.size zR
  bl : Below w.heap.size w wr
  ok : okR r
theorem Wk.only {w wr w' : World} {r r' : Nat → Nat} (h : Wk w r wr) (h1 : RwAt w' (w.heap.size + 1) r') (h2 : Only (w.heap.size + 1) wr w') (h3 : okR r') : Wk w r' w' :=
  ⟨h1, h.z.blk (h2.block _ (by omega)), h.bl.trans (h2.below (Nat.le_succ _)), h3⟩
theorem Wk.alloc {w wr : World} {r : Nat → Nat} (h : Wk w r wr) (o : Obj) : Wk w r (wr.alloc o) :=
  ⟨h.rw.keep (bel1 _ _), h.z.keep (bel1 _ _), h.bl.alloc (Nat.le_of_lt h.z.lt) o, h.ok⟩
theorem Wk.new (w : World) : Wk w (selfR 0) ((w.alloc (.cells (rowsA zR) 148)).alloc (.cells (rowsA zR) 148)) := by
  have e : (w.alloc (.cells (rowsA zR) 148)).heap.size = w.heap.size + 1 := by simp
  refine ⟨?_, (RwAt.new w zR).keep (bel1 _ _), (bel1 _ _).alloc (by simp) _, okR_self 0 (by omega)⟩
  have := RwAt.new (w.alloc (.cells (rowsA zR) 148)) zR
  rw [e] at this
  exact this
theorem take_edg {l : List Ed} {k : Nat} {t : Ed} (ht : l[k]? = some t) (r : Nat → Nat) : edgR r (l.take (k + 1)) = addR (edgR r (l.take k)) t.1.toNat t.2.1.toNat := by
  rw [List.take_add_one, ht]; exact edgR_snoc _ _ _
set_option maxHeartbeats 8000000 in
set_option maxRecDepth 100000 in
theorem walk_any (n : Nat) (v : Value) (l : List Ed) (w : World) {F : Nat → Prop} (ha : IsEds w F v l) (hm : mayE (n : Int) l = true) :
    Calls Tryz.prog 86 #[.int .i64 (n : Int), v] w fun e w' => e = .returned (.agg (rowsA (walkT n l))) ∧ Hid (Below w.heap.size w w') := by
  obtain ⟨p, cp, rfl⟩ := ha.slc
  have HA : Hid (IsEds w F (.slice p l.length cp) l) := ha
  have hm9 : l.length ≤ 9223372036854775807 := by have := ha.len; unfold maxLen at this; omega
  have hn : n ≤ 64 := by have := mayE_all hm; omega
  have HM : Hid (edsB (n : Int) l = true) := (mayE_all hm).2.2
  clear ha hm
  go_enter Tryz.func86, Tryz.ntmps86
  go_wp2
  simp only [zero_rows]
  go_loopw [12] (fun x wr => ∃ k : Nat, k ≤ n ∧ x = .int .i64 k ∧ Hid (Wk w (selfR k) wr)) (fun x _ => n - (intOf x).toNat)
  case atStart => exact ⟨0, Nat.zero_le _, rfl, Wk.new w⟩
  case round =>
    obtain ⟨k, hk, rfl, HK⟩ := hrel
    by_cases hlt : k < n
    · have KA : Calls Tryz.prog 114 #[.pointer (some ⟨w.heap.size + 1, 0, none⟩), .int .i64 (k : Int), .int .i64 (k : Int)] wr fun e w' => e = .returned (.tuple #[]) ∧ Hid (Wk w (selfR (k + 1)) w') :=
        (add7_any k k HK.out.rw HK.out.ok (by omega) (by omega)).mono fun e w' ⟨h1, h2, h3⟩ => ⟨h1, HK.out.only h2.out h3.out (okR_self _ (by omega))⟩
      go_wp2_with (go_at_call 114; refine KA.mono ?_; rintro e w1 ⟨rfl, HK1⟩)
      go_roundw
      case rel => exact ⟨k + 1, by omega, by go_num, HK1⟩
      case measure => simp [intOf]; omega
    · obtain rfl : k = n := by omega
      obtain ⟨V, hV⟩ : ∃ V, V = wr := ⟨_, rfl⟩
      subst hV
      go_wp2
      go_loopw [21] (fun x wr => ∃ q : Nat, q ≤ l.length ∧ x = .int .i64 q ∧ Hid (Wk w (edgR (selfR k) (l.take q)) wr)) (fun x _ => l.length - (intOf x).toNat)
      case atStart => exact ⟨0, Nat.zero_le _, rfl, HK⟩
      case round =>
        obtain ⟨q, hq, rfl, HQ⟩ := hrel
        by_cases hlq : q < l.length
        · obtain ⟨t, ht⟩ : ∃ t, l[q]? = some t := ⟨_, List.getElem?_eq_getElem hlq⟩
          obtain ⟨g1, o1, hp, -, a0, a1, a2⟩ := (HA.out.any HQ.out.bl).at ht
          subst hp
          have hed := edB_lt (List.all_eq_true.1 HM.out t (List.mem_of_getElem? ht))
          obtain ⟨t0, t1, t2⟩ := t
          simp only at a0 a1 a2 hed
          obtain ⟨x, rfl⟩ : ∃ x : Nat, t0 = (x : Int) := ⟨t0.toNat, by omega⟩
          obtain ⟨y, rfl⟩ : ∃ y : Nat, t1 = (y : Int) := ⟨t1.toNat, by omega⟩
          have HE : Hid (edgR (selfR k) (l.take (q + 1)) = addR (edgR (selfR k) (l.take q)) x y) := take_edg ht _
          have KA : Hid (∀ o, Calls Tryz.prog 114 #[.pointer (some ⟨w.heap.size + 1, 0, none⟩), .int .i64 (x : Int), .int .i64 (y : Int)] (wr.alloc o) fun e w' => e = .returned (.tuple #[]) ∧ Hid (Wk w (edgR (selfR k) (l.take (q + 1))) w')) := fun o =>
            (add7_any x y (HQ.out.alloc o).rw HQ.out.ok (by omega) (by omega)).mono fun e w' ⟨h1, h2, h3⟩ => ⟨h1, by
              show Wk _ _ _
              rw [HE.out]
              exact (HQ.out.alloc o).only h2.out h3.out (okR_add HQ.out.ok _ (by omega))⟩
          clear ht hed
          go_wp2_with (go_at_call 114; refine (KA.out _).mono ?_; rintro e w1 ⟨rfl, HK1⟩)
          go_roundw
          case rel => exact ⟨q + 1, by omega, by go_num, HK1⟩
          case measure => simp [intOf]; omega
        · obtain rfl : q = l.length := by omega
          obtain ⟨r0, hr0⟩ : ∃ r0, r0 = edgR (selfR k) l := ⟨_, rfl⟩
          have HT : Hid (walkT k l = walR r0 k k) := by show _ = _; rw [hr0]; rfl
          rw [List.take_length, ← hr0] at HQ
          clear hr0
          obtain ⟨V, hV⟩ : ∃ V, V = wr := ⟨_, rfl⟩
          subst hV
          go_wp2
          go_loopw [32] (fun x wr => ∃ m : Nat, m ≤ k ∧ x = .int .i64 m ∧ Hid (Wk w (walR r0 k m) wr)) (fun x _ => k - (intOf x).toNat)
          case atStart => exact ⟨0, Nat.zero_le _, rfl, HQ⟩
          case round =>
            obtain ⟨m, hm, rfl, HX⟩ := hrel
            by_cases hlm : m < k
            · obtain ⟨r1, hr1⟩ : ∃ r1, r1 = walR r0 k m := ⟨_, rfl⟩
              have HR1 : Hid (walR r0 k (m + 1) = rowR r1 m k) := by show _ = _; rw [hr1]; rfl
              rw [← hr1] at HX
              clear hr1
              obtain ⟨V, hV⟩ : ∃ V, V = wr := ⟨_, rfl⟩
              subst hV
              go_wp2
              go_loopw [36] (fun x wr => ∃ f : Nat, f ≤ k ∧ x = .int .i64 f ∧ Hid (Wk w (rowR r1 m f) wr)) (fun x _ => k - (intOf x).toNat)
              case atStart => exact ⟨0, Nat.zero_le _, rfl, HX⟩
              case round =>
                obtain ⟨f, hf, rfl, HY⟩ := hrel
                by_cases hlf : f < k
                · obtain ⟨r2, hr2⟩ : ∃ r2, r2 = rowR r1 m f := ⟨_, rfl⟩
                  have HR2 : Hid (rowR r1 m (f + 1) = orR r2 m f) := by show _ = _; rw [hr2]; rfl
                  rw [← hr2] at HY
                  clear hr2
                  cases e0 : bit r2 f m with
                  | false =>
                    have HZ : Hid (Wk w (rowR r1 m (f + 1)) wr) := by
                      show Wk _ _ _
                      rw [HR2.out, show orR r2 m f = r2 from if_neg (by rw [e0]; simp)]
                      exact HY.out
                    go_wp2_with (go_at_call 115; refine (has7_any _ _ HY.out.rw HY.out.ok ?_ ?_).mono ?_; omega; omega; rintro e w1 ⟨rfl, rfl⟩; rw [e0])
                    go_roundw
                    case rel => exact ⟨f + 1, by omega, by go_num, HZ⟩
                    case measure => simp [intOf]; omega
                  | true =>
                    have c1 := HY.out.rw.cell (k := f) (by omega)
                    have c2 := HY.out.rw.cell (k := m) (by omega)
                    have f1 := HY.out.rw.frozen f
                    have HB : Hid (bits .or .u64 ((r2 f : Nat) : Int) ((r2 m : Nat) : Int) = ((r2 f ||| r2 m : Nat) : Int)) := u64_or_nat _ _ (HY.out.ok f) (HY.out.ok m)
                    have HZ : Hid (Wk w (rowR r1 m (f + 1)) (wr.drew.setCell ⟨w.heap.size + 1, f, none⟩ (.int .u64 (bits .or .u64 ((r2 f : Nat) : Int) ((r2 m : Nat) : Int))))) := by
                      show Wk _ _ _
                      have hx : okR (orR r2 m f) := okR_or HY.out.ok m f
                      rw [HB.out, HR2.out]
                      rw [show orR r2 m f = putR r2 f (r2 f ||| r2 m) from if_pos e0] at hx ⊢
                      exact HY.out.only (RwAt.put (w := wr.drew) HY.out.rw (by omega) _) ((Only.drew _ _).set _ _) hx
                    go_wp2_with (go_at_call 115; refine (has7_any _ _ HY.out.rw HY.out.ok ?_ ?_).mono ?_; omega; omega; rintro e w1 ⟨rfl, rfl⟩; rw [e0])
                    go_region
                    all_goals
                      go_wp2
                      go_roundw
                      case rel => exact ⟨f + 1, by omega, by go_num, HZ⟩
                      case measure => simp [intOf]; omega
                · obtain rfl : f = k := by omega
                  go_wp2
                  go_roundw
                  case rel => exact ⟨m + 1, by omega, by go_num, by rw [HR1.out]; exact HY⟩
                  case measure => simp [intOf]; omega
            · obtain rfl : m = k := by omega
              obtain ⟨r1, hr1⟩ : ∃ r1, r1 = walkT m l := ⟨_, rfl⟩
              rw [← HT.out, ← hr1] at HX
              have HR1 : Hid (r1 = walkT m l) := hr1
              clear hr1 HT
              have HW := HX.out.rw.whole
              have hz := HX.out.z.whole
              have ht : wr.there w.heap.size 0 (rowsA r1).size := fun j hj => ⟨hz.isSome j (by simpa [rowsL, rowsA] using hj), by rw [Nat.zero_add]; exact HX.out.z.frozen j⟩
              have hi : (Tryz.prog.info? 148).map (·.size) = some (rowsA r1).size := by rw [rowsA_size]; exact Tryz.infoRows
              have hi2 : (Tryz.prog.info? 148).map (·.size) = some (rowsL r1).length := by rw [Tryz.infoRows]; simp [rowsL]
              have HR : Hid ((wr.setCells w.heap.size 0 (rowsA r1).toList).rangeAt w.heap.size 0 (rowsL r1)) := World.rangeAt_setCells_same _ _ _ _ ht
              have HB : Hid (Below w.heap.size w (wr.setCells w.heap.size 0 (rowsA r1).toList)) := setCells_below (Nat.le_refl _) _ _ _ HX.out.bl
              have hld := run_loadVar_mid (P := Tryz.prog) _ w.heap.size 0 148 (rowsL r1) _ HR.out Tryz.underlying148 rfl hi2
              clear hz
              go_wp2_with (first
                | (refine wpList_load_mid rfl 148 _ rfl (w.heap.size + 1) 0 rfl (rowsL r1) _ HW Tryz.underlying148 rfl hi2 ?_)
                | (refine wpList_store_mid rfl 148 _ _ rfl w.heap.size 0 (rowsA r1) rfl rfl ht hi (rowsA_one r1) ?_))
              (try simp only [Exit.inBlock, Exit.then])
              refine bodyPost_ret (v := .agg (rowsA r1)) ?_ rfl ⟨congrArg (fun x => Ending.returned (.agg (rowsA x))) HR1.out, HB⟩
              rw [results_cell rfl]
              show ((asAddr (.pointer (some ⟨w.heap.size, 0, none⟩))).run Tryz.prog _).andThen _ = _
              simp only [asAddr, Sem.run_pure, Result.andThen]
              exact hld
def intsV (l : List Int) : List Value := l.map (Value.int .i64)
def IsInts (w : World) (F : Nat → Prop) (v : Value) (l : List Int) : Prop := Reads w F v l.length (intsV l)
theorem IsInts.any {w w' : World} {F : Nat → Prop} {v : Value} {l : List Int} (h : IsInts w F v l) (hb : Below w.heap.size w w') : IsInts w' F v l := Reads.any h hb
theorem IsInts.slc {w : World} {F : Nat → Prop} {v : Value} {l : List Int} (h : IsInts w F v l) : ∃ p c, v = .slice p l.length c := by
  obtain ⟨p, c, e, _⟩ := h
  exact ⟨p, c, e⟩
theorem IsInts.at {w : World} {F : Nat → Prop} {p : Option Addr} {n c : Nat} {l : List Int} (h : IsInts w F (.slice p n c) l) {k : Nat} {z : Int} (hk : l[k]? = some z) : ∃ g o, p = some ⟨g, o, none⟩ ∧ g < w.heap.size ∧ w.cell? ⟨g, o + k, none⟩ = some (.int .i64 z) := by
  obtain ⟨p2, c2, e2, _, hc⟩ := h
  injection e2 with e3
  subst e3
  have hlt := (List.getElem?_eq_some_iff.1 hk).1
  obtain ⟨g, o, e9, _, hg, cc, _⟩ := hc (by omega)
  exact ⟨g, o, e9, hg, cc k _ (by unfold intsV; rw [List.getElem?_map, hk]; rfl)⟩
theorem compsT_length (n : Nat) (l : List Ed) : (compsT n l).length = n := by simp [compsT]
theorem compsT_at {n : Nat} (l : List Ed) {i : Nat} (hi : i < n) : (compsT n l)[i]? = some ((comp n l i : Nat) : Int) := by simp [compsT, hi]
def cpre (n : Nat) (l : List Ed) (k : Nat) : List Int := (List.range k).map fun i => ((comp n l i : Nat) : Int)
theorem cpre_snoc (n : Nat) (l : List Ed) (k : Nat) : cpre n l (k + 1) = cpre n l k ++ [((comp n l k : Nat) : Int)] := by simp [cpre, List.range_succ]
theorem Tryz.infoInt : (Tryz.prog.info? 3).map (fun i => (i.zero, i.size, i.bytes)) = some (some (.int .i64 0), 1, 8) := by kernel_rfl
theorem news1 (w : World) (v : Value) (t : TypeId) (j : Nat) (u : Value) (hj : [v][j]? = some u) : (w.alloc (.cells #[v] t)).cell? ((⟨w.heap.size, 0, none⟩ : Addr).add j) = some u := by
  match j, hj with
  | 0, hj => simp at hj; subst hj; simp [Addr.add]
set_option maxHeartbeats 4000000 in
set_option maxRecDepth 100000 in
theorem comps_ok (n : Nat) (v : Value) (l : List Ed) (w : World) {F : Nat → Prop} (ha : IsEds w F v l) (hm : mayE (n : Int) l = true) :
    Calls Tryz.prog 57 #[.int .i64 (n : Int), v] w fun e w' => ∃ u, e = .returned (.tuple #[u, .int .i64 0]) ∧ Hid (IsInts w' (fun i => w.heap.size ≤ i) u (compsT n l)) ∧ Hid (Below w.heap.size w w') := by
  have K1 := may7_any n v l w ha
  rw [hm] at K1
  have K2 : Hid (∀ w', Below w.heap.size w w' → Calls Tryz.prog 86 #[.int .i64 (n : Int), v] w' fun e w'' => e = .returned (.agg (rowsA (walkT n l))) ∧ Hid (Below w'.heap.size w' w'')) := fun w' hb => walk_any n v l w' (ha.any hb) hm
  have hn : n ≤ 64 := by have := mayE_all hm; omega
  have HO : Hid (okR (walkT n l)) := okR_walk hm
  obtain ⟨p, cp, rfl⟩ := ha.slc
  obtain ⟨r, hr⟩ : ∃ r, r = walkT n l := ⟨_, rfl⟩
  have HRW : Hid (r = walkT n l) := hr
  rw [← hr] at K2 HO
  have HC : Hid (∀ i, lst (fun j => bit r i j && bit r j i) i = comp n l i) := fun i => by rw [hr]; rfl
  obtain ⟨i0, hi0, hz0, hz1, hz2⟩ := info_parts Tryz.infoInt
  clear ha hm hr
  go_enter Tryz.func57, Tryz.ntmps57
  go_wp2_with (first
    | (go_at_call 85; refine K1.mono ?_; rintro e w1 ⟨rfl, b1⟩)
    | (go_at_call 86; refine (K2.out _ b1.out).mono ?_; rintro e w2 ⟨rfl, b2⟩; have H2 : Hid (Below w.heap.size w w2) := b1.out.trans (b2.out.mono b1.out.size))
    | (simp only [zero_rows]; refine wpList_store_rows rfl _ _ rfl r zR rfl rfl ?_))
  go_loopw [7, 17] (fun u x wr => ∃ k : Nat, k ≤ n ∧ x = .int .i64 k ∧ Hid (wr.ownsRow (w2.heap.size + 1) 3 1 u k (intsV (cpre n l k))) ∧ Hid (RwAt wr w2.heap.size r) ∧ Hid (Below w2.heap.size w2 wr)) (fun _ x _ => n - (intOf x).toNat)
  case atStart => exact ⟨0, Nat.zero_le _, rfl, World.ownsRow_nil _ _ _ _, RwAt.new w2 r, bel1 _ _⟩
  case round =>
    obtain ⟨k, hk, rfl, HU, HR, HB⟩ := hrel
    by_cases hlt : k < n
    · have KL : Calls Tryz.prog 87 #[.pointer (some ⟨w2.heap.size, 0, none⟩), .int .i64 (k : Int)] wr fun e w' => e = .returned (.int .i64 ((comp n l k : Nat) : Int)) ∧ wr = w' := by
        rw [← HC.out k]; exact least_any k HR.out HO.out (by omega)
      obtain ⟨V, hV⟩ : ∃ V, V = wr := ⟨_, rfl⟩
      subst hV
      obtain ⟨c, hc⟩ : ∃ c, c = comp n l k := ⟨_, rfl⟩
      rw [← hc] at KL
      have HS : Hid (intsV (cpre n l (k + 1)) = intsV (cpre n l k) ++ [.int .i64 (c : Int)]) := by show _ = _; rw [cpre_snoc, hc]; simp [intsV]
      clear hc
      obtain ⟨p7, c7, hu⟩ := row_slice HU.out
      subst hu
      have MX : k + 1 ≤ maxLen := by unfold maxLen; omega
      have BY : (k + 1) * 8 ≤ 140737488355328 := by omega
      have BS : w2.heap.size + 1 ≤ V.heap.size := HR.out.lt
      go_wp2_with (first
        | (go_at_call 87; refine KL.mono ?_; rintro e w1 ⟨rfl, rfl⟩)
        | (at_builtin; refine wpList_append_own _ rfl _ _ 62 rfl (w2.heap.size + 1) 3 i0 (.int .i64 0) 1 8 Tryz.underlying62 hi0 hz0 hz1 hz2 rfl (by decide) _ _ _ rfl (HU.out.alloc _) ⟨V.heap.size, 0, none⟩ 1 1 [.int .i64 (c : Int)] rfl rfl (news1 V _ _) ?c2 MX BY ?c5 ?_))
      case c2 => intro u hu; simp at hu; subst hu; rfl
      case c5 => simp; omega
      intro v' w3 hown' hgrow _
      have HU3 : Hid (w3.ownsRow (w2.heap.size + 1) 3 1 v' (k + 1) (intsV (cpre n l (k + 1)))) := by show World.ownsRow _ _ _ _ _ _ _; rw [HS.out]; exact hown'
      have HR3 : Hid (RwAt w3 w2.heap.size r) := ((HR.out.keep (bel1 V _)).blk (hgrow.block _ (by simp; omega) (fun e => by have := (HU.out.lt _ e.symm).1; omega)))
      have HB3 : Hid (Below w2.heap.size w2 w3) := (HB.out.alloc HB.out.size _).grown hgrow (by simp; have := HB.out.size; omega) (fun g hg => by have := (HU.out.lt g hg).1; omega)
      obtain ⟨p8, c8, hv8⟩ := row_slice hown'
      subst hv8
      clear hown' hgrow
      go_wp2
      go_roundw
      case rel => exact ⟨k + 1, by omega, by go_num, HU3, HR3, HB3⟩
      case measure => simp [intOf]; omega
    · obtain rfl : k = n := by omega
      obtain ⟨p7, c7, hu⟩ := row_slice HU.out
      subst hu
      have HI : Hid (IsInts wr (fun i => w.heap.size ≤ i) (.slice p7 k c7) (compsT k l)) := by
        have := Reads.of (F := fun i => w.heap.size ≤ i) HU.out (fun b hb => by have := (HU.out.lt b hb).1; have := H2.out.size; show _ ≤ _; omega)
        show Reads _ _ _ _ _
        rw [compsT_length]; exact this
      have HF : Hid (Below w.heap.size w wr) := H2.out.trans (HB.out.mono H2.out.size)
      go_wp2
      go_ret2
      exact ⟨_, rfl, HI, HF⟩
end Go.Proofs.YtfjejnkjlnkkhaaGreatDoor
/- The document's edgesMay, reached, Reaches, against their plain functions. -/
namespace Go.Proofs.YtfjejnkjlnkkhaaGreatDoor
set_option linter.unusedVariables false
open Go.ChangeShapes Go.WideShapes Go.ChangeAt Go.RowKit

def boolsA (n : Nat) (s : Nat → Bool) : Array Value := ((List.range n).map fun i => Value.bool (s i)).toArray
theorem boolsA_size (n : Nat) (s : Nat → Bool) : (boolsA n s).size = n := by simp [boolsA]
theorem boolsA_at {n : Nat} (s : Nat → Bool) {k : Nat} (hk : k < n) : (boolsA n s)[k]? = some (.bool (s k)) := by simp [boolsA, hk]
theorem boolsA_put (n : Nat) (s : Nat → Bool) (k : Nat) : (boolsA n s).setIfInBounds k (.bool true) = boolsA n (putS s k) := by
  apply Array.ext_getElem?
  intro i
  rw [Array.getElem?_setIfInBounds, boolsA_size]
  by_cases e : k = i
  · subst e
    rw [if_pos rfl]
    by_cases hk : k < n
    · rw [if_pos hk, boolsA_at _ hk]; simp [putS]
    · rw [if_neg hk, Array.getElem?_eq_none (by rw [boolsA_size]; omega)]
  · rw [if_neg e]
    by_cases hi : i < n
    · rw [boolsA_at _ hi, boolsA_at _ hi]; simp [putS, Ne.symm e]
    · rw [Array.getElem?_eq_none (by rw [boolsA_size]; omega), Array.getElem?_eq_none (by rw [boolsA_size]; omega)]
theorem made_bools (n : Nat) : madeCells #[.bool false] n = boolsA n (fun _ => false) := by
  apply Array.ext_getElem?
  intro i
  by_cases hi : i < n
  · rw [boolsA_at _ hi]
    simp [madeCells, hi, Nat.mod_one]
  · rw [Array.getElem?_eq_none (by rw [size_madeCells]; omega), Array.getElem?_eq_none (by rw [boolsA_size]; omega)]
/-- Block b is the bools s. -/
def BlAt (w : World) (b n : Nat) (s : Nat → Bool) : Prop := w.heap[b]? = some (.cells (boolsA n s) 4)
section
variable {w w' : World} {b n : Nat} {s : Nat → Bool}
theorem BlAt.lt (h : BlAt w b n s) : b < w.heap.size := heap_lt h
theorem BlAt.cell (h : BlAt w b n s) {k : Nat} (hk : k < n) : w.cell? ⟨b, k, none⟩ = some (.bool (s k)) := by
  rw [cell_of_row _ _ k _ _ (0, 0) h]; exact boolsA_at s hk
theorem BlAt.frozen (h : BlAt w b n s) (k : Nat) : w.frozen? ⟨b, k, none⟩ = false := by simp [World.frozen?, show w.heap[b]? = _ from h]
theorem BlAt.keep (h : BlAt w b n s) (hb : Below w.heap.size w w') : BlAt w' b n s := (hb.block b h.lt).trans h
theorem BlAt.put (h : BlAt w b n s) (k : Nat) : BlAt (w.setCell ⟨b, k, none⟩ (.bool true)) b n (putS s k) := by
  unfold BlAt at *
  simp only [World.setCell, Array.getElem?_modify, if_pos, h, Option.map_some]
  rw [← boolsA_put]; rfl
theorem BlAt.new (w : World) (n : Nat) (s : Nat → Bool) : BlAt (w.alloc (.cells (boolsA n s) 4)) w.heap.size n s := heap_alloc_new w _
end
theorem Tryz.infoBool : (Tryz.prog.info? 4).map (fun i => (i.zero, i.size, i.bytes)) = some (some (.bool false), 1, 1) := by kernel_rfl
theorem make_bools (n : Nat) (hn : n ≤ 64) (w : World) : (Instr.makeSlice 61 (.int .i64 (n : Int)) (.int .i64 (n : Int))).run Tryz.prog w = .ok (.slice (some ⟨w.heap.size, 0, none⟩) n n) (w.alloc (.cells (boolsA n (fun _ => false)) 4)) := by
  obtain ⟨i, hi, hz, hs, hb⟩ := info_parts Tryz.infoBool
  have h := run_make (P := Tryz.prog) w 61 4 i _ Tryz.underlying61 hi hz .i64 .i64 (n : Int) (n : Int) (by omega) (Int.le_refl _) (by rw [hb]; omega) (by omega)
  simp only [Int.toNat_natCast, hs, Nat.mul_one] at h
  rw [← made_bools]
  exact h
end Go.Proofs.YtfjejnkjlnkkhaaGreatDoor
