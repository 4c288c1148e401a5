/- isEnd, may, add, has, least of comps. -/
import Derived.Test.YtalckpaeleflnaaCmpMem
import Derived.BigQuiet
namespace Go.Proofs.Ytalckpaeleflnaa
set_option linter.unusedVariables false
open Go.ChangeShapes Go.WideShapes Go.ChangeAt Go.RowKit

theorem ret_bool {a b : Bool} (h : a = b) : Ending.returned (.bool a) = .returned (.bool b) := by rw [h]
theorem ret_int {k : IntKind} {a b : Int} (h : a = b) : Ending.returned (.int k a) = .returned (.int k b) := by rw [h]
theorem bit_test (n : Nat) (r : Nat) (hn : n < 18446744073709551616) : (bits .and .u64 ((n : Int) / 2 ^ r) 1 == 1) = n.testBit r := by
  have e : ((n : Int) / 2 ^ r) = ((n / 2 ^ r : Nat) : Int) := by simp
  rw [Nat.testBit_eq_decide_div_mod_eq]
  have hlt : n / 2 ^ r < 18446744073709551616 := Nat.lt_of_le_of_lt (Nat.div_le_self _ _) hn
  rw [e]
  generalize n / 2 ^ r = m at hlt
  rw [and_one_u64 _ (by omega) (by omega)]
  rw [Bool.eq_iff_iff]
  simp only [beq_iff_eq, decide_eq_true_eq]
  omega
theorem bit_put (n r : Nat) (hn : n < 18446744073709551616) (hr : r < 64) : bits .or .u64 ((n : Nat) : Int) (IntKind.u64.wrap (2 ^ r)) = ((n ||| 2 ^ r : Nat) : Int) := by
  have hp : 2 ^ r < 18446744073709551616 := two_lt hr
  have e : (2 : Int) ^ r = ((2 ^ r : Nat) : Int) := by simp
  rw [e, IntKind.wrap_u64]
  generalize 2 ^ r = m at hp
  rw [show ((m : Int) % 18446744073709551616) = (m : Int) by omega]
  exact u64_or_nat _ _ hn hp
theorem isEnd_any (n i : Int) (w : World) : Calls Try.prog 23 #[.int .i64 n, .int .i64 i] w fun e w' => e = .returned (.bool (endB n i)) ∧ w = w' := by
  by_cases h0 : 0 ≤ i
  · by_cases h1 : i < n
    · go_enter Try.func23, Try.ntmps23
      go_wp2
      go_ret
      exact ⟨ret_bool (by simp [endB, h0, h1]), rfl⟩
    · go_enter Try.func23, Try.ntmps23
      go_wp2
      go_ret
      exact ⟨ret_bool (by simp [endB, h1]), rfl⟩
  · go_enter Try.func23, Try.ntmps23
    go_wp2
    go_ret
    exact ⟨ret_bool (by simp [endB]; omega), rfl⟩
set_option maxHeartbeats 1000000 in
theorem has_any {w : World} {b : Nat} {r : Nat → Nat} (i j : Nat) (h : RwAt w b r) (hr : okR r) (hi : i < 64) (hj : j < 64) :
    Calls Try.prog 24 #[.pointer (some ⟨b, 0, none⟩), .int .i64 (i : Int), .int .i64 (j : Int)] w fun e w' => e = .returned (.bool (bit r i j)) ∧ w = w' := by
  have hc := h.cell hi
  have HB : Hid ((bits .and .u64 (((r i : Nat) : Int) / 2 ^ j) 1 == 1) = bit r i j) := bit_test _ _ (hr i)
  have hlt := h.lt
  clear h hr
  go_enter Try.func24, Try.ntmps24
  go_wp2
  go_ret
  exact ⟨ret_bool HB.out, rfl⟩
set_option maxHeartbeats 1000000 in
theorem add_any {w : World} {b : Nat} {r : Nat → Nat} (i j : Nat) (h : RwAt w b r) (hr : okR r) (hi : i < 64) (hj : j < 64) :
    Calls Try.prog 26 #[.pointer (some ⟨b, 0, none⟩), .int .i64 (i : Int), .int .i64 (j : Int)] w fun e w' => e = .returned (.tuple #[]) ∧ Hid (RwAt w' b (addR r i j)) ∧ Hid (Only b w w') := by
  have hc := h.cell hi
  have hf := h.frozen i
  have HR : Hid (RwAt w b r) := h
  have HB : Hid (bits .or .u64 ((r i : Nat) : Int) (IntKind.u64.wrap (2 ^ j)) = ((r i ||| 2 ^ j : Nat) : Int)) := bit_put _ _ (hr i) hj
  clear h hr
  go_enter Try.func26, Try.ntmps26
  go_wp2
  go_region
  all_goals
    go_wp2
    go_end0
    refine ⟨rfl, ?_, ?_⟩
    · rw [HB.out]; exact RwAt.put (w := w.drew) HR.out hi _
    · exact (Only.drew _ _).set _ _
theorem all_take {l : List Ed} {p : Ed → Bool} {k : Nat} {t : Ed} (ht : l[k]? = some t) (h : (l.take k).all p = true) (hp : p t = true) : (l.take (k + 1)).all p = true := by
  rw [List.take_add_one, ht]
  simp only [Option.toList, List.all_append, h, List.all_cons, hp, List.all_nil]; rfl
set_option maxHeartbeats 2000000 in
theorem may_any (n : Int) (v : Value) (l : List Ed) (w : World) {F : Nat → Prop} (ha : IsEds w F v l) :
    Calls Try.prog 18 #[.int .i64 n, v] w fun e w' => e = .returned (.bool (mayE n l)) ∧ Hid (Below w.heap.size w w') := by
  obtain ⟨p, cp, rfl⟩ := ha.slc
  have HL : Hid (l.length ≤ maxLen) := ha.len
  have HA : Hid (IsEds w F (.slice p l.length cp) l) := ha
  have hm9 : l.length ≤ 9223372036854775807 := by have := ha.len; unfold maxLen at this; omega
  clear ha
  by_cases h0 : n < 0
  · go_enter Try.func18, Try.ntmps18
    go_wp2
    go_ret
    exact ⟨ret_bool (by simp [mayE]; omega), Below.refl _ _⟩
  by_cases h1 : 64 < n
  · go_enter Try.func18, Try.ntmps18
    go_wp2
    go_ret
    exact ⟨ret_bool (by simp [mayE]; omega), Below.refl _ _⟩
  have HN : Hid (mayE n l = edsB n l) := by show _ = _; unfold mayE; rw [decide_eq_true (by omega), decide_eq_true (by omega)]; rfl
  go_enter Try.func18, Try.ntmps18
  go_wp2
  go_loopw [15] (fun i wr => ∃ k : Nat, k ≤ l.length ∧ i = .int .i64 k ∧ Hid (Below w.heap.size w wr) ∧ Hid ((l.take k).all (edB n) = true)) (fun i _ => l.length - (intOf i).toNat)
  case atStart => exact ⟨0, by omega, rfl, Below.refl _ _, by show _ = _; simp⟩
  case round =>
    obtain ⟨k, hk, rfl, HW, HT⟩ := hrel
    by_cases hlt : k < l.length
    · obtain ⟨t, ht⟩ : ∃ t, l[k]? = some t := ⟨_, List.getElem?_eq_getElem hlt⟩
      obtain ⟨g1, o1, hp, -, a0, a1, a2⟩ := (HA.out.any HW.out).at ht
      subst hp
      obtain ⟨t0, t1, t2⟩ := t
      simp only at a0 a1 a2
      have HH : Hid (l[k]? = some (t0, t1, t2)) := ht
      clear ht
      cases e0 : endB n t0 with
      | false =>
        have HD : Hid (edsB n l = false) := by
          show _ = _
          unfold edsB
          rw [← Bool.not_eq_true, List.all_eq_true]
          intro hh
          have := hh _ (List.mem_of_getElem? HH.out)
          simp [edB, e0] at this
        go_wp2_with (go_at_call 23; refine (isEnd_any _ _ _).mono ?_; rintro e w1 ⟨rfl, rfl⟩; rw [e0])
        go_ret
        exact ⟨ret_bool (by rw [HN.out, HD.out]), bel_alloc HW.out⟩
      | true =>
        cases e1 : endB n t1 with
        | false =>
          have HD : Hid (edsB n l = false) := by
            show _ = _
            unfold edsB
            rw [← Bool.not_eq_true, List.all_eq_true]
            intro hh
            have := hh _ (List.mem_of_getElem? HH.out)
            simp [edB, e1] at this
          go_wp2_with (go_at_call 23; refine (isEnd_any _ _ _).mono ?_; rintro e w1 ⟨rfl, rfl⟩; first | rw [e0] | rw [e1])
          go_ret
          exact ⟨ret_bool (by rw [HN.out, HD.out]), bel_alloc HW.out⟩
        | true =>
          have HD : Hid ((l.take (k + 1)).all (edB n) = true) := all_take HH.out HT.out (by simp [edB, e0, e1])
          go_wp2_with (go_at_call 23; refine (isEnd_any _ _ _).mono ?_; rintro e w1 ⟨rfl, rfl⟩; first | rw [e0] | rw [e1])
          go_roundw
          case rel => exact ⟨k + 1, by omega, by go_num, bel_alloc HW.out, HD⟩
          case measure => simp [intOf]; omega
    · obtain rfl : k = l.length := by omega
      have HD : Hid (edsB n l = true) := by have := HT.out; rw [List.take_length] at this; exact this
      go_wp2
      go_ret
      exact ⟨ret_bool (by rw [HN.out, HD.out]), HW⟩
set_option maxHeartbeats 2000000 in
theorem least_any {w : World} {b : Nat} {r : Nat → Nat} (i : Nat) (h : RwAt w b r) (hr : okR r) (hi : i < 64) :
    Calls Try.prog 20 #[.pointer (some ⟨b, 0, none⟩), .int .i64 (i : Int)] w fun e w' => e = .returned (.int .i64 ((lst (fun j => bit r i j && bit r j i) i : Nat) : Int)) ∧ w = w' := by
  have HR : Hid (RwAt w b r) := h
  have HO : Hid (okR r) := hr
  clear h hr
  go_enter Try.func20, Try.ntmps20
  go_wp2
  go_loopw [7] (fun x wr => ∃ k : Nat, k ≤ i ∧ x = .int .i64 k ∧ Hid (wr = w) ∧ Hid (∀ j, j < k → (bit r i j && bit r j i) = false)) (fun x _ => i - (intOf x).toNat)
  case atStart => exact ⟨0, by omega, rfl, rfl, fun j hj => by omega⟩
  case round =>
    obtain ⟨k, hk, rfl, HWR, HT⟩ := hrel
    obtain rfl : wr = w := HWR.out
    clear HWR
    by_cases hlt : k < i
    · cases e0 : bit r i k with
      | false =>
        have HD : Hid (∀ j, j < k + 1 → (bit r i j && bit r j i) = false) := fun j hj => by
          by_cases e : j = k
          · rw [e, e0]; rfl
          · exact HT.out j (by omega)
        go_wp2_with (go_at_call 24; refine (has_any _ _ HR.out HO.out ?_ ?_).mono ?_; omega; omega; rintro e w1 ⟨rfl, rfl⟩; rw [e0])
        go_roundw
        case rel => exact ⟨k + 1, by omega, by go_num, by trivial, HD⟩
        case measure => simp [intOf]; omega
      | true =>
        cases e1 : bit r k i with
        | false =>
          have HD : Hid (∀ j, j < k + 1 → (bit r i j && bit r j i) = false) := fun j hj => by
            by_cases e : j = k
            · rw [e, e1]; simp
            · exact HT.out j (by omega)
          go_wp2_with (go_at_call 24; refine (has_any _ _ HR.out HO.out ?_ ?_).mono ?_; omega; omega; rintro e w1 ⟨rfl, rfl⟩; first | rw [e0] | rw [e1])
          go_roundw
          case rel => exact ⟨k + 1, by omega, by go_num, by trivial, HD⟩
          case measure => simp [intOf]; omega
        | true =>
          have HD : Hid (lst (fun j => bit r i j && bit r j i) i = k) := lst_eq hk (fun _ => by show (_ && _) = _; rw [e0, e1]; rfl) HT.out
          go_wp2_with (go_at_call 24; refine (has_any _ _ HR.out HO.out ?_ ?_).mono ?_; omega; omega; rintro e w1 ⟨rfl, rfl⟩; first | rw [e0] | rw [e1])
          go_ret
          exact ⟨congrArg (fun x : Nat => Ending.returned (.int .i64 (x : Int))) HD.out.symm, rfl⟩
    · obtain rfl : k = i := by omega
      have HD : Hid (lst (fun j => bit r k j && bit r j k) k = k) := lst_eq (Nat.le_refl _) (fun h => absurd h (Nat.lt_irrefl _)) HT.out
      go_wp2
      go_ret
      exact ⟨congrArg (fun x : Nat => Ending.returned (.int .i64 (x : Int))) HD.out.symm, rfl⟩
end Go.Proofs.Ytalckpaeleflnaa
