/- ComponentsForms, walked. -/
import Derived.Test.YtalckpaeleflnaaCmpTop
import Derived.Outline
namespace Go.Proofs.Ytalckpaeleflnaa
set_option linter.unusedVariables false
open Go.ChangeShapes Go.WideShapes Go.ChangeAt Go.RowKit

theorem andM (m : Nat) (hm : m < 4096) (x : Int) : ∃ n : Nat, n ≤ m ∧ bits .and .i64 x (m : Int) = (n : Int) := by
  have h : (BitVec.ofInt 64 x &&& BitVec.ofInt 64 (m : Int)).toNat ≤ m := by
    rw [BitVec.toNat_and]
    refine Nat.le_trans Nat.and_le_right ?_
    rw [BitVec.toNat_ofInt]
    omega
  refine ⟨_, h, ?_⟩
  show IntKind.i64.wrap ((BitVec.ofInt 64 x &&& BitVec.ofInt 64 (m : Int)).toNat : Int) = _
  generalize (BitVec.ofInt 64 x &&& BitVec.ofInt 64 (m : Int)).toNat = n at h
  rw [IntKind.wrap_i64]; omega
theorem mod4 (x : Int) : (IntKind.u64.wrap x).tmod 4 = 0 ∨ (IntKind.u64.wrap x).tmod 4 = 1 ∨ (IntKind.u64.wrap x).tmod 4 = 2 ∨ (IntKind.u64.wrap x).tmod 4 = 3 := by
  have h := IntKind.wrap_u64 x
  have h0 : 0 ≤ IntKind.u64.wrap x := by rw [h]; omega
  rw [Int.tmod_eq_emod_of_nonneg h0]
  omega
theorem may_neg {n : Int} (h : n < 0) (l : List Ed) : mayE n l = false := by unfold mayE; rw [decide_eq_false (by omega)]; rfl
theorem may_big {n : Int} (h : 64 < n) (l : List Ed) : mayE n l = false := by unfold mayE; rw [decide_eq_false (p := n ≤ 64) (by omega)]; simp
theorem may_one {n : Int} {e : Ed} (h : edB n e = false) : mayE n [e] = false := by unfold mayE edsB; simp [h]
theorem edB_from {n : Int} {e : Ed} (h : e.1 < 0 ∨ n ≤ e.1) : edB n e = false := by
  unfold edB endB
  rw [← Bool.not_eq_true]
  simp only [Bool.and_eq_true, decide_eq_true_eq]
  omega
theorem edB_to {n : Int} {e : Ed} (h : e.2.1 < 0 ∨ n ≤ e.2.1) : edB n e = false := by
  unfold edB endB
  rw [← Bool.not_eq_true]
  simp only [Bool.and_eq_true, decide_eq_true_eq]
  omega
theorem reach_no {n : Int} {l : List Ed} (h : mayE n l = false) (a b : Int) : reachT n l a b = false := by unfold reachT; rw [h]; rfl
theorem reach_out {n a : Int} (h : a < 0 ∨ n ≤ a) (l : List Ed) (b : Int) : reachT n l a b = false := by
  unfold reachT
  rw [show endB n a = false by unfold endB; rw [← Bool.not_eq_true]; simp only [Bool.and_eq_true, decide_eq_true_eq]; omega]
  simp
theorem reach_self {n : Nat} (h1 : n ≤ 64) (i : Nat) (hi : i < n) : reachT (n : Int) [] (i : Int) (i : Int) = true := by
  unfold reachT mayE edsB endB
  have : wayB n [] i i = true := way_full (l := []) rfl hi (Way.refl _ _)
  have h2 : (n : Int) ≤ 64 := by omega
  simp [h2, hi, this]
/-- One edge in the block b. -/
theorem one_ed {w : World} {b : Nat} {x y : Int} {z : Bool} (h : w.heap[b]? = some (.cells #[.int .i64 x, .int .i64 y, .bool z] 37)) : IsEds w Any (.slice (some ⟨b, 0, none⟩) 1 1) [(x, y, z)] := reads_laid h (by unfold maxLen; omega) rfl
theorem set_ed {w : World} {b : Nat} {a : Array Value} {t : TypeId} (h : w.heap[b]? = some (.cells a t)) (k : Nat) (v : Value) : (w.setCell ⟨b, k, none⟩ v).heap[b]? = some (.cells (a.setIfInBounds k v) t) := by
  simp only [World.setCell, Array.getElem?_modify, if_pos, h, Option.map_some]
  rfl
set_option maxHeartbeats 8000000 in
set_option maxRecDepth 100000 in
theorem forms_0 (a0 a1 a2 : Int) (d k : Nat) (hd : d ≤ 63) (hk : k ≤ 31) (ed : bits .and .i64 a1 63 = (d : Int)) (ek : bits .and .i64 a0 31 = (k : Int)) (ew : (IntKind.u64.wrap a2).tmod 4 = 0) (w : World) :
    Calls Try.prog 6 #[.int .i64 a0, .int .i64 a1, .int .i64 a2] w fun e w' => e = .returned (.bool true) ∧ Below w.heap.size w w' := by
  have KN : Hid (∀ (n : Int) (w' : World), n < 0 ∨ 64 < n → Calls Try.prog 9 #[.int .i64 n, .slice none 0 0] w' fun e w'' => e = .returned (.tuple #[.slice none 0 0, .int .i64 700]) ∧ Hid (Below w'.heap.size w' w'')) := fun n w' hn => comps_no n _ [] w' (eds_nil _ Any) (hn.elim (fun h => may_neg h _) (fun h => may_big h _))
  have KZ : Hid (∀ w', Calls Try.prog 9 #[.int .i64 0, .slice none 0 0] w' fun e w'' => ∃ p c, e = .returned (.tuple #[.slice p 0 c, .int .i64 0]) ∧ Hid (Below w'.heap.size w' w'')) := fun w' => (comps_ok 0 _ [] w' (eds_nil _ Any) rfl).mono fun e w'' ⟨u, h1, h2, h3⟩ => by
    obtain ⟨p, c, hu⟩ := h2.out.slc
    rw [compsT_length] at hu
    exact ⟨p, c, by rw [h1, hu], h3⟩
  have KC : Hid (∀ (w2 : World) (x y : Int), edB (1 + (k : Int)) (x, y, false) = false → Calls Try.prog 9 #[.int .i64 (1 + (k : Int)), .slice (some ⟨w2.heap.size, 0, none⟩) 1 1] (w2.alloc (.cells #[.int .i64 x, .int .i64 y, .bool false] 37)) fun e w'' => e = .returned (.tuple #[.slice none 0 0, .int .i64 700]) ∧ Hid (Below w2.heap.size w2 w'') ∧ Hid (IsEds w'' Any (.slice (some ⟨w2.heap.size, 0, none⟩) 1 1) [(x, y, false)] ∧ mayE (1 + (k : Int)) [(x, y, false)] = false)) := fun w2 x y hv =>
    (comps_no (1 + (k : Int)) _ [(x, y, false)] _ (one_ed (heap_alloc_new w2 _)) (may_one hv)).mono fun e w'' ⟨h1, h2⟩ => ⟨h1, (bel1 w2 _).trans (h2.out.mono (bel1 w2 _).size), (one_ed (heap_alloc_new w2 _)).any h2.out, may_one hv⟩
  have KR : Hid (∀ (v : Value) (l : List Ed) (w' : World), IsEds w' Any v l ∧ mayE (1 + (k : Int)) l = false → Calls Try.prog 13 #[.int .i64 (1 + (k : Int)), v, .int .i64 0, .int .i64 0] w' fun e w'' => e = .returned (.bool false) ∧ Hid (Below w'.heap.size w' w'')) := fun v l w' h => by
    have := reaches_any (1 + (k : Int)) v l 0 0 w' h.1
    rwa [reach_no h.2] at this
  have KT : Hid (∀ (a : Int) (w' : World), a = (k : Int) → Calls Try.prog 13 #[.int .i64 (1 + (k : Int)), .slice none 0 0, .int .i64 a, .int .i64 a] w' fun e w'' => e = .returned (.bool true) ∧ Hid (Below w'.heap.size w' w'')) := fun a w' h => by
    subst h
    have := reaches_any (1 + (k : Int)) _ [] (k : Int) (k : Int) w' (eds_nil _ Any)
    have e : reachT (1 + (k : Int)) [] (k : Int) (k : Int) = true := by
      have := reach_self (n := 1 + k) (by omega) k (by omega)
      rwa [show ((1 + k : Nat) : Int) = 1 + (k : Int) by omega] at this
    rwa [e] at this
  have KF : Hid (∀ (a b : Int) (w' : World), a < 0 ∨ 1 + (k : Int) ≤ a → Calls Try.prog 13 #[.int .i64 (1 + (k : Int)), .slice none 0 0, .int .i64 a, .int .i64 b] w' fun e w'' => e = .returned (.bool false) ∧ Hid (Below w'.heap.size w' w'')) := fun a b w' h => by
    have := reaches_any (1 + (k : Int)) _ [] a b w' (eds_nil _ Any)
    rwa [reach_out h] at this
  go_enter Try.func6, Try.ntmps6
  go_wp2_with (first
    | (go_at_call 16; refine (awake7_any _).mono ?_; rintro e w0 ⟨rfl, H0⟩; have T0 : Hid True := trivial)
    | (go_at_call 9; first
      | (have hh := T3; clear hh; refine (KZ.out _).mono ?_; rintro e w4 ⟨p4, c4, rfl, b4⟩; have H4 : Hid (Below w.heap.size w w4) := H3.out.trans (b4.out.mono H3.out.size); have I4 : Hid (IsEds w4 Any _ _ ∧ _) := ⟨I3.out.1.any b4.out, I3.out.2⟩; clear b4 T3; have T4 : Hid True := trivial)
      | (have hh := T2; clear hh; refine (KC.out _ _ _ (edB_from ?_)).mono ?_; (focus (simp only; omega)); rintro e w3 ⟨rfl, b3, I3⟩; have H3 : Hid (Below w.heap.size w w3) := H2.out.trans (b3.out.mono H2.out.size); clear b3 T2; have T3 : Hid True := trivial)
      | (have hh := T1; clear hh; refine (KN.out _ _ ?_).mono ?_; omega; rintro e w2 ⟨rfl, b2⟩; have H2 : Hid (Below w.heap.size w w2) := H1.out.trans (b2.out.mono H1.out.size); clear b2 T1; have T2 : Hid True := trivial)
      | (have hh := T0; clear hh; refine (KN.out _ _ ?_).mono ?_; omega; rintro e w1 ⟨rfl, b1⟩; have H1 : Hid (Below w.heap.size w w1) := H0.out.trans (b1.out.mono H0.out.size); clear b1 T0; have T1 : Hid True := trivial))
    | (go_at_call 13; first
      | (have hh := T7; clear hh; refine (KF.out _ _ _ ?_).mono ?_; omega; rintro e w8 ⟨rfl, b8⟩; have H8 : Hid (Below w.heap.size w w8) := H7.out.trans (b8.out.mono H7.out.size); clear b8 T7; have T8 : Hid True := trivial)
      | (have hh := T6; clear hh; refine (KF.out _ _ _ ?_).mono ?_; omega; rintro e w7 ⟨rfl, b7⟩; have H7 : Hid (Below w.heap.size w w7) := H6.out.trans (b7.out.mono H6.out.size); clear b7 T6; have T7 : Hid True := trivial)
      | (have hh := T5; clear hh; refine (KT.out _ _ ?_).mono ?_; omega; rintro e w6 ⟨rfl, b6⟩; have H6 : Hid (Below w.heap.size w w6) := H5.out.trans (b6.out.mono H5.out.size); clear b6 T5; have T6 : Hid True := trivial)
      | (have hh := T4; clear hh; refine (KR.out _ _ _ I4.out).mono ?_; rintro e w5 ⟨rfl, b5⟩; have H5 : Hid (Below w.heap.size w w5) := H4.out.trans (b5.out.mono H4.out.size); clear b5 T4; have T5 : Hid True := trivial))
    | (go_at_call 12; refine (num_any _ _).mono ?_; rintro e wn ⟨rfl, rfl⟩))
  go_ret
  exact ⟨rfl, H8.out⟩
set_option maxHeartbeats 8000000 in
set_option maxRecDepth 100000 in
theorem forms_1 (a0 a1 a2 : Int) (d k : Nat) (hd : d ≤ 63) (hk : k ≤ 31) (ed : bits .and .i64 a1 63 = (d : Int)) (ek : bits .and .i64 a0 31 = (k : Int)) (ew : (IntKind.u64.wrap a2).tmod 4 = 1) (w : World) :
    Calls Try.prog 6 #[.int .i64 a0, .int .i64 a1, .int .i64 a2] w fun e w' => e = .returned (.bool true) ∧ Below w.heap.size w w' := by
  have KN : Hid (∀ (n : Int) (w' : World), n < 0 ∨ 64 < n → Calls Try.prog 9 #[.int .i64 n, .slice none 0 0] w' fun e w'' => e = .returned (.tuple #[.slice none 0 0, .int .i64 700]) ∧ Hid (Below w'.heap.size w' w'')) := fun n w' hn => comps_no n _ [] w' (eds_nil _ Any) (hn.elim (fun h => may_neg h _) (fun h => may_big h _))
  have KZ : Hid (∀ w', Calls Try.prog 9 #[.int .i64 0, .slice none 0 0] w' fun e w'' => ∃ p c, e = .returned (.tuple #[.slice p 0 c, .int .i64 0]) ∧ Hid (Below w'.heap.size w' w'')) := fun w' => (comps_ok 0 _ [] w' (eds_nil _ Any) rfl).mono fun e w'' ⟨u, h1, h2, h3⟩ => by
    obtain ⟨p, c, hu⟩ := h2.out.slc
    rw [compsT_length] at hu
    exact ⟨p, c, by rw [h1, hu], h3⟩
  have KC : Hid (∀ (w2 : World) (x y : Int), edB (1 + (k : Int)) (x, y, false) = false → Calls Try.prog 9 #[.int .i64 (1 + (k : Int)), .slice (some ⟨w2.heap.size, 0, none⟩) 1 1] (w2.alloc (.cells #[.int .i64 x, .int .i64 y, .bool false] 37)) fun e w'' => e = .returned (.tuple #[.slice none 0 0, .int .i64 700]) ∧ Hid (Below w2.heap.size w2 w'') ∧ Hid (IsEds w'' Any (.slice (some ⟨w2.heap.size, 0, none⟩) 1 1) [(x, y, false)] ∧ mayE (1 + (k : Int)) [(x, y, false)] = false)) := fun w2 x y hv =>
    (comps_no (1 + (k : Int)) _ [(x, y, false)] _ (one_ed (heap_alloc_new w2 _)) (may_one hv)).mono fun e w'' ⟨h1, h2⟩ => ⟨h1, (bel1 w2 _).trans (h2.out.mono (bel1 w2 _).size), (one_ed (heap_alloc_new w2 _)).any h2.out, may_one hv⟩
  have KR : Hid (∀ (v : Value) (l : List Ed) (w' : World), IsEds w' Any v l ∧ mayE (1 + (k : Int)) l = false → Calls Try.prog 13 #[.int .i64 (1 + (k : Int)), v, .int .i64 0, .int .i64 0] w' fun e w'' => e = .returned (.bool false) ∧ Hid (Below w'.heap.size w' w'')) := fun v l w' h => by
    have := reaches_any (1 + (k : Int)) v l 0 0 w' h.1
    rwa [reach_no h.2] at this
  have KT : Hid (∀ (a : Int) (w' : World), a = (k : Int) → Calls Try.prog 13 #[.int .i64 (1 + (k : Int)), .slice none 0 0, .int .i64 a, .int .i64 a] w' fun e w'' => e = .returned (.bool true) ∧ Hid (Below w'.heap.size w' w'')) := fun a w' h => by
    subst h
    have := reaches_any (1 + (k : Int)) _ [] (k : Int) (k : Int) w' (eds_nil _ Any)
    have e : reachT (1 + (k : Int)) [] (k : Int) (k : Int) = true := by
      have := reach_self (n := 1 + k) (by omega) k (by omega)
      rwa [show ((1 + k : Nat) : Int) = 1 + (k : Int) by omega] at this
    rwa [e] at this
  have KF : Hid (∀ (a b : Int) (w' : World), a < 0 ∨ 1 + (k : Int) ≤ a → Calls Try.prog 13 #[.int .i64 (1 + (k : Int)), .slice none 0 0, .int .i64 a, .int .i64 b] w' fun e w'' => e = .returned (.bool false) ∧ Hid (Below w'.heap.size w' w'')) := fun a b w' h => by
    have := reaches_any (1 + (k : Int)) _ [] a b w' (eds_nil _ Any)
    rwa [reach_out h] at this
  go_enter Try.func6, Try.ntmps6
  go_wp2_with (first
    | (go_at_call 16; refine (awake7_any _).mono ?_; rintro e w0 ⟨rfl, H0⟩; have T0 : Hid True := trivial)
    | (go_at_call 9; first
      | (have hh := T3; clear hh; refine (KZ.out _).mono ?_; rintro e w4 ⟨p4, c4, rfl, b4⟩; have H4 : Hid (Below w.heap.size w w4) := H3.out.trans (b4.out.mono H3.out.size); have I4 : Hid (IsEds w4 Any _ _ ∧ _) := ⟨I3.out.1.any b4.out, I3.out.2⟩; clear b4 T3; have T4 : Hid True := trivial)
      | (have hh := T2; clear hh; refine (KC.out _ _ _ (edB_from ?_)).mono ?_; (focus (simp only; omega)); rintro e w3 ⟨rfl, b3, I3⟩; have H3 : Hid (Below w.heap.size w w3) := H2.out.trans (b3.out.mono H2.out.size); clear b3 T2; have T3 : Hid True := trivial)
      | (have hh := T1; clear hh; refine (KN.out _ _ ?_).mono ?_; omega; rintro e w2 ⟨rfl, b2⟩; have H2 : Hid (Below w.heap.size w w2) := H1.out.trans (b2.out.mono H1.out.size); clear b2 T1; have T2 : Hid True := trivial)
      | (have hh := T0; clear hh; refine (KN.out _ _ ?_).mono ?_; omega; rintro e w1 ⟨rfl, b1⟩; have H1 : Hid (Below w.heap.size w w1) := H0.out.trans (b1.out.mono H0.out.size); clear b1 T0; have T1 : Hid True := trivial))
    | (go_at_call 13; first
      | (have hh := T7; clear hh; refine (KF.out _ _ _ ?_).mono ?_; omega; rintro e w8 ⟨rfl, b8⟩; have H8 : Hid (Below w.heap.size w w8) := H7.out.trans (b8.out.mono H7.out.size); clear b8 T7; have T8 : Hid True := trivial)
      | (have hh := T6; clear hh; refine (KF.out _ _ _ ?_).mono ?_; omega; rintro e w7 ⟨rfl, b7⟩; have H7 : Hid (Below w.heap.size w w7) := H6.out.trans (b7.out.mono H6.out.size); clear b7 T6; have T7 : Hid True := trivial)
      | (have hh := T5; clear hh; refine (KT.out _ _ ?_).mono ?_; omega; rintro e w6 ⟨rfl, b6⟩; have H6 : Hid (Below w.heap.size w w6) := H5.out.trans (b6.out.mono H5.out.size); clear b6 T5; have T6 : Hid True := trivial)
      | (have hh := T4; clear hh; refine (KR.out _ _ _ I4.out).mono ?_; rintro e w5 ⟨rfl, b5⟩; have H5 : Hid (Below w.heap.size w w5) := H4.out.trans (b5.out.mono H4.out.size); clear b5 T4; have T5 : Hid True := trivial))
    | (go_at_call 12; refine (num_any _ _).mono ?_; rintro e wn ⟨rfl, rfl⟩))
  go_ret
  exact ⟨rfl, H8.out⟩
set_option maxHeartbeats 8000000 in
set_option maxRecDepth 100000 in
theorem forms_2 (a0 a1 a2 : Int) (d k : Nat) (hd : d ≤ 63) (hk : k ≤ 31) (ed : bits .and .i64 a1 63 = (d : Int)) (ek : bits .and .i64 a0 31 = (k : Int)) (ew : (IntKind.u64.wrap a2).tmod 4 = 2) (w : World) :
    Calls Try.prog 6 #[.int .i64 a0, .int .i64 a1, .int .i64 a2] w fun e w' => e = .returned (.bool true) ∧ Below w.heap.size w w' := by
  have KN : Hid (∀ (n : Int) (w' : World), n < 0 ∨ 64 < n → Calls Try.prog 9 #[.int .i64 n, .slice none 0 0] w' fun e w'' => e = .returned (.tuple #[.slice none 0 0, .int .i64 700]) ∧ Hid (Below w'.heap.size w' w'')) := fun n w' hn => comps_no n _ [] w' (eds_nil _ Any) (hn.elim (fun h => may_neg h _) (fun h => may_big h _))
  have KZ : Hid (∀ w', Calls Try.prog 9 #[.int .i64 0, .slice none 0 0] w' fun e w'' => ∃ p c, e = .returned (.tuple #[.slice p 0 c, .int .i64 0]) ∧ Hid (Below w'.heap.size w' w'')) := fun w' => (comps_ok 0 _ [] w' (eds_nil _ Any) rfl).mono fun e w'' ⟨u, h1, h2, h3⟩ => by
    obtain ⟨p, c, hu⟩ := h2.out.slc
    rw [compsT_length] at hu
    exact ⟨p, c, by rw [h1, hu], h3⟩
  have KC : Hid (∀ (w2 : World) (x y : Int), edB (1 + (k : Int)) (x, y, false) = false → Calls Try.prog 9 #[.int .i64 (1 + (k : Int)), .slice (some ⟨w2.heap.size, 0, none⟩) 1 1] (w2.alloc (.cells #[.int .i64 x, .int .i64 y, .bool false] 37)) fun e w'' => e = .returned (.tuple #[.slice none 0 0, .int .i64 700]) ∧ Hid (Below w2.heap.size w2 w'') ∧ Hid (IsEds w'' Any (.slice (some ⟨w2.heap.size, 0, none⟩) 1 1) [(x, y, false)] ∧ mayE (1 + (k : Int)) [(x, y, false)] = false)) := fun w2 x y hv =>
    (comps_no (1 + (k : Int)) _ [(x, y, false)] _ (one_ed (heap_alloc_new w2 _)) (may_one hv)).mono fun e w'' ⟨h1, h2⟩ => ⟨h1, (bel1 w2 _).trans (h2.out.mono (bel1 w2 _).size), (one_ed (heap_alloc_new w2 _)).any h2.out, may_one hv⟩
  have KR : Hid (∀ (v : Value) (l : List Ed) (w' : World), IsEds w' Any v l ∧ mayE (1 + (k : Int)) l = false → Calls Try.prog 13 #[.int .i64 (1 + (k : Int)), v, .int .i64 0, .int .i64 0] w' fun e w'' => e = .returned (.bool false) ∧ Hid (Below w'.heap.size w' w'')) := fun v l w' h => by
    have := reaches_any (1 + (k : Int)) v l 0 0 w' h.1
    rwa [reach_no h.2] at this
  have KT : Hid (∀ (a : Int) (w' : World), a = (k : Int) → Calls Try.prog 13 #[.int .i64 (1 + (k : Int)), .slice none 0 0, .int .i64 a, .int .i64 a] w' fun e w'' => e = .returned (.bool true) ∧ Hid (Below w'.heap.size w' w'')) := fun a w' h => by
    subst h
    have := reaches_any (1 + (k : Int)) _ [] (k : Int) (k : Int) w' (eds_nil _ Any)
    have e : reachT (1 + (k : Int)) [] (k : Int) (k : Int) = true := by
      have := reach_self (n := 1 + k) (by omega) k (by omega)
      rwa [show ((1 + k : Nat) : Int) = 1 + (k : Int) by omega] at this
    rwa [e] at this
  have KF : Hid (∀ (a b : Int) (w' : World), a < 0 ∨ 1 + (k : Int) ≤ a → Calls Try.prog 13 #[.int .i64 (1 + (k : Int)), .slice none 0 0, .int .i64 a, .int .i64 b] w' fun e w'' => e = .returned (.bool false) ∧ Hid (Below w'.heap.size w' w'')) := fun a b w' h => by
    have := reaches_any (1 + (k : Int)) _ [] a b w' (eds_nil _ Any)
    rwa [reach_out h] at this
  go_enter Try.func6, Try.ntmps6
  go_wp2_with (first
    | (go_at_call 16; refine (awake7_any _).mono ?_; rintro e w0 ⟨rfl, H0⟩; have T0 : Hid True := trivial)
    | (go_at_call 9; first
      | (have hh := T3; clear hh; refine (KZ.out _).mono ?_; rintro e w4 ⟨p4, c4, rfl, b4⟩; have H4 : Hid (Below w.heap.size w w4) := H3.out.trans (b4.out.mono H3.out.size); have I4 : Hid (IsEds w4 Any _ _ ∧ _) := ⟨I3.out.1.any b4.out, I3.out.2⟩; clear b4 T3; have T4 : Hid True := trivial)
      | (have hh := T2; clear hh; refine (KC.out _ _ _ (edB_to ?_)).mono ?_; (focus (simp only; omega)); rintro e w3 ⟨rfl, b3, I3⟩; have H3 : Hid (Below w.heap.size w w3) := H2.out.trans (b3.out.mono H2.out.size); clear b3 T2; have T3 : Hid True := trivial)
      | (have hh := T1; clear hh; refine (KN.out _ _ ?_).mono ?_; omega; rintro e w2 ⟨rfl, b2⟩; have H2 : Hid (Below w.heap.size w w2) := H1.out.trans (b2.out.mono H1.out.size); clear b2 T1; have T2 : Hid True := trivial)
      | (have hh := T0; clear hh; refine (KN.out _ _ ?_).mono ?_; omega; rintro e w1 ⟨rfl, b1⟩; have H1 : Hid (Below w.heap.size w w1) := H0.out.trans (b1.out.mono H0.out.size); clear b1 T0; have T1 : Hid True := trivial))
    | (go_at_call 13; first
      | (have hh := T7; clear hh; refine (KF.out _ _ _ ?_).mono ?_; omega; rintro e w8 ⟨rfl, b8⟩; have H8 : Hid (Below w.heap.size w w8) := H7.out.trans (b8.out.mono H7.out.size); clear b8 T7; have T8 : Hid True := trivial)
      | (have hh := T6; clear hh; refine (KF.out _ _ _ ?_).mono ?_; omega; rintro e w7 ⟨rfl, b7⟩; have H7 : Hid (Below w.heap.size w w7) := H6.out.trans (b7.out.mono H6.out.size); clear b7 T6; have T7 : Hid True := trivial)
      | (have hh := T5; clear hh; refine (KT.out _ _ ?_).mono ?_; omega; rintro e w6 ⟨rfl, b6⟩; have H6 : Hid (Below w.heap.size w w6) := H5.out.trans (b6.out.mono H5.out.size); clear b6 T5; have T6 : Hid True := trivial)
      | (have hh := T4; clear hh; refine (KR.out _ _ _ I4.out).mono ?_; rintro e w5 ⟨rfl, b5⟩; have H5 : Hid (Below w.heap.size w w5) := H4.out.trans (b5.out.mono H4.out.size); clear b5 T4; have T5 : Hid True := trivial))
    | (go_at_call 12; refine (num_any _ _).mono ?_; rintro e wn ⟨rfl, rfl⟩))
  go_ret
  exact ⟨rfl, H8.out⟩
set_option maxHeartbeats 8000000 in
set_option maxRecDepth 100000 in
theorem forms_3 (a0 a1 a2 : Int) (d k : Nat) (hd : d ≤ 63) (hk : k ≤ 31) (ed : bits .and .i64 a1 63 = (d : Int)) (ek : bits .and .i64 a0 31 = (k : Int)) (ew : (IntKind.u64.wrap a2).tmod 4 = 3) (w : World) :
    Calls Try.prog 6 #[.int .i64 a0, .int .i64 a1, .int .i64 a2] w fun e w' => e = .returned (.bool true) ∧ Below w.heap.size w w' := by
  have KN : Hid (∀ (n : Int) (w' : World), n < 0 ∨ 64 < n → Calls Try.prog 9 #[.int .i64 n, .slice none 0 0] w' fun e w'' => e = .returned (.tuple #[.slice none 0 0, .int .i64 700]) ∧ Hid (Below w'.heap.size w' w'')) := fun n w' hn => comps_no n _ [] w' (eds_nil _ Any) (hn.elim (fun h => may_neg h _) (fun h => may_big h _))
  have KZ : Hid (∀ w', Calls Try.prog 9 #[.int .i64 0, .slice none 0 0] w' fun e w'' => ∃ p c, e = .returned (.tuple #[.slice p 0 c, .int .i64 0]) ∧ Hid (Below w'.heap.size w' w'')) := fun w' => (comps_ok 0 _ [] w' (eds_nil _ Any) rfl).mono fun e w'' ⟨u, h1, h2, h3⟩ => by
    obtain ⟨p, c, hu⟩ := h2.out.slc
    rw [compsT_length] at hu
    exact ⟨p, c, by rw [h1, hu], h3⟩
  have KC : Hid (∀ (w2 : World) (x y : Int), edB (1 + (k : Int)) (x, y, false) = false → Calls Try.prog 9 #[.int .i64 (1 + (k : Int)), .slice (some ⟨w2.heap.size, 0, none⟩) 1 1] (w2.alloc (.cells #[.int .i64 x, .int .i64 y, .bool false] 37)) fun e w'' => e = .returned (.tuple #[.slice none 0 0, .int .i64 700]) ∧ Hid (Below w2.heap.size w2 w'') ∧ Hid (IsEds w'' Any (.slice (some ⟨w2.heap.size, 0, none⟩) 1 1) [(x, y, false)] ∧ mayE (1 + (k : Int)) [(x, y, false)] = false)) := fun w2 x y hv =>
    (comps_no (1 + (k : Int)) _ [(x, y, false)] _ (one_ed (heap_alloc_new w2 _)) (may_one hv)).mono fun e w'' ⟨h1, h2⟩ => ⟨h1, (bel1 w2 _).trans (h2.out.mono (bel1 w2 _).size), (one_ed (heap_alloc_new w2 _)).any h2.out, may_one hv⟩
  have KR : Hid (∀ (v : Value) (l : List Ed) (w' : World), IsEds w' Any v l ∧ mayE (1 + (k : Int)) l = false → Calls Try.prog 13 #[.int .i64 (1 + (k : Int)), v, .int .i64 0, .int .i64 0] w' fun e w'' => e = .returned (.bool false) ∧ Hid (Below w'.heap.size w' w'')) := fun v l w' h => by
    have := reaches_any (1 + (k : Int)) v l 0 0 w' h.1
    rwa [reach_no h.2] at this
  have KT : Hid (∀ (a : Int) (w' : World), a = (k : Int) → Calls Try.prog 13 #[.int .i64 (1 + (k : Int)), .slice none 0 0, .int .i64 a, .int .i64 a] w' fun e w'' => e = .returned (.bool true) ∧ Hid (Below w'.heap.size w' w'')) := fun a w' h => by
    subst h
    have := reaches_any (1 + (k : Int)) _ [] (k : Int) (k : Int) w' (eds_nil _ Any)
    have e : reachT (1 + (k : Int)) [] (k : Int) (k : Int) = true := by
      have := reach_self (n := 1 + k) (by omega) k (by omega)
      rwa [show ((1 + k : Nat) : Int) = 1 + (k : Int) by omega] at this
    rwa [e] at this
  have KF : Hid (∀ (a b : Int) (w' : World), a < 0 ∨ 1 + (k : Int) ≤ a → Calls Try.prog 13 #[.int .i64 (1 + (k : Int)), .slice none 0 0, .int .i64 a, .int .i64 b] w' fun e w'' => e = .returned (.bool false) ∧ Hid (Below w'.heap.size w' w'')) := fun a b w' h => by
    have := reaches_any (1 + (k : Int)) _ [] a b w' (eds_nil _ Any)
    rwa [reach_out h] at this
  go_enter Try.func6, Try.ntmps6
  go_wp2_with (first
    | (go_at_call 16; refine (awake7_any _).mono ?_; rintro e w0 ⟨rfl, H0⟩; have T0 : Hid True := trivial)
    | (go_at_call 9; first
      | (have hh := T3; clear hh; refine (KZ.out _).mono ?_; rintro e w4 ⟨p4, c4, rfl, b4⟩; have H4 : Hid (Below w.heap.size w w4) := H3.out.trans (b4.out.mono H3.out.size); have I4 : Hid (IsEds w4 Any _ _ ∧ _) := ⟨I3.out.1.any b4.out, I3.out.2⟩; clear b4 T3; have T4 : Hid True := trivial)
      | (have hh := T2; clear hh; refine (KC.out _ _ _ (edB_to ?_)).mono ?_; (focus (simp only; omega)); rintro e w3 ⟨rfl, b3, I3⟩; have H3 : Hid (Below w.heap.size w w3) := H2.out.trans (b3.out.mono H2.out.size); clear b3 T2; have T3 : Hid True := trivial)
      | (have hh := T1; clear hh; refine (KN.out _ _ ?_).mono ?_; omega; rintro e w2 ⟨rfl, b2⟩; have H2 : Hid (Below w.heap.size w w2) := H1.out.trans (b2.out.mono H1.out.size); clear b2 T1; have T2 : Hid True := trivial)
      | (have hh := T0; clear hh; refine (KN.out _ _ ?_).mono ?_; omega; rintro e w1 ⟨rfl, b1⟩; have H1 : Hid (Below w.heap.size w w1) := H0.out.trans (b1.out.mono H0.out.size); clear b1 T0; have T1 : Hid True := trivial))
    | (go_at_call 13; first
      | (have hh := T7; clear hh; refine (KF.out _ _ _ ?_).mono ?_; omega; rintro e w8 ⟨rfl, b8⟩; have H8 : Hid (Below w.heap.size w w8) := H7.out.trans (b8.out.mono H7.out.size); clear b8 T7; have T8 : Hid True := trivial)
      | (have hh := T6; clear hh; refine (KF.out _ _ _ ?_).mono ?_; omega; rintro e w7 ⟨rfl, b7⟩; have H7 : Hid (Below w.heap.size w w7) := H6.out.trans (b7.out.mono H6.out.size); clear b7 T6; have T7 : Hid True := trivial)
      | (have hh := T5; clear hh; refine (KT.out _ _ ?_).mono ?_; omega; rintro e w6 ⟨rfl, b6⟩; have H6 : Hid (Below w.heap.size w w6) := H5.out.trans (b6.out.mono H5.out.size); clear b6 T5; have T6 : Hid True := trivial)
      | (have hh := T4; clear hh; refine (KR.out _ _ _ I4.out).mono ?_; rintro e w5 ⟨rfl, b5⟩; have H5 : Hid (Below w.heap.size w w5) := H4.out.trans (b5.out.mono H4.out.size); clear b5 T4; have T5 : Hid True := trivial))
    | (go_at_call 12; refine (num_any _ _).mono ?_; rintro e wn ⟨rfl, rfl⟩))
  go_ret
  exact ⟨rfl, H8.out⟩
theorem componentsForms_walk (w : World) (a0 : Int) (w0 : (Lit.int .i64 a0).wf = true) (a1 : Int) (w1 : (Lit.int .i64 a1).wf = true) (a2 : Int) (w2 : (Lit.int .i64 a2).wf = true) :
    Calls Try.prog 6 #[.int .i64 a0, .int .i64 a1, .int .i64 a2] w fun e w' => e = .returned (.bool true) ∧ Below w.heap.size w w' := by
  obtain ⟨d, hd, ed⟩ := andM 63 (by decide) a1
  obtain ⟨k, hk, ek⟩ := andM 31 (by decide) a0
  rcases mod4 a2 with ew | ew | ew | ew
  · exact forms_0 a0 a1 a2 d k hd hk ed ek ew w
  · exact forms_1 a0 a1 a2 d k hd hk ed ek ew w
  · exact forms_2 a0 a1 a2 d k hd hk ed ek ew w
  · exact forms_3 a0 a1 a2 d k hd hk ed ek ew w
end Go.Proofs.Ytalckpaeleflnaa
