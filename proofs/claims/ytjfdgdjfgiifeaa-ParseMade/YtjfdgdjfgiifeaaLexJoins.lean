/- LexJoins: two texts with a line's end between have both's tokens, or the second one's error, so many places on: at every argument, with no condition. -/
import Derived.Test.YtjfdgdjfgiifeaaLexes
import Derived.Test.YtjfdgdjfgiifeaaLexPlac
namespace Go.Proofs.Ytjfdgdjfgiifeaa
set_option linter.unusedVariables false
open Go.ChangeShapes Go.WideShapes Go.ChangeAt Go.RowKit

theorem lexS_err (b : Nat → Int) (n : Nat) : ∀ f k p x, lexS b n f k = .error (p, x) → x = 200 ∨ x = 201
  | 0, k, p, x, h => by cases h
  | f + 1, k, p, x, h => by
    have h' : (if n ≤ skp b n false k then Except.ok [] else match tokF b n (skp b n false k) with
      | .ok (t, to) => Res.cons t (lexS b n f to)
      | .error true => .error (skp b n false k, 201)
      | .error false => .error (skp b n false k, 200)) = .error (p, x) := h
    by_cases h1 : n ≤ skp b n false k
    · rw [if_pos h1] at h'; cases h'
    · rw [if_neg h1] at h'
      rcases hg : tokF b n (skp b n false k) with (_ | _) | ⟨t, to⟩
      · rw [hg] at h'; injection h' with h'; injection h' with _ h'; exact Or.inl h'.symm
      · rw [hg] at h'; injection h' with h'; injection h' with _ h'; exact Or.inr h'.symm
      · rw [hg] at h'
        have h2 : Res.cons t (lexS b n f to) = .error (p, x) := h'
        cases hg2 : lexS b n f to with
        | ok l2 => rw [hg2] at h2; cases h2
        | error e =>
          rw [hg2] at h2
          obtain ⟨p', x'⟩ := e
          injection h2 with h2; injection h2 with e1 e2
          exact lexS_err b n f to p x (by rw [hg2, e1, e2])
theorem lexT_err {s : ByteArray} {p x : Nat} (h : lexT s = .error (p, x)) : x = 200 ∨ x = 201 := by
  by_cases hs : 65536 < s.size
  · rw [lexT, lexB, if_pos hs] at h; injection h with h; injection h with _ h; exact Or.inr h.symm
  · rw [lexT, lexB, if_neg hs] at h; exact lexS_err _ _ _ _ _ _ h
theorem lexT_ok_len {s : ByteArray} {l : List Tok} (h : lexT s = .ok l) : l.length ≤ 65536 := by
  have := lexT_len s
  rw [h] at this
  exact this
/-- A call of Lex whose answer is not looked at. -/
theorem lex_some (s : ByteArray) (hs : s.size ≤ maxLen) (w : World) :
    Calls Try.prog 17 #[.string s] w fun e w' => ∃ q n c : Nat, ∃ p : Option Addr, ∃ x : Nat, e = .returned (.tuple #[.slice p n c, .int .i64 (q : Int), .int .i64 (x : Int)]) ∧ n ≤ 65536 ∧ Below w.heap.size w w' := by
  refine (lex_any s w hs).mono ?_
  rintro e w1 ⟨v, rfl, hown, hb⟩
  obtain ⟨p, cap, hv⟩ := row_slice hown
  subst hv
  exact ⟨_, _, _, _, _, rfl, lexT_len s, hb⟩

set_option maxHeartbeats 4000000 in
set_option maxRecDepth 100000 in
theorem joins_a (w : World) (s : ByteArray) (hs : s.size ≤ 140737488351232) (t : ByteArray) (ht : t.size ≤ 140737488351232) (p x : Nat) (hA : lexT s = .error (p, x)) :
    Calls Try.prog 4 #[.string s, .string t] w fun e w' => e = .returned (.bool true) ∧ Below w.heap.size w w' := by
  have hx : ((x : Int) != 0) = true := by rcases lexT_err hA with e | e <;> subst e <;> rfl
  have L1 := fun w => lex_err hA (by unfold maxLen; omega) w
  have L2 := fun w => lex_some t (by unfold maxLen; omega) w
  have L3 := fun w => lex_some (s ++ ⟨#[10]⟩ ++ t) (by unfold maxLen; simp only [ByteArray.size_append]; show s.size + 1 + t.size ≤ _; omega) w
  clear hA
  go_enter Try.func4, Try.ntmps4
  go_wp2_with (first | (go_at_call 21; refine (awake_any _).mono ?_; rintro e wa ⟨rfl, ha⟩; have B0 : Hid (Below w.heap.size w wa) := ha; clear ha) | (go_at_call 17; first | (have hh := B2; clear hh; refine (L3 _).mono ?_; rintro e w3 ⟨q3, n3, c3, p3, x3, rfl, z3, b3⟩; have B3 : Hid (Below w.heap.size w w3) := B2.out.trans (b3.mono B2.out.size); clear b3) | (have hh := B1; clear hh; refine (L2 _).mono ?_; rintro e w2 ⟨q2, n2, c2, p2, x2, rfl, z2, b2⟩; have B2 : Hid (Below w.heap.size w w2) := B1.out.trans (b2.mono B1.out.size); clear b2) | (refine (L1 _).mono ?_; rintro e w1 ⟨q1, c1, rfl, b1⟩; have B1 : Hid (Below w.heap.size w w1) := B0.out.trans (b1.mono B0.out.size); clear b1)) | (go_at_call 20; refine (num_any _ _).mono ?_; rintro e wn ⟨rfl, rfl⟩))
  all_goals go_ret
  all_goals exact ⟨rfl, B3.out⟩

set_option maxHeartbeats 4000000 in
set_option maxRecDepth 100000 in
theorem joins_b (w : World) (s : ByteArray) (hs : s.size ≤ 140737488351232) (t : ByteArray) (ht : t.size ≤ 140737488351232) (l : List Tok) (hA : lexT s = .ok l) (hz : (65536 : Int) - (t.size : Int) ≤ (s.size : Int)) :
    Calls Try.prog 4 #[.string s, .string t] w fun e w' => e = .returned (.bool true) ∧ Below w.heap.size w w' := by
  have L1 := fun w => lex_ok hA (by unfold maxLen; omega) w
  have L2 := fun w => lex_some t (by unfold maxLen; omega) w
  have L3 := fun w => lex_some (s ++ ⟨#[10]⟩ ++ t) (by unfold maxLen; simp only [ByteArray.size_append]; show s.size + 1 + t.size ≤ _; omega) w
  clear hA
  go_enter Try.func4, Try.ntmps4
  go_wp2_with (first | (go_at_call 21; refine (awake_any _).mono ?_; rintro e wa ⟨rfl, ha⟩; have B0 : Hid (Below w.heap.size w wa) := ha; clear ha) | (go_at_call 17; first | (have hh := B2; clear hh; refine (L3 _).mono ?_; rintro e w3 ⟨q3, n3, c3, p3, x3, rfl, z3, b3⟩; have B3 : Hid (Below w.heap.size w w3) := B2.out.trans (b3.mono B2.out.size); clear b3) | (have hh := B1; clear hh; refine (L2 _).mono ?_; rintro e w2 ⟨q2, n2, c2, p2, x2, rfl, z2, b2⟩; have B2 : Hid (Below w.heap.size w w2) := B1.out.trans (b2.mono B1.out.size); clear b2) | (refine (L1 _).mono ?_; rintro e w1 ⟨q1, c1, rfl, T1, b1⟩; have B1 : Hid (Below w.heap.size w w1) := B0.out.trans (b1.mono B0.out.size); clear b1 T1)) | (go_at_call 20; refine (num_any _ _).mono ?_; rintro e wn ⟨rfl, rfl⟩))
  all_goals go_ret
  all_goals exact ⟨rfl, B3.out⟩

theorem pre_ok_sh (l m : List Tok) (d : Nat) : Res.pre l (Res.sh d (.ok m)) = .ok (l ++ m.map (Tok.sh d)) := rfl

set_option maxHeartbeats 4000000 in
set_option maxRecDepth 100000 in
theorem joins_c (w : World) (s t : ByteArray) (la : List Tok) (hA : lexT s = .ok la) (hz : s.size + t.size < 65536) (p x : Nat) (hB : lexT t = .error (p, x)) (hp : p ≤ 65536) :
    Calls Try.prog 4 #[.string s, .string t] w fun e w' => e = .returned (.bool true) ∧ Below w.heap.size w w' := by
  have hx : ((x : Int) != 0) = true := by rcases lexT_err hB with e | e <;> subst e <;> rfl
  have hj : lexT (s ++ ⟨#[10]⟩ ++ t) = .error (p + (s.size + 1), x) := by
    rw [lex_join s t 10 (Or.inr (Or.inl rfl)) (Or.inl rfl) la hA (by omega), hB]; rfl
  have L1 := fun w => lex_ok hA (by unfold maxLen; omega) w
  have L2 := fun w => lex_err hB (by unfold maxLen; omega) w
  have L3 : ∀ w, Calls Try.prog 17 #[.string (s ++ ⟨#[10]⟩ ++ t)] w fun e w' => ∃ q cap, e = .returned (.tuple #[.slice q 0 cap, .int .i64 ((p : Int) + (s.size : Int) + 1), .int .i64 (x : Int)]) ∧ Below w.heap.size w w' := fun w => by
    have h := lex_err hj (by unfold maxLen; simp only [ByteArray.size_append]; show s.size + 1 + t.size ≤ _; omega) w
    rw [show ((p + (s.size + 1) : Nat) : Int) = (p : Int) + (s.size : Int) + 1 by omega] at h
    exact h
  clear hA hB hj
  go_enter Try.func4, Try.ntmps4
  go_wp2_with (first | (go_at_call 21; refine (awake_any _).mono ?_; rintro e wa ⟨rfl, ha⟩; have B0 : Hid (Below w.heap.size w wa) := ha; clear ha) | (go_at_call 17; first | (have hh := B2; clear hh; refine (L3 _).mono ?_; rintro e w3 ⟨q3, c3, rfl, b3⟩; have B3 : Hid (Below w.heap.size w w3) := B2.out.trans (b3.mono B2.out.size); clear b3) | (have hh := B1; clear hh; refine (L2 _).mono ?_; rintro e w2 ⟨q2, c2, rfl, b2⟩; have B2 : Hid (Below w.heap.size w w2) := B1.out.trans (b2.mono B1.out.size); clear b2) | (refine (L1 _).mono ?_; rintro e w1 ⟨q1, c1, rfl, T1, b1⟩; have B1 : Hid (Below w.heap.size w w1) := B0.out.trans (b1.mono B0.out.size); clear b1 T1)) | (go_at_call 20; refine (num_any _ _).mono ?_; rintro e wn ⟨rfl, rfl⟩))
  all_goals go_ret
  all_goals exact ⟨rfl, B3.out⟩

/-- A row of tokens at one of its places. -/
theorem TRow.cells {w : World} {p : Option Addr} {n cap : Nat} {l : List Tok} (h : TRow w (.slice p n cap) l) {k : Nat} {t : Tok} (hk : l[k]? = some t) : ∃ g, p = some ⟨g, 0, none⟩ ∧ g < w.heap.size ∧
    w.cell? ⟨g, k * 5, none⟩ = some (.int .i64 (t.kind : Int)) ∧ w.cell? ⟨g, k * 5 + 1, none⟩ = some (.int .i64 (t.pl : Int)) ∧ w.cell? ⟨g, k * 5 + 2, none⟩ = some (.string t.text) ∧ w.cell? ⟨g, k * 5 + 3, none⟩ = some (.int .i64 t.lo) ∧ w.cell? ⟨g, k * 5 + 4, none⟩ = some (.int .i64 t.hi) := by
  obtain ⟨p', c', e, hc⟩ := h
  injection e with e1 e2 e3
  subst e1
  exact hc k t hk

set_option maxHeartbeats 4000000 in
set_option maxRecDepth 100000 in
theorem joins_d (w : World) (s t : ByteArray) (la lb : List Tok) (hA : lexT s = .ok la) (hz : s.size + t.size < 65536) (hB : lexT t = .ok lb) :
    Calls Try.prog 4 #[.string s, .string t] w fun e w' => e = .returned (.bool true) ∧ Below w.heap.size w w' := by
  have hj : lexT (s ++ ⟨#[10]⟩ ++ t) = .ok (la ++ lb.map (Tok.sh (s.size + 1))) := by
    rw [lex_join s t 10 (Or.inr (Or.inl rfl)) (Or.inl rfl) la hA (by omega), hB]; rfl
  have L1 := fun w => lex_ok hA (by unfold maxLen; omega) w
  have L2 := fun w => lex_ok hB (by unfold maxLen; omega) w
  have L3 : ∀ w, Calls Try.prog 17 #[.string (s ++ ⟨#[10]⟩ ++ t)] w fun e w' => ∃ p cap, e = .returned (.tuple #[.slice p (la.length + lb.length) cap, .int .i64 0, .int .i64 0]) ∧ TRow w' (.slice p (la.length + lb.length) cap) (la ++ lb.map (Tok.sh (s.size + 1))) ∧ Below w.heap.size w w' := fun w => by
    have h := lex_ok hj (by unfold maxLen; simp only [ByteArray.size_append]; show s.size + 1 + t.size ≤ _; omega) w
    rw [List.length_append, List.length_map] at h
    exact h
  have la5 := lexT_ok_len hA
  have lb5 := lexT_ok_len hB
  obtain ⟨rb, -⟩ := lexT_row hB
  have RB : Hid (Row (PlainAid.bt t) t.size 0 lb) := rb
  clear hA hB hj rb
  go_enter Try.func4, Try.ntmps4
  go_wp2_with (first | (go_at_call 21; refine (awake_any _).mono ?_; rintro e wa ⟨rfl, ha⟩; have B0 : Hid (Below w.heap.size w wa) := ha; clear ha) | (go_at_call 17; first | (have hh := B2; clear hh; refine (L3 _).mono ?_; rintro e w3 ⟨q3, c3, rfl, T3, b3⟩; have B3 : Hid (Below w.heap.size w w3) := B2.out.trans (b3.mono B2.out.size); have R3 : Hid (TRow w3 (.slice q3 (la.length + lb.length) c3) (la ++ lb.map (Tok.sh (s.size + 1)))) := T3; have S1 : Hid (TRow w3 (.slice q1 la.length c1) la) := R1.out.keep b3; have S2 : Hid (TRow w3 (.slice q2 lb.length c2) lb) := R2.out.keep b3; clear b3 T3) | (have hh := B1; clear hh; refine (L2 _).mono ?_; rintro e w2 ⟨q2, c2, rfl, T2, b2⟩; have B2 : Hid (Below w.heap.size w w2) := B1.out.trans (b2.mono B1.out.size); have R1 : Hid (TRow w2 (.slice q1 la.length c1) la) := T1.out.keep b2; have R2 : Hid (TRow w2 (.slice q2 lb.length c2) lb) := T2; clear b2 T1 T2) | (refine (L1 _).mono ?_; rintro e w1 ⟨q1, c1, rfl, t1, b1⟩; have B1 : Hid (Below w.heap.size w w1) := B0.out.trans (b1.mono B0.out.size); have T1 : Hid (TRow w1 (.slice q1 la.length c1) la) := t1; clear b1 t1)) | (go_at_call 20; refine (num_any _ _).mono ?_; rintro e wn ⟨rfl, rfl⟩))
  clear R1 R2
  go_loopw [14] (fun i wr => ∃ k : Nat, k ≤ la.length + lb.length ∧ i = .int .i64 k ∧ Below w3.heap.size w3 wr) (fun i _ => la.length + lb.length - (intOf i).toNat)
  case atStart => exact ⟨0, by omega, rfl, Below.refl _ _⟩
  case round =>
    obtain ⟨k, hk, rfl, hW⟩ := hrel
    have HW : Hid (Below w3.heap.size w3 wr) := hW
    have heq := Try.eqTok
    have hsz : w3.heap.size ≤ wr.heap.size := hW.size
    by_cases hla : k < la.length
    · obtain ⟨u, hu⟩ : ∃ u, la[k]? = some u := ⟨_, List.getElem?_eq_getElem hla⟩
      obtain ⟨g1, hp, hg1, a0, a1, a2, a3, a4⟩ := (R3.out.keep hW).cells (by rw [List.getElem?_append_left hla]; exact hu)
      obtain ⟨g2, hq, hg2, b0, b1, b2, b3, b4⟩ := (S1.out.keep hW).cells hu
      subst hp hq
      generalize (u.kind : Int) = x0 at a0 b0
      generalize (u.pl : Int) = x1 at a1 b1
      generalize u.text = x2 at a2 b2
      generalize u.lo = x3 at a3 b3
      generalize u.hi = x4 at a4 b4
      clear hu hW
      go_wp2
      go_quiet (fail)
      go_wp2
      go_roundw
      case rel =>
        have hb := HW.out.alloc hsz (.cells #[.int .i64 x0, .int .i64 x1, .string x2, .int .i64 x3, .int .i64 x4] 33)
        exact ⟨k + 1, by omega, by go_num, ⟨hb.os, hb.tape, hb.output, hb.size, hb.block⟩⟩
      case measure => simp [intOf]; omega
    · by_cases hlt : k < la.length + lb.length
      · obtain ⟨u, hu⟩ : ∃ u, lb[k - la.length]? = some u := ⟨_, List.getElem?_eq_getElem (by omega)⟩
        obtain ⟨g1, hp, hg1, a0, a1, a2, a3, a4⟩ := (R3.out.keep hW).cells (k := k) (t := Tok.sh (s.size + 1) u) (by rw [List.getElem?_append_right (by omega), List.getElem?_map, hu]; rfl)
        obtain ⟨g2, hq, hg2, b0, b1, b2, b3, b4⟩ := (S2.out.keep hW).cells hu
        have hpl := (RB.out.at hu).1.hi
        subst hp hq
        have a1' : wr.cell? ⟨g1, k * 5 + 1, none⟩ = some (.int .i64 ((u.pl : Int) + (s.size : Int) + 1)) := by rw [a1]; show some (Value.int .i64 ((u.pl + (s.size + 1) : Nat) : Int)) = _; rw [show ((u.pl + (s.size + 1) : Nat) : Int) = (u.pl : Int) + (s.size : Int) + 1 by omega]
        have a0' : wr.cell? ⟨g1, k * 5, none⟩ = some (.int .i64 (u.kind : Int)) := a0
        have a2' : wr.cell? ⟨g1, k * 5 + 2, none⟩ = some (.string u.text) := a2
        have a3' : wr.cell? ⟨g1, k * 5 + 3, none⟩ = some (.int .i64 u.lo) := a3
        have a4' : wr.cell? ⟨g1, k * 5 + 4, none⟩ = some (.int .i64 u.hi) := a4
        have hx1 : (0 : Int) ≤ (u.pl : Int) := by omega
        have hx2 : (u.pl : Int) ≤ 65536 := by omega
        obtain ⟨j, hj⟩ : ∃ j : Nat, k = la.length + j := ⟨k - la.length, by omega⟩
        subst hj
        rw [show la.length + j - la.length = j by omega] at b0 b1 b2 b3 b4
        generalize (u.kind : Int) = x0 at a0' b0
        generalize (u.pl : Int) = x1 at a1' b1 hx1 hx2
        generalize u.text = x2 at a2' b2
        generalize u.lo = x3 at a3' b3
        generalize u.hi = x4 at a4' b4
        clear hu hW a0 a1 a2 a3 a4 hpl
        go_wp2
        go_quiet (fail)
        go_wp2
        go_roundw
        case rel =>
          have hb := HW.out.alloc hsz (.cells #[.int .i64 x0, .int .i64 (x1 + (s.size : Int) + 1 - (s.size : Int) - 1), .string x2, .int .i64 x3, .int .i64 x4] 33)
          exact ⟨la.length + j + 1, by omega, by go_num, ⟨hb.os, hb.tape, hb.output, hb.size, hb.block⟩⟩
        case measure => simp [intOf]; omega
      · obtain rfl : k = la.length + lb.length := by omega
        go_wp2
        go_ret
        exact ⟨rfl, B3.out.trans (HW.out.mono B3.out.size)⟩

theorem lexJoins_walk (w : World) (s : ByteArray) (hs : s.size ≤ 140737488351232) (t : ByteArray) (ht : t.size ≤ 140737488351232) :
    Calls Try.prog 4 #[.string s, .string t] w fun e w' => e = .returned (.bool true) ∧ Below w.heap.size w w' := by
  cases hA : lexT s with
  | error e => exact joins_a w s hs t ht e.1 e.2 hA
  | ok la =>
    by_cases hz : s.size + t.size < 65536
    · cases hB : lexT t with
      | error e => exact joins_c w s t la hA hz e.1 e.2 hB (lexT_at hB).2
      | ok lb => exact joins_d w s t la lb hA hz hB
    · exact joins_b w s hs t ht la hA (by omega)

set_option linter.unusedVariables false
theorem lexJoins_own : ownKnob Try.prog.godebug = none := by kernel_rfl
set_option maxRecDepth 100000 in
theorem lexJoins_lifted (os : Os) (started : os.Started) (H : Type) (enc : TypeId × Value → H) :
    ReturnsInHanded {} Try.checked os 4 .any (Rows.lexJoinsSpec.pre6 enc Try.prog Try.f4 Rows.lexJoinsRow.domain false) (Rows.lexJoinsSpec.post enc Try.prog Try.f4 false true false false) := by
  refine returnsInHanded_of_change_sized (C := Try.checked) lexJoins_own started (by kernel_rfl) Try.func4
    (ChangeSpec.witness6 (enc := enc) (C := Try.checked) false ⟨#[], #[.string ⟨#[]⟩, .string ⟨#[]⟩], []⟩ 8 (by kernel_rfl) (by kernel_rfl) (by kernel_rfl) (by kernel_rfl)) ?_
  intro W base args ds gs before hval0 hW hcnd hsz0 _
  have hsz : (DataW.weightsEach Try.prog (Try.f4.params.toList ++ Rows.lexJoinsSpec.plain.varTypes Try.prog) (ds ++ gs)).all (· ≤ reachBytes) = true := hsz0
  have hval : ∀ (j : Nat) t v, Try.f4.params[j]? = some t → args[j]? = some v → Value.okWide Try.prog W .any base t v := hval0
  have hW' := hW
  obtain ⟨p, q, hA0, hV, rfl, hfz, hnd⟩ := hW
  have hA : DataW.TrodAll enc Try.prog W 0 (fun _ => true) true Try.f4.params.toList args.toList ds p := hA0
  rw [Try.params4] at hA hval hsz
  obtain ⟨v0, vs0, d0, ds0, p0, q0, hargs, rfl, rfl, h0, r0⟩ := trodAll_cons hA
  obtain ⟨v1, vs1, d1, ds1, p1, q1, rfl, rfl, rfl, h1, r1⟩ := trodAll_cons r0
  obtain ⟨rfl, rfl, rfl⟩ := trodAll_nil r1
  obtain rfl : args = #[v0, v1] := by cases args; simp_all
  obtain ⟨rfl, rfl⟩ := trodVars_none hV
  clear hA0 hval0 hsz0
  have k0 := h0
  have lt0 : ∀ x ∈ p0, x.block < W.heap.size := fun x hx => by have := hW'.lt x (by simp [hx]); simpa using this
  have k1 := h1
  have lt1 : ∀ x ∈ p1, x.block < W.heap.size := fun x hx => by have := hW'.lt x (by simp [hx]); simpa using this
  obtain ⟨a0, rfl, rfl, rfl, -⟩ := ChangeMaps.open_string Try.underlying9 (hval 0 9 v0 rfl rfl) h0
  have w0 := str_reach hsz (j := 0) (t := 9) (s := a0) rfl rfl
  obtain ⟨a1, rfl, rfl, rfl, -⟩ := ChangeMaps.open_string Try.underlying9 (hval 1 9 v1 rfl rfl) h1
  have w1 := str_reach hsz (j := 1) (t := 9) (s := a1) rfl rfl
  refine (lexJoins_walk W a0 w0 a1 w1).mono fun e W' ⟨he, bel⟩ => ?_
  subst he
  exact ⟨_, rfl, _, _, _, [], _, [], hW', trodAll_mk1 (shut_bool Try.underlying4 _), (trodAll_cons_mk (Below.trod Try.laidOutB (by kernel_rfl) (of_decide_eq_true (by kernel_rfl)) k0 bel lt0) (trodAll_cons_mk (Below.trod Try.laidOutB (by kernel_rfl) (of_decide_eq_true (by kernel_rfl)) k1 bel lt1) trodAll_mk0)), rfl, bel.frame _, fun h => by cases h⟩

theorem lexJoins_holds : Rows.LexJoinsSaid :=
  OpenClaim.holds_of_wide 4 Try.f4 rfl rfl rfl rfl rfl rfl rfl ⟨rfl, rfl, rfl, rfl, rfl⟩ rfl rfl rfl rfl rfl (by kernel_rfl) Try.func4 (by kernel_rfl)
    (of_decide_eq_true (by kernel_rfl)) (by unfold Func.isWrapper; first | (rw [if_pos (by decide +kernel)]; kernel_rfl) | (rw [if_neg (by decide +kernel)]; exact ⟨rfl, rfl⟩))
    (fun os started H enc _ => lexJoins_lifted os started H enc)
#print axioms lexJoins_holds
end Go.Proofs.Ytjfdgdjfgiifeaa
