/- Names and their numbers; the program's May against its plain function. -/
import Derived.Test.YtopnhbgialbicaaGramRule
import Derived.Test.YtopnhbgialbicaaGramAid
namespace Go.Proofs.Ytopnhbgialbicaa
set_option linter.unusedVariables false
open Go.ChangeShapes Go.WideShapes Go.ChangeAt Go.RowKit Go.Maps

theorem Try.keyed : Keyed Try.prog 9 := string_keyed Try.underlying9
theorem Try.zeroInt (w : World) : (zeroValue 3).run Try.prog w = .ok (.int .i64 0) w := by kernel_rfl
theorem Try.underMap : Try.prog.underlying 55 = some (.map 9 3) := by kernel_rfl
abbrev NMap (w : World) (B : Nat) (l : List ByteArray) : Prop := NumMap Try.prog 9 3 w B l

set_option maxRecDepth 100000 in
set_option maxHeartbeats 2000000 in
theorem isName_any (s : ByteArray) (hs : s.size ≤ maxLen) (w : World) : Calls Try.prog 32 #[.string s] w fun e w' => e = .returned (.bool (isNameT s)) ∧ Below w.heap.size w w' := by
  by_cases h32 : s.size ≤ 32
  · rw [show isNameT s = nameL s (lexT s) by simp [isNameT, h32]]
    cases hA : lexT s with
    | error e =>
      obtain ⟨at', x⟩ := e
      have hx : ((x : Int) == 0) = false := by
        have h := lexErrK hA
        rcases h with h | h <;> subst h <;> rfl
      have L1 := fun w => lex_err hA hs w
      clear hA
      show Calls _ _ _ _ fun e w' => e = .returned (.bool false) ∧ _
      go_enter Try.func32, Try.ntmps32
      go_wp2_with (go_at_call 38; refine (L1 _).mono ?_; rintro e w1 ⟨q1, c1, rfl, b1⟩)
      go_ret
      exact ⟨rfl, b1⟩
    | ok l =>
      have L1 := fun w => lex_ok hA hs w
      clear hA
      match l, L1 with
      | [], L1 =>
        show Calls _ _ _ _ fun e w' => e = .returned (.bool false) ∧ _
        have L2 : ∀ w, Calls Try.prog 38 #[.string s] w fun e w' => ∃ p cap, e = .returned (.tuple #[.slice p 0 cap, .int .i64 0, .int .i64 0]) ∧ Below w.heap.size w w' := fun w => (L1 w).mono fun e w' ⟨p, cap, h1, _, h3⟩ => ⟨p, cap, h1, h3⟩
        clear L1
        go_enter Try.func32, Try.ntmps32
        go_wp2_with (go_at_call 38; refine (L2 _).mono ?_; rintro e w1 ⟨q1, c1, rfl, b1⟩)
        go_ret
        exact ⟨rfl, b1⟩
      | a :: b :: l, L1 =>
        show Calls _ _ _ _ fun e w' => e = .returned (.bool false) ∧ _
        have L2 : ∃ n : Nat, ((n : Int) == 1) = false ∧ ∀ w, Calls Try.prog 38 #[.string s] w fun e w' => ∃ p cap, e = .returned (.tuple #[.slice p n cap, .int .i64 0, .int .i64 0]) ∧ Below w.heap.size w w' :=
          ⟨l.length + 1 + 1, by simp; omega, fun w => (L1 w).mono fun e w' ⟨p, cap, h1, _, h3⟩ => ⟨p, cap, h1, h3⟩⟩
        obtain ⟨n, hn, L2⟩ := L2
        clear L1
        go_enter Try.func32, Try.ntmps32
        go_wp2_with (go_at_call 38; refine (L2 _).mono ?_; rintro e w1 ⟨q1, c1, rfl, b1⟩)
        go_ret
        exact ⟨rfl, b1⟩
      | [t], L1 =>
        obtain ⟨kd, pl, tx, lo, hi⟩ := t
        have L2 : ∀ w, Calls Try.prog 38 #[.string s] w fun e w' => ∃ g cap, e = .returned (.tuple #[.slice (some ⟨g, 0, none⟩) 1 cap, .int .i64 0, .int .i64 0]) ∧ w'.cell? ⟨g, 0, none⟩ = some (.int .i64 (kd : Int)) ∧ w'.cell? ⟨g, 2, none⟩ = some (.string tx) ∧ Below w.heap.size w w' := fun w => (L1 w).mono (by
          rintro e w' ⟨p, cap, h1, h2, h3⟩
          obtain ⟨g, hp, hg, c0, c1, c2, c3, c4⟩ := tok_at h2 (k := 0) rfl
          subst hp
          exact ⟨g, cap, h1, c0, c2, h3⟩)
        clear L1
        have E : nameL s (.ok [⟨kd, pl, tx, lo, hi⟩]) = (decide (kd = 0) && decide (tx = s)) := rfl
        rw [E]
        by_cases e0 : kd = 0
        · by_cases e1 : tx = s
          · subst e0 e1
            rw [show (decide (0 = 0) && decide (tx = tx)) = true by simp]
            go_enter Try.func32, Try.ntmps32
            go_wp2_with (go_at_call 38; refine (L2 _).mono ?_; rintro e w1 ⟨q1, c1, rfl, k0, k2, b1⟩)
            go_ret
            exact ⟨by simp [go_sem], b1⟩
          · subst e0
            rw [show (decide (0 = 0) && decide (tx = s)) = false by simp [e1]]
            go_enter Try.func32, Try.ntmps32
            go_wp2_with (go_at_call 38; refine (L2 _).mono ?_; rintro e w1 ⟨q1, c1, rfl, k0, k2, b1⟩)
            go_ret
            exact ⟨by simp [go_sem]; exact fun h => e1 (ba_inj h), b1⟩
        · rw [show (decide (kd = 0) && decide (tx = s)) = false by simp [e0]]
          have e0' : ((kd : Int) == 0) = false := by simp; omega
          go_enter Try.func32, Try.ntmps32
          go_wp2_with (go_at_call 38; refine (L2 _).mono ?_; rintro e w1 ⟨q1, c1, rfl, k0, k2, b1⟩)
          go_ret
          exact ⟨rfl, b1⟩
  · rw [show isNameT s = false by simp [isNameT, h32]]
    unfold maxLen at hs
    go_enter Try.func32, Try.ntmps32
    go_wp2
    go_ret
    exact ⟨rfl, Below.refl _ _⟩

theorem take_snoc {α : Type} {l : List α} {k : Nat} {a : α} (h : l[k]? = some a) : l.take (k + 1) = l.take k ++ [a] := by
  rw [List.take_add_one, h]; rfl
theorem take_len {α : Type} {l : List α} {k : Nat} (h : k ≤ l.length) : (l.take k).length = k := by simp; omega
set_option maxRecDepth 100000 in
set_option maxHeartbeats 2000000 in
theorem number_any (v : Value) (l : List ByteArray) (w : World) {F : Nat → Prop} (ha : IsTexts w F v l) (hl : ∀ s, s ∈ l → s.size ≤ maxLen) : Calls Try.prog 11 #[v] w fun e w' => e = .returned (.tuple #[.map (some w.heap.size), .int .i64 (again l : Int)]) ∧ again l ≤ l.length ∧ NMap w' w.heap.size (l.take (again l)) ∧ Below w.heap.size w w' ∧ w.heap.size < w'.heap.size := by
  obtain ⟨p, cp, rfl, hm, hca⟩ := ha
  replace hm := hm.1
  unfold maxLen at hm
  have HA : Hid (0 < l.length → ∃ g o, p = some ⟨g, o, none⟩ ∧ F g ∧ g < w.heap.size ∧ (∀ j c, (txV l)[j]? = some c → w.cell? ⟨g, o + j, none⟩ = some c) ∧ ∀ j, j < ((txV l)).length → w.frozen? ⟨g, o + j, none⟩ = false) := hca
  have HL : Hid (∀ s, s ∈ l → s.size ≤ maxLen) := hl
  clear hca hl
  obtain ⟨R, hR⟩ : ∃ R, R = again l := ⟨_, rfl⟩
  have HR : Hid (againT [] l 0 = R) := hR.symm
  rw [← hR]
  clear hR
  have hmm := @run_makeMap Try.prog
  go_enter Try.func11, Try.ntmps11
  go_wp2
  go_loopw [12] (fun i wr => ∃ k : Nat, k ≤ l.length ∧ i = .int .i64 k ∧ Hid (Below w.heap.size w wr) ∧ Hid (NMap wr w.heap.size (l.take k)) ∧ Hid (againT (l.take k) (l.drop k) k = R) ∧ w.heap.size < wr.heap.size) (fun i _ => l.length - (intOf i).toNat)
  case atStart => exact ⟨0, by omega, rfl, bel1 _ _, NumMap.new _ _ _ _, HR, by simp⟩
  case round =>
    obtain ⟨k, hk, rfl, HW, HM, HT, hws⟩ := hrel
    by_cases hlt : k < l.length
    · obtain ⟨s, ht⟩ : ∃ t, l[k]? = some t := ⟨_, List.getElem?_eq_getElem hlt⟩
      obtain ⟨g1, o1, hp, -, hg1, ca, -⟩ := HA.out (by omega)
      subst hp
      have a0 := (HW.out.cell (p := ⟨_, _, none⟩) hg1).trans (ca k (.string s) (by simp [txV, ht]))
      obtain ⟨D, hown, hD, hd⟩ := HM.out
      rw [take_len hk] at hown
      have hsz : s.size ≤ maxLen := HL.out s (List.mem_of_getElem? ht)
      have hkey : keyOf Try.prog 9 (.string s) = some (litS s) := WideMaps.keyOf_string_mk Try.underlying9 hsz
      have HT2 := HT.out
      rw [drop_at ht, againT] at HT2
      have kwf : (Lit.int .i64 (k : Int)).wf = true := WalkArith.wf_i64 (by omega)
      have kmx : k < maxLen := by unfold maxLen; omega
      cases hkn : known (l.take k) s with
      | true =>
        have hh : Maps.has D (litS s) = true := (hd s).1.trans hkn
        rw [if_pos hkn] at HT2
        subst HT2
        clear ca ht hg1 hD hd hkn
        go_wp2_with (first | (at_lookup; refine wpList_lookup_own_ok_int _ rfl _ _ 55 rfl 9 3 .i64 Try.keyed Try.underMap Try.underlying3 (Try.zeroInt _) w.heap.size k D rfl hown _ _ rfl hkey ?_; intro c hat hwc; rw [hh]))
        refine bodyPost_ret (v := .tuple #[.map (some w.heap.size), .int .i64 (k : Int)]) (by simp [results, Try.results11, go_sem]) rfl ?_
        exact ⟨rfl, hk, HM, HW, hws⟩
      | false =>
        have hh : Maps.has D (litS s) = false := (hd s).1.trans hkn
        rw [if_neg (by rw [hkn]; decide), ← take_snoc ht] at HT2
        have HN : Hid (againT (l.take (k + 1)) (l.drop (k + 1)) (k + 1) = R) := HT2
        have HP : ∀ w1, w1.ownsMap Try.prog 9 (plainElem Try.prog 3) w.heap.size (k + 1) (D.put (litS s) (.lit (.int .i64 (k : Int)))) → NMap w1 w.heap.size (l.take (k + 1)) := fun w1 h => by
          rw [take_snoc ht]
          refine NumMap.put hD hd hkn ?_
          rw [take_len hk]; exact h
        clear ca ht hg1 hD hd hkn HT2
        go_wp2_with (first | (at_lookup; refine wpList_lookup_own_ok_int _ rfl _ _ 55 rfl 9 3 .i64 Try.keyed Try.underMap Try.underlying3 (Try.zeroInt _) w.heap.size k D rfl hown _ _ rfl hkey ?_; intro c hat hwc; rw [hh]) | (at_mapUpdate; refine wpList_mapUpdate_own _ rfl _ _ _ 55 rfl 9 3 Try.keyed Try.underMap _ w.heap.size k _ rfl hown kmx _ _ _ rfl rfl hkey _ [] (plainElem_int Try.underlying3 kwf) ?_; intro w1 hown1 hgrow1))
        go_roundw
        case rel => exact ⟨k + 1, by omega, by go_num, HW.out.grown hgrow1 HW.out.size (fun j hj => by cases hj; exact Nat.le_refl _), HP _ hown1, HN, Nat.lt_of_lt_of_le hws hgrow1.size⟩
        case measure => simp [intOf]; omega
    · obtain rfl : k = l.length := by omega
      have HT2 := HT.out
      rw [List.drop_length] at HT2
      have e : l.length = R := HT2
      subst e
      go_wp2
      refine bodyPost_ret (v := .tuple #[.map (some w.heap.size), .int .i64 (l.length : Int)]) (by simp [results, Try.results11, go_sem]) rfl ?_
      exact ⟨rfl, Nat.le_refl _, HM, HW, hws⟩
end Go.Proofs.Ytopnhbgialbicaa
