/- Heads, rules, names: the program's tests against their plain functions. -/
import Derived.Test.YteafdfalgeeheaaGramMay
import Derived.Test.YteafdfalgeeheaaLexPlac
namespace Go.Proofs.Yteafdfalgeeheaa
set_option linter.unusedVariables false
open Go.ChangeShapes Go.WideShapes Go.ChangeAt Go.RowKit

theorem drop_at {α : Type} {l : List α} {k : Nat} {a : α} (h : l[k]? = some a) : l.drop k = a :: l.drop (k + 1) := by
  have hlt : k < l.length := (List.getElem?_eq_some_iff.1 h).1
  have e : l[k] = a := (List.getElem?_eq_some_iff.1 h).2
  rw [List.drop_eq_getElem_cons hlt, e]
theorem bel_al {B : Nat} {w w1 w2 : World} (h : Below B w w1) (hB : B ≤ w1.heap.size) (o : Obj) (h2 : Below (w1.alloc o).heap.size (w1.alloc o) w2) : Below B w w2 :=
  (h.alloc hB o).trans (h2.mono (Nat.le_trans hB (le_alloc _ _)))
theorem Reads.slc {w : World} {F : Nat → Prop} {v : Value} {n : Nat} {cs : List Value} (h : Reads w F v n cs) : ∃ p c, v = .slice p n c := by
  obtain ⟨p, c, e, _⟩ := h
  exact ⟨p, c, e⟩
theorem IsCns.slc {w : World} {F : Nat → Prop} {v : Value} {l : List Cn} (h : IsCns w F v l) : ∃ p c, v = .slice p l.length c := by
  obtain ⟨_, h, _⟩ := h
  exact h.slc

set_option maxHeartbeats 4000000 in
set_option maxRecDepth 100000 in
theorem mayHeads_any (K : Nat) (v : Value) (l : List Ru) (w : World) {F : Nat → Prop} (ha : IsRus w F v l) (hK : K ≤ maxLen) : Calls Try.prog 43 #[v, .int .i64 (K : Int)] w fun e w' => e = .returned (.bool (mayHeads K (-1) l)) ∧ Below w.heap.size w w' := by
  obtain ⟨us, ⟨p, cp, rfl, hm, hca⟩, hla, hia⟩ := ha
  replace hm := hm.1
  unfold maxLen at hm hK
  have HA : Hid (0 < l.length → ∃ g o, p = some ⟨g, o, none⟩ ∧ F g ∧ g < w.heap.size ∧ (∀ j c, (rusV l us)[j]? = some c → w.cell? ⟨g, o + j, none⟩ = some c) ∧ ∀ j, j < ((rusV l us)).length → w.frozen? ⟨g, o + j, none⟩ = false) := hca
  have IA : Hid (us.length = l.length ∧ ∀ (k : Nat) (c : Ru) (u : Value), l[k]? = some c → us[k]? = some u → IsCns w F u c.conj) := ⟨hla, hia⟩
  clear hca hla hia
  obtain ⟨R, hR⟩ : ∃ R, R = mayHeads K (-1) l := ⟨_, rfl⟩
  have HR : Hid (R = mayHeads K (-1) l) := hR
  rw [← hR]
  clear hR
  go_enter Try.func43, Try.ntmps43
  go_wp2
  go_loopw [5, 10] (fun x i wr => ∃ (k : Nat) (z : Int), k ≤ l.length ∧ x = .int .i64 z ∧ i = .int .i64 k ∧ Hid (Below w.heap.size w wr) ∧ Hid (mayHeads K z (l.drop k) = R) ∧ -1 ≤ z ∧ (z < (K : Int) ∨ z = -1)) (fun _ i _ => l.length - (intOf i).toNat)
  case atStart => exact ⟨0, -1, by omega, rfl, rfl, Below.refl _ _, HR.out.symm, by omega, Or.inr rfl⟩
  case round =>
    obtain ⟨k, z, hk, rfl, rfl, HW, HT, hz1, hz2⟩ := hrel
    have hzz : z < 9223372036854775807 := by omega
    by_cases hlt : k < l.length
    · obtain ⟨t, ht⟩ : ∃ t, l[k]? = some t := ⟨_, List.getElem?_eq_getElem hlt⟩
      obtain ⟨u, hu⟩ : ∃ u, us[k]? = some u := ⟨_, List.getElem?_eq_getElem (by rw [IA.out.1]; exact hlt)⟩
      obtain ⟨g1, o1, hp, -, hg1, ca, -⟩ := HA.out (by omega)
      subst hp
      obtain ⟨i0, i1⟩ := rusV_at l us k t u ht hu
      have a0 := (HW.out.cell (p := ⟨_, _, none⟩) hg1).trans (ca _ _ i0)
      have a1 := (HW.out.cell (p := ⟨_, _, none⟩) hg1).trans (reas (ca _ _ i1))
      obtain ⟨u1, u2, hx⟩ := (IA.out.2 k t u ht hu).slc
      subst hx
      have HD : Hid (l.drop k = t :: l.drop (k + 1)) := drop_at ht
      obtain ⟨hd, cj⟩ := t
      simp only at a0 a1
      have NU := fun w => isNumber_any hd K w
      cases hn : isNum hd K with
      | false =>
        rw [hn] at NU
        have HN : Hid (R = false) := by show _ = _; rw [← HT.out, HD.out]; unfold mayHeads; rw [hn]; rfl
        clear ca ht hu hg1 i0 i1 hn
        go_wp2_with (go_at_call 42; refine (NU _).mono ?_; rintro e wn ⟨rfl, rfl⟩)
        go_ret
        exact ⟨by rw [HN.out]; rfl, HW.out.alloc HW.out.size _⟩
      | true =>
        rw [hn] at NU
        have hn1 : 0 ≤ hd ∧ hd < (K : Int) := by simpa [isNum] using hn
        by_cases e1 : hd = z
        · have HN : Hid (mayHeads K hd (l.drop (k + 1)) = R) := by show _ = _; rw [← HT.out, HD.out]; rw [mayHeads, hn]; simp [e1]
          clear ca ht hu hg1 i0 i1 hn
          subst e1
          have e1' : (hd != hd) = false := by simp
          go_wp2_with (go_at_call 42; refine (NU _).mono ?_; rintro e wn ⟨rfl, rfl⟩)
          go_roundw
          case rel => exact ⟨k + 1, hd, by omega, rfl, by go_num, HW.out.alloc HW.out.size _, HN, by omega, Or.inl hn1.2⟩
          case measure => simp [intOf]; omega
        · by_cases e2 : hd = z + 1
          · have HN : Hid (mayHeads K hd (l.drop (k + 1)) = R) := by show _ = _; rw [← HT.out, HD.out]; rw [mayHeads, hn]; simp [e2]
            clear ca ht hu hg1 i0 i1 hn
            have e1' : (hd != z) = true := by simp [e1]
            subst e2
            have e2' : (z + 1 != z + 1) = false := by simp
            go_wp2_with (go_at_call 42; refine (NU _).mono ?_; rintro e wn ⟨rfl, rfl⟩)
            go_roundw
            case rel => exact ⟨k + 1, z + 1, by omega, rfl, by go_num, HW.out.alloc HW.out.size _, HN, by omega, Or.inl hn1.2⟩
            case measure => simp [intOf]; omega
          · have HN : Hid (R = false) := by show _ = _; rw [← HT.out, HD.out]; rw [mayHeads, hn]; simp [e1, e2]
            clear ca ht hu hg1 i0 i1 hn
            have e1' : (hd != z) = true := by simp [e1]
            have e2' : (hd != z + 1) = true := by simp [e2]
            go_wp2_with (go_at_call 42; refine (NU _).mono ?_; rintro e wn ⟨rfl, rfl⟩)
            go_ret
            exact ⟨by rw [HN.out]; rfl, HW.out.alloc HW.out.size _⟩
    · obtain rfl : k = l.length := by omega
      have HN : Hid (R = decide (z = (K : Int) - 1)) := by show _ = _; rw [← HT.out, List.drop_length]; rfl
      by_cases e1 : z = (K : Int) - 1
      · have e1' : (z == (K : Int) - 1) = true := by simp [e1]
        go_wp2
        go_ret
        exact ⟨by rw [HN.out]; simp [e1, go_sem], HW.out⟩
      · have e1' : (z == (K : Int) - 1) = false := by simp [e1]
        go_wp2
        go_ret
        exact ⟨by rw [HN.out]; simp [e1, go_sem], HW.out⟩
end Go.Proofs.Yteafdfalgeeheaa
