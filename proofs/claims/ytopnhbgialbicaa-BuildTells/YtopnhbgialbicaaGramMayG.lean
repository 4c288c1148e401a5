/- The program's May against its plain function. -/
import Derived.Test.YtopnhbgialbicaaGramName
namespace Go.Proofs.Ytopnhbgialbicaa
set_option linter.unusedVariables false
open Go.ChangeShapes Go.WideShapes Go.ChangeAt Go.RowKit Go.Maps

set_option maxRecDepth 100000 in
set_option maxHeartbeats 2000000 in
theorem mayNames_any (v : Value) (l : List ByteArray) (w : World) {F : Nat → Prop} (ha : IsTexts w F v l) (hl : ∀ s, s ∈ l → s.size ≤ maxLen) : Calls Try.prog 16 #[v] w fun e w' => e = .returned (.bool (mayNames l)) ∧ Below w.heap.size w w' := by
  have HI : Hid (IsTexts w F v l) := ha
  obtain ⟨p, cp, rfl, hm, hca⟩ := ha
  replace hm := hm.1
  unfold maxLen at hm
  have HA : Hid (0 < l.length → ∃ g o, p = some ⟨g, o, none⟩ ∧ F g ∧ g < w.heap.size ∧ (∀ j c, (txV l)[j]? = some c → w.cell? ⟨g, o + j, none⟩ = some c) ∧ ∀ j, j < ((txV l)).length → w.frozen? ⟨g, o + j, none⟩ = false) := hca
  have HL : Hid (∀ s, s ∈ l → s.size ≤ maxLen) := hl
  clear hca hl
  by_cases h1 : 1 ≤ l.length
  · by_cases h2 : l.length ≤ 64
    · rw [show mayNames l = (l.all isNameT && decide (again l = l.length)) by simp [mayNames, h1, h2]]
      obtain ⟨R, hR⟩ : ∃ R, R = l.all isNameT := ⟨_, rfl⟩
      have HR : Hid (R = l.all isNameT) := hR
      rw [← hR]
      clear hR
      go_enter Try.func16, Try.ntmps16
      go_wp2
      go_loopw [17] (fun i wr => ∃ k : Nat, k ≤ l.length ∧ i = .int .i64 k ∧ Hid (Below w.heap.size w wr) ∧ Hid ((l.take k).all isNameT = true)) (fun i _ => l.length - (intOf i).toNat)
      case atStart => exact ⟨0, by omega, rfl, Below.refl _ _, rfl⟩
      case round =>
        obtain ⟨k, hk, rfl, HW, HT⟩ := hrel
        by_cases hlt : k < l.length
        · obtain ⟨s, ht⟩ : ∃ t, l[k]? = some t := ⟨_, List.getElem?_eq_getElem hlt⟩
          obtain ⟨g1, o1, hp, -, hg1, ca, -⟩ := HA.out (by omega)
          have a0 := (HW.out.cell (p := ⟨_, _, none⟩) hg1).trans (ca k (.string s) (by simp [txV, ht]))
          subst hp
          have NA := fun w => isName_any s (HL.out s (List.mem_of_getElem? ht)) w
          cases hs : isNameT s with
          | true =>
            rw [hs] at NA
            have HN : Hid ((l.take (k + 1)).all isNameT = true) := by show _ = _; rw [take_all ht, hs, HT.out]; rfl
            clear ca ht hg1 hs
            go_wp2_with (go_at_call 32; refine (NA _).mono ?_; rintro e w2 ⟨rfl, b2⟩)
            go_roundw
            case rel => exact ⟨k + 1, by omega, by go_num, HW.out.trans (b2.mono HW.out.size), HN⟩
            case measure => simp [intOf]; omega
          | false =>
            rw [hs] at NA
            have HN : Hid (R = false) := by show _ = _; rw [HR.out]; exact all_false ht hs
            clear ca ht hg1 hs
            go_wp2_with (go_at_call 32; refine (NA _).mono ?_; rintro e w2 ⟨rfl, b2⟩)
            go_ret
            exact ⟨by rw [HN.out]; rfl, HW.out.trans (b2.mono HW.out.size)⟩
        · obtain rfl : k = l.length := by omega
          have HN : Hid (R = true) := by show _ = _; rw [HR.out]; have := HT.out; rwa [List.take_length] at this
          have NU : ∀ w2, Below w.heap.size w w2 → Calls Try.prog 11 #[.slice p l.length cp] w2 fun e w' => e = .returned (.tuple #[.map (some w2.heap.size), .int .i64 (again l : Int)]) ∧ again l ≤ l.length ∧ NMap w' w2.heap.size (l.take (again l)) ∧ Below w2.heap.size w2 w' ∧ w2.heap.size < w'.heap.size := fun w2 hb => number_any _ l w2 (HI.out.any hb) HL.out
          by_cases ea : again l = l.length
          · have HE : Hid (again l = l.length) := ea
            have ea' : ((again l : Int) == (l.length : Int)) = true := by simp [ea]
            generalize again l = ag at NU ea'
            clear ea
            go_wp2_with (go_at_call 11; refine (NU _ HW.out).mono ?_; rintro e w2 ⟨rfl, hag, hnm, b2, hsz⟩; clear hnm)
            go_ret
            exact ⟨by rw [HN.out]; simp [go_sem, HE.out], HW.out.trans (b2.mono HW.out.size)⟩
          · have HE : Hid (¬ again l = l.length) := ea
            have ea' : ((again l : Int) == (l.length : Int)) = false := by simp; omega
            generalize again l = ag at NU ea'
            clear ea
            go_wp2_with (go_at_call 11; refine (NU _ HW.out).mono ?_; rintro e w2 ⟨rfl, hag, hnm, b2, hsz⟩; clear hnm)
            go_ret
            exact ⟨by rw [HN.out]; simp [go_sem, HE.out], HW.out.trans (b2.mono HW.out.size)⟩
    · rw [show mayNames l = false by simp [mayNames, h1, h2]]
      go_enter Try.func16, Try.ntmps16
      go_wp2
      go_ret
      exact ⟨rfl, Below.refl _ _⟩
  · rw [show mayNames l = false by simp [mayNames, h1]]
    go_enter Try.func16, Try.ntmps16
    go_wp2
    go_ret
    exact ⟨rfl, Below.refl _ _⟩

theorem IsRus.slc {w : World} {F : Nat → Prop} {v : Value} {l : List Ru} (h : IsRus w F v l) : ∃ p c, v = .slice p l.length c := by
  obtain ⟨_, h, _⟩ := h
  exact h.slc
/-- A variable of three cells, behind what is new. -/
theorem var3 {w w' : World} {a b c : Value} {t : TypeId} (hb : Below (w.alloc (.cells #[a, b, c] t)).heap.size (w.alloc (.cells #[a, b, c] t)) w') : w'.cell? ⟨w.heap.size, 0, none⟩ = some a ∧ w'.cell? ⟨w.heap.size, 1, none⟩ = some b ∧ w'.cell? ⟨w.heap.size, 2, none⟩ = some c := by
  have hz : (w.alloc (.cells #[a, b, c] t)).heap.size = w.heap.size + 1 := by simp
  have hc : ∀ j, w'.cell? ⟨w.heap.size, j, none⟩ = (w.alloc (.cells #[a, b, c] t)).cell? ⟨w.heap.size, j, none⟩ := fun j => hb.cell (p := ⟨_, _, none⟩) (by rw [hz]; exact Nat.lt_succ_self _)
  exact ⟨(hc 0).trans (World.cell?_alloc_at _ _ _ _ rfl), (hc 1).trans (World.cell?_alloc_at _ _ _ _ rfl), (hc 2).trans (World.cell?_alloc_at _ _ _ _ rfl)⟩
set_option maxRecDepth 100000 in
set_option maxHeartbeats 4000000 in
theorem may_any (g : Gr) (v1 v2 : Value) (w : World) {F : Nat → Prop} (hg : GrIs w F v1 v2 g) (hl : ∀ s, s ∈ g.names → s.size ≤ maxLen) (hS : Short g.rules) : Calls Try.prog 7 #[.agg #[.int .i64 g.start, v1, v2]] w fun e w' => e = .returned (.bool (mayG g)) ∧ Below w.heap.size w w' := by
  have M1 : ∀ w2, Below w.heap.size w w2 → Calls Try.prog 16 #[v1] w2 fun e w' => e = .returned (.bool (mayNames g.names)) ∧ Below w2.heap.size w2 w' := fun w2 hb => mayNames_any v1 g.names w2 (hg.1.any hb) hl
  have M2 : ∀ w2, Calls Try.prog 17 #[.int .i64 g.start, .int .i64 (g.names.length : Int)] w2 fun e w' => e = .returned (.bool (isNum g.start g.names.length)) ∧ w2 = w' := fun w2 => isNumber_any _ _ _
  obtain ⟨q1, c1, hv1, hk, -⟩ := hg.1
  have hkm := hk.1
  have M3 : ∀ w2, Below w.heap.size w w2 → Calls Try.prog 18 #[v2, .int .i64 (g.names.length : Int)] w2 fun e w' => e = .returned (.bool (mayHeads g.names.length (-1) g.rules)) ∧ Below w2.heap.size w2 w' := fun w2 hb => mayHeads_any _ v2 g.rules w2 (hg.2.any hb) hkm
  have M4 : ∀ w2, Below w.heap.size w w2 → Calls Try.prog 19 #[v2, .int .i64 (g.names.length : Int)] w2 fun e w' => e = .returned (.bool (mayRules g.names.length g.rules)) ∧ Below w2.heap.size w2 w' := fun w2 hb => mayRules_any _ v2 g.rules w2 (hg.2.any hb) hS
  obtain ⟨q2, c2, hv2⟩ := hg.2.slc
  subst hv1 hv2
  unfold mayG
  generalize mayHeads g.names.length (-1) g.rules = r3 at M3 ⊢
  generalize mayRules g.names.length g.rules = r4 at M4 ⊢
  generalize mayNames g.names = r1 at M1 ⊢
  generalize isNum g.start g.names.length = r2 at M2 ⊢
  generalize g.names.length = n at M1 M2 M3 M4 hkm
  generalize g.start = z at M2 ⊢
  generalize g.rules.length = m at M3 M4
  unfold maxLen at hkm
  clear hk hg hl hS
  cases r1 with
  | false =>
    show Calls _ _ _ _ fun e w' => e = .returned (.bool false) ∧ _
    go_enter Try.func7, Try.ntmps7
    go_wp2_with (go_at_call 16; refine (M1 _ (bel1 _ _)).mono ?_; rintro e w1 ⟨rfl, b1⟩)
    go_ret
    exact ⟨rfl, bel_al (Below.refl _ _) (Nat.le_refl _) _ b1⟩
  | true =>
    cases r2 with
    | false =>
      show Calls _ _ _ _ fun e w' => e = .returned (.bool false) ∧ _
      go_enter Try.func7, Try.ntmps7
      go_wp2_with (first | (go_at_call 16; refine (M1 _ (bel1 _ _)).mono ?_; rintro e w1 ⟨rfl, b1⟩; obtain ⟨x0, x1, x2⟩ := var3 b1) | (go_at_call 17; refine (M2 _).mono ?_; rintro e w2 ⟨rfl, rfl⟩))
      go_ret
      exact ⟨rfl, bel_al (Below.refl _ _) (Nat.le_refl _) _ b1⟩
    | true =>
      cases r3 with
      | false =>
        show Calls _ _ _ _ fun e w' => e = .returned (.bool false) ∧ _
        go_enter Try.func7, Try.ntmps7
        go_wp2_with (first | (go_at_call 16; refine (M1 _ (bel1 _ _)).mono ?_; rintro e w1 ⟨rfl, b1⟩; obtain ⟨x0, x1, x2⟩ := var3 b1; have B1 : Hid (Below w.heap.size w w1) := bel_al (Below.refl _ _) (Nat.le_refl _) _ b1) | (go_at_call 17; refine (M2 _).mono ?_; rintro e w2 ⟨rfl, rfl⟩) | (go_at_call 18; refine (M3 _ B1.out).mono ?_; rintro e w3 ⟨rfl, b3⟩))
        go_ret
        exact ⟨rfl, B1.out.trans (b3.mono B1.out.size)⟩
      | true =>
        cases r4 with
        | false =>
          show Calls _ _ _ _ fun e w' => e = .returned (.bool false) ∧ _
          go_enter Try.func7, Try.ntmps7
          go_wp2_with (first | (go_at_call 16; refine (M1 _ (bel1 _ _)).mono ?_; rintro e w1 ⟨rfl, b1⟩; obtain ⟨x0, x1, x2⟩ := var3 b1; have B1 : Hid (Below w.heap.size w w1) := bel_al (Below.refl _ _) (Nat.le_refl _) _ b1) | (go_at_call 17; refine (M2 _).mono ?_; rintro e w2 ⟨rfl, rfl⟩) | (go_at_call 18; refine (M3 _ B1.out).mono ?_; rintro e w3 ⟨rfl, b3⟩; have B3 : Hid (Below w.heap.size w w3) := B1.out.trans (b3.mono B1.out.size); obtain ⟨y0, y1, y2⟩ := var3 (b1.trans (b3.mono b1.size))) | (go_at_call 19; refine (M4 _ B3.out).mono ?_; rintro e w4 ⟨rfl, b4⟩))
          go_ret
          exact ⟨rfl, B3.out.trans (b4.mono B3.out.size)⟩
        | true =>
          show Calls _ _ _ _ fun e w' => e = .returned (.bool true) ∧ _
          go_enter Try.func7, Try.ntmps7
          go_wp2_with (first | (go_at_call 16; refine (M1 _ (bel1 _ _)).mono ?_; rintro e w1 ⟨rfl, b1⟩; obtain ⟨x0, x1, x2⟩ := var3 b1; have B1 : Hid (Below w.heap.size w w1) := bel_al (Below.refl _ _) (Nat.le_refl _) _ b1) | (go_at_call 17; refine (M2 _).mono ?_; rintro e w2 ⟨rfl, rfl⟩) | (go_at_call 18; refine (M3 _ B1.out).mono ?_; rintro e w3 ⟨rfl, b3⟩; have B3 : Hid (Below w.heap.size w w3) := B1.out.trans (b3.mono B1.out.size); obtain ⟨y0, y1, y2⟩ := var3 (b1.trans (b3.mono b1.size))) | (go_at_call 19; refine (M4 _ B3.out).mono ?_; rintro e w4 ⟨rfl, b4⟩))
          go_ret
          exact ⟨rfl, B3.out.trans (b4.mono B3.out.size)⟩
end Go.Proofs.Ytopnhbgialbicaa
