/- The document's test of a grammar. -/
import Derived.Test.YtopnhbgialbicaaRefRule
namespace Go.Proofs.Ytopnhbgialbicaa
set_option linter.unusedVariables false
open Go.ChangeShapes Go.WideShapes Go.ChangeAt Go.RowKit

theorem ruGo_drop {K : Nat} {h : Int} {m : Nat} {l : List Ru} {k : Nat} {r : Ru} (e : l[k]? = some r) : ruGo K h m (l.drop k) = (headOk K h r && (ruleOk K r.conj && ruGo K r.head (m + rowsSum r.conj) (l.drop (k + 1)))) := by
  have hk : k < l.length := (List.getElem?_eq_some_iff.1 e).1
  rw [List.drop_eq_getElem_cons hk]
  have : l[k] = r := (List.getElem?_eq_some_iff.1 e).2
  rw [this]; rfl
set_option maxRecDepth 100000 in
set_option maxHeartbeats 8000000 in
theorem mayG_ref (g : Gr) (v1 v2 : Value) (w : World) {F : Nat → Prop} (hg : GrIs w F v1 v2 g) (hn : ∀ s, s ∈ g.names → s.size ≤ maxLen) : Calls Try.prog 8 #[.agg #[.int .i64 g.start, v1, v2]] w fun e w' => e = .returned (.bool (refMayT g)) ∧ Below w.heap.size w w' := by
  obtain ⟨st, names, l⟩ := g
  obtain ⟨ha, hb⟩ := hg
  simp only at ha hb hn
  obtain ⟨p, cp, rfl, hm, -⟩ := id ha
  obtain ⟨us, ⟨q, cq, rfl, hm', -⟩, -⟩ := id hb
  replace hm := hm.1
  replace hm' := hm'.1
  unfold maxLen at hm hm'
  have HA : Hid (IsTexts w F (.slice p names.length cp) names) := ha
  have HB : Hid (IsRus w F (.slice q l.length cq) l) := hb
  have HL : Hid (∀ s, s ∈ names → s.size ≤ maxLen) := hn
  clear ha hb hn
  show Calls Try.prog 8 #[.agg #[.int .i64 st, .slice p names.length cp, .slice q l.length cq]] w _
  cases hS : sizesOk ⟨st, names, l⟩ with
  | false =>
    rw [show refMayT ⟨st, names, l⟩ = false by unfold refMayT; rw [hS]; rfl]
    simp only [sizesOk, isNum, Bool.and_eq_false_iff, decide_eq_false_iff_not] at hS
    clear HA HB HL
    by_cases c1 : names.length < 1
    · go_enter Try.func8, Try.ntmps8
      go_wp2
      go_ret
      exact ⟨rfl, bel1 _ _⟩
    by_cases c2 : 64 < names.length
    · go_enter Try.func8, Try.ntmps8
      go_wp2
      go_ret
      exact ⟨rfl, bel1 _ _⟩
    by_cases c3 : st < 0
    · go_enter Try.func8, Try.ntmps8
      go_wp2
      go_ret
      exact ⟨rfl, bel1 _ _⟩
    by_cases c4 : (names.length : Int) ≤ st
    · go_enter Try.func8, Try.ntmps8
      go_wp2
      go_ret
      exact ⟨rfl, bel1 _ _⟩
    by_cases c5 : l.length < 1
    · go_enter Try.func8, Try.ntmps8
      go_wp2
      go_ret
      exact ⟨rfl, bel1 _ _⟩
    have c6 : 256 < l.length := by omega
    clear hS
    go_enter Try.func8, Try.ntmps8
    go_wp2
    go_ret
    exact ⟨rfl, bel1 _ _⟩
  | true =>
    obtain ⟨R, hR⟩ : ∃ R, R = refMayT ⟨st, names, l⟩ := ⟨_, rfl⟩
    have HR : Hid (R = (namesOk names && ruGo names.length (-1) 0 l)) := by show _ = _; rw [hR]; unfold refMayT; rw [hS]; rfl
    rw [← hR]
    clear hR
    simp only [sizesOk, isNum, Bool.and_eq_true, decide_eq_true_eq] at hS
    obtain ⟨c1, c2, ⟨c3, c4⟩, c5, c6⟩ := hS
    go_enter Try.func8, Try.ntmps8
    go_wp2
    have B0 : Hid (Below w.heap.size w (w.alloc (.cells #[.int .i64 st, .slice p names.length cp, .slice q l.length cq] 29))) := bel1 w _
    have HA0 : Hid (IsTexts (w.alloc (.cells #[.int .i64 st, .slice p names.length cp, .slice q l.length cq] 29)) F (.slice p names.length cp) names) := HA.out.any B0.out
    have HB0 : Hid (IsRus (w.alloc (.cells #[.int .i64 st, .slice p names.length cp, .slice q l.length cq] 29)) F (.slice q l.length cq) l) := HB.out.any B0.out
    have x1 : (w.alloc (.cells #[.int .i64 st, .slice p names.length cp, .slice q l.length cq] 29)).cell? ⟨w.heap.size, 1, none⟩ = some (.slice p names.length cp) := World.cell?_alloc_at _ _ _ _ rfl
    have x2 : (w.alloc (.cells #[.int .i64 st, .slice p names.length cp, .slice q l.length cq] 29)).cell? ⟨w.heap.size, 2, none⟩ = some (.slice q l.length cq) := World.cell?_alloc_at _ _ _ _ rfl
    have hsz : w.heap.size < (w.alloc (.cells #[.int .i64 st, .slice p names.length cp, .slice q l.length cq] 29)).heap.size := by simp
    generalize w.alloc (.cells #[.int .i64 st, .slice p names.length cp, .slice q l.length cq] 29) = W0 at B0 HA0 HB0 x1 x2 hsz ⊢
    clear HA HB
    go_loopw [3] (fun i wr => ∃ k n : Nat, k ≤ names.length ∧ i = .int .i64 k ∧ wr = W0.drewN n ∧ Hid (∀ j, j < k → nameAt names j = true)) (fun i _ => names.length - (intOf i).toNat)
    case atStart => exact ⟨0, 0, by omega, rfl, rfl, fun j hj => absurd hj (Nat.not_lt_zero _)⟩
    case round =>
      obtain ⟨k, n, hk, rfl, hwr, HT⟩ := hrel
      have HWR : Hid (wr = W0.drewN n) := hwr
      have hcl : ∀ a, wr.cell? a = W0.cell? a := fun a => by rw [hwr]; rfl
      have hbw : Below W0.heap.size W0 wr := by rw [hwr]; exact drewN_below W0 n
      have x1' := (hcl _).trans x1
      clear hwr
      by_cases hlt : k < names.length
      · obtain ⟨t, ht⟩ : ∃ t, names[k]? = some t := ⟨_, List.getElem?_eq_getElem hlt⟩
        have htd : names.getD k ⟨#[]⟩ = t := by rw [List.getD_eq_getElem?_getD, ht]; rfl
        have NM : ∀ m, Calls Try.prog 20 #[.string t] (wr.drewN m) fun e w' => e = .returned (.bool (nameMayD t)) ∧ ∃ n, w' = (wr.drewN m).drewN n := fun m => (nameMay_ref t (HL.out t (List.mem_of_getElem? ht)) (wr.drewN m)).mono (by rintro e w' ⟨rfl, rfl⟩; exact ⟨rfl, 0, rfl⟩)
        have FI : ∀ m, Calls Try.prog 21 #[.slice p names.length cp, .string t] (wr.drewN m) fun e w' => e = .returned (.int .i64 (findT names t)) ∧ ∃ n, w' = (wr.drewN m).drewN n := fun m => (find_ref _ names t (wr.drewN m) ((HA0.out.any hbw).any (drewN_below wr m))).mono (by rintro e w' ⟨rfl, rfl⟩; exact ⟨rfl, 0, rfl⟩)
        have HNA : Hid (nameAt names k = (nameMayD t && decide (findT names t = (k : Int)))) := by show _ = _; unfold nameAt; rw [htd]
        obtain ⟨p', cp', e1, -, hca⟩ := HA0.out
        injection e1 with e1 e1n e1c
        subst e1 e1c
        clear e1n
        obtain ⟨g1, o1, hp, -, hg1, ca, -⟩ := hca (by omega)
        subst hp
        have a0 := (hcl _).trans (ca k (.string t) (by simp [txV, ht]))
        have HNO : Hid (nameAt names k = false → R = false) := fun e => by
          rw [HR.out]
          have : namesOk names = false := by
            unfold namesOk
            rw [List.all_eq_false]
            exact ⟨k, List.mem_range.2 hlt, by rw [e]; decide⟩
          rw [this]; rfl
        have HYES : Hid (nameAt names k = true → ∀ j, j < k + 1 → nameAt names j = true) := fun e j hj => by
          by_cases ej : j = k
          · rw [ej]; exact e
          · exact HT.out j (by omega)
        have HF : Hid (∀ n, Below w.heap.size w (wr.drewN n)) := fun n => by rw [HWR.out, World.drewN_drewN]; exact below_drewN B0.out _
        clear ca ht hg1 hca hcl hbw x1 x2 htd HL
        generalize findT names t = z at FI HNA
        cases hnm : nameMayD t with
        | false =>
          rw [hnm] at NM HNA
          have HM' : Hid (R = false) := HNO.out (by rw [HNA.out]; rfl)
          clear HNO HYES HNA hnm
          go_wp2
          go_quiet (first | (go_at_call 20; exact Calls.quiet_of (NM _)) | (go_at_call 21; exact Calls.quiet_of (FI _)))
          go_wp2
          go_ret
          exact ⟨by rw [HM'.out]; rfl, HF.out _⟩
        | true =>
          rw [hnm] at NM HNA
          by_cases ez : z = (k : Int)
          · have HN : Hid (∀ j, j < k + 1 → nameAt names j = true) := HYES.out (by rw [HNA.out, ez]; simp)
            subst ez
            clear HNO HYES HNA hnm
            go_wp2
            go_quiet (first | (go_at_call 20; exact Calls.quiet_of (NM _)) | (go_at_call 21; exact Calls.quiet_of (FI _)))
            go_wp2
            go_roundw
            case rel => exact ⟨k + 1, _, by omega, by go_num, by rw [HWR.out, World.drewN_drewN], HN⟩
            case measure => simp [intOf]; omega
          · have HM' : Hid (R = false) := HNO.out (by rw [HNA.out]; simp [ez])
            have ez' : (z != (k : Int)) = true := by rw [bne_iff_ne]; exact ez
            clear HNO HYES HNA hnm
            go_wp2
            go_quiet (first | (go_at_call 20; exact Calls.quiet_of (NM _)) | (go_at_call 21; exact Calls.quiet_of (FI _)))
            go_wp2
            go_ret
            exact ⟨by rw [HM'.out]; rfl, HF.out _⟩
      · obtain rfl : k = names.length := by omega
        have HG0 : Hid (ruGo names.length (-1) 0 l = R) := by
          show _ = _
          rw [HR.out]
          have : namesOk names = true := by
            unfold namesOk
            rw [List.all_eq_true]
            exact fun j hj => HT.out j (List.mem_range.1 hj)
          rw [this]; rfl
        have HBR : Hid (IsRus wr F (.slice q l.length cq) l) := HB0.out.any hbw
        have BR : Hid (Below w.heap.size w wr) := B0.out.trans (hbw.mono B0.out.size)
        have x2' := (hcl _).trans x2
        have hsr : w.heap.size < wr.heap.size := Nat.lt_of_lt_of_le hsz hbw.size
        clear HA0 HB0 HT HR hcl hbw x1 x2 HWR hsz B0
        obtain ⟨W1, hW1⟩ : ∃ W1, W1 = wr := ⟨_, rfl⟩
        subst hW1
        generalize hK : names.length = K at *
        clear hK
        go_wp2
        go_loopw [4, 5, 6] (fun z m i w2 => ∃ (k : Nat) (zz : Int) (mm : Nat), k ≤ l.length ∧ z = .int .i64 zz ∧ m = .int .i64 mm ∧ i = .int .i64 k ∧ -1 ≤ zz ∧ zz < (K : Int) ∧ mm ≤ 512 * k ∧ Hid (Below W1.heap.size W1 w2) ∧ Hid (ruGo K zz mm (l.drop k) = R)) (fun _ _ i _ => l.length - (intOf i).toNat)
        case atStart => exact ⟨0, -1, 0, by omega, rfl, rfl, rfl, by omega, by omega, by omega, Below.refl _ _, HG0.out⟩
        case round =>
          obtain ⟨k, zz, mm, hk, rfl, rfl, rfl, z1, z2, hmm, HW, HG⟩ := hrel
          have y1 := (HW.out.cell (p := ⟨w.heap.size, 1, none⟩) hsr).trans x1'
          have y2 := (HW.out.cell (p := ⟨w.heap.size, 2, none⟩) hsr).trans x2'
          have BF : Hid (Below w.heap.size w wr) := BR.out.trans (HW.out.mono BR.out.size)
          by_cases hlt : k < l.length
          · obtain ⟨us, ⟨q', cq', e1, -, hca⟩, hla, hia⟩ := HBR.out.any HW.out
            injection e1 with e1 e1n e1c
            subst e1 e1c
            clear e1n
            obtain ⟨⟨hd, cj⟩, ht⟩ : ∃ t, l[k]? = some t := ⟨_, List.getElem?_eq_getElem hlt⟩
            obtain ⟨u, hu⟩ : ∃ u, us[k]? = some u := ⟨_, List.getElem?_eq_getElem (by rw [hla]; exact hlt)⟩
            obtain ⟨g1, o1, hp, -, hg1, ca, -⟩ := hca (by omega)
            subst hp
            obtain ⟨i0, i1⟩ := rusV_at l us k _ u ht hu
            have a0 := ca _ _ i0
            have a1 := reas (ca _ _ i1)
            simp only at a0
            have SI : ∀ w', Below wr.heap.size wr w' → Calls Try.prog 22 #[.agg #[.int .i64 hd, u], .int .i64 (K : Int)] w' fun e w'' => e = .returned (ruleEnd K cj) ∧ Below w'.heap.size w' w'' := fun w' hb => ruleMay_ref hd K u cj w' ((hia k _ u ht hu).any hb)
            obtain ⟨r1, r2, r3, hx⟩ : ∃ x1 x2 x3, u = .slice x1 x2 x3 := by
              obtain ⟨_, ⟨x1, x3, e, _⟩, _⟩ := hia k _ u ht hu
              exact ⟨_, _, _, e⟩
            subst hx
            have HD : Hid ((headOk K zz ⟨hd, cj⟩ && (ruleOk K cj && ruGo K hd (mm + rowsSum cj) (l.drop (k + 1)))) = R) := by rw [← ruGo_drop ht]; exact HG.out
            have kk0 : (0 : Int) ≤ (k : Int) := by omega
            have kk1 : (k : Int) < (l.length : Int) := by omega
            clear ca ht hg1 hu hca hla hia i0 i1 HG
            by_cases b1 : hd < 0
            · have HM' : Hid (R = false) := by show _ = _; rw [← HD.out]; simp [headOk, show ¬ 0 ≤ hd by omega]
              clear SI HD
              go_wp2
              go_ret
              exact ⟨by rw [HM'.out]; rfl, BF.out⟩
            by_cases b2 : hd = zz ∨ hd = zz + 1
            · by_cases b3 : (K : Int) ≤ hd
              · have HM' : Hid (R = false) := by show _ = _; rw [← HD.out]; simp [headOk, show ¬ hd < (K : Int) by omega]
                have n1 : (hd != zz) = true := by rw [bne_iff_ne]; omega
                have n2 : (hd != zz + 1) = false := by rw [bne_eq_false_iff_eq]; omega
                clear SI HD
                go_wp2
                go_ret
                exact ⟨by rw [HM'.out]; rfl, BF.out⟩
              · have HD2 : Hid ((ruleOk K cj && ruGo K hd (mm + rowsSum cj) (l.drop (k + 1))) = R) := by
                  show _ = _
                  rw [← HD.out]
                  have : headOk K zz ⟨hd, cj⟩ = true := by simp [headOk, b2]; omega
                  rw [this]; rfl
                have hrs : ruleOk K cj = true → rowsSum cj ≤ 512 := fun e => by
                  simp only [ruleOk, Bool.and_eq_true, decide_eq_true_eq] at e
                  have := rowsSum_le e.2.2
                  omega
                have HRS : Hid (ruleOk K cj = true → rowsSum cj ≤ 512) := hrs
                clear HD hrs
                have n12 : (hd != zz) = false ∨ ((hd != zz) = true ∧ (hd != zz + 1) = false) := by
                  by_cases e : hd = zz
                  · left; rw [bne_eq_false_iff_eq]; exact e
                  · right; exact ⟨by rw [bne_iff_ne]; exact e, by rw [bne_eq_false_iff_eq]; omega⟩
                cases hro : ruleOk K cj with
                | false =>
                  have HM' : Hid (R = false) := by show _ = _; rw [← HD2.out, hro]; rfl
                  have EE : ruleEnd K cj = .tuple #[.int .i64 0, .bool false] := by unfold ruleEnd; rw [hro]; rfl
                  rw [EE] at SI
                  clear HD2 HRS hro EE b2
                  rcases n12 with n1 | ⟨n1, n2⟩
                  all_goals
                    go_wp2
                    go_region_with (first | (go_at_call 22; refine (SI _ ?_).mono ?_; exact (Below.refl _ _).drew; rintro e w2 ⟨rfl, hb2⟩))
                    all_goals go_wp2
                    all_goals
                      go_ret
                      exact ⟨by rw [HM'.out]; rfl, BF.out.trans (((Below.refl _ _).drew.trans (hb2.mono (Nat.le_refl _))).mono BF.out.size)⟩
                | true =>
                  have HD3 : Hid (ruGo K hd (mm + rowsSum cj) (l.drop (k + 1)) = R) := by show _ = _; rw [← HD2.out, hro]; rfl
                  have EE : ruleEnd K cj = .tuple #[.int .i64 (rowsSum cj : Int), .bool true] := by unfold ruleEnd; rw [hro]; rfl
                  rw [EE] at SI
                  have hsum := HRS.out hro
                  generalize rowsSum cj = sm at *
                  clear HD2 HRS hro EE b2
                  rcases n12 with n1 | ⟨n1, n2⟩
                  all_goals
                    go_wp2
                    go_region_with (first | (go_at_call 22; refine (SI _ ?_).mono ?_; exact (Below.refl _ _).drew; rintro e w2 ⟨rfl, hb2⟩))
                    all_goals go_wp2
                    all_goals
                      go_roundw
                      case rel => exact ⟨k + 1, hd, mm + sm, by omega, rfl, by go_num, by go_num, by omega, by omega, by omega, HW.out.trans (((Below.refl _ _).drew.trans (hb2.mono (Nat.le_refl _))).mono HW.out.size), HD3⟩
                      case measure => simp [intOf]; omega
            · have HM' : Hid (R = false) := by show _ = _; rw [← HD.out]; simp [headOk, b2]
              have n1 : (hd != zz) = true := by rw [bne_iff_ne]; exact fun e => b2 (.inl e)
              have n2 : (hd != zz + 1) = true := by rw [bne_iff_ne]; exact fun e => b2 (.inr e)
              clear SI HD b2
              go_wp2
              go_ret
              exact ⟨by rw [HM'.out]; rfl, BF.out⟩
          · obtain rfl : k = l.length := by omega
            have HD : Hid ((decide (zz = (K : Int) - 1) && decide (mm ≤ 1024)) = R) := by
              have := HG.out
              rwa [List.drop_length] at this
            clear HG HBR
            by_cases b1 : zz = (K : Int) - 1
            · by_cases b2 : mm ≤ 1024
              · have HM' : Hid (R = true) := by show _ = _; rw [← HD.out]; simp [b1, b2]
                have n1 : (zz == (K : Int) - 1) = true := by rw [beq_iff_eq]; exact b1
                clear HD b1
                go_wp2
                go_ret
                exact ⟨by rw [HM'.out]; show Ending.returned (.bool (decide ((mm : Int) ≤ 1024))) = _; rw [show decide ((mm : Int) ≤ 1024) = true by rw [decide_eq_true_eq]; omega], BF.out⟩
              · have HM' : Hid (R = false) := by show _ = _; rw [← HD.out]; simp [b2]
                have n1 : (zz == (K : Int) - 1) = true := by rw [beq_iff_eq]; exact b1
                clear HD b1
                go_wp2
                go_ret
                exact ⟨by rw [HM'.out]; show Ending.returned (.bool (decide ((mm : Int) ≤ 1024))) = _; rw [show decide ((mm : Int) ≤ 1024) = false by rw [decide_eq_false_iff_not]; omega], BF.out⟩
            · have HM' : Hid (R = false) := by show _ = _; rw [← HD.out]; simp [b1]
              have n1 : (zz == (K : Int) - 1) = false := by rw [beq_eq_false_iff_ne]; exact b1
              clear HD b1
              go_wp2
              go_ret
              exact ⟨by rw [HM'.out]; rfl, BF.out⟩
end Go.Proofs.Ytopnhbgialbicaa
