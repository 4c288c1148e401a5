/- The program's numbers as bytes: put of each width. -/
import Derived.Test.YtgeajdfajfdjcaaPkN
namespace Go.Proofs.Ytgeajdfajfdjcaa
set_option linter.unusedVariables false
set_option linter.unusedSimpArgs false
open Go.ChangeShapes Go.WideShapes Go.ChangeAt Go.RowKit

theorem add_in {B b : Nat} {acc : List UInt8} {w : World} (h : Wr B b acc w) (hl : acc.length ≤ 1048577) (z : Int) (h0 : 0 ≤ z) (h1 : z ≤ 255) :
    Calls Try.prog 44 #[.pointer (some ⟨b, 0, none⟩), .int .u8 z] w fun e w' => e = .returned (.tuple #[]) ∧ Hid (Wr B b (addB acc (UInt8.ofNat z.toNat)) w' ∧ Wk b w w') :=
  wadd_any h hl _ z (by simp only [UInt8.toNat_ofNat', Nat.reducePow]; omega)
theorem addsB_snoc (a : List UInt8) (l : List UInt8) (c : UInt8) : addsB a (l ++ [c]) = addB (addsB a l) c := by rw [addsB_app]; rfl
set_option maxHeartbeats 2000000 in
set_option maxRecDepth 100000 in
theorem put_u8 {B b : Nat} {acc : List UInt8} {w : World} (h : Wr B b acc w) (hl : acc.length ≤ 1048577) (v : Value) (zs : List Int) {F : Nat → Prop} (hz : IsZs w F v zs) (ho : Off b F w) (hw : ∀ z ∈ zs, wfz z) (hn : zs.length ≤ 1152921504606846976) :
    Calls Try.prog 46 #[.pointer (some ⟨b, 0, none⟩), v] w fun e w' => e = .returned (.bool (zs.all (fitZ 1))) ∧ ∃ acc', Hid (acc'.length ≤ 1048577 ∧ Wr B b acc' w' ∧ Wk b w w' ∧ (zs.all (fitZ 1) = true → acc' = addsB acc (zs.flatMap (beZ 1)))) := by
  obtain ⟨p, c, rfl⟩ := hz.slc
  have H : Hid (Wr B b acc w) := h
  have HZ : Hid (IsZs w F (.slice p zs.length c) zs) := hz
  have HO : Hid (Off b F w) := ho
  have HW : Hid (∀ z ∈ zs, wfz z) := hw
  have hnI : ((zs.length : Nat) : Int) ≤ 1152921504606846976 := by omega
  clear h hz ho hw hn
  go_enter Try.func46, Try.ntmps46
  go_wp2
  go_loopw [10] (fun x wr => ∃ i : Nat, i ≤ zs.length ∧ x = .int .i64 i ∧ Hid ((zs.take i).all (fitZ 1) = true ∧ Wr B b (addsB acc ((zs.take i).flatMap (beZ 1))) wr ∧ Wk b w wr)) (fun x _ => zs.length - (intOf x).toNat)
  case atStart => exact ⟨0, by omega, rfl, rfl, H.out, Wk.refl _ _⟩
  case round =>
    obtain ⟨i, hi, rfl, HR⟩ := hrel
    by_cases hlt : i < zs.length
    · obtain ⟨z, hz⟩ : ∃ z, zs[i]? = some z := ⟨_, List.getElem?_eq_getElem hlt⟩
      obtain ⟨g, o, hp, a0, -, -⟩ := IsZs.at (Reads.keep HZ.out (HO.out.stay HR.out.2.2) (fun _ h => h)) hz
      subst hp
      obtain ⟨hz1, hz2⟩ := HW.out z (List.mem_of_getElem? hz)
      have HG : Hid (zs[i]? = some z) := hz
      clear hz
      have hltI : (i : Int) < (zs.length : Int) := by omega
      by_cases hf : fitZ 1 z = true
      · have hf0 : 0 ≤ z ∧ z ≤ 255 := by unfold fitZ at hf; simp only [Bool.and_eq_true, decide_eq_true_eq] at hf; omega
        have e1 : IntKind.u8.wrap z = z := IntWalk.u8_in z hf0
        have e2 : IntKind.u64.wrap z = z := IntWalk.u64_in z (by omega)
        have HF : Hid (fitZ 1 z = true) := hf
        clear hf hz1 hz2
        go_wp2_with (go_at_call 58; refine (width_u8 _).mono ?_; rintro e w1 ⟨rfl, rfl⟩)
        obtain ⟨a1, ha1⟩ : ∃ a1, a1 = addsB acc ((zs.take i).flatMap (beZ 1)) := ⟨_, rfl⟩
        have hal : a1.length ≤ 1048577 := by rw [ha1]; exact addsB_le _ _ hl
        have HR1 : Hid (Wr B b a1 w1 ∧ Wk b w w1 ∧ (zs.take i).all (fitZ 1) = true) := by rw [ha1]; exact ⟨HR.out.2.1, HR.out.2.2, HR.out.1⟩
        have HA : Hid (a1 = addsB acc ((zs.take i).flatMap (beZ 1))) := ha1
        clear HR ha1
        go_loopw [21] (fun y wq => ∃ j : Nat, j ≤ 1 ∧ y = .int .i64 j ∧ Hid (Wr B b (addsB a1 ((beZ 1 z).take j)) wq ∧ Wk b w wq)) (fun y _ => 1 - (intOf y).toNat)
        case atStart => exact ⟨0, by omega, rfl, HR1.out.1, HR1.out.2.1⟩
        case round =>
          obtain ⟨j, hj, rfl, HJ⟩ := hrel
          by_cases hjl : j < 1
          · obtain rfl : j = 0 := by omega
            all_goals go_wp2_with (first | (go_at_call 58; refine (width_u8 _).mono ?_; rintro e w2 ⟨rfl, rfl⟩) | (go_at_call 44; refine (add_in HJ.out.1 (addsB_le _ _ hal) _ (by omega) (by omega)).mono ?_; rintro e w3 ⟨rfl, HE⟩))
            all_goals go_roundw
            all_goals first
              | (case measure => simp [intOf]; done)
              | (case measure => simp [intOf]; omega)
              | skip
            all_goals refine ⟨_, ?_, by rfl, (congrArg (fun l => Wr B b l w3) ?_).mp HE.out.1, HJ.out.2.trans HE.out.2⟩
            all_goals first
              | decide
              | (rw [← addsB_snoc]; congr 1; done)
              | (rw [← addsB_snoc]; congr 1; simp [beZ]; done)
              | (rw [← addsB_snoc]; congr 1; simp [beZ]; congr 2 <;> omega)
          · obtain rfl : j = 1 := by omega
            go_wp2
            go_roundw
            case rel =>
              refine ⟨i + 1, by omega, by go_num, ?_, ?_, HJ.out.2⟩
              · rw [List.take_add_one, HG.out]; simp [HR1.out.2.2, HF.out]
              · rw [List.take_add_one, HG.out, List.flatMap_append, addsB_app, ← HA.out]
                have := HJ.out.1
                rw [List.take_of_length_le (by rw [beZ_len]; exact Nat.le_refl _)] at this
                simpa using this
            case measure => simp [intOf]; omega
      · have hc : ¬ (0 ≤ z ∧ z ≤ 255) := fun h => hf (by unfold fitZ; simp only [Bool.and_eq_true, decide_eq_true_eq]; omega)
        have e0 : ¬ IntKind.u8.wrap z = IntKind.u64.wrap z := by rw [IntKind.wrap_u8, IntKind.wrap_u64]; omega
        obtain ⟨x1, hx1⟩ : ∃ x, IntKind.u8.wrap z = x := ⟨_, rfl⟩
        obtain ⟨x2, hx2⟩ : ∃ x, IntKind.u64.wrap z = x := ⟨_, rfl⟩
        have hx3 : IntKind.u64.wrap x1 = x1 := by rw [← hx1, IntKind.wrap_u8, IntKind.wrap_u64]; omega
        rw [hx1, hx2] at e0
        have HX : Hid (fitZ 1 z = false) := Bool.eq_false_iff.2 hf
        clear hc hf hz1 hz2
        go_wp2
        go_ret
        have hal : (addsB acc ((zs.take i).flatMap (beZ 1))).length ≤ 1048577 := addsB_le _ _ hl
        refine ⟨?_, _, hal, HR.out.2.1, HR.out.2.2, fun h => ?_⟩
        · have : zs.all (fitZ 1) = false := by
            rw [List.all_eq_false]
            exact ⟨z, List.mem_of_getElem? HG.out, by rw [HX.out]; simp⟩
          rw [this]; rfl
        · have := List.all_eq_true.1 h z (List.mem_of_getElem? HG.out)
          rw [HX.out] at this; cases this
    · obtain rfl : i = zs.length := by omega
      go_wp2
      go_ret
      have := HR.out
      rw [List.take_length] at this
      exact ⟨by rw [this.1]; rfl, _, addsB_le _ _ hl, this.2.1, this.2.2, fun _ => rfl⟩
set_option maxHeartbeats 2000000 in
set_option maxRecDepth 100000 in
theorem put_u16 {B b : Nat} {acc : List UInt8} {w : World} (h : Wr B b acc w) (hl : acc.length ≤ 1048577) (v : Value) (zs : List Int) {F : Nat → Prop} (hz : IsZs w F v zs) (ho : Off b F w) (hw : ∀ z ∈ zs, wfz z) (hn : zs.length ≤ 1152921504606846976) :
    Calls Try.prog 48 #[.pointer (some ⟨b, 0, none⟩), v] w fun e w' => e = .returned (.bool (zs.all (fitZ 2))) ∧ ∃ acc', Hid (acc'.length ≤ 1048577 ∧ Wr B b acc' w' ∧ Wk b w w' ∧ (zs.all (fitZ 2) = true → acc' = addsB acc (zs.flatMap (beZ 2)))) := by
  obtain ⟨p, c, rfl⟩ := hz.slc
  have H : Hid (Wr B b acc w) := h
  have HZ : Hid (IsZs w F (.slice p zs.length c) zs) := hz
  have HO : Hid (Off b F w) := ho
  have HW : Hid (∀ z ∈ zs, wfz z) := hw
  have hnI : ((zs.length : Nat) : Int) ≤ 1152921504606846976 := by omega
  clear h hz ho hw hn
  go_enter Try.func48, Try.ntmps48
  go_wp2
  go_loopw [10] (fun x wr => ∃ i : Nat, i ≤ zs.length ∧ x = .int .i64 i ∧ Hid ((zs.take i).all (fitZ 2) = true ∧ Wr B b (addsB acc ((zs.take i).flatMap (beZ 2))) wr ∧ Wk b w wr)) (fun x _ => zs.length - (intOf x).toNat)
  case atStart => exact ⟨0, by omega, rfl, rfl, H.out, Wk.refl _ _⟩
  case round =>
    obtain ⟨i, hi, rfl, HR⟩ := hrel
    by_cases hlt : i < zs.length
    · obtain ⟨z, hz⟩ : ∃ z, zs[i]? = some z := ⟨_, List.getElem?_eq_getElem hlt⟩
      obtain ⟨g, o, hp, a0, -, -⟩ := IsZs.at (Reads.keep HZ.out (HO.out.stay HR.out.2.2) (fun _ h => h)) hz
      subst hp
      obtain ⟨hz1, hz2⟩ := HW.out z (List.mem_of_getElem? hz)
      have HG : Hid (zs[i]? = some z) := hz
      clear hz
      have hltI : (i : Int) < (zs.length : Int) := by omega
      by_cases hf : fitZ 2 z = true
      · have hf0 : 0 ≤ z ∧ z ≤ 65535 := by unfold fitZ at hf; simp only [Bool.and_eq_true, decide_eq_true_eq] at hf; omega
        have e1 : IntKind.u16.wrap z = z := IntWalk.u16_in z hf0
        have e2 : IntKind.u64.wrap z = z := IntWalk.u64_in z (by omega)
        have HF : Hid (fitZ 2 z = true) := hf
        clear hf hz1 hz2
        go_wp2_with (go_at_call 59; refine (width_u16 _).mono ?_; rintro e w1 ⟨rfl, rfl⟩)
        obtain ⟨a1, ha1⟩ : ∃ a1, a1 = addsB acc ((zs.take i).flatMap (beZ 2)) := ⟨_, rfl⟩
        have hal : a1.length ≤ 1048577 := by rw [ha1]; exact addsB_le _ _ hl
        have HR1 : Hid (Wr B b a1 w1 ∧ Wk b w w1 ∧ (zs.take i).all (fitZ 2) = true) := by rw [ha1]; exact ⟨HR.out.2.1, HR.out.2.2, HR.out.1⟩
        have HA : Hid (a1 = addsB acc ((zs.take i).flatMap (beZ 2))) := ha1
        clear HR ha1
        go_loopw [21] (fun y wq => ∃ j : Nat, j ≤ 2 ∧ y = .int .i64 j ∧ Hid (Wr B b (addsB a1 ((beZ 2 z).take j)) wq ∧ Wk b w wq)) (fun y _ => 2 - (intOf y).toNat)
        case atStart => exact ⟨0, by omega, rfl, HR1.out.1, HR1.out.2.1⟩
        case round =>
          obtain ⟨j, hj, rfl, HJ⟩ := hrel
          by_cases hjl : j < 2
          · obtain rfl | rfl : j = 0 ∨ j = 1 := by omega
            all_goals go_wp2_with (first | (go_at_call 59; refine (width_u16 _).mono ?_; rintro e w2 ⟨rfl, rfl⟩) | (go_at_call 44; refine (add_in HJ.out.1 (addsB_le _ _ hal) _ (by omega) (by omega)).mono ?_; rintro e w3 ⟨rfl, HE⟩))
            all_goals go_roundw
            all_goals first
              | (case measure => simp [intOf]; done)
              | (case measure => simp [intOf]; omega)
              | skip
            all_goals refine ⟨_, ?_, by rfl, (congrArg (fun l => Wr B b l w3) ?_).mp HE.out.1, HJ.out.2.trans HE.out.2⟩
            all_goals first
              | decide
              | (rw [← addsB_snoc]; congr 1; done)
              | (rw [← addsB_snoc]; congr 1; simp [beZ]; done)
              | (rw [← addsB_snoc]; congr 1; simp [beZ]; congr 2 <;> omega)
          · obtain rfl : j = 2 := by omega
            go_wp2
            go_roundw
            case rel =>
              refine ⟨i + 1, by omega, by go_num, ?_, ?_, HJ.out.2⟩
              · rw [List.take_add_one, HG.out]; simp [HR1.out.2.2, HF.out]
              · rw [List.take_add_one, HG.out, List.flatMap_append, addsB_app, ← HA.out]
                have := HJ.out.1
                rw [List.take_of_length_le (by rw [beZ_len]; exact Nat.le_refl _)] at this
                simpa using this
            case measure => simp [intOf]; omega
      · have hc : ¬ (0 ≤ z ∧ z ≤ 65535) := fun h => hf (by unfold fitZ; simp only [Bool.and_eq_true, decide_eq_true_eq]; omega)
        have e0 : ¬ IntKind.u16.wrap z = IntKind.u64.wrap z := by rw [IntKind.wrap_u16, IntKind.wrap_u64]; omega
        obtain ⟨x1, hx1⟩ : ∃ x, IntKind.u16.wrap z = x := ⟨_, rfl⟩
        obtain ⟨x2, hx2⟩ : ∃ x, IntKind.u64.wrap z = x := ⟨_, rfl⟩
        have hx3 : IntKind.u64.wrap x1 = x1 := by rw [← hx1, IntKind.wrap_u16, IntKind.wrap_u64]; omega
        rw [hx1, hx2] at e0
        have HX : Hid (fitZ 2 z = false) := Bool.eq_false_iff.2 hf
        clear hc hf hz1 hz2
        go_wp2
        go_ret
        have hal : (addsB acc ((zs.take i).flatMap (beZ 2))).length ≤ 1048577 := addsB_le _ _ hl
        refine ⟨?_, _, hal, HR.out.2.1, HR.out.2.2, fun h => ?_⟩
        · have : zs.all (fitZ 2) = false := by
            rw [List.all_eq_false]
            exact ⟨z, List.mem_of_getElem? HG.out, by rw [HX.out]; simp⟩
          rw [this]; rfl
        · have := List.all_eq_true.1 h z (List.mem_of_getElem? HG.out)
          rw [HX.out] at this; cases this
    · obtain rfl : i = zs.length := by omega
      go_wp2
      go_ret
      have := HR.out
      rw [List.take_length] at this
      exact ⟨by rw [this.1]; rfl, _, addsB_le _ _ hl, this.2.1, this.2.2, fun _ => rfl⟩
set_option maxHeartbeats 2000000 in
set_option maxRecDepth 100000 in
theorem put_u32 {B b : Nat} {acc : List UInt8} {w : World} (h : Wr B b acc w) (hl : acc.length ≤ 1048577) (v : Value) (zs : List Int) {F : Nat → Prop} (hz : IsZs w F v zs) (ho : Off b F w) (hw : ∀ z ∈ zs, wfz z) (hn : zs.length ≤ 1152921504606846976) :
    Calls Try.prog 34 #[.pointer (some ⟨b, 0, none⟩), v] w fun e w' => e = .returned (.bool (zs.all (fitZ 4))) ∧ ∃ acc', Hid (acc'.length ≤ 1048577 ∧ Wr B b acc' w' ∧ Wk b w w' ∧ (zs.all (fitZ 4) = true → acc' = addsB acc (zs.flatMap (beZ 4)))) := by
  obtain ⟨p, c, rfl⟩ := hz.slc
  have H : Hid (Wr B b acc w) := h
  have HZ : Hid (IsZs w F (.slice p zs.length c) zs) := hz
  have HO : Hid (Off b F w) := ho
  have HW : Hid (∀ z ∈ zs, wfz z) := hw
  have hnI : ((zs.length : Nat) : Int) ≤ 1152921504606846976 := by omega
  clear h hz ho hw hn
  go_enter Try.func34, Try.ntmps34
  go_wp2
  go_loopw [10] (fun x wr => ∃ i : Nat, i ≤ zs.length ∧ x = .int .i64 i ∧ Hid ((zs.take i).all (fitZ 4) = true ∧ Wr B b (addsB acc ((zs.take i).flatMap (beZ 4))) wr ∧ Wk b w wr)) (fun x _ => zs.length - (intOf x).toNat)
  case atStart => exact ⟨0, by omega, rfl, rfl, H.out, Wk.refl _ _⟩
  case round =>
    obtain ⟨i, hi, rfl, HR⟩ := hrel
    by_cases hlt : i < zs.length
    · obtain ⟨z, hz⟩ : ∃ z, zs[i]? = some z := ⟨_, List.getElem?_eq_getElem hlt⟩
      obtain ⟨g, o, hp, a0, -, -⟩ := IsZs.at (Reads.keep HZ.out (HO.out.stay HR.out.2.2) (fun _ h => h)) hz
      subst hp
      obtain ⟨hz1, hz2⟩ := HW.out z (List.mem_of_getElem? hz)
      have HG : Hid (zs[i]? = some z) := hz
      clear hz
      have hltI : (i : Int) < (zs.length : Int) := by omega
      by_cases hf : fitZ 4 z = true
      · have hf0 : 0 ≤ z ∧ z ≤ 4294967295 := by unfold fitZ at hf; simp only [Bool.and_eq_true, decide_eq_true_eq] at hf; omega
        have e1 : IntKind.u32.wrap z = z := IntWalk.u32_in z hf0
        have e2 : IntKind.u64.wrap z = z := IntWalk.u64_in z (by omega)
        have HF : Hid (fitZ 4 z = true) := hf
        clear hf hz1 hz2
        go_wp2_with (go_at_call 43; refine (width_u32 _).mono ?_; rintro e w1 ⟨rfl, rfl⟩)
        obtain ⟨a1, ha1⟩ : ∃ a1, a1 = addsB acc ((zs.take i).flatMap (beZ 4)) := ⟨_, rfl⟩
        have hal : a1.length ≤ 1048577 := by rw [ha1]; exact addsB_le _ _ hl
        have HR1 : Hid (Wr B b a1 w1 ∧ Wk b w w1 ∧ (zs.take i).all (fitZ 4) = true) := by rw [ha1]; exact ⟨HR.out.2.1, HR.out.2.2, HR.out.1⟩
        have HA : Hid (a1 = addsB acc ((zs.take i).flatMap (beZ 4))) := ha1
        clear HR ha1
        go_loopw [21] (fun y wq => ∃ j : Nat, j ≤ 4 ∧ y = .int .i64 j ∧ Hid (Wr B b (addsB a1 ((beZ 4 z).take j)) wq ∧ Wk b w wq)) (fun y _ => 4 - (intOf y).toNat)
        case atStart => exact ⟨0, by omega, rfl, HR1.out.1, HR1.out.2.1⟩
        case round =>
          obtain ⟨j, hj, rfl, HJ⟩ := hrel
          by_cases hjl : j < 4
          · obtain rfl | rfl | rfl | rfl : j = 0 ∨ j = 1 ∨ j = 2 ∨ j = 3 := by omega
            all_goals go_wp2_with (first | (go_at_call 43; refine (width_u32 _).mono ?_; rintro e w2 ⟨rfl, rfl⟩) | (go_at_call 44; refine (add_in HJ.out.1 (addsB_le _ _ hal) _ (by omega) (by omega)).mono ?_; rintro e w3 ⟨rfl, HE⟩))
            all_goals go_roundw
            all_goals first
              | (case measure => simp [intOf]; done)
              | (case measure => simp [intOf]; omega)
              | skip
            all_goals refine ⟨_, ?_, by rfl, (congrArg (fun l => Wr B b l w3) ?_).mp HE.out.1, HJ.out.2.trans HE.out.2⟩
            all_goals first
              | decide
              | (rw [← addsB_snoc]; congr 1; done)
              | (rw [← addsB_snoc]; congr 1; simp [beZ]; done)
              | (rw [← addsB_snoc]; congr 1; simp [beZ]; congr 2 <;> omega)
          · obtain rfl : j = 4 := by omega
            go_wp2
            go_roundw
            case rel =>
              refine ⟨i + 1, by omega, by go_num, ?_, ?_, HJ.out.2⟩
              · rw [List.take_add_one, HG.out]; simp [HR1.out.2.2, HF.out]
              · rw [List.take_add_one, HG.out, List.flatMap_append, addsB_app, ← HA.out]
                have := HJ.out.1
                rw [List.take_of_length_le (by rw [beZ_len]; exact Nat.le_refl _)] at this
                simpa using this
            case measure => simp [intOf]; omega
      · have hc : ¬ (0 ≤ z ∧ z ≤ 4294967295) := fun h => hf (by unfold fitZ; simp only [Bool.and_eq_true, decide_eq_true_eq]; omega)
        have e0 : ¬ IntKind.u32.wrap z = IntKind.u64.wrap z := by rw [IntKind.wrap_u32, IntKind.wrap_u64]; omega
        obtain ⟨x1, hx1⟩ : ∃ x, IntKind.u32.wrap z = x := ⟨_, rfl⟩
        obtain ⟨x2, hx2⟩ : ∃ x, IntKind.u64.wrap z = x := ⟨_, rfl⟩
        have hx3 : IntKind.u64.wrap x1 = x1 := by rw [← hx1, IntKind.wrap_u32, IntKind.wrap_u64]; omega
        rw [hx1, hx2] at e0
        have HX : Hid (fitZ 4 z = false) := Bool.eq_false_iff.2 hf
        clear hc hf hz1 hz2
        go_wp2
        go_ret
        have hal : (addsB acc ((zs.take i).flatMap (beZ 4))).length ≤ 1048577 := addsB_le _ _ hl
        refine ⟨?_, _, hal, HR.out.2.1, HR.out.2.2, fun h => ?_⟩
        · have : zs.all (fitZ 4) = false := by
            rw [List.all_eq_false]
            exact ⟨z, List.mem_of_getElem? HG.out, by rw [HX.out]; simp⟩
          rw [this]; rfl
        · have := List.all_eq_true.1 h z (List.mem_of_getElem? HG.out)
          rw [HX.out] at this; cases this
    · obtain rfl : i = zs.length := by omega
      go_wp2
      go_ret
      have := HR.out
      rw [List.take_length] at this
      exact ⟨by rw [this.1]; rfl, _, addsB_le _ _ hl, this.2.1, this.2.2, fun _ => rfl⟩
end Go.Proofs.Ytgeajdfajfdjcaa
