/- ShowRows, walked. -/
import Derived.Test.YteafdfalgeeheaaShowRowsM
import Derived.Test.YteafdfalgeeheaaLawOpen
import Derived.Deep.CutRange
namespace Go.Proofs.Yteafdfalgeeheaa
set_option linter.unusedVariables false
open Go.ChangeShapes Go.WideShapes Go.ChangeAt Go.RowKit

theorem Try.infoStrS : (Try.prog.info? 9).map (fun i => (i.zero, i.size, i.bytes)) = some (some (.string ⟨#[]⟩), 1, 16) := by kernel_rfl
theorem Try.infoConS : (Try.prog.info? 40).map (fun i => (i.zero, i.size, i.bytes)) = some (some (.agg #[.bool false, .slice none 0 0]), 2, 32) := by kernel_rfl
theorem Try.infoRuleS : (Try.prog.info? 45).map (fun i => (i.zero, i.size, i.bytes)) = some (some (.agg #[.int .i64 0, .slice none 0 0]), 2, 32) := by kernel_rfl
theorem gv_start {w1 wd : World} {st : Int} (bd : Below (w1.alloc (.cells #[.int .i64 st, .slice none 0 0, .slice none 0 0] 48)).heap.size (w1.alloc (.cells #[.int .i64 st, .slice none 0 0, .slice none 0 0] 48)) wd) : GV w1 w1.heap.size (fun _ => False) st [] (.slice none 0 0) [] [] (.slice none 0 0) wd := by
  have h : GV w1 w1.heap.size (fun _ => False) st [] (.slice none 0 0) [] [] (.slice none 0 0) (w1.alloc (.cells #[.int .i64 st, .slice none 0 0, .slice none 0 0] 48)) := GV.first (bel1 _ _) (heap_alloc_new _ _) (World.ownsRow_nil _ _ _ _) (Nat.le_refl _)
  exact h.keep bd
def mmS (zs : List Int) (i : Nat) : Nat := match zs[i]? with
  | some z => (bits .and .i64 z 3).toNat
  | none => 0
theorem mmS_lt (zs : List Int) (i : Nat) : mmS zs i < 4 := by
  unfold mmS
  split
  · rename_i z _
    obtain ⟨n, hn, e⟩ := and3 z
    rw [e]; omega
  · omega
theorem start_S (b : Int) (x : Nat) (hx : x < 4) : ∃ st : Nat, st < x + 1 ∧ wrap64 ((IntKind.u64.wrap b).tmod (1 + (x : Int))) = (st : Int) := by
  have h0 : 0 ≤ IntKind.u64.wrap b := by rw [IntKind.wrap_u64]; omega
  obtain ⟨n, hn⟩ : ∃ n : Nat, IntKind.u64.wrap b = (n : Int) := ⟨_, (Int.toNat_of_nonneg h0).symm⟩
  refine ⟨n % (x + 1), Nat.mod_lt _ (by omega), ?_⟩
  rw [hn, show (1 + (x : Int)) = ((x + 1 : Nat) : Int) by omega, ← Int.ofNat_tmod]
  have : n % (x + 1) < x + 1 := Nat.mod_lt _ (by omega)
  unfold wrap64
  omega

theorem neg_val : ∀ c, c < 5 → ∀ j, j < 5 → bits .and .i64 (((c + j : Nat)) : Int) 1 = if negS j c then 1 else 0 := by decide +kernel
theorem new_second (w : World) (o o2 : Obj) : ((w.alloc o).alloc o2).heap[w.heap.size + 1]? = some o2 := by
  have h := heap_alloc_new (w.alloc o) o2
  rw [show (w.alloc o).heap.size = w.heap.size + 1 by simp] at h
  exact h
set_option maxHeartbeats 4000000 in
set_option maxRecDepth 100000 in
theorem showRows_core (W : World) (v : Value) (zs : List Int) (row : IRow W v zs) (hz : zs.length * 8 ≤ 140737488351232) (a : Int) (b : Int) (x : Nat) (hx : x < 4) (hxa : bits .and .i64 (zs.length : Int) 3 = (x : Int)) (st : Nat) (hst1 : st < x + 1) (hst : wrap64 ((IntKind.u64.wrap b).tmod (1 + (x : Int))) = (st : Int)) (m cn mm cc : Nat → Nat) (hm : ∀ i, m i = mm i + 1) (hc : ∀ i, cn i = cc i + 1) (hmm : ∀ i, mm i < 4) (hcc : ∀ i, cc i < 4) (hme : mm = mmS zs) (hce : ∀ i : Nat, bits .and .i64 (a / 2 ^ i) 3 = (cc i : Int)) (T : ByteArray) (hT : T.data.toList = txS m cn st (x + 1))
    (KA : ∀ w, Calls Try.prog 13 #[] w fun e w' => e = .returned (.bool true) ∧ Below w.heap.size w w')
    (KS : ∀ v1 v2 w, GrIs w Any v1 v2 (grS m cn st (x + 1)) → Calls Try.prog 15 #[.agg #[.int .i64 (st : Int), v1, v2]] w fun e w' => e = .returned (.tuple #[.string T, .int .i64 0]) ∧ Hid (Below w.heap.size w w')) :
    Calls Try.prog 6 #[v, .int .i64 a, .int .i64 b] W fun e W' => e = .returned (.bool true) ∧ Below W.heap.size W W' := by
  obtain ⟨pv, cv, hv⟩ : ∃ p c, v = .slice p zs.length c := by obtain ⟨p, c, e, _⟩ := row; exact ⟨p, c, e⟩
  subst hv
  have HMI : Hid (∀ i, i < zs.length → ∀ w', Below W.heap.size W w' → ∃ g o z, pv = some ⟨g, o, none⟩ ∧ w'.cell? ⟨g, o + i, none⟩ = some (.int .i64 z) ∧ bits .and .i64 z 3 = (mm i : Int)) := fun i hi w' hb => by
    obtain ⟨p, c, e, _, h⟩ := row.keep hb
    injection e with e1
    subst e1
    obtain ⟨z, hz⟩ : ∃ z, zs[i]? = some z := ⟨_, List.getElem?_eq_getElem hi⟩
    obtain ⟨g, o, e2, _, h2⟩ := h i z hz
    refine ⟨g, o, z, e2, h2, ?_⟩
    obtain ⟨n, _, e3⟩ := and3 z
    have e4 : mmS zs i = (bits .and .i64 z 3).toNat := by unfold mmS; rw [hz]
    rw [hme, e4, e3]; rfl
  have HMO : Hid (∀ i, ¬ i < zs.length → mm i = 0) := fun i hi => by rw [hme]; unfold mmS; rw [List.getElem?_eq_none (by omega)]
  obtain ⟨zn, hzn⟩ : ∃ zn, zn = zs.length := ⟨_, rfl⟩
  have hz8 : zn * 8 ≤ 140737488351232 := by rw [hzn]; exact hz
  rw [← hzn] at HMI HMO hxa ⊢
  have HKS := (show Hid _ from KS)
  have HT : Hid (T.data.toList = txS m cn st (x + 1)) := hT
  have HM : Hid (∀ i, m i = mm i + 1 ∧ mm i < 4) := fun i => ⟨hm i, hmm i⟩
  have HC : Hid (∀ i, cn i = cc i + 1 ∧ cc i < 4) := fun i => ⟨hc i, hcc i⟩
  have HCE : Hid (∀ i : Nat, bits .and .i64 (a / 2 ^ i) 3 = (cc i : Int)) := hce
  have hds : ¬ 9223372036854775807 < 7 + (decT st).size := by have := dec_sizeS st; omega
  have hds2 : ¬ 9223372036854775807 < 7 + (decT st).size + 2 := by have := dec_sizeS st; omega
  have DST : Hid (∀ w, Calls Try.prog 14 #[.int .i64 (st : Int)] w fun e w' => e = .returned (.string (decT st)) ∧ Below w.heap.size w w') := fun w => decimal_any st (by omega) w
  clear row hzn hz hme KS hT hm hc hmm hcc hce
  go_enter Try.func6, Try.ntmps6
  go_wp2_with (first
    | (go_at_call 13; refine (KA _).mono ?_; rintro e w1 ⟨rfl, b1⟩; have HB1 : Hid (Below W.heap.size W w1) := b1; clear b1)
    | (go_at_call 14; refine (DST.out _).mono ?_; rintro e wd ⟨rfl, bd⟩; have GV0 : Hid (GV w1 w1.heap.size (fun _ => False) (st : Int) [] (.slice none 0 0) [] [] (.slice none 0 0) wd) := gv_start bd; clear bd))
  clear hxa hst hds hds2 DST KA
  obtain ⟨gb, hgb⟩ : ∃ gb, gb = w1.heap.size := ⟨_, rfl⟩
  rw [← hgb]
  replace GV0 : Hid (GV w1 gb (fun _ => False) (st : Int) [] (.slice none 0 0) [] [] (.slice none 0 0) wd) := by rw [hgb]; exact GV0
  clear hgb
  go_loopw [9, 10] (fun t j wr => ∃ i : Nat, i ≤ x + 1 ∧ j = .int .i64 i ∧ ∃ u : ByteArray, t = .string u ∧ Hid (u.data.toList = S0 st ++ dfsS m cn i) ∧ Hid (u.size ≤ 100 + 10000 * i) ∧ ∃ F nv us o, Hid (GV w1 gb F (st : Int) (nmsS i) nv (rusS m cn i) us o wr)) (fun _ j _ => x + 1 - (intOf j).toNat)
  case atStart => exact ⟨0, Nat.zero_le _, rfl, _, rfl, tx_0 m cn st, by have := dec_sizeS st; show _ ≤ _; simp only [ByteArray.size_append]; show 7 + _ + 2 ≤ _; omega, _, _, _, _, GV0⟩
  case round =>
    obtain ⟨i, hi, rfl, u, rfl, HU, HZ, F, nv, us, o, GVi⟩ := hrel
    obtain ⟨V, hV⟩ : ∃ V, V = wr := ⟨_, rfl⟩
    subst hV
    have hgl : gb < V.heap.size := block_lt GVi.out.vb
    have hwV : w1.heap.size ≤ V.heap.size := GVi.out.m0.bl.size
    by_cases hlt : i < x + 1
    · have hltI : (i : Int) < 1 + (x : Int) := by omega
      have nr := GVi.out.on
      rw [nms_len] at nr
      obtain ⟨pn, cap0, hvn⟩ := row_slice nr
      subst hvn
      have NR : Hid (V.ownsRow w1.heap.size 9 1 (.slice pn i cap0) i (txV (nmsS i))) := nr
      have g1 : V.cell? ⟨gb, 1, none⟩ = some (.slice pn i cap0) := cellS GVi.out.vb 1
      have RN1 : Hid ((Value.slice pn i cap0).ownBlock ≠ some gb) := row_no NR.out (by decide) GVi.out.vb
      have MR : Calls Try.prog 14 #[.int .i64 (i : Int)] V.drew fun e w2 => e = .returned (.string (decT i)) ∧ Hid (Below V.heap.size V w2) ∧ w2.cell? ⟨gb, 1, none⟩ = some (.slice pn i cap0) ∧ w2.frozen? ⟨gb, 1, none⟩ = false ∧ w1.heap.size ≤ w2.heap.size ∧ gb < w2.heap.size ∧ Hid (w2.ownsRow w1.heap.size 9 1 (.slice pn i cap0) i (txV (nmsS i))) := by
        refine (decimal_any i (by omega) _).mono ?_
        rintro e w2 ⟨rfl, hb⟩
        have hb0 : Below V.heap.size V V.drew := (Below.refl _ _).drew
        have hb1 := hb0.trans hb
        exact ⟨rfl, hb1, (hb1.cell (p := ⟨_, _, none⟩) hgl).trans g1, (hb1.frozen (p := ⟨_, _, none⟩) hgl).trans (frzS GVi.out.vb 1), Nat.le_trans hwV hb1.size, Nat.lt_of_lt_of_le hgl hb1.size, row_keep NR.out hb1⟩
      have hds : ¬ 9223372036854775807 < 1 + (decT i).size := by have := dec_sizeS i; omega
      obtain ⟨is, hs0, hs1, hs2, hs3⟩ := info_parts Try.infoStrS
      have HS : Hid (Try.prog.info? 9 = some is ∧ is.zero = some (.string ⟨#[]⟩) ∧ is.size = 1 ∧ is.bytes = 16) := ⟨hs0, hs1, hs2, hs3⟩
      have MX : Hid (i + 1 ≤ maxLen) := by show _ ≤ _; unfold maxLen; omega
      have BY : Hid ((i + 1) * 16 ≤ 140737488355328) := by show _ ≤ _; omega
      clear nr hs0 hs1 hs2 hs3
      go_wp2_with (fail)
      go_cut [] from 36 to 121 (fun wc => ∃ nv2, Hid (GV w1 gb F (st : Int) (nmsS (i + 1)) nv2 (rusS m cn i) us o wc))
      case first =>
        go_region_law (first | (refine step_append_lies _ (by rfl) _ _ _ (by rfl) w1.heap.size 9 is _ 1 16 Try.underlying24 HS.out.1 HS.out.2.1 HS.out.2.2.1 HS.out.2.2.2 rfl (by omega) (.slice pn i cap0) i (txV (nmsS i)) (by rfl) (o1.out.alloc _) ⟨w2.heap.size, 0, none⟩ 1 1 [.string (nmS i)] (by rfl) (by rfl) (World.news_of_block (cs := #[.string (nmS i)]) (t := 9) (fr := (0, 0)) (heap_alloc_new w2 _)) (by simp [Value.oneCell']) (by omega) MX.out BY.out (Nat.le_trans hW1 (le_alloc _ _)) (w2.heap.size + 1) (by simp) ?_; intro gg cap1 w3 hown1 hgrow hat hltg; have x1 : w3.cell? ⟨gb, 1, none⟩ = some (.slice pn i cap0) := (hgrow.cell_far ⟨gb, 1, none⟩ (by simp; omega) (Ne.symm RN1.out)).trans ((World.cell?_alloc_past _ _ _ hR1).trans r1'); have y1 : w3.frozen? ⟨gb, 1, none⟩ = false := (hgrow.frozen_far ⟨gb, 1, none⟩ (by simp; omega) (Ne.symm RN1.out)).trans ((World.frozen?_alloc_past _ _ _ hR1).trans f1')) | (go_simp; refine MR.mono ?_; rintro e w2 ⟨rfl, b1, r1', f1', hW1, hR1, o1⟩))
        all_goals
          have FIN1 : Hid (GV w1 gb F (st : Int) (nmsS (i + 1)) (.slice (some ⟨gg, 0, none⟩) (i + 1) cap1) (rusS m cn i) us o (w3.setCell ⟨gb, 1, none⟩ (.slice (some ⟨gg, 0, none⟩) (i + 1) cap1))) := by
            show GV _ _ _ _ _ _ _ _ _ _
            rw [nmsS_succ]
            exact GVi.out.name b1.out (nms_len i) hgrow hown1 hat
          clear hgrow hown1 hat x1 y1
          go_wp2
          go_meet
          case rel => exact ⟨_, FIN1⟩
      case rest =>
        obtain ⟨nv2, GVx⟩ := hcut
        obtain ⟨X, hX⟩ : ∃ X, X = wc := ⟨_, rfl⟩
        subst hX
        clear GVi NR RN1 MR g1 MX BY HS hds hgl hwV
        have DI : Hid (∀ w, Calls Try.prog 14 #[.int .i64 (i : Int)] w fun e w' => e = .returned (.string (decT i)) ∧ Below w.heap.size w w') := fun w => decimal_any i (by omega) w
        have hd20 := dec_sizeS i
        have hu := HZ.out
        have k1 : ¬ 9223372036854775807 < u.size + 1 := by omega
        have k2 : ¬ 9223372036854775807 < u.size + 1 + (decT i).size := by omega
        have k3 : ¬ 9223372036854775807 < u.size + 1 + (decT i).size + 3 := by omega
        clear hu hd20
        go_upto_if 58 with (go_at_call 14; refine (DI.out _).mono ?_; rintro e X2 ⟨rfl, b2⟩; have GVy : Hid (GV w1 gb F (st : Int) (nmsS (i + 1)) nv2 (rusS m cn i) us o X2) := GVx.out.keep b2; clear b2)
        have HU1 : Hid ((u ++ ⟨#[110]⟩ ++ decT i ++ ⟨#[32, 61, 32]⟩).data.toList = S0 st ++ dfsS m cn i ++ ((nmS i).data.toList ++ [32, 61, 32])) := tx_1 i HU.out
        have HZ1 : Hid ((u ++ ⟨#[110]⟩ ++ decT i ++ ⟨#[32, 61, 32]⟩).size ≤ 200 + 10000 * i) := by
          show _ ≤ _
          have h1 := HZ.out
          have h2 := dec_sizeS i
          simp only [ByteArray.size_append]
          show u.size + 1 + _ + 3 ≤ _
          omega
        generalize (u ++ ⟨#[110]⟩ ++ decT i ++ ⟨#[32, 61, 32]⟩) = u1 at *
        obtain ⟨B, hB⟩ : ∃ B, B = S0 st ++ dfsS m cn i ++ ((nmS i).data.toList ++ [32, 61, 32]) := ⟨_, rfl⟩
        rw [← hB] at HU1
        have HBB : Hid (B = S0 st ++ dfsS m cn i ++ ((nmS i).data.toList ++ [32, 61, 32])) := hB
        clear hB k1 k2 k3 HU HZ GVx
        have HBX : Hid (Below W.heap.size W X2) := HB1.out.trans (GVy.out.m0.bl.mono HB1.out.size)
        go_cut [11] from 36 to 121 (fun t wc => t = .int .i64 (1 + (mm i : Int)) ∧ Hid (wc = X2))
        case first =>
          by_cases hin : i < zn
          · obtain ⟨g0, o0, z, hp, cz, hb⟩ := HMI.out i hin X2 HBX.out
            subst hp
            have hinI : (i : Int) < (zn : Int) := by omega
            have hM0 : mm i < 4 := (HM.out i).2
            have hwr : wrap64 (1 + (mm i : Int)) = 1 + (mm i : Int) := by unfold wrap64; omega
            go_wp2
            go_meet
            case rel => first | exact ⟨rfl, rfl⟩ | exact ⟨by rw [hwr], rfl⟩
          · have hb := HMO.out i hin
            have hinI : ¬ (i : Int) < (zn : Int) := by omega
            go_wp2
            go_meet
            case rel => exact ⟨by rw [hb]; rfl, rfl⟩
        case rest =>
          obtain ⟨hm1, hwc⟩ := hcut
          have hwc2 : wc = X2 := hwc
          subst hm1 hwc2
          obtain ⟨X2, hX2⟩ : ∃ X2, X2 = wc := ⟨_, rfl⟩
          subst hX2
          obtain ⟨hM1, hM4⟩ := HM.out i
          generalize mm i = mi at hM1 hM4 ⊢
          have HMi : Hid (m i = mi + 1) := hM1
          clear hM1 hwc
          go_wp2_with (fail)
          go_loopw [9, 12] (fun t j wr => ∃ jn : Nat, jn ≤ mi + 1 ∧ j = .int .i64 jn ∧ ∃ u2 : ByteArray, t = .string u2 ∧ Hid (u2.data.toList = B ++ altsS cn i jn) ∧ Hid (u2.size ≤ 200 + 10000 * i + 2000 * jn) ∧ ∃ F nv us o, Hid (GV w1 gb F (st : Int) (nmsS (i + 1)) nv (rusS m cn i ++ rowS cn i jn) us o wr)) (fun _ j _ => mi + 1 - (intOf j).toNat)
          case atStart =>
            have HU2 : Hid (u1.data.toList = B ++ altsS cn i 0) := by show _ = _; rw [show altsS cn i 0 = [] from rfl, List.append_nil]; exact HU1.out
            have GVz : Hid (GV w1 gb F (st : Int) (nmsS (i + 1)) nv2 (rusS m cn i ++ rowS cn i 0) us o X2) := by show GV _ _ _ _ _ _ _ _ _ _; rw [show rowS cn i 0 = [] from rfl, List.append_nil]; exact GVy.out
            exact ⟨0, Nat.zero_le _, rfl, u1, rfl, HU2, HZ1, F, nv2, us, o, GVz⟩
          case round =>
            obtain ⟨jn, hjn, rfl, u2, rfl, HU2, HZ2, F2, nv3, us2, o2, GVj⟩ := hrel
            obtain ⟨V2, hV2⟩ : ∃ V2, V2 = wr := ⟨_, rfl⟩
            subst hV2
            by_cases hlj : jn < mi + 1
            · have hljI : (jn : Int) < 1 + (mi : Int) := by omega
              have hz2 := HZ2.out
              have k4 : ¬ 9223372036854775807 < u2.size + 3 := by omega
              clear hz2
              go_upto_if 71 with fail
              go_cut [9] from 65 to 119 (fun t wc => ∃ u3 : ByteArray, t = .string u3 ∧ Hid (u3.data.toList = B ++ (altsS cn i jn ++ (if 0 < jn then [32, 124, 32] else []))) ∧ Hid (u3.size ≤ 300 + 10000 * i + 2000 * jn) ∧ Hid (wc = V2))
              case first =>
                by_cases hj0 : 0 < jn
                · have hj1 : (0 : Int) < (jn : Int) := by omega
                  have hj2 : decide ((0 : Int) < (jn : Int)) = true := decide_eq_true hj1
                  have FU : Hid ((u2 ++ ⟨#[32, 124, 32]⟩).data.toList = B ++ (altsS cn i jn ++ (if 0 < jn then [32, 124, 32] else []))) := by
                    show _ = _
                    rw [app_list, HU2.out, if_pos hj0, List.append_assoc]
                  have FZ : Hid ((u2 ++ ⟨#[32, 124, 32]⟩).size ≤ 300 + 10000 * i + 2000 * jn) := by
                    show _ ≤ _
                    have := HZ2.out
                    rw [ByteArray.size_append]
                    show _ + 3 ≤ _
                    omega
                  go_wp2
                  go_meet
                  case rel => exact ⟨_, rfl, FU, FZ, rfl⟩
                · have hj1 : ¬ (0 : Int) < (jn : Int) := by omega
                  have hj2 : decide ((0 : Int) < (jn : Int)) = false := decide_eq_false hj1
                  have FU : Hid (u2.data.toList = B ++ (altsS cn i jn ++ (if 0 < jn then [32, 124, 32] else []))) := by
                    show _ = _
                    rw [if_neg hj0, List.append_nil]; exact HU2.out
                  have FZ : Hid (u2.size ≤ 300 + 10000 * i + 2000 * jn) := by
                    show _ ≤ _
                    have := HZ2.out
                    omega
                  go_wp2
                  go_meet
                  case rel => exact ⟨_, rfl, FU, FZ, rfl⟩
              case rest =>
                obtain ⟨u3, rfl, HU3, HZ3, hwc⟩ := hcut
                have hwc2 : wc = V2 := hwc
                subst hwc2
                obtain ⟨V2, hV2⟩ : ∃ V2, V2 = wc := ⟨_, rfl⟩
                subst hV2
                clear hwc
                obtain ⟨C, hC⟩ : ∃ C, C = B ++ (altsS cn i jn ++ (if 0 < jn then [32, 124, 32] else [])) := ⟨_, rfl⟩
                rw [← hC] at HU3
                have HCC : Hid (C = B ++ (altsS cn i jn ++ (if 0 < jn then [32, 124, 32] else []))) := hC
                clear hC HU2 HZ2 k4
                obtain ⟨hC1, hC4⟩ := HC.out i
                have hce := HCE.out i
                generalize cc i = ci at hC1 hC4 hce
                have HCi : Hid (cn i = ci + 1) := hC1
                clear hC1
                go_wp2_with (fail)
                obtain ⟨nr, hnr⟩ : ∃ nr, nr = V2.heap.size := ⟨_, rfl⟩
                have RV0 : Hid (RV V2 nr (fun _ => False) (i : Int) (cnsS i jn 0) [] (.slice none 0 0) (V2.alloc (.cells #[.int .i64 (i : Int), .slice none 0 0] 45))) := by rw [hnr]; exact RV.new V2 (i : Int)
                rw [← hnr]
                clear hnr
                go_loopw [9, 14] (fun t c wr => ∃ k : Nat, k ≤ ci + 1 ∧ c = .int .i64 k ∧ ∃ u4 : ByteArray, t = .string u4 ∧ Hid (u4.data.toList = C ++ conjsS i jn k) ∧ Hid (u4.size ≤ 400 + 10000 * i + 2000 * jn + 200 * k) ∧ ∃ Fc vs c, Hid (RV V2 nr Fc (i : Int) (cnsS i jn k) vs c wr)) (fun _ c _ => ci + 1 - (intOf c).toNat)
                case atStart =>
                  have HU4 : Hid (u3.data.toList = C ++ conjsS i jn 0) := by show _ = _; rw [show conjsS i jn 0 = [] from rfl, List.append_nil]; exact HU3.out
                  exact ⟨0, Nat.zero_le _, rfl, u3, rfl, HU4, by show _ ≤ _; have := HZ3.out; omega, _, _, _, RV0⟩
                case round =>
                  obtain ⟨k, hk, rfl, u4, rfl, HU4, HZ4, Fc, vs, cv3, RVk⟩ := hrel
                  obtain ⟨Y, hY⟩ : ∃ Y, Y = wr := ⟨_, rfl⟩
                  subst hY
                  by_cases hlk : k < ci + 1
                  · have hlkI : (k : Int) ≤ (ci : Int) := by omega
                    have hnv : bits .and .i64 ((k : Int) + (jn : Int)) 1 = if negS jn k then 1 else 0 := by
                      rw [show ((k : Int) + (jn : Int)) = ((k + jn : Nat) : Int) by omega]
                      exact neg_val k (by omega) jn (by omega)
                    have oc := RVk.out.oc
                    rw [cnsS_len] at oc
                    obtain ⟨pc, capc, hvc⟩ := row_slice oc
                    subst hvc
                    have OC : Hid (Y.ownsRow V2.heap.size 40 2 (.slice pc k capc) k (cnsV (cnsS i jn k) vs)) := oc
                    have RNk : Hid ((Value.slice pc k capc).ownBlock ≠ some nr) := row_no oc (by decide) RVk.out.vb
                    obtain ⟨i2, hk0', hk1, hk2', hk3⟩ := info_parts Try.infoConS
                    have HI2 : Hid (Try.prog.info? 40 = some i2 ∧ i2.zero = some (.agg #[.bool false, .slice none 0 0]) ∧ i2.size = 2 ∧ i2.bytes = 32) := ⟨hk0', hk1, hk2', hk3⟩
                    have MXk : Hid (k + 1 ≤ maxLen) := by show _ ≤ _; unfold maxLen; omega
                    have BYk : Hid ((k + 1) * 32 ≤ 140737488355328) := by show _ ≤ _; omega
                    clear oc hk0' hk1 hk2' hk3
                    by_cases hk0 : 0 < k
                    · have hkI : (0 : Int) < (k : Int) := by omega
                      have hkD : decide ((0 : Int) < (k : Int)) = true := decide_eq_true hkI
                      cases hng : negS jn k with
                      | true =>
                        have hu4 := HZ4.out
                        have hd20 := dec_sizeS i
                        have q4 : ¬ 9223372036854775807 < u4.size + 3 := by omega
                        have q5 : ¬ 9223372036854775807 < u4.size + 3 + 1 := by omega
                        have q1 : ¬ 9223372036854775807 < u4.size + 3 + 1 + 1 := by omega
                        have q2 : ¬ 9223372036854775807 < u4.size + 3 + 1 + 1 + (decT i).size := by omega
                        have q3 : ¬ 9223372036854775807 < u4.size + 3 + 1 + 1 + (decT i).size + 5 := by omega
                        have HUN : Hid ((u4 ++ ⟨#[32, 38, 32]⟩ ++ ⟨#[126]⟩ ++ ⟨#[110]⟩ ++ decT i ++ ⟨#[32, 34, 120, 121, 34]⟩).data.toList = C ++ conjsS i jn (k + 1)) := by
                          show _ = _
                          rw [show conjsS i jn (k + 1) = conjsS i jn k ++ (if 0 < k then [32, 38, 32] else []) ++ cT i jn k from rfl, if_pos hk0]
                          simp only [app_list, HU4.out, cT, nmS, hng]
                          simp
                        have HZN : Hid ((u4 ++ ⟨#[32, 38, 32]⟩ ++ ⟨#[126]⟩ ++ ⟨#[110]⟩ ++ decT i ++ ⟨#[32, 34, 120, 121, 34]⟩).size ≤ 400 + 10000 * i + 2000 * jn + 200 * (k + 1)) := by
                          show _ ≤ _
                          simp only [ByteArray.size_append]
                          show u4.size + 3 + 1 + 1 + _ + 5 ≤ _
                          omega
                        have hngv : bits .and .i64 ((k : Int) + (jn : Int)) 1 = 1 := by rw [hnv, hng]; rfl
                        have ONE2 : Hid (∀ w4 : World, ∀ y ∈ [Value.bool true, .slice (some ⟨w4.heap.size, 0, none⟩) 3 3], y.oneCell' = true) := fun w4 y hy => by simp at hy; rcases hy with rfl | rfl <;> rfl
                        clear hu4 hd20 hnv
                        go_wp2_with (first
                          | (go_at_call 14; refine (DI.out _).mono ?_; rintro e w4 ⟨rfl, b4⟩; have RV4 : Hid (RV V2 nr Fc (i : Int) (cnsS i jn k) vs (.slice pc k capc) w4) := RVk.out.keep b4; have r1 : w4.cell? ⟨nr, 1, none⟩ = some (.slice pc k capc) := cellS RV4.out.vb 1; have OW4 : Hid (w4.ownsRow V2.heap.size 40 2 (.slice pc k capc) k (cnsV (cnsS i jn k) vs)) := row_keep OC.out b4; have hnl : nr < w4.heap.size := block_lt RV4.out.vb; have hV4 : V2.heap.size ≤ w4.heap.size := RV4.out.bl.size; clear b4)
                          | (at_builtin; refine wpList_append_lies _ rfl _ _ 43 rfl V2.heap.size 40 i2 (.agg #[.bool false, .slice none 0 0]) 2 32 Try.underlying43 HI2.out.1 HI2.out.2.1 HI2.out.2.2.1 HI2.out.2.2.2 rfl (by decide) _ _ _ rfl ((OW4.out.alloc _).alloc _) ⟨w4.heap.size + 1, 0, none⟩ 1 1 [.bool true, .slice (some ⟨w4.heap.size, 0, none⟩) 3 3] rfl rfl (World.news_of_block (cs := #[.bool true, .slice (some ⟨w4.heap.size, 0, none⟩) 3 3]) (t := 40) (fr := (0, 0)) (new_second w4 _ _)) (ONE2.out w4) (by decide) MXk.out BYk.out (by simp; omega) (w4.heap.size + 1 + 1) (by simp) ?_; intro gg cap1 w5 hown1 hgrow1 hat1 hl1; have RV5 : Hid _ := RV4.out.more (sq := sqS i) rfl rfl (cnsS_len i jn k) hgrow1 hown1 hat1; have r5 : w5.cell? ⟨nr, 1, none⟩ = some (.slice pc k capc) := (hgrow1.cell_far ⟨nr, 1, none⟩ (by simp; omega) (Ne.symm RNk.out)).trans ((World.cell?_alloc_past _ _ _ (by simp; omega)).trans ((World.cell?_alloc_past _ _ _ hnl).trans r1)); have f5 : w5.frozen? ⟨nr, 1, none⟩ = false := (hgrow1.frozen_far ⟨nr, 1, none⟩ (by simp; omega) (Ne.symm RNk.out)).trans ((World.frozen?_alloc_past _ _ _ (by simp; omega)).trans ((World.frozen?_alloc_past _ _ _ hnl).trans (frzS RV4.out.vb 1))); clear hown1 hgrow1 hat1 hl1))
                        go_roundw
                        case rel => exact ⟨k + 1, by omega, by go_num, _, rfl, HUN, HZN, _, _, _, by show RV _ _ _ _ _ _ _ _; rw [cnsS_succ, show cnS i jn k = ⟨true, sqS i⟩ by unfold cnS; rw [hng]]; exact RV5.out⟩
                        case measure => simp [intOf]; omega
                      | false =>
                        have hu4 := HZ4.out
                        have hd20 := dec_sizeS i
                        have q4 : ¬ 9223372036854775807 < u4.size + 3 := by omega
                        have q1 : ¬ 9223372036854775807 < u4.size + 3 + 1 := by omega
                        have q2 : ¬ 9223372036854775807 < u4.size + 3 + 1 + (decT i).size := by omega
                        have q3 : ¬ 9223372036854775807 < u4.size + 3 + 1 + (decT i).size + 5 := by omega
                        have HUN : Hid ((u4 ++ ⟨#[32, 38, 32]⟩ ++ ⟨#[110]⟩ ++ decT i ++ ⟨#[32, 34, 120, 121, 34]⟩).data.toList = C ++ conjsS i jn (k + 1)) := by
                          show _ = _
                          rw [show conjsS i jn (k + 1) = conjsS i jn k ++ (if 0 < k then [32, 38, 32] else []) ++ cT i jn k from rfl, if_pos hk0]
                          simp only [app_list, HU4.out, cT, nmS, hng]
                          simp
                        have HZN : Hid ((u4 ++ ⟨#[32, 38, 32]⟩ ++ ⟨#[110]⟩ ++ decT i ++ ⟨#[32, 34, 120, 121, 34]⟩).size ≤ 400 + 10000 * i + 2000 * jn + 200 * (k + 1)) := by
                          show _ ≤ _
                          simp only [ByteArray.size_append]
                          show u4.size + 3 + 1 + _ + 5 ≤ _
                          omega
                        have hngv : bits .and .i64 ((k : Int) + (jn : Int)) 1 = 0 := by rw [hnv, hng]; rfl
                        have ONE2 : Hid (∀ w4 : World, ∀ y ∈ [Value.bool false, .slice (some ⟨w4.heap.size, 0, none⟩) 3 3], y.oneCell' = true) := fun w4 y hy => by simp at hy; rcases hy with rfl | rfl <;> rfl
                        clear hu4 hd20 hnv
                        go_wp2_with (first
                          | (go_at_call 14; refine (DI.out _).mono ?_; rintro e w4 ⟨rfl, b4⟩; have RV4 : Hid (RV V2 nr Fc (i : Int) (cnsS i jn k) vs (.slice pc k capc) w4) := RVk.out.keep b4; have r1 : w4.cell? ⟨nr, 1, none⟩ = some (.slice pc k capc) := cellS RV4.out.vb 1; have OW4 : Hid (w4.ownsRow V2.heap.size 40 2 (.slice pc k capc) k (cnsV (cnsS i jn k) vs)) := row_keep OC.out b4; have hnl : nr < w4.heap.size := block_lt RV4.out.vb; have hV4 : V2.heap.size ≤ w4.heap.size := RV4.out.bl.size; clear b4)
                          | (at_builtin; refine wpList_append_lies _ rfl _ _ 43 rfl V2.heap.size 40 i2 (.agg #[.bool false, .slice none 0 0]) 2 32 Try.underlying43 HI2.out.1 HI2.out.2.1 HI2.out.2.2.1 HI2.out.2.2.2 rfl (by decide) _ _ _ rfl ((OW4.out.alloc _).alloc _) ⟨w4.heap.size + 1, 0, none⟩ 1 1 [.bool false, .slice (some ⟨w4.heap.size, 0, none⟩) 3 3] rfl rfl (World.news_of_block (cs := #[.bool false, .slice (some ⟨w4.heap.size, 0, none⟩) 3 3]) (t := 40) (fr := (0, 0)) (new_second w4 _ _)) (ONE2.out w4) (by decide) MXk.out BYk.out (by simp; omega) (w4.heap.size + 1 + 1) (by simp) ?_; intro gg cap1 w5 hown1 hgrow1 hat1 hl1; have RV5 : Hid _ := RV4.out.more (sq := sqS i) rfl rfl (cnsS_len i jn k) hgrow1 hown1 hat1; have r5 : w5.cell? ⟨nr, 1, none⟩ = some (.slice pc k capc) := (hgrow1.cell_far ⟨nr, 1, none⟩ (by simp; omega) (Ne.symm RNk.out)).trans ((World.cell?_alloc_past _ _ _ (by simp; omega)).trans ((World.cell?_alloc_past _ _ _ hnl).trans r1)); have f5 : w5.frozen? ⟨nr, 1, none⟩ = false := (hgrow1.frozen_far ⟨nr, 1, none⟩ (by simp; omega) (Ne.symm RNk.out)).trans ((World.frozen?_alloc_past _ _ _ (by simp; omega)).trans ((World.frozen?_alloc_past _ _ _ hnl).trans (frzS RV4.out.vb 1))); clear hown1 hgrow1 hat1 hl1))
                        go_roundw
                        case rel => exact ⟨k + 1, by omega, by go_num, _, rfl, HUN, HZN, _, _, _, by show RV _ _ _ _ _ _ _ _; rw [cnsS_succ, show cnS i jn k = ⟨false, sqS i⟩ by unfold cnS; rw [hng]]; exact RV5.out⟩
                        case measure => simp [intOf]; omega
                    · have hkI : ¬ (0 : Int) < (k : Int) := by omega
                      have hkD : decide ((0 : Int) < (k : Int)) = false := decide_eq_false hkI
                      cases hng : negS jn k with
                      | true =>
                        have hu4 := HZ4.out
                        have hd20 := dec_sizeS i
                        have q5 : ¬ 9223372036854775807 < u4.size + 1 := by omega
                        have q1 : ¬ 9223372036854775807 < u4.size + 1 + 1 := by omega
                        have q2 : ¬ 9223372036854775807 < u4.size + 1 + 1 + (decT i).size := by omega
                        have q3 : ¬ 9223372036854775807 < u4.size + 1 + 1 + (decT i).size + 5 := by omega
                        have HUN : Hid ((u4 ++ ⟨#[126]⟩ ++ ⟨#[110]⟩ ++ decT i ++ ⟨#[32, 34, 120, 121, 34]⟩).data.toList = C ++ conjsS i jn (k + 1)) := by
                          show _ = _
                          rw [show conjsS i jn (k + 1) = conjsS i jn k ++ (if 0 < k then [32, 38, 32] else []) ++ cT i jn k from rfl, if_neg hk0]
                          simp only [app_list, HU4.out, cT, nmS, hng]
                          simp
                        have HZN : Hid ((u4 ++ ⟨#[126]⟩ ++ ⟨#[110]⟩ ++ decT i ++ ⟨#[32, 34, 120, 121, 34]⟩).size ≤ 400 + 10000 * i + 2000 * jn + 200 * (k + 1)) := by
                          show _ ≤ _
                          simp only [ByteArray.size_append]
                          show u4.size + 1 + 1 + _ + 5 ≤ _
                          omega
                        have hngv : bits .and .i64 ((k : Int) + (jn : Int)) 1 = 1 := by rw [hnv, hng]; rfl
                        have ONE2 : Hid (∀ w4 : World, ∀ y ∈ [Value.bool true, .slice (some ⟨w4.heap.size, 0, none⟩) 3 3], y.oneCell' = true) := fun w4 y hy => by simp at hy; rcases hy with rfl | rfl <;> rfl
                        clear hu4 hd20 hnv
                        go_wp2_with (first
                          | (go_at_call 14; refine (DI.out _).mono ?_; rintro e w4 ⟨rfl, b4⟩; have RV4 : Hid (RV V2 nr Fc (i : Int) (cnsS i jn k) vs (.slice pc k capc) w4) := RVk.out.keep b4; have r1 : w4.cell? ⟨nr, 1, none⟩ = some (.slice pc k capc) := cellS RV4.out.vb 1; have OW4 : Hid (w4.ownsRow V2.heap.size 40 2 (.slice pc k capc) k (cnsV (cnsS i jn k) vs)) := row_keep OC.out b4; have hnl : nr < w4.heap.size := block_lt RV4.out.vb; have hV4 : V2.heap.size ≤ w4.heap.size := RV4.out.bl.size; clear b4)
                          | (at_builtin; refine wpList_append_lies _ rfl _ _ 43 rfl V2.heap.size 40 i2 (.agg #[.bool false, .slice none 0 0]) 2 32 Try.underlying43 HI2.out.1 HI2.out.2.1 HI2.out.2.2.1 HI2.out.2.2.2 rfl (by decide) _ _ _ rfl ((OW4.out.alloc _).alloc _) ⟨w4.heap.size + 1, 0, none⟩ 1 1 [.bool true, .slice (some ⟨w4.heap.size, 0, none⟩) 3 3] rfl rfl (World.news_of_block (cs := #[.bool true, .slice (some ⟨w4.heap.size, 0, none⟩) 3 3]) (t := 40) (fr := (0, 0)) (new_second w4 _ _)) (ONE2.out w4) (by decide) MXk.out BYk.out (by simp; omega) (w4.heap.size + 1 + 1) (by simp) ?_; intro gg cap1 w5 hown1 hgrow1 hat1 hl1; have RV5 : Hid _ := RV4.out.more (sq := sqS i) rfl rfl (cnsS_len i jn k) hgrow1 hown1 hat1; have r5 : w5.cell? ⟨nr, 1, none⟩ = some (.slice pc k capc) := (hgrow1.cell_far ⟨nr, 1, none⟩ (by simp; omega) (Ne.symm RNk.out)).trans ((World.cell?_alloc_past _ _ _ (by simp; omega)).trans ((World.cell?_alloc_past _ _ _ hnl).trans r1)); have f5 : w5.frozen? ⟨nr, 1, none⟩ = false := (hgrow1.frozen_far ⟨nr, 1, none⟩ (by simp; omega) (Ne.symm RNk.out)).trans ((World.frozen?_alloc_past _ _ _ (by simp; omega)).trans ((World.frozen?_alloc_past _ _ _ hnl).trans (frzS RV4.out.vb 1))); clear hown1 hgrow1 hat1 hl1))
                        go_roundw
                        case rel => exact ⟨k + 1, by omega, by go_num, _, rfl, HUN, HZN, _, _, _, by show RV _ _ _ _ _ _ _ _; rw [cnsS_succ, show cnS i jn k = ⟨true, sqS i⟩ by unfold cnS; rw [hng]]; exact RV5.out⟩
                        case measure => simp [intOf]; omega
                      | false =>
                        have hu4 := HZ4.out
                        have hd20 := dec_sizeS i
                        have q1 : ¬ 9223372036854775807 < u4.size + 1 := by omega
                        have q2 : ¬ 9223372036854775807 < u4.size + 1 + (decT i).size := by omega
                        have q3 : ¬ 9223372036854775807 < u4.size + 1 + (decT i).size + 5 := by omega
                        have HUN : Hid ((u4 ++ ⟨#[110]⟩ ++ decT i ++ ⟨#[32, 34, 120, 121, 34]⟩).data.toList = C ++ conjsS i jn (k + 1)) := by
                          show _ = _
                          rw [show conjsS i jn (k + 1) = conjsS i jn k ++ (if 0 < k then [32, 38, 32] else []) ++ cT i jn k from rfl, if_neg hk0]
                          simp only [app_list, HU4.out, cT, nmS, hng]
                          simp
                        have HZN : Hid ((u4 ++ ⟨#[110]⟩ ++ decT i ++ ⟨#[32, 34, 120, 121, 34]⟩).size ≤ 400 + 10000 * i + 2000 * jn + 200 * (k + 1)) := by
                          show _ ≤ _
                          simp only [ByteArray.size_append]
                          show u4.size + 1 + _ + 5 ≤ _
                          omega
                        have hngv : bits .and .i64 ((k : Int) + (jn : Int)) 1 = 0 := by rw [hnv, hng]; rfl
                        have ONE2 : Hid (∀ w4 : World, ∀ y ∈ [Value.bool false, .slice (some ⟨w4.heap.size, 0, none⟩) 3 3], y.oneCell' = true) := fun w4 y hy => by simp at hy; rcases hy with rfl | rfl <;> rfl
                        clear hu4 hd20 hnv
                        go_wp2_with (first
                          | (go_at_call 14; refine (DI.out _).mono ?_; rintro e w4 ⟨rfl, b4⟩; have RV4 : Hid (RV V2 nr Fc (i : Int) (cnsS i jn k) vs (.slice pc k capc) w4) := RVk.out.keep b4; have r1 : w4.cell? ⟨nr, 1, none⟩ = some (.slice pc k capc) := cellS RV4.out.vb 1; have OW4 : Hid (w4.ownsRow V2.heap.size 40 2 (.slice pc k capc) k (cnsV (cnsS i jn k) vs)) := row_keep OC.out b4; have hnl : nr < w4.heap.size := block_lt RV4.out.vb; have hV4 : V2.heap.size ≤ w4.heap.size := RV4.out.bl.size; clear b4)
                          | (at_builtin; refine wpList_append_lies _ rfl _ _ 43 rfl V2.heap.size 40 i2 (.agg #[.bool false, .slice none 0 0]) 2 32 Try.underlying43 HI2.out.1 HI2.out.2.1 HI2.out.2.2.1 HI2.out.2.2.2 rfl (by decide) _ _ _ rfl ((OW4.out.alloc _).alloc _) ⟨w4.heap.size + 1, 0, none⟩ 1 1 [.bool false, .slice (some ⟨w4.heap.size, 0, none⟩) 3 3] rfl rfl (World.news_of_block (cs := #[.bool false, .slice (some ⟨w4.heap.size, 0, none⟩) 3 3]) (t := 40) (fr := (0, 0)) (new_second w4 _ _)) (ONE2.out w4) (by decide) MXk.out BYk.out (by simp; omega) (w4.heap.size + 1 + 1) (by simp) ?_; intro gg cap1 w5 hown1 hgrow1 hat1 hl1; have RV5 : Hid _ := RV4.out.more (sq := sqS i) rfl rfl (cnsS_len i jn k) hgrow1 hown1 hat1; have r5 : w5.cell? ⟨nr, 1, none⟩ = some (.slice pc k capc) := (hgrow1.cell_far ⟨nr, 1, none⟩ (by simp; omega) (Ne.symm RNk.out)).trans ((World.cell?_alloc_past _ _ _ (by simp; omega)).trans ((World.cell?_alloc_past _ _ _ hnl).trans r1)); have f5 : w5.frozen? ⟨nr, 1, none⟩ = false := (hgrow1.frozen_far ⟨nr, 1, none⟩ (by simp; omega) (Ne.symm RNk.out)).trans ((World.frozen?_alloc_past _ _ _ (by simp; omega)).trans ((World.frozen?_alloc_past _ _ _ hnl).trans (frzS RV4.out.vb 1))); clear hown1 hgrow1 hat1 hl1))
                        go_roundw
                        case rel => exact ⟨k + 1, by omega, by go_num, _, rfl, HUN, HZN, _, _, _, by show RV _ _ _ _ _ _ _ _; rw [cnsS_succ, show cnS i jn k = ⟨false, sqS i⟩ by unfold cnS; rw [hng]]; exact RV5.out⟩
                        case measure => simp [intOf]; omega
                  · have hkI : ¬ (k : Int) ≤ (ci : Int) := by omega
                    have HKc : Hid (k = ci + 1) := by show _ = _; omega
                    have GVY := GVj.out.keep RVk.out.bl
                    obtain ⟨ln, hln⟩ : ∃ ln, (rusS m cn i ++ rowS cn i jn).length = ln := ⟨_, rfl⟩
                    have hln2 : ln ≤ 30 := by
                      have h1 := rus_len (m := m) (cn := cn) (fun i => by have := HM.out i; omega) i
                      rw [List.length_append, rowS_len] at hln
                      omega
                    have oo := GVY.m0.oo
                    rw [hln] at oo
                    obtain ⟨po, co, hvo⟩ := row_slice oo
                    subst hvo
                    have OR5 : Hid (Y.ownsRow w1.heap.size 45 2 (.slice po ln co) ln (rusV (rusS m cn i ++ rowS cn i jn) us2)) := oo
                    have oc := RVk.out.oc
                    rw [cnsS_len] at oc
                    obtain ⟨pc, capc, hvc⟩ := row_slice oc
                    subst hvc
                    obtain ⟨i3, hj0, hj1, hj2, hj3⟩ := info_parts Try.infoRuleS
                    have HI3 : Hid (Try.prog.info? 45 = some i3 ∧ i3.zero = some (.agg #[.int .i64 0, .slice none 0 0]) ∧ i3.size = 2 ∧ i3.bytes = 32) := ⟨hj0, hj1, hj2, hj3⟩
                    have MX3 : Hid (ln + 1 ≤ maxLen) := by show _ ≤ _; unfold maxLen; omega
                    have BY3 : Hid ((ln + 1) * 32 ≤ 140737488355328) := by show _ ≤ _; omega
                    have HLN : Hid ((rusS m cn i ++ rowS cn i jn).length = ln) := hln
                    have e5 : Y.cell? ⟨gb, 2, none⟩ = some (.slice po ln co) := cellS GVY.vb 2
                    have f5 : Y.frozen? ⟨gb, 2, none⟩ = false := frzS GVY.vb 2
                    have r5 : Y.cell? ⟨nr, 0, none⟩ = some (.int .i64 (i : Int)) := cellS RVk.out.vb 0
                    have r6 : Y.cell? ⟨nr, 1, none⟩ = some (.slice pc k capc) := cellS RVk.out.vb 1
                    have RN5 : Hid ((Value.slice po ln co).ownBlock ≠ some gb) := row_no oo (by decide) GVY.vb
                    have gl5 : gb < Y.heap.size := block_lt GVY.vb
                    have hw5 : w1.heap.size ≤ Y.heap.size := GVY.m0.bl.size
                    have HUf : Hid (u4.data.toList = B ++ altsS cn i (jn + 1)) := by
                      show _ = _
                      rw [altsS_succ, HCi.out, HU4.out, HCC.out, HKc.out]
                      simp only [List.append_assoc]
                    have HZf : Hid (u4.size ≤ 200 + 10000 * i + 2000 * (jn + 1)) := by show _ ≤ _; have := HZ4.out; omega
                    have HLL : Hid (rusS m cn i ++ rowS cn i (jn + 1) = (rusS m cn i ++ rowS cn i jn) ++ [⟨(i : Int), cnsS i jn k⟩]) := by
                      show _ = _
                      rw [rowS_succ, ← List.append_assoc, show ruS cn i jn = ⟨(i : Int), cnsS i jn k⟩ by unfold ruS; rw [HCi.out, HKc.out]]
                    clear oo oc hj0 hj1 hj2 hj3 hln hln2 GVY
                    go_wp2_with (at_builtin; refine wpList_append_lies _ rfl _ _ 28 rfl w1.heap.size 45 i3 (.agg #[.int .i64 0, .slice none 0 0]) 2 32 Try.underlying28 HI3.out.1 HI3.out.2.1 HI3.out.2.2.1 HI3.out.2.2.2 rfl (by decide) _ _ _ rfl (OR5.out.alloc _) ⟨Y.heap.size, 0, none⟩ 1 1 [.int .i64 (i : Int), .slice pc k capc] rfl rfl (World.news_of_block (cs := #[.int .i64 (i : Int), .slice pc k capc]) (t := 45) (fr := (0, 0)) (heap_alloc_new Y _)) (fun x hx => by simp at hx; rcases hx with rfl | rfl <;> rfl) (by decide) MX3.out BY3.out (Nat.le_trans hw5 (le_alloc _ _)) (Y.heap.size + 1) (by simp) ?_; intro gg3 cap3 w6 hown3 hgrow3 hat3 hl3; have e6 : w6.cell? ⟨gb, 2, none⟩ = some (.slice po ln co) := (hgrow3.cell_far ⟨gb, 2, none⟩ (by simp; omega) (Ne.symm RN5.out)).trans ((World.cell?_alloc_past _ _ _ gl5).trans e5); have f6 : w6.frozen? ⟨gb, 2, none⟩ = false := (hgrow3.frozen_far ⟨gb, 2, none⟩ (by simp; omega) (Ne.symm RN5.out)).trans ((World.frozen?_alloc_past _ _ _ gl5).trans f5))
                    obtain ⟨F6, G6⟩ := GVj.out.rule RVk.out.bl RVk.out.cns (fun b h => h) HLN.out hgrow3 hown3 hat3 HLL.out
                    go_roundw
                    case rel => exact ⟨jn + 1, by omega, by go_num, u4, rfl, HUf, HZf, _, _, _, _, G6⟩
                    case measure => simp [intOf]; omega
            · have hljI : ¬ (jn : Int) < 1 + (mi : Int) := by omega
              have HJm : Hid (jn = m i) := by show _ = _; rw [HMi.out]; omega
              have hz2 := HZ2.out
              have k5 : ¬ 9223372036854775807 < u2.size + 2 := by omega
              have HUo : Hid ((u2 ++ ⟨#[59, 10]⟩).data.toList = S0 st ++ dfsS m cn (i + 1)) := tx_end m cn i st (by rw [HU2.out, HBB.out, HJm.out])
              have HZo : Hid ((u2 ++ ⟨#[59, 10]⟩).size ≤ 100 + 10000 * (i + 1)) := by
                show _ ≤ _
                rw [ByteArray.size_append]
                show _ + 2 ≤ _
                omega
              have GVo : Hid (GV w1 gb F2 (st : Int) (nmsS (i + 1)) nv3 (rusS m cn (i + 1)) us2 o2 V2) := by
                show GV _ _ _ _ _ _ _ _ _ _
                rw [show rusS m cn (i + 1) = rusS m cn i ++ rowS cn i (m i) from rfl, ← HJm.out]
                exact GVj.out
              clear hz2
              go_wp2_with (fail)
              go_roundw
              case rel => exact ⟨i + 1, by omega, by go_num, _, rfl, HUo, HZo, F2, nv3, us2, o2, GVo⟩
              case measure => simp [intOf]; omega
    · have hltI : ¬ (i : Int) < 1 + (x : Int) := by omega
      have HIX : Hid (i = x + 1) := by show _ = _; omega
      have huT : u = T := by
        have h1 := HU.out
        rw [HIX.out] at h1
        have h2 : u.data.toList = T.data.toList := h1.trans HT.out.symm
        exact ByteArray.ext (Array.toList_inj.1 h2)
      subst huT
      obtain ⟨po, co, hvo⟩ := row_slice GVi.out.m0.oo
      generalize (rusS m cn i).length = ln at hvo
      obtain ⟨pn, co2, hvn⟩ := row_slice GVi.out.on
      generalize (nmsS i).length = ln2 at hvn
      subst hvo hvn
      have e0 : V.cell? ⟨gb, 0, none⟩ = some (.int .i64 (st : Int)) := cellS GVi.out.vb 0
      have e1 : V.cell? ⟨gb, 1, none⟩ = some (.slice pn ln2 co2) := cellS GVi.out.vb 1
      have e2 : V.cell? ⟨gb, 2, none⟩ = some (.slice po ln co) := cellS GVi.out.vb 2
      have KE := HKS.out (.slice pn ln2 co2) (.slice po ln co) V (by have h := GVi.out.gr; rw [HIX.out] at h; exact h)
      have HBV : Hid (Below W.heap.size W V) := HB1.out.trans (GVi.out.m0.bl.mono HB1.out.size)
      go_wp2_with (first
        | (go_at_call 15; refine KE.mono ?_; rintro e w2 ⟨rfl, b2⟩)
        | (go_at_call 11; refine (num_any _ _).mono ?_; rintro e wn ⟨rfl, rfl⟩))
      go_ret
      exact ⟨rfl, HBV.out.trans (b2.out.mono HBV.out.size)⟩
end Go.Proofs.Yteafdfalgeeheaa
