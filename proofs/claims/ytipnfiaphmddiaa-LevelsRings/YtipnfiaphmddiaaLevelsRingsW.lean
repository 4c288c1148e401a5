/- LevelsRings: a ring of names: one level, or the cycle from the first negation on. -/
import Derived.Test.YtipnfiaphmddiaaLevelsRowsW
namespace Go.Proofs.Ytipnfiaphmddiaa
set_option linter.unusedVariables false
open Go.ChangeShapes Go.WideShapes Go.ChangeAt Go.RowKit

theorem and15 (x : Int) : ∃ n : Nat, n < 16 ∧ bits .and .i64 x 15 = (n : Int) := by
  have h : (BitVec.ofInt 64 x &&& BitVec.ofInt 64 15).toNat < 16 := by
    rw [BitVec.toNat_and]
    exact Nat.lt_of_le_of_lt Nat.and_le_right (by decide)
  refine ⟨_, h, ?_⟩
  show IntKind.i64.wrap ((BitVec.ofInt 64 x &&& BitVec.ofInt 64 15).toNat : Int) = _
  generalize (BitVec.ofInt 64 x &&& BitVec.ofInt 64 15).toNat = n at h
  rw [IntKind.wrap_i64]; omega
def cyc8 (k g j : Nat) : List Nat := (List.range j).map fun t => (g + t) % k
def cycI (k g j : Nat) : List Int := (cyc8 k g j).map fun t : Nat => (t : Int)
theorem cycI_len (k g j : Nat) : (cycI k g j).length = j := by simp [cycI, cyc8]
theorem cyc8_succ (k g j : Nat) : cyc8 k g (j + 1) = cyc8 k g j ++ [(g + j) % k] := by unfold cyc8; rw [List.range_succ, List.map_append]; rfl
theorem cyc8_len (k g j : Nat) : (cyc8 k g j).length = j := by simp [cyc8]
set_option maxHeartbeats 2000000 in
set_option maxRecDepth 100000 in
theorem levelsRings_some (W : World) (a : Int) (n : Nat) (hn : n < 16) (ea : bits .and .i64 a 15 = (n : Int)) (pv : Option Addr) (zn cv : Nat) (hz8 : zn * 8 ≤ 140737488351232) (ng : Nat → Bool) (g : Nat) (hg : g < 1 + n) (hgt : ng g = true) (hgf : ∀ i, i < g → ng i = false)
    (H1 : ∀ i, i < zn → ∀ w', Below W.heap.size W w' → ∃ g o z, pv = some ⟨g, o, none⟩ ∧ g < W.heap.size ∧ w'.cell? ⟨g, o + i, none⟩ = some (.int .i64 z) ∧ (bits .and .i64 z 1 == 1) = ng i) (H2 : ∀ i, ¬ i < zn → ng i = false)
    (KR : ∀ w, Below W.heap.size W w → Calls Try.prog 12 #[.int .i64 (1 + (n : Int)), .slice pv zn cv, .bool true] w fun e w' => ∃ p1 c1 p2 c2, e = .returned (.agg #[.int .i64 0, .slice p1 (1 + n) c1, .slice p2 (1 + n) c2]) ∧ Hid (Below w.heap.size w w') ∧ Hid (Calls Try.prog 9 #[.agg #[.int .i64 0, .slice p1 (1 + n) c1, .slice p2 (1 + n) c2]] w' fun e w'' => ∃ pu cu, e = .returned (.tuple #[.slice none 0 0, .slice pu (1 + n) cu, .int .i64 801]) ∧ Hid (Below w'.heap.size w' w'') ∧ Hid (IsInts w'' Any (.slice pu (1 + n) cu) (cycI (1 + n) g (1 + n))))) :
    Calls Try.prog 5 #[.int .i64 a, .slice pv zn cv] W fun e W' => e = .returned (.bool true) ∧ Below W.heap.size W W' := by
  have HNG := hid_of H1
  have HNO := hid_of H2
  have HKR := hid_of KR
  have HGT := hid_of hgt
  have HGF := hid_of hgf
  clear H1 H2 KR hgt hgf
  obtain ⟨i0, hi0, hzz, hzs, hzb⟩ := info_parts Try.infoInt
  have HI0 : Hid (Try.prog.info? 3 = some i0 ∧ i0.zero = some (.int .i64 0) ∧ i0.size = 1 ∧ i0.bytes = 8) := ⟨hi0, hzz, hzs, hzb⟩
  clear hi0 hzz hzs hzb
  go_enter Try.func5, Try.ntmps5
  go_upto_region 7 with (first
    | (go_at_call 8; refine (awake8_any _).mono ?_; rintro e wa ⟨rfl, ba⟩)
    | (go_at_call 12; refine (HKR.out _ ba.out).mono ?_; rintro e wb ⟨p1, c1, p2, c2, rfl, bb, KS⟩)
    | (go_at_call 9; refine KS.out.mono ?_; rintro e X ⟨pu, cu, rfl, bx, IU⟩))
  have HBX : Hid (Below W.heap.size W X) := ba.out.trans ((bb.out.trans (bx.out.mono bb.out.size)).mono ba.out.size)
  clear ba bb bx KS HKR
  go_loopw [9, 10] (fun lv x wr => ∃ (m : Nat) (f : Int), m ≤ 1 + n ∧ lv = .int .i64 f ∧ Hid (m ≤ g → f = (g : Int)) ∧ x = .int .i64 ((m : Int) - 1) ∧ wr = X) (fun _ x _ => (intOf x + 1).toNat)
  case atStart => exact ⟨1 + n, -1, Nat.le_refl _, rfl, fun h => by omega, by first | rfl | (congr 1; omega) | congr 1, rfl⟩
  case round =>
    obtain ⟨m, f, hm, rfl, HF, rfl, rfl⟩ := hrel
    cases m with
    | zero =>
      have hf : f = (g : Int) := HF.out (Nat.zero_le _)
      subst hf
      rw [show ((0 : Nat) : Int) - 1 = -1 from rfl]
      clear HF HNG HNO HGT HGF hz8
      obtain ⟨X, hX⟩ : ∃ X, X = wr := ⟨_, rfl⟩
      subst hX
      go_wp2
      go_loopw [11, 12] (fun u x wr => ∃ j : Nat, j ≤ 1 + n ∧ x = .int .i64 (j : Int) ∧ Hid (wr.ownsRow X.heap.size 3 1 u j (natsV (cyc8 (1 + n) g j))) ∧ Hid (Below X.heap.size X wr)) (fun _ x _ => 1 + n - (intOf x).toNat)
      case atStart => exact ⟨0, Nat.zero_le _, rfl, World.ownsRow_nil _ _ _ _, Below.refl _ _⟩
      case round =>
        obtain ⟨j, hj, rfl, HO, HB⟩ := hrel
        obtain ⟨p8, c8, ho⟩ := row_slice HO.out
        subst ho
        obtain ⟨V, hV⟩ : ∃ V, V = wr := ⟨_, rfl⟩
        subst hV
        by_cases hlt : j < 1 + n
        · have MX : Hid (j + 1 ≤ maxLen) := by show _ ≤ _; unfold maxLen; omega
          have BY : Hid ((j + 1) * 8 ≤ 140737488355328) := by show _ ≤ _; omega
          obtain ⟨r, hr⟩ : ∃ r, r = (g + j) % (1 + n) := ⟨_, rfl⟩
          have hrem : Int.tmod ((g : Int) + (j : Int)) (1 + (n : Int)) = (r : Int) := by
            rw [hr, show (g : Int) + (j : Int) = ((g + j : Nat) : Int) by omega, show 1 + (n : Int) = ((1 + n : Nat) : Int) by omega, ← Int.ofNat_tmod]
          have hr64 : r < 33 := by have := Nat.mod_lt (g + j) (show 0 < 1 + n by omega); omega
          have HSV : Hid (natsV (cyc8 (1 + n) g (j + 1)) = natsV (cyc8 (1 + n) g j) ++ [.int .i64 (r : Int)]) := by show _ = _; rw [cyc8_succ, hr]; simp [natsV]
          have hk0 : ¬ 1 + n = 0 := by omega
          have hk1 : ¬ (1 + (n : Int) = 0) := by omega
          have hk2 : (1 + (n : Int) == 0) = false := by simp; omega
          have BS : X.heap.size ≤ V.heap.size := HB.out.size
          have hc1 : (j : Int) < 1 + (n : Int) := by omega
          have hc2 : decide ((j : Int) < 1 + (n : Int)) = true := decide_eq_true hc1
          have hc3 : decide (j < 1 + n) = true := decide_eq_true hlt
          clear hr
          go_wp2_with (at_builtin; refine wpList_append_own _ rfl _ _ 27 rfl X.heap.size 3 i0 (.int .i64 0) 1 8 Try.underlying27 HI0.out.1 HI0.out.2.1 HI0.out.2.2.1 HI0.out.2.2.2 rfl (by decide) _ _ _ rfl (HO.out.alloc _) ⟨V.heap.size, 0, none⟩ 1 1 [.int .i64 (r : Int)] rfl rfl (news1 V _ _) ?c2 MX.out BY.out ?c5 ?_)
          case c2 => intro u hu; simp at hu; subst hu; rfl
          case c5 => simp; omega
          intro v' w3 hown' hgrow _
          have HO3 : Hid (w3.ownsRow X.heap.size 3 1 v' (j + 1) (natsV (cyc8 (1 + n) g (j + 1)))) := by show World.ownsRow _ _ _ _ _ _ _; rw [HSV.out]; exact hown'
          have HB3w : Hid (Below X.heap.size X w3) := (HB.out.alloc HB.out.size _).grown hgrow (by simp; omega) (fun g hg => (HO.out.lt g hg).1)
          obtain ⟨p9, c9, hv9⟩ := row_slice hown'
          subst hv9
          clear hown' hgrow
          go_wp2
          go_roundw
          case rel => exact ⟨j + 1, by omega, by go_num, HO3, HB3w⟩
          case measure => first | (simp [intOf]; done) | (simp [intOf]; omega)
        · obtain rfl : j = 1 + n := by omega
          have HI2 : Hid (IsInts V Any (.slice p8 (1 + n) c8) (cycI (1 + n) g (1 + n))) := by
            have h1 := Reads.of (F := Any) HO.out (fun b hb => trivial)
            show Reads _ _ _ _ _
            rw [cycI_len, show cycI (1 + n) g (1 + n) = (cyc8 (1 + n) g (1 + n)).map fun t : Nat => (t : Int) from rfl, ← natsV_ints]
            exact h1
          have HIU : Hid (IsInts V Any (.slice pu (1 + n) cu) (cycI (1 + n) g (1 + n))) := IU.out.any HB.out
          have hll : (cycI (1 + n) g (1 + n)).length ≤ 100000000 := by rw [cycI_len]; omega
          have HLL := hid_of hll
          have HBV : Hid (Below W.heap.size W V) := HBX.out.trans (HB.out.mono HBX.out.size)
          clear hll IU HO HB
          go_wp2_with (first
            | (go_at_call 11; refine (num_any _ _).mono ?_; rintro e wn ⟨rfl, rfl⟩)
            | (go_at_call 13; refine (sameInts_yes _ _ _ _ HIU.out HI2.out HLL.out).mono ?_; rintro e we ⟨rfl, be⟩))
          go_ret
          exact ⟨rfl, HBV.out.trans (be.out.mono HBV.out.size)⟩
    | succ i =>
      have e1 : ((i + 1 : Nat) : Int) - 1 = (i : Int) := by omega
      rw [e1]
      clear e1
      have HNX : Hid (ng i = false → i ≤ g → f = (g : Int)) := fun h hle => HF.out (by
        rcases Nat.lt_or_ge i g with h2 | h2
        · omega
        · have h3 : i = g := by omega
          rw [h3, HGT.out] at h; cases h)
      have HNY : Hid (ng i = true → i ≤ g → (i : Int) = (g : Int)) := fun h hle => by
        rcases Nat.lt_or_ge i g with h2 | h2
        · rw [HGF.out i h2] at h; cases h
        · omega
      have hrest : ∀ {p : Prop}, (i < zn → ng i = true → p) → (i < zn → ng i = false → p) → (¬ i < zn → p) → p := fun f1 f2 f3 => by
        by_cases h2 : i < zn
        · cases h3 : ng i
          · exact f2 h2 h3
          · exact f1 h2 h3
        · exact f3 h2
      refine hrest (fun h2 h3 => ?_) (fun h2 h3 => ?_) (fun h2 => ?_)
      · clear hrest
        obtain ⟨gz, o, z, hp, hgz, cz, hz⟩ := HNG.out i h2 wr HBX.out
        subst hp
        rw [h3] at hz
        have k2 : (i : Int) < (zn : Int) := by omega
        have HN2 := hid_of (HNY.out h3)
        clear h3 hz8 hg
        go_wp2
        go_roundw
        case rel => exact ⟨i, _, by omega, rfl, HN2, by go_num, trivial⟩
        case measure => first | (simp [intOf]; done) | (simp [intOf]; omega)
      · clear hrest
        obtain ⟨gz, o, z, hp, hgz, cz, hz⟩ := HNG.out i h2 wr HBX.out
        subst hp
        rw [h3] at hz
        have k2 : (i : Int) < (zn : Int) := by omega
        have HN2 := hid_of (HNX.out h3)
        clear h3 hz8 hg
        go_wp2
        go_roundw
        case rel => exact ⟨i, _, by omega, rfl, HN2, by go_num, trivial⟩
        case measure => first | (simp [intOf]; done) | (simp [intOf]; omega)
      · clear hrest
        have k2 : ¬ (i : Int) < (zn : Int) := by omega
        have HN2 := hid_of (HNX.out (HNO.out i h2))
        clear hz8 hg
        go_wp2
        go_roundw
        case rel => exact ⟨i, _, by omega, rfl, HN2, by go_num, trivial⟩
        case measure => first | (simp [intOf]; done) | (simp [intOf]; omega)
set_option maxHeartbeats 2000000 in
set_option maxRecDepth 100000 in
theorem levelsRings_none (W : World) (a : Int) (n : Nat) (hn : n < 16) (ea : bits .and .i64 a 15 = (n : Int)) (pv : Option Addr) (zn cv : Nat) (hz8 : zn * 8 ≤ 140737488351232) (ng : Nat → Bool) (hgf : ∀ i, i < 1 + n → ng i = false)
    (H1 : ∀ i, i < zn → ∀ w', Below W.heap.size W w' → ∃ g o z, pv = some ⟨g, o, none⟩ ∧ g < W.heap.size ∧ w'.cell? ⟨g, o + i, none⟩ = some (.int .i64 z) ∧ (bits .and .i64 z 1 == 1) = ng i)
    (KR : ∀ w, Below W.heap.size W w → Calls Try.prog 12 #[.int .i64 (1 + (n : Int)), .slice pv zn cv, .bool true] w fun e w' => ∃ p1 c1 p2 c2, e = .returned (.agg #[.int .i64 0, .slice p1 (1 + n) c1, .slice p2 (1 + n) c2]) ∧ Hid (Below w.heap.size w w') ∧ Hid (Calls Try.prog 9 #[.agg #[.int .i64 0, .slice p1 (1 + n) c1, .slice p2 (1 + n) c2]] w' fun e w'' => ∃ pu cu, e = .returned (.tuple #[.slice pu (1 + n) cu, .slice none 0 0, .int .i64 0]) ∧ Hid (Below w'.heap.size w' w'') ∧ Hid (IsInts w'' Any (.slice pu (1 + n) cu) (levL (1 + n) fun _ => 0)))) :
    Calls Try.prog 5 #[.int .i64 a, .slice pv zn cv] W fun e W' => e = .returned (.bool true) ∧ Below W.heap.size W W' := by
  have HNG := hid_of H1
  have HKR := hid_of KR
  have HGF := hid_of hgf
  clear H1 KR hgf
  go_enter Try.func5, Try.ntmps5
  go_upto_region 7 with (first
    | (go_at_call 8; refine (awake8_any _).mono ?_; rintro e wa ⟨rfl, ba⟩)
    | (go_at_call 12; refine (HKR.out _ ba.out).mono ?_; rintro e wb ⟨p1, c1, p2, c2, rfl, bb, KS⟩)
    | (go_at_call 9; refine KS.out.mono ?_; rintro e X ⟨pu, cu, rfl, bx, IU⟩))
  have HBX : Hid (Below W.heap.size W X) := ba.out.trans ((bb.out.trans (bx.out.mono bb.out.size)).mono ba.out.size)
  clear ba bb bx KS HKR
  go_loopw [9, 10] (fun lv x wr => ∃ m : Nat, m ≤ 1 + n ∧ lv = .int .i64 (-1) ∧ x = .int .i64 ((m : Int) - 1) ∧ wr = X) (fun _ x _ => (intOf x + 1).toNat)
  case atStart => exact ⟨1 + n, Nat.le_refl _, rfl, by first | rfl | (congr 1; omega) | congr 1, rfl⟩
  case round =>
    obtain ⟨m, hm, rfl, rfl, rfl⟩ := hrel
    cases m with
    | zero =>
      rw [show ((0 : Nat) : Int) - 1 = -1 from rfl]
      have hmk := make_ints (1 + n) (by omega) wr
      rw [show ((1 + n : Nat) : Int) = 1 + (n : Int) by omega] at hmk
      have I8 : Hid (IsInts (wr.alloc (.cells (intsA (levL (1 + n) fun _ => 0)) 3)) Any (.slice pu (1 + n) cu) (levL (1 + n) fun _ => 0)) := IU.out.any (bel1 _ _)
      have I9 : Hid (IsInts (wr.alloc (.cells (intsA (levL (1 + n) fun _ => 0)) 3)) Any (.slice (some ⟨wr.heap.size, 0, none⟩) (1 + n) (1 + n)) (levL (1 + n) fun _ => 0)) := (ZAt.new wr _).ints trivial (levL_length _ _).symm (by unfold maxLen; omega)
      clear IU HNG HGF hz8
      go_wp2_with (first
        | (go_at_call 13; refine (sameInts_yes _ _ (levL (1 + n) fun _ => 0) _ I8.out I9.out (by rw [levL_length]; omega)).mono ?_; rintro e wf ⟨rfl, bf⟩)
        | (go_at_call 11; refine (num_any _ _).mono ?_; rintro e wn ⟨rfl, rfl⟩))
      go_ret
      exact ⟨rfl, HBX.out.trans (((bel1 wr _).trans (bf.out.mono (bel1 wr _).size)).mono HBX.out.size)⟩
    | succ i =>
      have e1 : ((i + 1 : Nat) : Int) - 1 = (i : Int) := by omega
      rw [e1]
      clear e1
      by_cases h2 : i < zn
      · obtain ⟨gz, o, z, hp, hgz, cz, hz⟩ := HNG.out i h2 wr HBX.out
        subst hp
        rw [HGF.out i (by omega)] at hz
        have k2 : (i : Int) < (zn : Int) := by omega
        clear hz8
        go_wp2
        go_roundw
        case rel => exact ⟨i, by omega, by trivial, by go_num, trivial⟩
        case measure => first | (simp [intOf]; done) | (simp [intOf]; omega)
      · have k2 : ¬ (i : Int) < (zn : Int) := by omega
        clear hz8
        go_wp2
        go_roundw
        case rel => exact ⟨i, by omega, by trivial, by go_num, trivial⟩
        case measure => first | (simp [intOf]; done) | (simp [intOf]; omega)
theorem first_ng (ng : Nat → Bool) : ∀ k, (∀ i, i < k → ng i = false) ∨ ∃ g, g < k ∧ ng g = true ∧ ∀ i, i < g → ng i = false
  | 0 => Or.inl fun i hi => absurd hi (Nat.not_lt_zero _)
  | k + 1 => by
    rcases first_ng ng k with h | ⟨g, h1, h2, h3⟩
    · cases hk : ng k with
      | true => exact Or.inr ⟨k, by omega, hk, h⟩
      | false =>
        left
        intro i hi
        rcases Nat.lt_or_ge i k with h4 | h4
        · exact h i h4
        · rw [show i = k by omega]; exact hk
    · exact Or.inr ⟨g, by omega, h2, h3⟩
theorem levelsRings_walk (W : World) (a : Int) (wa : (Lit.int .i64 a).wf = true) (v : Value) (zs : List Int) (row : IRow W v zs) (wz : ∀ z, z ∈ zs → (Lit.int .i64 z).wf = true) (hz : zs.length * 8 ≤ 140737488351232) :
    Calls Try.prog 5 #[.int .i64 a, v] W fun e W' => e = .returned (.bool true) ∧ Below W.heap.size W W' := by
  obtain ⟨n, hn, ea⟩ := and15 a
  have row' := row
  obtain ⟨pv, cv, hv, hcap, hcell⟩ := row
  subst hv
  have H1 : ∀ i, i < zs.length → ∀ w', Below W.heap.size W w' → ∃ g o z, pv = some ⟨g, o, none⟩ ∧ g < W.heap.size ∧ w'.cell? ⟨g, o + i, none⟩ = some (.int .i64 z) ∧ (bits .and .i64 z 1 == 1) = ngR zs i := fun i hi w' hb => by
    obtain ⟨z, hz⟩ : ∃ z, zs[i]? = some z := ⟨_, List.getElem?_eq_getElem hi⟩
    obtain ⟨g, o, e2, h1, h2⟩ := hcell i z hz
    exact ⟨g, o, z, e2, h1, (hb.cell (p := ⟨_, _, none⟩) h1).trans h2, by unfold ngR; rw [hz]⟩
  have hM := may8 (1 + n) (ngR zs) true (by omega) (by omega)
  have he : edgesT (gr8 (1 + n) (ngR zs) true) = eds8 (1 + n) (ngR zs) (1 + n) := edges8 _ _ _ (by omega)
  have hl := eds8_ok (1 + n) (ngR zs) (1 + n) (Nat.le_refl _) (by omega)
  have hnl : (gr8 (1 + n) (ngR zs) true).names.length = 1 + n := nmsR_len _
  have hR : ∀ w, Below W.heap.size W w → _ := fun w hb => row8_any (1 + n) pv zs.length cv zs rfl hz true w (row'.keep hb) (by omega) (by omega)
  rw [show ((1 + n : Nat) : Int) = 1 + (n : Int) by omega] at hR
  rcases first_ng (ngR zs) (1 + n) with h | ⟨g, h1, h2, h3⟩
  · obtain ⟨hc, hlv⟩ := ring_none (k := 1 + n) (ng := ngR zs) h
    refine levelsRings_none W a n hn ea pv zs.length cv hz (ngR zs) h H1 (fun w hb => (hR w hb).mono ?_)
    rintro e w' ⟨p1, c1, p2, c2, rfl, hg, hb1⟩
    refine ⟨p1, c1, p2, c2, rfl, hb1, ?_⟩
    have hs := strata_ok (gr8 (1 + n) (ngR zs) true) _ _ w' hg.out (names_ok _ _ _) (short8 _ _ _ _) hM (by rw [he, hnl]; exact not_bad hl hc)
    rw [he, hnl, show levT (1 + n) (eds8 (1 + n) (ngR zs) (1 + n)) = fun _ => 0 from funext hlv] at hs
    refine hs.mono ?_
    rintro e w'' ⟨u, rfl, IU, hb2⟩
    obtain ⟨pu, cu, hu⟩ := IU.out.slc
    rw [levL_length] at hu
    subst hu
    exact ⟨pu, cu, rfl, hb2, Reads.mono IU.out (fun _ _ _ => trivial)⟩
  · refine levelsRings_some W a n hn ea pv zs.length cv hz (ngR zs) g h1 h2 h3 H1 (fun i hi => by unfold ngR; rw [List.getElem?_eq_none (by omega)]) (fun w hb => (hR w hb).mono ?_)
    rintro e w' ⟨p1, c1, p2, c2, rfl, hg, hb1⟩
    refine ⟨p1, c1, p2, c2, rfl, hb1, ?_⟩
    have hs := strata_cyc (gr8 (1 + n) (ngR zs) true) _ _ w' hg.out (names_ok _ _ _) (short8 _ _ _ _) hM (ed8 (1 + n) (ngR zs) g) (by rw [he, hnl]; exact ring_bad (by omega) h1 h2 h3)
    rw [he] at hs
    refine hs.mono ?_
    rintro e w'' ⟨u, f, rfl, HF, IU, hb2⟩
    have hf : FarIs (eds8 (1 + n) (ngR zs) (1 + n)) g f := by have := HF.out; simpa [ed8] using this
    have IU2 := IU.out
    rw [ring_cyc h1 hf] at IU2
    have e9 : ((List.range (1 + n)).map fun t => (((g + t) % (1 + n) : Nat) : Int)) = cycI (1 + n) g (1 + n) := by unfold cycI cyc8; rw [List.map_map]; rfl
    rw [e9] at IU2
    obtain ⟨pu, cu, hu⟩ := IU2.slc
    rw [cycI_len] at hu
    subst hu
    exact ⟨pu, cu, rfl, hb2, Reads.mono IU2 (fun _ _ _ => trivial)⟩
end Go.Proofs.Ytipnfiaphmddiaa
