/- LevelsRows: the levels of a row of names. -/
import Derived.Test.YtipnfiaphmddiaaStrRow
namespace Go.Proofs.Ytipnfiaphmddiaa
set_option linter.unusedVariables false
open Go.ChangeShapes Go.WideShapes Go.ChangeAt Go.RowKit

theorem dwn_le (ng : Nat → Bool) : ∀ d i, dwn ng d i ≤ d
  | 0, _ => Nat.le_refl _
  | d + 1, i => by
    have := dwn_le ng d (i + 1)
    unfold dwn
    split <;> omega
def lvl (ng : Nat → Bool) (n m : Nat) : Nat := dwn ng (n - m) m
theorem lvl_top (ng : Nat → Bool) (n : Nat) : lvl ng n (1 + n) = 0 := by unfold lvl; rw [show n - (1 + n) = 0 by omega]; rfl
theorem lvl_step {ng : Nat → Bool} {n i : Nat} (h : i < n) : lvl ng n i = lvl ng n (i + 1) + (if ng i = true then 1 else 0) := by
  unfold lvl
  rw [show n - i = (n - (i + 1)) + 1 by omega]
  rfl
theorem lvl_end (ng : Nat → Bool) (n : Nat) : lvl ng n n = lvl ng n (n + 1) := by
  unfold lvl; rw [Nat.sub_self, show n - (n + 1) = 0 by omega]; rfl
set_option maxHeartbeats 2000000 in
set_option maxRecDepth 100000 in
theorem levelsRows_core (W : World) (a : Int) (n : Nat) (hn : n < 32) (ea : bits .and .i64 a 31 = (n : Int)) (pv : Option Addr) (zn cv : Nat) (hz8 : zn * 8 ≤ 140737488351232) (ng : Nat → Bool)
    (H1 : ∀ i, i < zn → ∀ w', Below W.heap.size W w' → ∃ g o z, pv = some ⟨g, o, none⟩ ∧ g < W.heap.size ∧ w'.cell? ⟨g, o + i, none⟩ = some (.int .i64 z) ∧ (bits .and .i64 z 1 == 1) = ng i) (H2 : ∀ i, ¬ i < zn → ng i = false)
    (KR : ∀ w, Below W.heap.size W w → Calls Try.prog 12 #[.int .i64 (1 + (n : Int)), .slice pv zn cv, .bool false] w fun e w' => ∃ p1 c1 p2 c2, e = .returned (.agg #[.int .i64 0, .slice p1 (1 + n) c1, .slice p2 (1 + n) c2]) ∧ Hid (Below w.heap.size w w') ∧ Hid (Calls Try.prog 9 #[.agg #[.int .i64 0, .slice p1 (1 + n) c1, .slice p2 (1 + n) c2]] w' fun e w'' => ∃ gu ou cu, e = .returned (.tuple #[.slice (some ⟨gu, ou, none⟩) (1 + n) cu, .slice none 0 0, .int .i64 0]) ∧ Hid (Below w'.heap.size w' w'') ∧ Hid (gu < w''.heap.size ∧ ∀ i, i < 1 + n → w''.cell? ⟨gu, ou + i, none⟩ = some (.int .i64 ((lvl ng n i : Nat) : Int))))) :
    Calls Try.prog 4 #[.int .i64 a, .slice pv zn cv] W fun e W' => e = .returned (.bool true) ∧ Below W.heap.size W W' := by
  have HNG := hid_of H1
  have HNO := hid_of H2
  have HKR := hid_of KR
  clear H1 H2 KR
  go_enter Try.func4, Try.ntmps4
  go_upto_region 9 with (first
    | (go_at_call 8; refine (awake8_any _).mono ?_; rintro e wa ⟨rfl, ba⟩)
    | (go_at_call 12; refine (HKR.out _ ba.out).mono ?_; rintro e wb ⟨p1, c1, p2, c2, rfl, bb, KS⟩)
    | (go_at_call 9; refine KS.out.mono ?_; rintro e X ⟨gu, ou, cu, rfl, bx, CU⟩)
    | (go_at_call 11; refine (num_any _ _).mono ?_; rintro e wn ⟨rfl, rfl⟩))
  have HBX : Hid (Below W.heap.size W X) := ba.out.trans ((bb.out.trans (bx.out.mono bb.out.size)).mono ba.out.size)
  clear ba bb bx KS HKR
  have hgu : gu < X.heap.size := CU.out.1
  go_loopw [9, 10] (fun lv x wr => ∃ m : Nat, m ≤ 1 + n ∧ lv = .int .i64 ((lvl ng n m : Nat) : Int) ∧ x = .int .i64 ((m : Int) - 1) ∧ wr = X) (fun _ x _ => (intOf x + 1).toNat)
  case atStart => exact ⟨1 + n, Nat.le_refl _, by rw [lvl_top]; rfl, by first | rfl | (congr 1; omega) | congr 1, rfl⟩
  case round =>
    obtain ⟨m, hm, rfl, rfl, rfl⟩ := hrel
    have hl : lvl ng n m < 100 := by have := dwn_le ng (n - m) m; unfold lvl; omega
    cases m with
    | zero =>
      go_wp2
      go_ret
      exact ⟨rfl, HBX.out⟩
    | succ i =>
      have e1 : ((i + 1 : Nat) : Int) - 1 = (i : Int) := by omega
      rw [e1]
      have cu0 := CU.out.2 i (by omega)
      have hst : lvl ng n i = lvl ng n (i + 1) + (if i < n ∧ ng i = true then 1 else 0) := by
        by_cases h : i < n
        · rw [lvl_step h]; simp [h]
        · rw [if_neg (fun x => h x.1)]
          obtain rfl : i = n := by omega
          exact lvl_end _ _
      obtain ⟨l0, h0⟩ : ∃ l0, l0 = lvl ng n (i + 1) := ⟨_, rfl⟩
      obtain ⟨l1, h1⟩ : ∃ l1, l1 = lvl ng n i := ⟨_, rfl⟩
      have HL1 : Hid (l1 = lvl ng n i) := h1
      rw [← h0] at hl hst ⊢
      rw [← h1] at cu0 hst
      clear h0 h1 e1
      have ha : ¬ ((i : Int) < 0) := by omega
      have hrest : ∀ {p : Prop}, (i < n → i < zn → ng i = true → p) → (i < n → i < zn → ng i = false → p) → (i < n → ¬ i < zn → p) → (¬ i < n → p) → p := fun f1 f2 f3 f4 => by
        by_cases h1 : i < n
        · by_cases h2 : i < zn
          · cases h3 : ng i
            · exact f2 h1 h2 h3
            · exact f1 h1 h2 h3
          · exact f3 h1 h2
        · exact f4 h1
      have hgu' : ¬ (1 + (n : Int) ≤ (i : Int)) := by omega
      refine hrest (fun h1 h2 h3 => ?_) (fun h1 h2 h3 => ?_) (fun h1 h2 => ?_) (fun h1 => ?_)
      · clear hrest
        obtain ⟨g, o, z, hp, hg, cz, hz⟩ := HNG.out i h2 wr HBX.out
        subst hp
        rw [if_pos ⟨h1, h3⟩] at hst
        rw [h3] at hz
        subst hst
        have k1 : (i : Int) + 1 < 1 + (n : Int) := by omega
        have k2 : (i : Int) < (zn : Int) := by omega
        clear h3 hz8
        go_wp2
        go_roundw
        case rel => exact ⟨i, by omega, by rw [← HL1.out]; go_num, by go_num, trivial⟩
        case measure => first | (simp [intOf]; done) | (simp [intOf]; omega)
      · clear hrest
        obtain ⟨g, o, z, hp, hg, cz, hz⟩ := HNG.out i h2 wr HBX.out
        subst hp
        rw [if_neg (by rw [h3]; simp)] at hst
        rw [h3] at hz
        subst hst
        have k1 : (i : Int) + 1 < 1 + (n : Int) := by omega
        have k2 : (i : Int) < (zn : Int) := by omega
        clear h3 hz8
        go_wp2
        go_roundw
        case rel => exact ⟨i, by omega, by rw [← HL1.out], by go_num, trivial⟩
        case measure => first | (simp [intOf]; done) | (simp [intOf]; omega)
      · clear hrest
        rw [if_neg (by rw [HNO.out i h2]; simp)] at hst
        subst hst
        have k1 : (i : Int) + 1 < 1 + (n : Int) := by omega
        have k2 : ¬ (i : Int) < (zn : Int) := by omega
        clear hz8
        go_wp2
        go_roundw
        case rel => exact ⟨i, by omega, by rw [← HL1.out], by go_num, trivial⟩
        case measure => first | (simp [intOf]; done) | (simp [intOf]; omega)
      · clear hrest
        rw [if_neg (fun h => h1 h.1)] at hst
        subst hst
        have k1 : ¬ (i : Int) + 1 < 1 + (n : Int) := by omega
        clear hz8
        go_wp2
        go_roundw
        case rel => exact ⟨i, by omega, by rw [← HL1.out], by go_num, trivial⟩
        case measure => first | (simp [intOf]; done) | (simp [intOf]; omega)
theorem names_ok (k : Nat) (ng : Nat → Bool) (rg : Bool) : ∀ s, s ∈ (gr8 k ng rg).names → s.size ≤ maxLen := fun s hs => by
  have := nm_sizeR s k hs
  unfold maxLen; omega
theorem levelsRows_walk (W : World) (a : Int) (wa : (Lit.int .i64 a).wf = true) (v : Value) (zs : List Int) (row : IRow W v zs) (wz : ∀ z, z ∈ zs → (Lit.int .i64 z).wf = true) (hz : zs.length * 8 ≤ 140737488351232) :
    Calls Try.prog 4 #[.int .i64 a, v] W fun e W' => e = .returned (.bool true) ∧ Below W.heap.size W W' := by
  obtain ⟨n, hn, ea⟩ := and31 a
  have row' := row
  obtain ⟨pv, cv, hv, hcap, hcell⟩ := row
  subst hv
  refine levelsRows_core W a n hn ea pv zs.length cv hz (ngR zs) (fun i hi w' hb => ?_) (fun i hi => by unfold ngR; rw [List.getElem?_eq_none (by omega)]) (fun w hb => ?_)
  · obtain ⟨z, hz⟩ : ∃ z, zs[i]? = some z := ⟨_, List.getElem?_eq_getElem hi⟩
    obtain ⟨g, o, e2, h1, h2⟩ := hcell i z hz
    exact ⟨g, o, z, e2, h1, (hb.cell (p := ⟨_, _, none⟩) h1).trans h2, by unfold ngR; rw [hz]⟩
  · have h := row8_any (1 + n) pv zs.length cv zs rfl hz false w (row'.keep hb) (by omega) (by omega)
    rw [show ((1 + n : Nat) : Int) = 1 + (n : Int) by omega] at h
    refine h.mono ?_
    rintro e w' ⟨p1, c1, p2, c2, rfl, hg, hb1⟩
    refine ⟨p1, c1, p2, c2, rfl, hb1, ?_⟩
    have hM := may8 (1 + n) (ngR zs) false (by omega) (by omega)
    have he : edgesT (gr8 (1 + n) (ngR zs) false) = eds8 (1 + n) (ngR zs) (1 + n - 1) := edges8 _ _ _ (by omega)
    have hl := eds8_ok (1 + n) (ngR zs) (1 + n - 1) (by omega) (by omega)
    have hnl : (gr8 (1 + n) (ngR zs) false).names.length = 1 + n := nmsR_len _
    have hs := strata_ok (gr8 (1 + n) (ngR zs) false) _ _ w' hg.out (names_ok _ _ _) (short8 _ _ _ _) hM (by rw [he, hnl]; exact not_bad hl row_clean)
    rw [he, hnl] at hs
    refine hs.mono ?_
    rintro e w'' ⟨u, rfl, IU, hb2⟩
    obtain ⟨pu, cu, hu⟩ := IU.out.slc
    rw [levL_length] at hu
    subst hu
    obtain ⟨p, c, e, _, h⟩ := IU.out
    rw [levL_length] at h
    obtain ⟨gu, ou, e2, _, h5, h6, _⟩ := h (by omega)
    simp only [Value.slice.injEq] at e
    obtain ⟨rfl, _, rfl⟩ := e
    subst e2
    refine ⟨gu, ou, cu, rfl, hb2, h5, fun i hi => ?_⟩
    rw [h6 i (.int .i64 _) (by unfold intsV; rw [List.getElem?_map, levL_at _ hi]; rfl), row_lev hl hi]
    unfold lvl
    rw [show 1 + n - 1 - i = n - i by omega]
end Go.Proofs.Ytipnfiaphmddiaa
