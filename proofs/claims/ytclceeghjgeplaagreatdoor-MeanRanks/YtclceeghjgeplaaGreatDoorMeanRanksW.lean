/- MeanRanks, walked. -/
import Derived.Test.YtclceeghjgeplaaGreatDoorMrA
import Derived.Test.YtclceeghjgeplaaGreatDoorMlW
namespace Go.Proofs.YtclceeghjgeplaaGreatDoor
set_option linter.unusedVariables false
set_option linter.unusedSimpArgs false
open Go.ChangeShapes Go.WideShapes Go.ChangeAt Go.RowKit Go.Maps

theorem TbM.nle {g : Gr} {W : ByteArray} {M : SpM} {n tb : Nat} {w : World} (h : TbM g W M n tb w) : n ≤ 300000000 := by
  obtain ⟨T, K, h1, h2, h3, h4, rfl⟩ := h
  exact h4.tk.tl
theorem TbM.pos {g : Gr} {W : ByteArray} {M : SpM} {n tb : Nat} {w : World} (h : TbM g W M n tb w) {x i j : Nat} (hx : x < g.names.length) (hi : i ≤ j) (hj : j ≤ W.size) : (0 < rnkN (btsW W) g.rules M n x i j) = (M x i j = true) := by
  have h1 := h.full.nm x i j hx hi hj
  have h2 := fstAt_pos (f := fun k => (rkS (btsW W) g.rules M k).1 x i j) (rkN_up x i j) rfl n
  simp only [h1] at h2
  unfold rnkN
  exact propext ⟨fun h => h2.1 (by omega), fun h => by have := h2.2 h; omega⟩
set_option maxHeartbeats 4000000 in
set_option maxRecDepth 100000 in
theorem meanRanks_no (W : World) (s : Int) (v1 v2 : Value) (T : ByteArray) (k1 k2 : Option Addr × Nat × Nat) (e1 : v1 = .slice k1.1 k1.2.1 k1.2.2) (e2 : v2 = .slice k2.1 k2.2.1 k2.2.2)
    (KA : ∀ w, Below W.heap.size W w → Calls Tryz.prog 13 #[] w fun e w' => e = .returned (.bool true) ∧ Hid (Below w.heap.size w w'))
    (KN : ∀ w, Below W.heap.size W w → Calls Tryz.prog 14 #[.agg #[.int .i64 s, v1, v2], .string T] w fun e w' => e = .returned (.tuple #[.pointer none, .int .i64 1100]) ∧ Hid (Below w.heap.size w w')) :
    Calls Tryz.prog 4 #[.agg #[.int .i64 s, v1, v2], .string T] W fun e W' => e = .returned (.bool true) ∧ Below W.heap.size W W' := by
  have HX1 : Hid (BxM W s v1 v2 (W.alloc (.cells #[.int .i64 s, v1, v2] 25))) := BxM.new _ _ _ _
  have HA : Hid (∀ w, Below W.heap.size W w → Calls Tryz.prog 13 #[] w fun e w' => e = .returned (.bool true) ∧ Hid (Below w.heap.size w w')) := KA
  have HS : Hid (∀ w, Below W.heap.size W w → Calls Tryz.prog 14 #[.agg #[.int .i64 s, v1, v2], .string T] w fun e w' => e = .returned (.tuple #[.pointer none, .int .i64 1100]) ∧ Hid (Below w.heap.size w w')) := KN
  subst e1 e2
  clear KN KA
  go_enter Tryz.func4, Tryz.ntmps4
  go_wp2_with (first
    | (go_at_call 13; refine (HA.out _ HX1.out.1).mono ?_; rintro e wa ⟨rfl, ba⟩; have XA : Hid (BxM _ _ _ _ wa) := HX1.out.any ba.out; obtain ⟨-, z1, c0, c1, c2⟩ := XA.out)
    | (go_at_call 14; refine (HS.out _ XA.out.1).mono ?_; rintro e wb ⟨rfl, bb⟩; have XB : Hid (BxM _ _ _ _ wb) := XA.out.any bb.out; clear z1 c0 c1 c2)
    | (go_at_call 15; refine (num_any _ _).mono ?_; rintro e wn ⟨rfl, rfl⟩))
  go_ret
  exact ⟨rfl, XB.out.1⟩
set_option maxHeartbeats 8000000 in
set_option maxRecDepth 100000 in
theorem meanRanks_ok (W : World) (g : Gr) (v1 v2 : Value) (T : ByteArray) {F : Nat → Prop} (hg : GrIs W F v1 v2 g) (hh : ∀ r, r ∈ g.rules → 0 ≤ r.head)
    (KA : ∀ w, Below W.heap.size W w → Calls Tryz.prog 13 #[] w fun e w' => e = .returned (.bool true) ∧ Hid (Below w.heap.size w w'))
    (KN : ∀ w, Below W.heap.size W w → Calls Tryz.prog 14 #[.agg #[.int .i64 g.start, v1, v2], .string T] w fun e w' => ∃ tb, e = .returned (.tuple #[.pointer (some ⟨tb, 0, none⟩), .int .i64 0]) ∧ Hid (TmIs g T tb w') ∧ Hid (Below w.heap.size w w')) :
    Calls Tryz.prog 4 #[.agg #[.int .i64 g.start, v1, v2], .string T] W fun e W' => e = .returned (.bool true) ∧ Below W.heap.size W W' := by
  obtain ⟨st, hst⟩ : ∃ st, st = g.start := ⟨_, rfl⟩
  have HX1 : Hid (BxM W st v1 v2 (W.alloc (.cells #[.int .i64 st, v1, v2] 25))) := BxM.new _ _ _ _
  have HA : Hid (∀ w, Below W.heap.size W w → Calls Tryz.prog 13 #[] w fun e w' => e = .returned (.bool true) ∧ Hid (Below w.heap.size w w')) := KA
  have HS : Hid (∀ w, Below W.heap.size W w → Calls Tryz.prog 14 #[.agg #[.int .i64 st, v1, v2], .string T] w fun e w' => ∃ tb, e = .returned (.tuple #[.pointer (some ⟨tb, 0, none⟩), .int .i64 0]) ∧ Hid (TmIs g T tb w') ∧ Hid (Below w.heap.size w w')) := by rw [hst]; exact KN
  rw [← hst]
  have HG : Hid (GrIs W F v1 v2 g) := hg
  have HH : Hid (∀ r, r ∈ g.rules → 0 ≤ r.head) := hh
  have HST : Hid (st = g.start) := hst
  obtain ⟨p1, q1, e1, -⟩ := hg.1
  obtain ⟨p2, q2, e2⟩ := lngR hg.2
  obtain ⟨N, hN⟩ : ∃ N, N = g.names.length := ⟨_, rfl⟩
  have HN : Hid (N = g.names.length) := hN
  obtain ⟨lr, hlr⟩ : ∃ lr, lr = g.rules.length := ⟨_, rfl⟩
  rw [← hN] at e1
  rw [← hlr] at e2
  subst e1 e2
  clear KA KN hg hh hst hN hlr
  go_enter Tryz.func4, Tryz.ntmps4
  go_upto_region 6 with (first
    | (go_at_call 13; refine (HA.out _ HX1.out.1).mono ?_; rintro e wa ⟨rfl, ba⟩; have XA : Hid (BxM _ _ _ _ wa) := HX1.out.any ba.out; obtain ⟨-, z1, c0, c1, c2⟩ := XA.out)
    | (go_at_call 14; refine (HS.out _ XA.out.1).mono ?_; rintro e wb ⟨tb, rfl, HT, bb⟩; have XB : Hid (BxM _ _ _ _ wb) := XA.out.any bb.out; clear z1 c0 c1 c2)
    | (go_at_call 15; refine (num_any _ _).mono ?_; rintro e wn ⟨rfl, rfl⟩))
  obtain ⟨M, n, hTb⟩ := HT.out.tbM
  have HTB : Hid (TbM g T M n tb wb) := hTb
  have HGB : Hid (∀ w', Below wb.heap.size wb w' → GrIs w' F (.slice p1 N q1) (.slice p2 lr q2) g) := fun w' hb => HG.out.any (XB.out.1.trans (hb.mono XB.out.1.size))
  have HCB : Hid (∀ w', Below wb.heap.size wb w' → w'.cell? ⟨W.heap.size, 0, none⟩ = some (.int .i64 st) ∧ w'.cell? ⟨W.heap.size, 1, none⟩ = some (.slice p1 N q1) ∧ w'.cell? ⟨W.heap.size, 2, none⟩ = some (.slice p2 lr q2)) := fun w' hb => (XB.out.any hb).2.2
  have HWB : Hid (∀ w', Below wb.heap.size wb w' → Below W.heap.size W w') := fun w' hb => XB.out.1.trans (hb.mono XB.out.1.size)
  have hT32 : T.size ≤ 32 := hTb.hm
  have hN64 : N ≤ 64 := by rw [HN.out]; exact hTb.nn
  obtain ⟨rn, hrn⟩ : ∃ rn : Nat → Nat → Nat → Nat, rn = fun x i j => rnkN (btsW T) g.rules M n x i j := ⟨_, rfl⟩
  have hrn2 : ∀ x i j, rnkN (btsW T) g.rules M n x i j = rn x i j := fun x i j => by rw [hrn]
  have HLE : Hid (∀ x i j, rn x i j ≤ 300000000) := fun x i j => by rw [hrn]; exact Nat.le_trans (fstAt_max _ n) hTb.nle
  have HPOS : Hid (∀ x i j, x < N → i ≤ j → j ≤ T.size → ((0 < rn x i j) = (M x i j = true))) := fun x i j hx hi hj => by rw [hrn]; exact hTb.pos (by rw [← HN.out]; exact hx) hi hj
  have KHs : Hid (∀ (w' : World) (x i j : Nat), Below wb.heap.size wb w' → x < N → i ≤ j → j ≤ T.size → Calls Tryz.prog 16 #[.pointer (some ⟨tb, 0, none⟩), .int .i64 (x : Int), .int .i64 (i : Int), .int .i64 (j : Int)] w' fun e w'' => e = .returned (.bool (M x i j)) ∧ w' = w'') := fun w' x i j hb hx hi hj => has_tb w' (HTB.out.any hb) (by rw [← HN.out]; exact hx) hi hj
  have KRk : Hid (∀ (w' : World) (x i j : Nat), Below wb.heap.size wb w' → x < N → i ≤ j → j ≤ T.size → Calls Tryz.prog 19 #[.pointer (some ⟨tb, 0, none⟩), .int .i64 (x : Int), .int .i64 (i : Int), .int .i64 (j : Int)] w' fun e w'' => e = .returned (.int .i64 ((rn x i j : Nat) : Int)) ∧ w' = w'') := fun w' x i j hb hx hi hj => by rw [hrn]; exact rank_tb w' (HTB.out.any hb) (by rw [← HN.out]; exact hx) hi hj
  have KLe : Hid (∀ (w' : World) (x i j : Nat), Below wb.heap.size wb w' → x < N → i ≤ j → j ≤ T.size → M x i j = true → Calls Tryz.prog 20 #[.agg #[.int .i64 st, .slice p1 N q1, .slice p2 lr q2], .pointer (some ⟨tb, 0, none⟩), .int .i64 (x : Int), .int .i64 (i : Int), .int .i64 (j : Int)] w' fun e w'' => e = .returned (.int .i64 (((rn x i j : Nat) : Int) - 1)) ∧ Hid (Below w'.heap.size w' w'')) := fun w' x i j hb hx hi hj hm => by
    have h1 := leastR_any _ _ w' (HGB.out w' hb) (HTB.out.any hb) HH.out HTB.out.nle (x := x) hi hj
    rw [← HST.out] at h1
    refine h1.mono ?_
    rintro e w'' ⟨v, rfl, hB, hb2⟩
    have h2 := hB.out.rank (HTB.out.full.nm x i j (by rw [← HN.out]; exact hx) hi hj) (fun q c r d hr hd => by
      have := HTB.out.full.rs q c r d 0 i j hr hd (Nat.zero_le _) hi hj
      rw [List.drop_zero] at this
      exact this) hm
    rw [hrn2] at h2
    exact ⟨by rw [show v = ((rn x i j : Nat) : Int) - 1 by omega], hb2⟩
  obtain ⟨t, ht⟩ : ∃ t, t = T.size := ⟨_, rfl⟩
  have HTS : Hid (t = T.size) := ht
  rw [← ht] at hT32 KHs KRk KLe HPOS
  clear HT hTb HTB HGB HH HG HS HA HX1 XA ba bb ht hrn hrn2
  go_wp2
  go_loopw [7] (fun x' wr => ∃ i : Nat, i ≤ t + 1 ∧ x' = .int .i64 (i : Int) ∧ Hid (Below wb.heap.size wb wr)) (fun x' _ => t + 1 - (intOf x').toNat)
  case atStart => exact ⟨0, Nat.zero_le _, rfl, Below.refl _ _⟩
  case round =>
    obtain ⟨i, hi, rfl, HB⟩ := hrel
    by_cases hlt : i ≤ t
    · have e1 : decide ((i : Int) ≤ (T.size : Int)) = true := decide_eq_true (by have := HTS.out; omega)
      have e1' : (i : Int) ≤ (T.size : Int) := by have := HTS.out; omega
      go_wp2
      clear e1 e1'
      go_loopw [8] (fun x' wr => ∃ j : Nat, i ≤ j ∧ j ≤ t + 1 ∧ x' = .int .i64 (j : Int) ∧ Hid (Below wb.heap.size wb wr)) (fun x' _ => t + 1 - (intOf x').toNat)
      case atStart => exact ⟨i, Nat.le_refl _, hi, rfl, HB⟩
      case round =>
        clear HB
        obtain ⟨j, hij, hj, rfl, HB⟩ := hrel
        by_cases hltj : j ≤ t
        · have e1 : decide ((j : Int) ≤ (T.size : Int)) = true := decide_eq_true (by have := HTS.out; omega)
          have e1' : (j : Int) ≤ (T.size : Int) := by have := HTS.out; omega
          go_wp2
          clear e1 e1'
          go_loopw [9] (fun x' wr => ∃ k : Nat, k ≤ N ∧ x' = .int .i64 (k : Int) ∧ Hid (Below wb.heap.size wb wr)) (fun x' _ => N - (intOf x').toNat)
          case atStart => exact ⟨0, Nat.zero_le _, rfl, HB⟩
          case round =>
            clear HB
            obtain ⟨k, hk, rfl, HB⟩ := hrel
            obtain ⟨c0, c1, c2⟩ := HCB.out wr HB.out
            by_cases hltk : k < N
            · have HC3 : Hid (∀ w', Below wr.heap.size wr w' → w'.cell? ⟨W.heap.size, 0, none⟩ = some (.int .i64 st) ∧ w'.cell? ⟨W.heap.size, 1, none⟩ = some (.slice p1 N q1) ∧ w'.cell? ⟨W.heap.size, 2, none⟩ = some (.slice p2 lr q2)) := fun w' hb => HCB.out w' (HB.out.trans (hb.mono HB.out.size))
              have K1 : Hid (∀ w', Below wr.heap.size wr w' → Calls Tryz.prog 16 #[.pointer (some ⟨tb, 0, none⟩), .int .i64 (k : Int), .int .i64 (i : Int), .int .i64 (j : Int)] w' fun e w'' => e = .returned (.bool (M k i j)) ∧ w' = w'') := fun w' hb => KHs.out w' k i j (HB.out.trans (hb.mono HB.out.size)) hltk hij hltj
              have K2 : Hid (∀ w', Below wr.heap.size wr w' → Calls Tryz.prog 19 #[.pointer (some ⟨tb, 0, none⟩), .int .i64 (k : Int), .int .i64 (i : Int), .int .i64 (j : Int)] w' fun e w'' => e = .returned (.int .i64 ((rn k i j : Nat) : Int)) ∧ w' = w'') := fun w' hb => KRk.out w' k i j (HB.out.trans (hb.mono HB.out.size)) hltk hij hltj
              have K3 : Hid (M k i j = true → ∀ w', Below wr.heap.size wr w' → Calls Tryz.prog 20 #[.agg #[.int .i64 st, .slice p1 N q1, .slice p2 lr q2], .pointer (some ⟨tb, 0, none⟩), .int .i64 (k : Int), .int .i64 (i : Int), .int .i64 (j : Int)] w' fun e w'' => e = .returned (.int .i64 (((rn k i j : Nat) : Int) - 1)) ∧ Hid (Below w'.heap.size w' w'')) := fun hm w' hb => KLe.out w' k i j (HB.out.trans (hb.mono HB.out.size)) hltk hij hltj hm
              have hpos := HPOS.out k i j hltk hij hltj
              have hrl := HLE.out k i j
              obtain ⟨mk, hmk⟩ : ∃ mk, mk = M k i j := ⟨_, rfl⟩
              obtain ⟨rv, hrv⟩ : ∃ rv, rv = rn k i j := ⟨_, rfl⟩
              rw [← hmk] at K1 K3 hpos
              rw [← hrv] at K2 K3 hpos hrl
              clear hmk hrv
              go_upto_region 15 with fail
              clear c0 c1 c2
              cases mk with
              | false =>
                obtain rfl : rv = 0 := by have : ¬ 0 < rv := by rw [hpos]; decide
                                          omega
                clear K3 hpos
                obtain ⟨ι, fw, n0, hf0, hfw, hcl⟩ := family2M (fun w' => Below wr.heap.size wr w') wr.drew (Below.refl _ _).drew
                have hne0 : Nonempty ι := ⟨n0⟩
                have e0 := fun n => (HC3.out (fw n) (hfw n)).1
                have e1 := fun n => (HC3.out (fw n) (hfw n)).2.1
                have e2 := fun n => (HC3.out (fw n) (hfw n)).2.2
                refine region_classM fw (by kernel_rfl) (by kernel_rfl) ⟨n0, hf0⟩ ?_
                clear hf0
                repeat (go_big_quiet_step ((first | (go_at_call 16; (with_reducible refine (K1.out _ (hfw _)).mono ?_; rintro e w' ⟨rfl, rfl⟩; exact ⟨rfl, hcl _ (hfw _)⟩)) | (go_at_call 19; (with_reducible refine (K2.out _ (hfw _)).mono ?_; rintro e w' ⟨rfl, rfl⟩; exact ⟨rfl, hcl _ (hfw _)⟩)))))
                refine wpQuiet_nil ?_
                intro w9 hw9
                obtain ⟨mm, rfl⟩ := hw9
                have H9 : Hid (Below wb.heap.size wb (fw mm)) := HB.out.trans ((hfw mm).mono HB.out.size)
                generalize fw mm = w9 at H9
                clear hcl hfw hne0 n0 e0 e1 e2
                clear fw
                clear K1 K2 HC3
                go_wp2
                go_roundw
                case rel => exact ⟨k + 1, by omega, by go_num, H9⟩
                case measure => simp [intOf]; omega
              | true =>
                have hrp : 0 < rv := by rw [hpos]
                have K3' : Hid (∀ w', Below wr.heap.size wr w' → Calls Tryz.prog 20 #[.agg #[.int .i64 st, .slice p1 N q1, .slice p2 lr q2], .pointer (some ⟨tb, 0, none⟩), .int .i64 (k : Int), .int .i64 (i : Int), .int .i64 (j : Int)] w' fun e w'' => e = .returned (.int .i64 ((rv : Int) - 1)) ∧ Hid (Below w'.heap.size w' w'')) := K3.out rfl
                have d1 : decide ((rv : Int) > 0) = true := decide_eq_true (by omega)
                have d2 : decide ((0 : Int) < (rv : Int)) = true := decide_eq_true (by omega)
                have d3 : (0 : Int) < (rv : Int) := by omega
                obtain ⟨lv, hlv⟩ : ∃ lv, lv = (rv : Int) - 1 := ⟨_, rfl⟩
                have hw1 : IntKind.i64.wrap (1 + lv) = (rv : Int) := by rw [IntKind.wrap_i64]; omega
                rw [← hlv] at K3'
                clear K3 hpos hlv
                obtain ⟨ι, fw, n0, hf0, hfw, hcl⟩ := family2M (fun w' => Below wr.heap.size wr w') wr.drew (Below.refl _ _).drew
                have hne0 : Nonempty ι := ⟨n0⟩
                have e0 := fun n => (HC3.out (fw n) (hfw n)).1
                have e1 := fun n => (HC3.out (fw n) (hfw n)).2.1
                have e2 := fun n => (HC3.out (fw n) (hfw n)).2.2
                refine region_classM fw (by kernel_rfl) (by kernel_rfl) ⟨n0, hf0⟩ ?_
                clear hf0
                repeat (go_big_quiet_step ((first | (go_at_call 16; (with_reducible refine (K1.out _ (hfw _)).mono ?_; rintro e w' ⟨rfl, rfl⟩; exact ⟨rfl, hcl _ (hfw _)⟩)) | (go_at_call 19; (with_reducible refine (K2.out _ (hfw _)).mono ?_; rintro e w' ⟨rfl, rfl⟩; exact ⟨rfl, hcl _ (hfw _)⟩)) | (go_at_call 20; (with_reducible refine (K3'.out _ (hfw _)).mono ?_; rintro e w' ⟨rfl, hb'⟩; exact ⟨rfl, hcl _ ((hfw _).trans (hb'.out.mono (hfw _).size))⟩)))))
                refine wpQuiet_nil ?_
                intro w9 hw9
                obtain ⟨mm, rfl⟩ := hw9
                have H9 : Hid (Below wb.heap.size wb (fw mm)) := HB.out.trans ((hfw mm).mono HB.out.size)
                generalize fw mm = w9 at H9
                clear hcl hfw hne0 n0 e0 e1 e2
                clear fw
                clear K1 K2 K3' HC3
                go_wp2
                go_roundw
                case rel => exact ⟨k + 1, by omega, by go_num, H9⟩
                case measure => simp [intOf]; omega
            · obtain rfl : k = N := by omega
              go_wp2
              go_roundw
              case rel => exact ⟨j + 1, by omega, by omega, by go_num, HB⟩
              case measure => simp [intOf]; omega
        · obtain rfl : j = t + 1 := by omega
          have e1 : decide (((t + 1 : Nat) : Int) ≤ (T.size : Int)) = false := decide_eq_false (by have := HTS.out; omega)
          have e1' : ¬ ((t + 1 : Nat) : Int) ≤ (T.size : Int) := by have := HTS.out; omega
          go_wp2
          go_roundw
          case rel => exact ⟨i + 1, by omega, by go_num, HB⟩
          case measure => simp [intOf]; omega
    · obtain rfl : i = t + 1 := by omega
      have e1 : decide (((t + 1 : Nat) : Int) ≤ (T.size : Int)) = false := decide_eq_false (by have := HTS.out; omega)
      have e1' : ¬ ((t + 1 : Nat) : Int) ≤ (T.size : Int) := by have := HTS.out; omega
      have HF : Hid (Below W.heap.size W wr) := HWB.out wr HB.out
      go_wp2
      go_ret
      exact ⟨rfl, HF.out⟩
end Go.Proofs.YtclceeghjgeplaaGreatDoor
