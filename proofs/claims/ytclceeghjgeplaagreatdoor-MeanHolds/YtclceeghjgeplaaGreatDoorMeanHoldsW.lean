/- MeanHolds, walked. -/
import Derived.Test.YtclceeghjgeplaaGreatDoorMhC
namespace Go.Proofs.YtclceeghjgeplaaGreatDoor
set_option linter.unusedVariables false
set_option linter.unusedSimpArgs false
open Go.ChangeShapes Go.WideShapes Go.ChangeAt Go.RowKit Go.Maps

/-- A grammar in a block of its own, and what is behind it. -/
def BxM (W : World) (s : Int) (v1 v2 : Value) (w : World) : Prop := Below W.heap.size W w ∧ W.heap.size < w.heap.size ∧ w.cell? ⟨W.heap.size, 0, none⟩ = some (.int .i64 s) ∧ w.cell? ⟨W.heap.size, 1, none⟩ = some v1 ∧ w.cell? ⟨W.heap.size, 2, none⟩ = some v2
theorem BxM.new (W : World) (s : Int) (v1 v2 : Value) : BxM W s v1 v2 (W.alloc (.cells #[.int .i64 s, v1, v2] 25)) :=
  ⟨bel1 _ _, by simp, World.cell?_alloc_at _ _ _ _ rfl, World.cell?_alloc_at _ _ _ _ rfl, World.cell?_alloc_at _ _ _ _ rfl⟩
theorem BxM.any {W : World} {s : Int} {v1 v2 : Value} {w w' : World} (h : BxM W s v1 v2 w) (hb : Below w.heap.size w w') : BxM W s v1 v2 w' :=
  ⟨h.1.trans (hb.mono h.1.size), Nat.lt_of_lt_of_le h.2.1 hb.size, (hb.cell (p := ⟨_, _, none⟩) h.2.1).trans h.2.2.1, (hb.cell (p := ⟨_, _, none⟩) h.2.1).trans h.2.2.2.1, (hb.cell (p := ⟨_, _, none⟩) h.2.1).trans h.2.2.2.2⟩
set_option maxHeartbeats 4000000 in
set_option maxRecDepth 100000 in
theorem meanHolds_no (W : World) (s : Int) (v1 v2 : Value) (T : ByteArray) (k1 k2 : Option Addr × Nat × Nat) (e1 : v1 = .slice k1.1 k1.2.1 k1.2.2) (e2 : v2 = .slice k2.1 k2.2.1 k2.2.2)
    (KA : ∀ w, Below W.heap.size W w → Calls Tryz.prog 13 #[] w fun e w' => e = .returned (.bool true) ∧ Hid (Below w.heap.size w w'))
    (KN : ∀ w, Below W.heap.size W w → Calls Tryz.prog 14 #[.agg #[.int .i64 s, v1, v2], .string T] w fun e w' => e = .returned (.tuple #[.pointer none, .int .i64 1100]) ∧ Hid (Below w.heap.size w w')) :
    Calls Tryz.prog 3 #[.agg #[.int .i64 s, v1, v2], .string T] W fun e W' => e = .returned (.bool true) ∧ Below W.heap.size W W' := by
  have HX1 : Hid (BxM W s v1 v2 (W.alloc (.cells #[.int .i64 s, v1, v2] 25))) := BxM.new _ _ _ _
  have HA : Hid (∀ w, Below W.heap.size W w → Calls Tryz.prog 13 #[] w fun e w' => e = .returned (.bool true) ∧ Hid (Below w.heap.size w w')) := KA
  have HS : Hid (∀ w, Below W.heap.size W w → Calls Tryz.prog 14 #[.agg #[.int .i64 s, v1, v2], .string T] w fun e w' => e = .returned (.tuple #[.pointer none, .int .i64 1100]) ∧ Hid (Below w.heap.size w w')) := KN
  subst e1 e2
  clear KN KA
  go_enter Tryz.func3, Tryz.ntmps3
  go_wp2_with (first
    | (go_at_call 13; refine (HA.out _ HX1.out.1).mono ?_; rintro e wa ⟨rfl, ba⟩; have XA : Hid (BxM _ _ _ _ wa) := HX1.out.any ba.out; obtain ⟨-, z1, c0, c1, c2⟩ := XA.out)
    | (go_at_call 14; refine (HS.out _ XA.out.1).mono ?_; rintro e wb ⟨rfl, bb⟩; have XB : Hid (BxM _ _ _ _ wb) := XA.out.any bb.out; clear z1 c0 c1 c2)
    | (go_at_call 15; refine (num_any _ _).mono ?_; rintro e wn ⟨rfl, rfl⟩))
  go_ret
  exact ⟨rfl, XB.out.1⟩
set_option maxHeartbeats 8000000 in
set_option maxRecDepth 100000 in
theorem meanHolds_ok (W : World) (g : Gr) (v1 v2 : Value) (T : ByteArray) {F : Nat → Prop} (hg : GrIs W F v1 v2 g) (hh : ∀ r, r ∈ g.rules → 0 ≤ r.head) (hsy : SyInG g)
    (KA : ∀ w, Below W.heap.size W w → Calls Tryz.prog 13 #[] w fun e w' => e = .returned (.bool true) ∧ Hid (Below w.heap.size w w'))
    (KN : ∀ w, Below W.heap.size W w → Calls Tryz.prog 14 #[.agg #[.int .i64 g.start, v1, v2], .string T] w fun e w' => ∃ tb, e = .returned (.tuple #[.pointer (some ⟨tb, 0, none⟩), .int .i64 0]) ∧ Hid (TmIs g T tb w') ∧ Hid (Below w.heap.size w w')) :
    Calls Tryz.prog 3 #[.agg #[.int .i64 g.start, v1, v2], .string T] W fun e W' => e = .returned (.bool true) ∧ Below W.heap.size W W' := by
  obtain ⟨st, hst⟩ : ∃ st, st = g.start := ⟨_, rfl⟩
  have HX1 : Hid (BxM W st v1 v2 (W.alloc (.cells #[.int .i64 st, v1, v2] 25))) := BxM.new _ _ _ _
  have HA : Hid (∀ w, Below W.heap.size W w → Calls Tryz.prog 13 #[] w fun e w' => e = .returned (.bool true) ∧ Hid (Below w.heap.size w w')) := KA
  have HS : Hid (∀ w, Below W.heap.size W w → Calls Tryz.prog 14 #[.agg #[.int .i64 st, v1, v2], .string T] w fun e w' => ∃ tb, e = .returned (.tuple #[.pointer (some ⟨tb, 0, none⟩), .int .i64 0]) ∧ Hid (TmIs g T tb w') ∧ Hid (Below w.heap.size w w')) := by rw [hst]; exact KN
  rw [← hst]
  have HG : Hid (GrIs W F v1 v2 g) := hg
  have HH : Hid (∀ r, r ∈ g.rules → 0 ≤ r.head) := hh
  have HSY : Hid (SyInG g) := hsy
  have HST : Hid (st = g.start) := hst
  obtain ⟨p1, q1, e1, -⟩ := hg.1
  obtain ⟨p2, q2, e2⟩ := lngR hg.2
  obtain ⟨N, hN⟩ : ∃ N, N = g.names.length := ⟨_, rfl⟩
  have HN : Hid (N = g.names.length) := hN
  obtain ⟨lr, hlr⟩ : ∃ lr, lr = g.rules.length := ⟨_, rfl⟩
  rw [← hN] at e1
  rw [← hlr] at e2
  subst e1 e2
  clear KA KN hg hh hsy hst hN hlr
  go_enter Tryz.func3, Tryz.ntmps3
  go_upto_region 6 with (first
    | (go_at_call 13; refine (HA.out _ HX1.out.1).mono ?_; rintro e wa ⟨rfl, ba⟩; have XA : Hid (BxM _ _ _ _ wa) := HX1.out.any ba.out; obtain ⟨-, z1, c0, c1, c2⟩ := XA.out)
    | (go_at_call 14; refine (HS.out _ XA.out.1).mono ?_; rintro e wb ⟨tb, rfl, HT, bb⟩; have XB : Hid (BxM _ _ _ _ wb) := XA.out.any bb.out; clear z1 c0 c1 c2)
    | (go_at_call 15; refine (num_any _ _).mono ?_; rintro e wn ⟨rfl, rfl⟩))
  obtain ⟨M, n, hTb⟩ := HT.out.tbM
  have HTB : Hid (TbM g T M n tb wb) := hTb
  have HGB : Hid (∀ w', Below wb.heap.size wb w' → GrIs w' F (.slice p1 N q1) (.slice p2 lr q2) g) := fun w' hb => HG.out.any (XB.out.1.trans (hb.mono XB.out.1.size))
  have HCB : Hid (∀ w', Below wb.heap.size wb w' → w'.cell? ⟨W.heap.size, 0, none⟩ = some (.int .i64 st) ∧ w'.cell? ⟨W.heap.size, 1, none⟩ = some (.slice p1 N q1) ∧ w'.cell? ⟨W.heap.size, 2, none⟩ = some (.slice p2 lr q2)) := fun w' hb => (XB.out.any hb).2.2
  have HWB : Hid (∀ w', Below wb.heap.size wb w' → Below W.heap.size W w') := fun w' hb => XB.out.1.trans (hb.mono XB.out.1.size)
  have HSUP : Hid (∀ x i j, i ≤ j → j ≤ T.size → M x i j = g.rules.any (rlB (btsW T) M x i j)) := fun x i j hi hj => by
    have := hTb.stb.supp x i j
    rw [decide_eq_true hi, decide_eq_true hj, Bool.true_and, Bool.true_and] at this
    exact this
  have hT32 : T.size ≤ 32 := hTb.hm
  have hN64 : N ≤ 64 := by rw [HN.out]; exact hTb.nn
  have KHs : Hid (∀ (w' : World) (x i j : Nat), Below wb.heap.size wb w' → x < N → i ≤ j → j ≤ T.size → Calls Tryz.prog 16 #[.pointer (some ⟨tb, 0, none⟩), .int .i64 (x : Int), .int .i64 (i : Int), .int .i64 (j : Int)] w' fun e w'' => e = .returned (.bool (M x i j)) ∧ w' = w'') := fun w' x i j hb hx hi hj => has_tb w' (HTB.out.any hb) (by rw [← HN.out]; exact hx) hi hj
  have KRu : Hid (∀ (w' : World) (x i j : Nat), Below wb.heap.size wb w' → i ≤ j → j ≤ T.size → Calls Tryz.prog 17 #[.agg #[.int .i64 st, .slice p1 N q1, .slice p2 lr q2], .pointer (some ⟨tb, 0, none⟩), .int .i64 (x : Int), .int .i64 (i : Int), .int .i64 (j : Int)] w' fun e w'' => e = .returned (.bool (M x i j)) ∧ Hid (Below w'.heap.size w' w'')) := fun w' x i j hb hi hj => by
    have := ruled_any _ _ w' (HGB.out w' hb) (HTB.out.any hb) HH.out (x := x) hi hj
    rw [← HSUP.out x i j hi hj, ← HST.out] at this
    exact this
  have KPa : Hid (∀ (w' : World) (i j : Nat), Below wb.heap.size wb w' → i ≤ j → j ≤ T.size → Calls Tryz.prog 18 #[.agg #[.int .i64 st, .slice p1 N q1, .slice p2 lr q2], .string T, .pointer (some ⟨tb, 0, none⟩), .int .i64 (i : Int), .int .i64 (j : Int)] w' fun e w'' => e = .returned (.bool true) ∧ Hid (Below w'.heap.size w' w'')) := fun w' i j hb hi hj => by
    have := parts_any _ _ w' (HGB.out w' hb) (HTB.out.any hb) HSY.out hi hj
    rw [← HST.out] at this
    exact this
  obtain ⟨t, ht⟩ : ∃ t, t = T.size := ⟨_, rfl⟩
  have HTS : Hid (t = T.size) := ht
  rw [← ht] at hT32 KHs KRu KPa
  clear HT hTb HTB HGB HSUP HH HSY HG HS HA HX1 XA ba bb ht
  go_wp2
  go_loopw [7] (fun x' wr => ∃ i : Nat, i ≤ t + 1 ∧ x' = .int .i64 (i : Int) ∧ Hid (Below wb.heap.size wb wr)) (fun x' _ => t + 1 - (intOf x').toNat)
  case atStart => exact ⟨0, Nat.zero_le _, rfl, Below.refl _ _⟩
  case round =>
    obtain ⟨i, hi, rfl, HB⟩ := hrel
    by_cases hlt : i ≤ t
    · have e1 : decide ((i : Int) ≤ (T.size : Int)) = true := decide_eq_true (by have := HTS.out; omega)
      have e1' : (i : Int) ≤ (T.size : Int) := by have := HTS.out; omega
      go_wp2
      clear e1 e1'
      go_loopw [8] (fun x' wr => ∃ j : Nat, i ≤ j ∧ j ≤ t + 1 ∧ x' = .int .i64 (j : Int) ∧ Hid (Below wb.heap.size wb wr)) (fun x' _ => t + 1 - (intOf x').toNat)
      case atStart => exact ⟨i, Nat.le_refl _, hi, rfl, HB⟩
      case round =>
        clear HB
        obtain ⟨j, hij, hj, rfl, HB⟩ := hrel
        by_cases hltj : j ≤ t
        · have e1 : decide ((j : Int) ≤ (T.size : Int)) = true := decide_eq_true (by have := HTS.out; omega)
          have e1' : (j : Int) ≤ (T.size : Int) := by have := HTS.out; omega
          go_wp2
          clear e1 e1'
          go_loopw [9] (fun x' wr => ∃ k : Nat, k ≤ N ∧ x' = .int .i64 (k : Int) ∧ Hid (Below wb.heap.size wb wr)) (fun x' _ => N - (intOf x').toNat)
          case atStart => exact ⟨0, Nat.zero_le _, rfl, HB⟩
          case round =>
            clear HB
            obtain ⟨k, hk, rfl, HB⟩ := hrel
            obtain ⟨c0, c1, c2⟩ := HCB.out wr HB.out
            by_cases hltk : k < N
            · have HC3 : Hid (∀ w', Below wr.heap.size wr w' → w'.cell? ⟨W.heap.size, 0, none⟩ = some (.int .i64 st) ∧ w'.cell? ⟨W.heap.size, 1, none⟩ = some (.slice p1 N q1) ∧ w'.cell? ⟨W.heap.size, 2, none⟩ = some (.slice p2 lr q2)) := fun w' hb => HCB.out w' (HB.out.trans (hb.mono HB.out.size))
              have K1 : Hid (∀ w', Below wr.heap.size wr w' → Calls Tryz.prog 16 #[.pointer (some ⟨tb, 0, none⟩), .int .i64 (k : Int), .int .i64 (i : Int), .int .i64 (j : Int)] w' fun e w'' => e = .returned (.bool (M k i j)) ∧ w' = w'') := fun w' hb => KHs.out w' k i j (HB.out.trans (hb.mono HB.out.size)) hltk hij hltj
              have K2 : Hid (∀ w', Below wr.heap.size wr w' → Calls Tryz.prog 17 #[.agg #[.int .i64 st, .slice p1 N q1, .slice p2 lr q2], .pointer (some ⟨tb, 0, none⟩), .int .i64 (k : Int), .int .i64 (i : Int), .int .i64 (j : Int)] w' fun e w'' => e = .returned (.bool (M k i j)) ∧ Hid (Below w'.heap.size w' w'')) := fun w' hb => KRu.out w' k i j (HB.out.trans (hb.mono HB.out.size)) hij hltj
              obtain ⟨mk, hmk⟩ : ∃ mk, mk = M k i j := ⟨_, rfl⟩
              rw [← hmk] at K1 K2
              have bq : (!(mk == mk)) = false := by cases mk <;> rfl
              have bq2 : (mk != mk) = false := by cases mk <;> rfl
              clear hmk
              go_upto_region 15 with fail
              clear c0 c1 c2
              go_region_held3 (fun w' => Below wr.heap.size wr w' ∧ w'.cell? ⟨W.heap.size, 0, none⟩ = some (.int .i64 st) ∧ w'.cell? ⟨W.heap.size, 1, none⟩ = some (.slice p1 N q1) ∧ w'.cell? ⟨W.heap.size, 2, none⟩ = some (.slice p2 lr q2))
                ((refine (fun hb => ⟨hb, HC3.out _ hb⟩ : Below wr.heap.size wr _ → _) ?_; repeat' (first | with_reducible assumption | with_reducible exact Below.refl _ _ | with_reducible apply Below.drew)))
                ((first
                  | (go_at_call 16; first | (have hh := b4; clear hh; refine (K1.out _ b4).mono ?_; rintro e wn ⟨rfl, rfl⟩) | (refine (K1.out _ (Below.refl _ wr).drew).mono ?_; rintro e wn ⟨rfl, rfl⟩))
                  | (go_at_call 17; refine (K2.out _ (Below.refl _ wr).drew).mono ?_; rintro e w4 ⟨rfl, hb2⟩; have b4 : Below wr.heap.size wr w4 := ((Below.refl _ wr).drew).trans hb2.out; clear hb2)))
              all_goals
                have HB4 : Hid (Below wb.heap.size wb w4) := HB.out.trans (b4.mono HB.out.size)
                clear b4 K1 K2 HC3
                go_wp2
                go_roundw
                case rel => exact ⟨k + 1, by omega, by go_num, HB4⟩
                case measure => simp [intOf]; omega
            · obtain rfl : k = N := by omega
              have K3 : Hid (Calls Tryz.prog 18 #[.agg #[.int .i64 st, .slice p1 k q1, .slice p2 lr q2], .string T, .pointer (some ⟨tb, 0, none⟩), .int .i64 (i : Int), .int .i64 (j : Int)] wr fun e w'' => e = .returned (.bool true) ∧ Hid (Below wr.heap.size wr w'')) := KPa.out wr i j HB.out hij hltj
              go_wp2_with (go_at_call 18; refine K3.out.mono ?_; rintro e w4 ⟨rfl, b4⟩; have HB4 : Hid (Below wb.heap.size wb w4) := HB.out.trans (b4.out.mono HB.out.size))
              go_roundw
              case rel => exact ⟨j + 1, by omega, by omega, by go_num, HB4⟩
              case measure => simp [intOf]; omega
        · obtain rfl : j = t + 1 := by omega
          have e1 : decide (((t + 1 : Nat) : Int) ≤ (T.size : Int)) = false := decide_eq_false (by have := HTS.out; omega)
          have e1' : ¬ ((t + 1 : Nat) : Int) ≤ (T.size : Int) := by have := HTS.out; omega
          go_wp2
          go_roundw
          case rel => exact ⟨i + 1, by omega, by go_num, HB⟩
          case measure => simp [intOf]; omega
    · obtain rfl : i = t + 1 := by omega
      have e1 : decide (((t + 1 : Nat) : Int) ≤ (T.size : Int)) = false := decide_eq_false (by have := HTS.out; omega)
      have e1' : ¬ ((t + 1 : Nat) : Int) ≤ (T.size : Int) := by have := HTS.out; omega
      have HF : Hid (Below W.heap.size W wr) := HWB.out wr HB.out
      go_wp2
      go_ret
      exact ⟨rfl, HF.out⟩
end Go.Proofs.YtclceeghjgeplaaGreatDoor
