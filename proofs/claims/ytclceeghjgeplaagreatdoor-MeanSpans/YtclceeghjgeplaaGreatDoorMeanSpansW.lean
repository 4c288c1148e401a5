/- MeanSpans, walked. -/
import Derived.Test.YtclceeghjgeplaaGreatDoorMlC
namespace Go.Proofs.YtclceeghjgeplaaGreatDoor
set_option linter.unusedVariables false
set_option linter.unusedSimpArgs false
open Go.ChangeShapes Go.WideShapes Go.ChangeAt Go.RowKit Go.Maps

theorem tmod_le (z : Int) (n : Nat) : ∃ k : Nat, k ≤ n ∧ Int.tmod (IntKind.u64.wrap z) ((n : Int) + 1) = (k : Int) := by
  have hp : 0 ≤ IntKind.u64.wrap z := by rw [IntKind.wrap_u64]; omega
  have h1 := Int.tmod_nonneg ((n : Int) + 1) hp
  have h2 : Int.tmod (IntKind.u64.wrap z) ((n : Int) + 1) < (n : Int) + 1 := Int.tmod_lt_of_pos _ (by omega)
  exact ⟨(Int.tmod (IntKind.u64.wrap z) ((n : Int) + 1)).toNat, by omega, by omega⟩
theorem bt_cutT (T : ByteArray) (a d i : Nat) (hd : a + d ≤ T.size) (hi : i < d) : btsW T (a + i) = btsW (T.extract a (a + d)) i := by
  unfold btsW PlainAid.bt
  have hs : (T.extract a (a + d)).size = d := by simp; omega
  rw [dif_pos (by omega), dif_pos (by omega), ByteArray.getElem_extract]
set_option maxHeartbeats 4000000 in
set_option maxRecDepth 100000 in
theorem meanSpans_no (W : World) (s : Int) (v1 v2 : Value) (T : ByteArray) (p q : Int) (k1 k2 : Option Addr × Nat × Nat) (e1 : v1 = .slice k1.1 k1.2.1 k1.2.2) (e2 : v2 = .slice k2.1 k2.2.1 k2.2.2)
    (KA : ∀ w, Below W.heap.size W w → Calls Tryz.prog 13 #[] w fun e w' => e = .returned (.bool true) ∧ Hid (Below w.heap.size w w'))
    (KN : ∀ w, Below W.heap.size W w → Calls Tryz.prog 14 #[.agg #[.int .i64 s, v1, v2], .string T] w fun e w' => e = .returned (.tuple #[.pointer none, .int .i64 1100]) ∧ Hid (Below w.heap.size w w')) :
    Calls Tryz.prog 5 #[.agg #[.int .i64 s, v1, v2], .string T, .int .i64 p, .int .i64 q] W fun e W' => e = .returned (.bool true) ∧ Below W.heap.size W W' := by
  have HX1 : Hid (BxM W s v1 v2 (W.alloc (.cells #[.int .i64 s, v1, v2] 25))) := BxM.new _ _ _ _
  have HA : Hid (∀ w, Below W.heap.size W w → Calls Tryz.prog 13 #[] w fun e w' => e = .returned (.bool true) ∧ Hid (Below w.heap.size w w')) := KA
  have HS : Hid (∀ w, Below W.heap.size W w → Calls Tryz.prog 14 #[.agg #[.int .i64 s, v1, v2], .string T] w fun e w' => e = .returned (.tuple #[.pointer none, .int .i64 1100]) ∧ Hid (Below w.heap.size w w')) := KN
  subst e1 e2
  clear KN KA
  go_enter Tryz.func5, Tryz.ntmps5
  go_wp2_with (first
    | (go_at_call 13; refine (HA.out _ HX1.out.1).mono ?_; rintro e wa ⟨rfl, ba⟩; have XA : Hid (BxM _ _ _ _ wa) := HX1.out.any ba.out; obtain ⟨-, z1, c0, c1, c2⟩ := XA.out)
    | (go_at_call 14; refine (HS.out _ XA.out.1).mono ?_; rintro e wb ⟨rfl, bb⟩; have XB : Hid (BxM _ _ _ _ wb) := XA.out.any bb.out; clear z1 c0 c1 c2)
    | (go_at_call 15; refine (num_any _ _).mono ?_; rintro e wn ⟨rfl, rfl⟩))
  go_ret
  exact ⟨rfl, XB.out.1⟩
set_option maxHeartbeats 8000000 in
set_option maxRecDepth 100000 in
theorem meanSpans_ok (W : World) (g : Gr) (v1 v2 : Value) (T : ByteArray) (p q : Int) (hT32 : T.size ≤ 32) {F : Nat → Prop} (hg : GrIs W F v1 v2 g) {f : Nat → Nat} (hf : Str g.rules f)
    (KA : ∀ w, Below W.heap.size W w → Calls Tryz.prog 13 #[] w fun e w' => e = .returned (.bool true) ∧ Hid (Below w.heap.size w w'))
    (KN : ∀ (w : World) (T' : ByteArray), T'.size ≤ 32 → Below W.heap.size W w → Calls Tryz.prog 14 #[.agg #[.int .i64 g.start, v1, v2], .string T'] w fun e w' => ∃ tb, e = .returned (.tuple #[.pointer (some ⟨tb, 0, none⟩), .int .i64 0]) ∧ Hid (TmIs g T' tb w') ∧ Hid (Below w.heap.size w w'))
    (KM : ∀ w, Below W.heap.size W w → Calls Tryz.prog 21 #[.agg #[.int .i64 g.start, v1, v2]] w fun e w' => e = .returned (.bool true) ∧ Hid (Below w.heap.size w w')) :
    Calls Tryz.prog 5 #[.agg #[.int .i64 g.start, v1, v2], .string T, .int .i64 p, .int .i64 q] W fun e W' => e = .returned (.bool true) ∧ Below W.heap.size W W' := by
  obtain ⟨st, hst⟩ : ∃ st, st = g.start := ⟨_, rfl⟩
  obtain ⟨a, ha, ham⟩ := tmod_le p T.size
  obtain ⟨d, hd, hdm⟩ := tmod_le q (T.size - a)
  have hsz : (T.extract a (a + d)).size = d := by simp; omega
  have HX1 : Hid (BxM W st v1 v2 (W.alloc (.cells #[.int .i64 st, v1, v2] 25))) := BxM.new _ _ _ _
  have HA : Hid (∀ w, Below W.heap.size W w → Calls Tryz.prog 13 #[] w fun e w' => e = .returned (.bool true) ∧ Hid (Below w.heap.size w w')) := KA
  have HS1 : Hid (∀ w, Below W.heap.size W w → Calls Tryz.prog 14 #[.agg #[.int .i64 st, v1, v2], .string T] w fun e w' => ∃ tb, e = .returned (.tuple #[.pointer (some ⟨tb, 0, none⟩), .int .i64 0]) ∧ Hid (TmIs g T tb w') ∧ Hid (Below w.heap.size w w')) := fun w hb => by rw [hst]; exact KN w T hT32 hb
  have HS2 : Hid (∀ w, Below W.heap.size W w → Calls Tryz.prog 14 #[.agg #[.int .i64 st, v1, v2], .string (T.extract a (a + d))] w fun e w' => ∃ tb, e = .returned (.tuple #[.pointer (some ⟨tb, 0, none⟩), .int .i64 0]) ∧ Hid (TmIs g (T.extract a (a + d)) tb w') ∧ Hid (Below w.heap.size w w')) := fun w hb => by rw [hst]; exact KN w _ (by omega) hb
  have HM : Hid (∀ w, Below W.heap.size W w → Calls Tryz.prog 21 #[.agg #[.int .i64 st, v1, v2]] w fun e w' => e = .returned (.bool true) ∧ Hid (Below w.heap.size w w')) := by rw [hst]; exact KM
  rw [← hst]
  have HSTR : Hid (Str g.rules f) := hf
  have HSZ : Hid ((T.extract a (a + d)).size = d) := hsz
  obtain ⟨p1, q1, e1, -⟩ := hg.1
  obtain ⟨p2, q2, e2⟩ := lngR hg.2
  obtain ⟨N, hN⟩ : ∃ N, N = g.names.length := ⟨_, rfl⟩
  have HN : Hid (N = g.names.length) := hN
  obtain ⟨lr, hlr⟩ : ∃ lr, lr = g.rules.length := ⟨_, rfl⟩
  rw [← hN] at e1
  rw [← hlr] at e2
  subst e1 e2
  have n1 : ((T.size : Int) + 1 == 0) = false := by rw [beq_eq_false_iff_ne]; omega
  have n2 : ¬ (T.size : Int) + 1 = 0 := by omega
  rw [show ((T.size - a : Nat) : Int) = (T.size : Int) - (a : Int) by omega] at hdm
  have n3 : ((T.size : Int) - (a : Int) + 1 == 0) = false := by rw [beq_eq_false_iff_ne]; omega
  have n4 : ¬ (T.size : Int) - (a : Int) + 1 = 0 := by omega
  obtain ⟨L, hL⟩ : ∃ L, L = T.size := ⟨_, rfl⟩
  clear KA KN KM hg hst hN hlr hf hsz
  go_enter Tryz.func5, Tryz.ntmps5
  go_upto_region 6 with (first
    | (go_at_call 13; refine (HA.out _ HX1.out.1).mono ?_; rintro e wa ⟨rfl, ba⟩; have XA : Hid (BxM _ _ _ _ wa) := HX1.out.any ba.out; obtain ⟨-, z1, c0, c1, c2⟩ := XA.out)
    | (go_at_call 14; refine (HS1.out _ XA.out.1).mono ?_; rintro e wb ⟨tb, rfl, HT, bb⟩; have XB : Hid (BxM _ _ _ _ wb) := XA.out.any bb.out; clear z1 c0 c1 c2)
    | (go_at_call 15; refine (num_any _ _).mono ?_; rintro e wn ⟨rfl, rfl⟩))
  have h1 : IntKind.u64.wrap ((T.size : Int) + 1) = (T.size : Int) + 1 := by rw [IntKind.wrap_u64]; omega
  go_upto_region 7 with fail
  have h7 : IntKind.u64.wrap ((T.size : Int) - (a : Int) + 1) = (T.size : Int) - (a : Int) + 1 := by rw [IntKind.wrap_u64]; omega
  clear h1 ham n1 n2
  go_upto_region 8 with fail
  clear h7 hdm n3 n4
  have HC5 : Hid (∀ w', Below wb.heap.size wb w' → w'.cell? ⟨W.heap.size, 0, none⟩ = some (.int .i64 st) ∧ w'.cell? ⟨W.heap.size, 1, none⟩ = some (.slice p1 N q1) ∧ w'.cell? ⟨W.heap.size, 2, none⟩ = some (.slice p2 lr q2)) := fun w' hb => (XB.out.any hb).2.2
  have hb1 : (0 : Int) ≤ (a : Int) := by omega
  have hb2 : (a : Int) ≤ (a : Int) + (d : Int) := by omega
  have hb3 : (a : Int) + (d : Int) ≤ (T.size : Int) := by omega
  have KN2 : Hid (∀ w', Below wb.heap.size wb w' → Calls Tryz.prog 14 #[.agg #[.int .i64 st, .slice p1 N q1, .slice p2 lr q2], .string (T.extract a (a + d))] w' fun e w'' => ∃ ub, e = .returned (.tuple #[.pointer (some ⟨ub, 0, none⟩), .int .i64 0]) ∧ Hid (TmIs g (T.extract a (a + d)) ub w'') ∧ Hid (Below w'.heap.size w' w'')) := fun w' hb => HS2.out w' (XB.out.1.trans (hb.mono XB.out.1.size))
  have ht1 : ((a : Int)).toNat = a := by omega
  have ht2 : ((a : Int) + (d : Int)).toNat = a + d := by omega
  go_region_held3 (fun w' => Below wb.heap.size wb w' ∧ w'.cell? ⟨W.heap.size, 0, none⟩ = some (.int .i64 st) ∧ w'.cell? ⟨W.heap.size, 1, none⟩ = some (.slice p1 N q1) ∧ w'.cell? ⟨W.heap.size, 2, none⟩ = some (.slice p2 lr q2))
    ((refine (fun hb => ⟨hb, HC5.out _ hb⟩ : Below wb.heap.size wb _ → _) ?_; repeat' (first | with_reducible assumption | with_reducible exact Below.refl _ _ | with_reducible apply Below.drew)))
    ((go_at_call 14; refine (KN2.out _ (Below.refl _ wb).drew).mono ?_; rintro e w4 ⟨ub, rfl, HU, hb9⟩; have b4 : Below wb.heap.size wb w4 := ((Below.refl _ wb).drew).trans hb9.out; clear hb9))
  have X4 : Hid (BxM _ _ _ _ w4) := XB.out.any b4
  have HB4 : Hid (Below wb.heap.size wb w4) := b4
  clear KN2 HC5 hb1 hb2 hb3 ht1 ht2 b4
  obtain ⟨-, z1, c0, c1, c2⟩ := X4.out
  go_upto_region 11 with (first
    | (go_at_call 21; refine (HM.out _ X4.out.1).mono ?_; rintro e w5 ⟨rfl, b5⟩)
    | (go_at_call 15; refine (num_any _ _).mono ?_; rintro e wn ⟨rfl, rfl⟩))
  have X5 : Hid (BxM _ _ _ _ w5) := X4.out.any b5.out
  have HE : Hid (Below W.heap.size W w5) := X5.out.1
  have cc1 : w5.cell? ⟨W.heap.size, 1, none⟩ = some (.slice p1 N q1) := X5.out.2.2.2.1
  obtain ⟨M, n, hTb⟩ := HT.out.tbM
  obtain ⟨M2, n2, hUb⟩ := HU.out.tbM
  have hN64 : N ≤ 64 := by rw [HN.out]; exact hTb.nn
  have hb5 : Below wb.heap.size wb w5 := HB4.out.trans (b5.out.mono HB4.out.size)
  have HTB : Hid (TbM g T M n tb w5) := hTb.any hb5
  have HUB : Hid (TbM g (T.extract a (a + d)) M2 n2 ub w5) := hUb.any b5.out
  have hcut : ∀ x, x < N → M x (a + 0) (a + d) = M2 x 0 d ∧ rnkN (btsW T) g.rules M n x (a + 0) (a + d) = rnkN (btsW (T.extract a (a + d))) g.rules M2 n2 x 0 d := fun x hx => tb_cut hUb hTb HSTR.out (k := a) (by rw [HSZ.out]; omega) (fun i hi => bt_cutT T a d i (by omega) (by rw [HSZ.out] at hi; exact hi)) (by rw [← HN.out]; exact hx) (Nat.zero_le _) (by rw [HSZ.out]; exact Nat.le_refl _)
  obtain ⟨m, hm⟩ : ∃ m : Nat → Bool, m = fun x => M2 x 0 d := ⟨_, rfl⟩
  obtain ⟨r, hr⟩ : ∃ r : Nat → Nat, r = fun x => rnkN (btsW (T.extract a (a + d))) g.rules M2 n2 x 0 d := ⟨_, rfl⟩
  have KH1 : Hid (∀ x, x < N → Calls Tryz.prog 16 #[.pointer (some ⟨tb, 0, none⟩), .int .i64 (x : Int), .int .i64 (a : Int), .int .i64 ((a : Int) + (d : Int))] w5 fun e w'' => e = .returned (.bool (m x)) ∧ w5 = w'') := fun x hx => by
    have := has_tb w5 HTB.out (x := x) (i := a) (j := a + d) (by rw [← HN.out]; exact hx) (by omega) (by omega)
    rw [show M x a (a + d) = m x by rw [hm]; exact (hcut x hx).1, show ((a + d : Nat) : Int) = (a : Int) + (d : Int) by omega] at this
    exact this
  have KH2 : Hid (∀ x, x < N → Calls Tryz.prog 16 #[.pointer (some ⟨ub, 0, none⟩), .int .i64 (x : Int), .int .i64 0, .int .i64 (d : Int)] w5 fun e w'' => e = .returned (.bool (m x)) ∧ w5 = w'') := fun x hx => by
    have := has_tb w5 HUB.out (x := x) (i := 0) (j := d) (by rw [← HN.out]; exact hx) (by omega) (by rw [HSZ.out]; omega)
    rw [hm]
    exact this
  have KR1 : Hid (∀ x, x < N → Calls Tryz.prog 19 #[.pointer (some ⟨tb, 0, none⟩), .int .i64 (x : Int), .int .i64 (a : Int), .int .i64 ((a : Int) + (d : Int))] w5 fun e w'' => e = .returned (.int .i64 ((r x : Nat) : Int)) ∧ w5 = w'') := fun x hx => by
    have := rank_tb w5 HTB.out (x := x) (i := a) (j := a + d) (by rw [← HN.out]; exact hx) (by omega) (by omega)
    rw [show rnkN (btsW T) g.rules M n x a (a + d) = r x by rw [hr]; exact (hcut x hx).2, show ((a + d : Nat) : Int) = (a : Int) + (d : Int) by omega] at this
    exact this
  have KR2 : Hid (∀ x, x < N → Calls Tryz.prog 19 #[.pointer (some ⟨ub, 0, none⟩), .int .i64 (x : Int), .int .i64 0, .int .i64 (d : Int)] w5 fun e w'' => e = .returned (.int .i64 ((r x : Nat) : Int)) ∧ w5 = w'') := fun x hx => by
    have := rank_tb w5 HUB.out (x := x) (i := 0) (j := d) (by rw [← HN.out]; exact hx) (by omega) (by rw [HSZ.out]; omega)
    rw [hr]
    exact this
  have hwd : IntKind.i64.wrap ((a : Int) + (d : Int) - (a : Int)) = (d : Int) := by rw [IntKind.wrap_i64]; omega
  have hwd2 : IntKind.i64.wrap (d : Int) = (d : Int) := by rw [IntKind.wrap_i64]; omega
  have hsub : (a : Int) + (d : Int) - (a : Int) = (d : Int) := by omega
  clear HT hTb HTB HUB HU hUb HS1 HS2 HA HX1 XA XB X4 X5 ba bb b5 hb5 HB4 hcut hm hr HSTR HSZ HM z1 c0 c1 c2 hL hd ha hT32
  go_wp2
  go_loopw [15] (fun x' wr => ∃ k : Nat, k ≤ N ∧ x' = .int .i64 (k : Int) ∧ Hid (wr = w5)) (fun x' _ => N - (intOf x').toNat)
  case atStart => exact ⟨0, Nat.zero_le _, rfl, rfl⟩
  case round =>
    obtain ⟨k, hk, rfl, HWX⟩ := hrel
    obtain rfl : wr = w5 := HWX.out
    clear HWX
    by_cases hltk : k < N
    · have H1 : Hid (Calls Tryz.prog 16 #[.pointer (some ⟨tb, 0, none⟩), .int .i64 (k : Int), .int .i64 (a : Int), .int .i64 ((a : Int) + (d : Int))] wr fun e w'' => e = .returned (.bool (m k)) ∧ wr = w'') := KH1.out k hltk
      have H2 : Hid (Calls Tryz.prog 16 #[.pointer (some ⟨ub, 0, none⟩), .int .i64 (k : Int), .int .i64 0, .int .i64 (d : Int)] wr fun e w'' => e = .returned (.bool (m k)) ∧ wr = w'') := KH2.out k hltk
      have H3 : Hid (Calls Tryz.prog 19 #[.pointer (some ⟨tb, 0, none⟩), .int .i64 (k : Int), .int .i64 (a : Int), .int .i64 ((a : Int) + (d : Int))] wr fun e w'' => e = .returned (.int .i64 ((r k : Nat) : Int)) ∧ wr = w'') := KR1.out k hltk
      have H4 : Hid (Calls Tryz.prog 19 #[.pointer (some ⟨ub, 0, none⟩), .int .i64 (k : Int), .int .i64 0, .int .i64 (d : Int)] wr fun e w'' => e = .returned (.int .i64 ((r k : Nat) : Int)) ∧ wr = w'') := KR2.out k hltk
      obtain ⟨mk, hmk⟩ : ∃ mk, mk = m k := ⟨_, rfl⟩
      obtain ⟨rv, hrv⟩ : ∃ rv : Int, rv = ((r k : Nat) : Int) := ⟨_, rfl⟩
      rw [← hmk] at H1 H2
      rw [← hrv] at H3 H4
      have bq : (!(mk == mk)) = false := by cases mk <;> rfl
      have bq2 : (mk != mk) = false := by cases mk <;> rfl
      clear hmk hrv
      go_wp2_with (first
        | (go_at_call 16; first | (have hh := F1; clear hh; refine H2.out.mono ?_; rintro e wn ⟨rfl, rfl⟩) | (refine H1.out.mono ?_; rintro e wn ⟨rfl, rfl⟩; have F1 : True := trivial))
        | (go_at_call 19; first | (have hh := F2; clear hh; refine H4.out.mono ?_; rintro e wn ⟨rfl, rfl⟩) | (refine H3.out.mono ?_; rintro e wn ⟨rfl, rfl⟩; have F2 : True := trivial)))
      go_roundw
      case rel => exact ⟨k + 1, by omega, by go_num, by trivial⟩
      case measure => simp [intOf]; omega
    · obtain rfl : k = N := by omega
      go_wp2
      go_ret
      exact ⟨rfl, HE.out⟩
end Go.Proofs.YtclceeghjgeplaaGreatDoor
