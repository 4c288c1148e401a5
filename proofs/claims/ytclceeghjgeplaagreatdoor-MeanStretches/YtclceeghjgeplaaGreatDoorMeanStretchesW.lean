/- MeanStretches, walked. -/
import Derived.Test.YtclceeghjgeplaaGreatDoorMlC
namespace Go.Proofs.YtclceeghjgeplaaGreatDoor
set_option linter.unusedVariables false
set_option linter.unusedSimpArgs false
open Go.ChangeShapes Go.WideShapes Go.ChangeAt Go.RowKit Go.Maps

set_option maxHeartbeats 4000000 in
set_option maxRecDepth 100000 in
theorem meanStretches_far (W : World) (s : Int) (v1 v2 : Value) (T A B : ByteArray) (hT : T.size ≤ 140737488351232) (hA : A.size ≤ 140737488351232) (hB : B.size ≤ 140737488351232) (hn : 12 < T.size + A.size + B.size) (k1 k2 : Option Addr × Nat × Nat) (e1 : v1 = .slice k1.1 k1.2.1 k1.2.2) (e2 : v2 = .slice k2.1 k2.2.1 k2.2.2)
    (KA : ∀ w, Below W.heap.size W w → Calls Tryz.prog 13 #[] w fun e w' => e = .returned (.bool true) ∧ Hid (Below w.heap.size w w')) :
    Calls Tryz.prog 10 #[.agg #[.int .i64 s, v1, v2], .string T, .string A, .string B] W fun e W' => e = .returned (.bool true) ∧ Below W.heap.size W W' := by
  have HX1 : Hid (BxM W s v1 v2 (W.alloc (.cells #[.int .i64 s, v1, v2] 25))) := BxM.new _ _ _ _
  have HA : Hid (∀ w, Below W.heap.size W w → Calls Tryz.prog 13 #[] w fun e w' => e = .returned (.bool true) ∧ Hid (Below w.heap.size w w')) := KA
  have hw1 : IntKind.i64.wrap ((T.size : Int) + (A.size : Int)) = (T.size : Int) + (A.size : Int) := by rw [IntKind.wrap_i64]; omega
  have hw2 : IntKind.i64.wrap ((T.size : Int) + (A.size : Int) + (B.size : Int)) = (T.size : Int) + (A.size : Int) + (B.size : Int) := by rw [IntKind.wrap_i64]; omega
  have d1 : decide ((T.size : Int) + (A.size : Int) + (B.size : Int) > 12) = true := decide_eq_true (by omega)
  have d2 : (12 : Int) < (T.size : Int) + (A.size : Int) + (B.size : Int) := by omega
  subst e1 e2
  clear KA hT hA hB hn
  go_enter Tryz.func10, Tryz.ntmps10
  go_wp2_with (go_at_call 13; refine (HA.out _ HX1.out.1).mono ?_; rintro e wa ⟨rfl, ba⟩; have XA : Hid (BxM _ _ _ _ wa) := HX1.out.any ba.out)
  go_ret
  exact ⟨rfl, XA.out.1⟩
set_option maxHeartbeats 4000000 in
set_option maxRecDepth 100000 in
theorem meanStretches_no (W : World) (s : Int) (v1 v2 : Value) (T A B : ByteArray) (hn : T.size + A.size + B.size ≤ 12) (k1 k2 : Option Addr × Nat × Nat) (e1 : v1 = .slice k1.1 k1.2.1 k1.2.2) (e2 : v2 = .slice k2.1 k2.2.1 k2.2.2)
    (KA : ∀ w, Below W.heap.size W w → Calls Tryz.prog 13 #[] w fun e w' => e = .returned (.bool true) ∧ Hid (Below w.heap.size w w'))
    (KN : ∀ (w : World) (T' : ByteArray), T'.size ≤ 12 → Below W.heap.size W w → Calls Tryz.prog 14 #[.agg #[.int .i64 s, v1, v2], .string T'] w fun e w' => e = .returned (.tuple #[.pointer none, .int .i64 1100]) ∧ Hid (Below w.heap.size w w')) :
    Calls Tryz.prog 10 #[.agg #[.int .i64 s, v1, v2], .string T, .string A, .string B] W fun e W' => e = .returned (.bool true) ∧ Below W.heap.size W W' := by
  have HX1 : Hid (BxM W s v1 v2 (W.alloc (.cells #[.int .i64 s, v1, v2] 25))) := BxM.new _ _ _ _
  have HA : Hid (∀ w, Below W.heap.size W w → Calls Tryz.prog 13 #[] w fun e w' => e = .returned (.bool true) ∧ Hid (Below w.heap.size w w')) := KA
  have HS1 : Hid (∀ w, Below W.heap.size W w → Calls Tryz.prog 14 #[.agg #[.int .i64 s, v1, v2], .string T] w fun e w' => e = .returned (.tuple #[.pointer none, .int .i64 1100]) ∧ Hid (Below w.heap.size w w')) := fun w hb => KN w T (by omega) hb
  have HS2 : Hid (∀ w, Below W.heap.size W w → Calls Tryz.prog 14 #[.agg #[.int .i64 s, v1, v2], .string (A ++ T ++ B)] w fun e w' => e = .returned (.tuple #[.pointer none, .int .i64 1100]) ∧ Hid (Below w.heap.size w w')) := fun w hb => KN w (A ++ T ++ B) (by rw [ByteArray.size_append, ByteArray.size_append]; omega) hb
  have hw1 : IntKind.i64.wrap ((T.size : Int) + (A.size : Int)) = (T.size : Int) + (A.size : Int) := by rw [IntKind.wrap_i64]; omega
  have hw2 : IntKind.i64.wrap ((T.size : Int) + (A.size : Int) + (B.size : Int)) = (T.size : Int) + (A.size : Int) + (B.size : Int) := by rw [IntKind.wrap_i64]; omega
  have d1 : decide ((T.size : Int) + (A.size : Int) + (B.size : Int) > 12) = false := decide_eq_false (by omega)
  have d2 : ¬ (12 : Int) < (T.size : Int) + (A.size : Int) + (B.size : Int) := by omega
  subst e1 e2
  clear KA KN hn
  go_enter Tryz.func10, Tryz.ntmps10
  go_wp2_with (first
    | (go_at_call 13; refine (HA.out _ HX1.out.1).mono ?_; rintro e wa ⟨rfl, ba⟩; have XA : Hid (BxM _ _ _ _ wa) := HX1.out.any ba.out; obtain ⟨-, z1, c0, c1, c2⟩ := XA.out)
    | (go_at_call 14; first
      | (have hh := XB; clear hh; refine (HS2.out _ XB.out.1).mono ?_; rintro e wc ⟨rfl, bc⟩; have XC : Hid (BxM _ _ _ _ wc) := XB.out.any bc.out; clear z1 c0 c1 c2)
      | (refine (HS1.out _ XA.out.1).mono ?_; rintro e wb ⟨rfl, bb⟩; have XB : Hid (BxM _ _ _ _ wb) := XA.out.any bb.out; clear z1 c0 c1 c2; obtain ⟨-, z1, c0, c1, c2⟩ := XB.out))
    | (go_at_call 15; refine (num_any _ _).mono ?_; rintro e wn ⟨rfl, rfl⟩))
  go_ret
  exact ⟨rfl, XC.out.1⟩
set_option maxHeartbeats 8000000 in
set_option maxRecDepth 100000 in
theorem meanStretches_ok (W : World) (g : Gr) (v1 v2 : Value) (T A B : ByteArray) (hn : T.size + A.size + B.size ≤ 12) {F : Nat → Prop} (hg : GrIs W F v1 v2 g) {f : Nat → Nat} (hf : Str g.rules f)
    (KA : ∀ w, Below W.heap.size W w → Calls Tryz.prog 13 #[] w fun e w' => e = .returned (.bool true) ∧ Hid (Below w.heap.size w w'))
    (KN : ∀ (w : World) (T' : ByteArray), T'.size ≤ 12 → Below W.heap.size W w → Calls Tryz.prog 14 #[.agg #[.int .i64 g.start, v1, v2], .string T'] w fun e w' => ∃ tb, e = .returned (.tuple #[.pointer (some ⟨tb, 0, none⟩), .int .i64 0]) ∧ Hid (TmIs g T' tb w') ∧ Hid (Below w.heap.size w w')) :
    Calls Tryz.prog 10 #[.agg #[.int .i64 g.start, v1, v2], .string T, .string A, .string B] W fun e W' => e = .returned (.bool true) ∧ Below W.heap.size W W' := by
  obtain ⟨st, hst⟩ : ∃ st, st = g.start := ⟨_, rfl⟩
  have HX1 : Hid (BxM W st v1 v2 (W.alloc (.cells #[.int .i64 st, v1, v2] 25))) := BxM.new _ _ _ _
  have HA : Hid (∀ w, Below W.heap.size W w → Calls Tryz.prog 13 #[] w fun e w' => e = .returned (.bool true) ∧ Hid (Below w.heap.size w w')) := KA
  have HS1 : Hid (∀ w, Below W.heap.size W w → Calls Tryz.prog 14 #[.agg #[.int .i64 st, v1, v2], .string T] w fun e w' => ∃ tb, e = .returned (.tuple #[.pointer (some ⟨tb, 0, none⟩), .int .i64 0]) ∧ Hid (TmIs g T tb w') ∧ Hid (Below w.heap.size w w')) := fun w hb => by rw [hst]; exact KN w T (by omega) hb
  have HS2 : Hid (∀ w, Below W.heap.size W w → Calls Tryz.prog 14 #[.agg #[.int .i64 st, v1, v2], .string (A ++ T ++ B)] w fun e w' => ∃ tb, e = .returned (.tuple #[.pointer (some ⟨tb, 0, none⟩), .int .i64 0]) ∧ Hid (TmIs g (A ++ T ++ B) tb w') ∧ Hid (Below w.heap.size w w')) := fun w hb => by rw [hst]; exact KN w (A ++ T ++ B) (by rw [ByteArray.size_append, ByteArray.size_append]; omega) hb
  rw [← hst]
  have hw1 : IntKind.i64.wrap ((T.size : Int) + (A.size : Int)) = (T.size : Int) + (A.size : Int) := by rw [IntKind.wrap_i64]; omega
  have hw2 : IntKind.i64.wrap ((T.size : Int) + (A.size : Int) + (B.size : Int)) = (T.size : Int) + (A.size : Int) + (B.size : Int) := by rw [IntKind.wrap_i64]; omega
  have d1 : decide ((T.size : Int) + (A.size : Int) + (B.size : Int) > 12) = false := decide_eq_false (by omega)
  have d2 : ¬ (12 : Int) < (T.size : Int) + (A.size : Int) + (B.size : Int) := by omega
  have HSTR : Hid (Str g.rules f) := hf
  obtain ⟨p1, q1, e1, -⟩ := hg.1
  obtain ⟨p2, q2, e2⟩ := lngR hg.2
  obtain ⟨N, hN⟩ : ∃ N, N = g.names.length := ⟨_, rfl⟩
  have HN : Hid (N = g.names.length) := hN
  obtain ⟨lr, hlr⟩ : ∃ lr, lr = g.rules.length := ⟨_, rfl⟩
  rw [← hN] at e1
  rw [← hlr] at e2
  subst e1 e2
  clear KA KN hg hst hN hlr hf
  go_enter Tryz.func10, Tryz.ntmps10
  go_upto_region 9 with (first
    | (go_at_call 13; refine (HA.out _ HX1.out.1).mono ?_; rintro e wa ⟨rfl, ba⟩; have XA : Hid (BxM _ _ _ _ wa) := HX1.out.any ba.out; obtain ⟨-, z1, c0, c1, c2⟩ := XA.out)
    | (go_at_call 14; first
      | (have hh := XB; clear hh; refine (HS2.out _ XB.out.1).mono ?_; rintro e wc ⟨ub, rfl, HU, bc⟩; have XC : Hid (BxM _ _ _ _ wc) := XB.out.any bc.out; clear z1 c0 c1 c2)
      | (refine (HS1.out _ XA.out.1).mono ?_; rintro e wb ⟨tb, rfl, HT, bb⟩; have XB : Hid (BxM _ _ _ _ wb) := XA.out.any bb.out; clear z1 c0 c1 c2; obtain ⟨-, z1, c0, c1, c2⟩ := XB.out))
    | (go_at_call 15; refine (num_any _ _).mono ?_; rintro e wn ⟨rfl, rfl⟩))
  obtain ⟨M, n, hTb⟩ := HT.out.tbM
  obtain ⟨M2, n2, hUb⟩ := HU.out.tbM
  have HTB : Hid (TbM g T M n tb wc) := hTb.any bc.out
  have HUB : Hid (TbM g (A ++ T ++ B) M2 n2 ub wc) := hUb
  have hsz : (A ++ T ++ B).size = A.size + T.size + B.size := by rw [ByteArray.size_append, ByteArray.size_append]
  have HCUT : Hid (∀ x i j, x < N → i ≤ j → j ≤ T.size → M2 x (A.size + i) (A.size + j) = M x i j ∧ rnkN (btsW (A ++ T ++ B)) g.rules M2 n2 x (A.size + i) (A.size + j) = rnkN (btsW T) g.rules M n x i j) := fun x i j hx hi hj => tb_cut hTb hUb HSTR.out (k := A.size) (by omega) (fun i hi => by rw [bt_app2 _ _ _ (by rw [ByteArray.size_append]; omega), bt_app _ _ _ hi]) (by rw [← HN.out]; exact hx) hi hj
  have c1 : wc.cell? ⟨W.heap.size, 1, none⟩ = some (.slice p1 N q1) := XC.out.2.2.2.1
  have HE : Hid (Below W.heap.size W wc) := XC.out.1
  have hN64 : N ≤ 64 := by rw [HN.out]; exact hTb.nn
  obtain ⟨rn, hrn⟩ : ∃ rn : Nat → Nat → Nat → Nat, rn = fun x i j => rnkN (btsW T) g.rules M n x i j := ⟨_, rfl⟩
  have KH1 : Hid (∀ (x i j : Nat), x < N → i ≤ j → j ≤ T.size → Calls Tryz.prog 16 #[.pointer (some ⟨tb, 0, none⟩), .int .i64 (x : Int), .int .i64 (i : Int), .int .i64 (j : Int)] wc fun e w'' => e = .returned (.bool (M x i j)) ∧ wc = w'') := fun x i j hx hi hj => has_tb wc HTB.out (by rw [← HN.out]; exact hx) hi hj
  have KH2 : Hid (∀ (x i j : Nat), x < N → i ≤ j → j ≤ T.size → Calls Tryz.prog 16 #[.pointer (some ⟨ub, 0, none⟩), .int .i64 (x : Int), .int .i64 ((A.size : Int) + (i : Int)), .int .i64 ((A.size : Int) + (j : Int))] wc fun e w'' => e = .returned (.bool (M x i j)) ∧ wc = w'') := fun x i j hx hi hj => by
    have := has_tb wc HUB.out (x := x) (i := A.size + i) (j := A.size + j) (by rw [← HN.out]; exact hx) (by omega) (by rw [hsz]; omega)
    rw [(HCUT.out x i j hx hi hj).1] at this
    rw [show ((A.size + i : Nat) : Int) = (A.size : Int) + (i : Int) by omega, show ((A.size + j : Nat) : Int) = (A.size : Int) + (j : Int) by omega] at this
    exact this
  have KR1 : Hid (∀ (x i j : Nat), x < N → i ≤ j → j ≤ T.size → Calls Tryz.prog 19 #[.pointer (some ⟨tb, 0, none⟩), .int .i64 (x : Int), .int .i64 (i : Int), .int .i64 (j : Int)] wc fun e w'' => e = .returned (.int .i64 ((rn x i j : Nat) : Int)) ∧ wc = w'') := fun x i j hx hi hj => by rw [hrn]; exact rank_tb wc HTB.out (by rw [← HN.out]; exact hx) hi hj
  have KR2 : Hid (∀ (x i j : Nat), x < N → i ≤ j → j ≤ T.size → Calls Tryz.prog 19 #[.pointer (some ⟨ub, 0, none⟩), .int .i64 (x : Int), .int .i64 ((A.size : Int) + (i : Int)), .int .i64 ((A.size : Int) + (j : Int))] wc fun e w'' => e = .returned (.int .i64 ((rn x i j : Nat) : Int)) ∧ wc = w'') := fun x i j hx hi hj => by
    have := rank_tb wc HUB.out (x := x) (i := A.size + i) (j := A.size + j) (by rw [← HN.out]; exact hx) (by omega) (by rw [hsz]; omega)
    rw [(HCUT.out x i j hx hi hj).2] at this
    rw [show ((A.size + i : Nat) : Int) = (A.size : Int) + (i : Int) by omega, show ((A.size + j : Nat) : Int) = (A.size : Int) + (j : Int) by omega] at this
    rw [hrn]
    exact this
  obtain ⟨t, ht⟩ : ∃ t, t = T.size := ⟨_, rfl⟩
  have HTS : Hid (t = T.size) := ht
  obtain ⟨a, ha⟩ : ∃ a : Int, a = (A.size : Int) := ⟨_, rfl⟩
  have ha0 : 0 ≤ a := by omega
  have ha1 : a ≤ 12 := by omega
  have HAS : Hid (a = (A.size : Int)) := ha
  have hta : a + (t : Int) ≤ 12 := by omega
  rw [← ht] at KH1 KH2 KR1 KR2
  rw [← ha] at KH2 KR2
  clear HT hTb HTB HUB HU hUb HS1 HS2 HA HX1 XA XB XC ba bb bc ht hrn hw1 hw2 d1 d2 HCUT HSTR hsz hn
  go_upto_region 10 with fail
  rw [← ha]
  clear ha
  go_wp2
  go_loopw [14] (fun x' wr => ∃ i : Nat, i ≤ t + 1 ∧ x' = .int .i64 (i : Int) ∧ Hid (wr = wc)) (fun x' _ => t + 1 - (intOf x').toNat)
  case atStart => exact ⟨0, Nat.zero_le _, rfl, rfl⟩
  case round =>
    obtain ⟨i, hi, rfl, HWX⟩ := hrel
    obtain rfl : wr = wc := HWX.out
    clear HWX
    by_cases hlt : i ≤ t
    · have e1 : decide ((i : Int) ≤ (T.size : Int)) = true := decide_eq_true (by have := HTS.out; omega)
      have e1' : (i : Int) ≤ (T.size : Int) := by have := HTS.out; omega
      go_wp2
      clear e1 e1'
      obtain ⟨wq, hwq⟩ : ∃ wq, wq = wr := ⟨_, rfl⟩
      subst hwq
      go_loopw [15] (fun x' wr => ∃ j : Nat, i ≤ j ∧ j ≤ t + 1 ∧ x' = .int .i64 (j : Int) ∧ Hid (wr = wq)) (fun x' _ => t + 1 - (intOf x').toNat)
      case atStart => exact ⟨i, Nat.le_refl _, hi, rfl, rfl⟩
      case round =>
        obtain ⟨j, hij, hj, rfl, HWX⟩ := hrel
        obtain rfl : wr = wq := HWX.out
        clear HWX
        by_cases hltj : j ≤ t
        · have e1 : decide ((j : Int) ≤ (T.size : Int)) = true := decide_eq_true (by have := HTS.out; omega)
          have e1' : (j : Int) ≤ (T.size : Int) := by have := HTS.out; omega
          go_wp2
          clear e1 e1'
          obtain ⟨wq, hwq⟩ : ∃ wq, wq = wr := ⟨_, rfl⟩
          subst hwq
          go_loopw [16] (fun x' wr => ∃ k : Nat, k ≤ N ∧ x' = .int .i64 (k : Int) ∧ Hid (wr = wq)) (fun x' _ => N - (intOf x').toNat)
          case atStart => exact ⟨0, Nat.zero_le _, rfl, rfl⟩
          case round =>
            obtain ⟨k, hk, rfl, HWX⟩ := hrel
            obtain rfl : wr = wq := HWX.out
            clear HWX
            by_cases hltk : k < N
            · have K1 := KH1.out k i j hltk hij hltj
              have K2 := KH2.out k i j hltk hij hltj
              have K3 := KR1.out k i j hltk hij hltj
              have K4 := KR2.out k i j hltk hij hltj
              have H1 : Hid (Calls Tryz.prog 16 #[.pointer (some ⟨tb, 0, none⟩), .int .i64 (k : Int), .int .i64 (i : Int), .int .i64 (j : Int)] wr fun e w'' => e = .returned (.bool (M k i j)) ∧ wr = w'') := K1
              have H2 : Hid (Calls Tryz.prog 16 #[.pointer (some ⟨ub, 0, none⟩), .int .i64 (k : Int), .int .i64 (a + (i : Int)), .int .i64 (a + (j : Int))] wr fun e w'' => e = .returned (.bool (M k i j)) ∧ wr = w'') := K2
              have H3 : Hid (Calls Tryz.prog 19 #[.pointer (some ⟨tb, 0, none⟩), .int .i64 (k : Int), .int .i64 (i : Int), .int .i64 (j : Int)] wr fun e w'' => e = .returned (.int .i64 ((rn k i j : Nat) : Int)) ∧ wr = w'') := K3
              have H4 : Hid (Calls Tryz.prog 19 #[.pointer (some ⟨ub, 0, none⟩), .int .i64 (k : Int), .int .i64 (a + (i : Int)), .int .i64 (a + (j : Int))] wr fun e w'' => e = .returned (.int .i64 ((rn k i j : Nat) : Int)) ∧ wr = w'') := K4
              have hai : IntKind.i64.wrap (a + (i : Int)) = a + (i : Int) := by rw [IntKind.wrap_i64]; omega
              have haj : IntKind.i64.wrap (a + (j : Int)) = a + (j : Int) := by rw [IntKind.wrap_i64]; omega
              obtain ⟨mk, hmk⟩ : ∃ mk, mk = M k i j := ⟨_, rfl⟩
              obtain ⟨rv, hrv⟩ : ∃ rv : Int, rv = ((rn k i j : Nat) : Int) := ⟨_, rfl⟩
              rw [← hmk] at H1 H2
              rw [← hrv] at H3 H4
              have bq : (!(mk == mk)) = false := by cases mk <;> rfl
              have bq2 : (mk != mk) = false := by cases mk <;> rfl
              clear hmk hrv K1 K2 K3 K4
              go_wp2_with (first
                | (go_at_call 16; first | (have hh := F1; clear hh; refine H2.out.mono ?_; rintro e wn ⟨rfl, rfl⟩) | (refine H1.out.mono ?_; rintro e wn ⟨rfl, rfl⟩; have F1 : True := trivial))
                | (go_at_call 19; first | (have hh := F2; clear hh; refine H4.out.mono ?_; rintro e wn ⟨rfl, rfl⟩) | (refine H3.out.mono ?_; rintro e wn ⟨rfl, rfl⟩; have F2 : True := trivial)))
              go_roundw
              case rel => exact ⟨k + 1, by omega, by go_num, by trivial⟩
              case measure => simp [intOf]; omega
            · obtain rfl : k = N := by omega
              go_wp2
              go_roundw
              case rel => exact ⟨j + 1, by omega, by omega, by go_num, by trivial⟩
              case measure => simp [intOf]; omega
        · obtain rfl : j = t + 1 := by omega
          have e1 : decide (((t + 1 : Nat) : Int) ≤ (T.size : Int)) = false := decide_eq_false (by have := HTS.out; omega)
          have e1' : ¬ ((t + 1 : Nat) : Int) ≤ (T.size : Int) := by have := HTS.out; omega
          go_wp2
          go_roundw
          case rel => exact ⟨i + 1, by omega, by go_num, by trivial⟩
          case measure => simp [intOf]; omega
    · obtain rfl : i = t + 1 := by omega
      have e1 : decide (((t + 1 : Nat) : Int) ≤ (T.size : Int)) = false := decide_eq_false (by have := HTS.out; omega)
      have e1' : ¬ ((t + 1 : Nat) : Int) ≤ (T.size : Int) := by have := HTS.out; omega
      go_wp2
      go_ret
      exact ⟨rfl, HE.out⟩
end Go.Proofs.YtclceeghjgeplaaGreatDoor
