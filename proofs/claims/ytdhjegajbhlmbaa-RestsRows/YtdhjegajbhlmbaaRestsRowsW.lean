/- RestsRows, walked. -/
import Derived.Test.YtdhjegajbhlmbaaSeqA
namespace Go.Proofs.Ytdhjegajbhlmbaa
set_option linter.unusedVariables false
open Go.ChangeShapes Go.WideShapes Go.ChangeAt Go.RowKit

theorem at_mid {l r : List Plc} {a : Plc} {A : List Plc} (h : l ++ a :: r = A) : A[l.length]? = some a ∧ l.length < A.length := by
  subst h; simp
set_option maxHeartbeats 8000000 in
set_option maxRecDepth 100000 in
theorem restsRows_no (W : World) (s : Int) (v1 v2 : Value) (k1 k2 : Option Addr × Nat × Nat) (e1 : v1 = .slice k1.1 k1.2.1 k1.2.2) (e2 : v2 = .slice k2.1 k2.2.1 k2.2.2)
    (KN : ∀ w, Below W.heap.size W w → Calls Try.prog 6 #[.agg #[.int .i64 s, v1, v2]] w fun e w' => e = .returned (.tuple #[.slice none 0 0, .int .i64 1000]) ∧ Hid (Below w.heap.size w w'))
    (KM : ∀ w, Below W.heap.size W w → Calls Try.prog 14 #[.agg #[.int .i64 s, v1, v2]] w fun e w' => e = .returned (.bool false) ∧ Hid (Below w.heap.size w w'))
    (KC : ∀ w, Below W.heap.size W w → Calls Try.prog 10 #[.agg #[.int .i64 s, v1, v2]] w fun e w' => e = .returned (.int .i64 0) ∧ Hid (Below w.heap.size w w')) :
    Calls Try.prog 4 #[.agg #[.int .i64 s, v1, v2]] W fun e W' => e = .returned (.bool true) ∧ Below W.heap.size W W' := by
  have HN : Hid (∀ w, Below W.heap.size W w → Calls Try.prog 6 #[.agg #[.int .i64 s, v1, v2]] w fun e w' => e = .returned (.tuple #[.slice none 0 0, .int .i64 1000]) ∧ Hid (Below w.heap.size w w')) := KN
  have HM : Hid (∀ w, Below W.heap.size W w → Calls Try.prog 14 #[.agg #[.int .i64 s, v1, v2]] w fun e w' => e = .returned (.bool false) ∧ Hid (Below w.heap.size w w')) := KM
  have HC : Hid (∀ w, Below W.heap.size W w → Calls Try.prog 10 #[.agg #[.int .i64 s, v1, v2]] w fun e w' => e = .returned (.int .i64 0) ∧ Hid (Below w.heap.size w w')) := KC
  have HX : Hid (∀ w', Below (W.alloc (.cells #[.int .i64 s, v1, v2] 25)).heap.size (W.alloc (.cells #[.int .i64 s, v1, v2] 25)) w' → BxP W W.heap.size s v1 v2 w') := fun w' hb => by
    obtain ⟨q0, q1, q2⟩ := cells3 hb
    exact ⟨(bel1 W _).trans (hb.mono (bel1 W _).size), q0, q1, q2⟩
  subst e1 e2
  clear KN KM KC
  go_enter Try.func4, Try.ntmps4
  go_wp2_with (first
    | (go_at_call 13; refine (awake10_any _).mono ?_; rintro e wa ⟨rfl, ba⟩; obtain ⟨BA, c0, c1, c2⟩ := HX.out _ ba.out; have HBA : Hid (Below W.heap.size W wa) := BA; clear BA)
    | (go_at_call 6; refine (HN.out _ HBA.out).mono ?_; rintro e wb ⟨rfl, bb⟩; have b9 := ba.out.trans (bb.out.mono ba.out.size); have BB9 : Hid (Below _ _ wb) := b9; clear c0 c1 c2 b9; obtain ⟨BB, c0, c1, c2⟩ := HX.out _ BB9.out; have HBB : Hid (Below W.heap.size W wb) := BB; clear BB)
    | (go_at_call 14; refine (HM.out _ HBB.out).mono ?_; rintro e wc ⟨rfl, bc⟩; have b9 := BB9.out.trans (bc.out.mono BB9.out.size); have BC9 : Hid (Below _ _ wc) := b9; clear c0 c1 c2 b9; obtain ⟨BC, c0, c1, c2⟩ := HX.out _ BC9.out; have HBC : Hid (Below W.heap.size W wc) := BC; clear BC)
    | (go_at_call 10; refine (HC.out _ HBC.out).mono ?_; rintro e wd ⟨rfl, bd⟩; have HBD : Hid (Below W.heap.size W wd) := HBC.out.trans (bd.out.mono HBC.out.size); clear c0 c1 c2)
    | (go_at_call 9; refine (num_any _ _).mono ?_; rintro e wn ⟨rfl, rfl⟩))
  go_ret
  exact ⟨rfl, HBD.out⟩
set_option maxHeartbeats 8000000 in
set_option maxRecDepth 100000 in
theorem restsRows_ok (W : World) (s : Int) (v1 v2 : Value) (L : List Ru) {F : Nat → Prop} (hL : IsRus W F v2 L) (hin : PlIn L) (k1 : Option Addr × Nat × Nat) (e1 : v1 = .slice k1.1 k1.2.1 k1.2.2)
    (KN : ∀ w, Below W.heap.size W w → Calls Try.prog 6 #[.agg #[.int .i64 s, v1, v2]] w fun e w' => ∃ p c, e = .returned (.tuple #[.slice p (ruP 0 L).length c, .int .i64 0]) ∧ Hid (OwPl w (.slice p (ruP 0 L).length c) (ruP 0 L) w') ∧ Hid (Below w.heap.size w w'))
    (KC : ∀ w, Below W.heap.size W w → Calls Try.prog 10 #[.agg #[.int .i64 s, v1, v2]] w fun e w' => e = .returned (.int .i64 ((ruP 0 L).length : Int)) ∧ Hid (Below w.heap.size w w')) :
    Calls Try.prog 4 #[.agg #[.int .i64 s, v1, v2]] W fun e W' => e = .returned (.bool true) ∧ Below W.heap.size W W' := by
  have hpl := hin.len
  have HI : Hid (PlIn L) := hin
  have hn6 := hin.1
  have HG : Hid (IsRus W F v2 L) := hL
  obtain ⟨p2, c2, e2⟩ := lngR hL
  obtain ⟨n, hn⟩ : ∃ n, n = L.length := ⟨_, rfl⟩
  have HNL : Hid (n = L.length) := hn
  obtain ⟨A, hA⟩ : ∃ A, A = ruP 0 L := ⟨_, rfl⟩
  have HAA : Hid (A = ruP 0 L) := hA
  rw [← hn] at hn6 e2
  rw [← hA] at hpl KN KC
  obtain ⟨M, hM⟩ : ∃ M, M = A.length := ⟨_, rfl⟩
  have HML : Hid (M = A.length) := hM
  rw [← hM] at hpl KN KC
  have HN : Hid (∀ w, Below W.heap.size W w → Calls Try.prog 6 #[.agg #[.int .i64 s, v1, v2]] w fun e w' => ∃ p c, e = .returned (.tuple #[.slice p M c, .int .i64 0]) ∧ Hid (OwPl w (.slice p M c) A w') ∧ Hid (Below w.heap.size w w')) := KN
  have HC : Hid (∀ w, Below W.heap.size W w → Calls Try.prog 10 #[.agg #[.int .i64 s, v1, v2]] w fun e w' => e = .returned (.int .i64 (M : Int)) ∧ Hid (Below w.heap.size w w')) := KC
  have HX : Hid (∀ w', Below (W.alloc (.cells #[.int .i64 s, v1, v2] 25)).heap.size (W.alloc (.cells #[.int .i64 s, v1, v2] 25)) w' → BxP W W.heap.size s v1 v2 w') := fun w' hb => by
    obtain ⟨q0, q1, q2⟩ := cells3 hb
    exact ⟨(bel1 W _).trans (hb.mono (bel1 W _).size), q0, q1, q2⟩
  subst e1 e2
  clear KN KC hL hin hn hA hM
  go_enter Try.func4, Try.ntmps4
  go_upto_region 6 with (first
    | (go_at_call 13; refine (awake10_any _).mono ?_; rintro e wa ⟨rfl, ba⟩; obtain ⟨BA, c0, c1, c2⟩ := HX.out _ ba.out; have HBA : Hid (Below W.heap.size W wa) := BA; clear BA)
    | (go_at_call 6; refine (HN.out _ HBA.out).mono ?_; rintro e W2 ⟨pp, cp, rfl, OB, bb⟩; have b9 := ba.out.trans (bb.out.mono ba.out.size); have BB9 : Hid (Below _ _ W2) := b9; clear c0 c1 c2 b9)
    | (go_at_call 9; refine (num_any _ _).mono ?_; rintro e wn ⟨rfl, rfl⟩))
  have HX2 : Hid (∀ w', Below W2.heap.size W2 w' → BxP W W.heap.size s (.slice k1.1 k1.2.1 k1.2.2) (.slice p2 n c2) w') := fun w' hb => HX.out _ (BB9.out.trans (hb.mono BB9.out.size))
  have HL : Hid (IsRus W2 F (.slice p2 n c2) L) := HG.out.any (HX.out _ BB9.out).1
  obtain ⟨nb, hnb⟩ : ∃ nb, nb = W.heap.size := ⟨_, rfl⟩
  have HX3 : Hid (∀ w', Below W2.heap.size W2 w' → BxP W nb s (.slice k1.1 k1.2.1 k1.2.2) (.slice p2 n c2) w') := by rw [hnb]; exact HX2
  have HP : Hid (IsPls W2 (fun i => wa.heap.size ≤ i ∧ i < W2.heap.size) (.slice pp M cp) A) := OB.out.pls
  rw [← hnb]
  clear HN HX HX2 HG hnb bb ba HBA BB9 OB
  go_wp2
  go_loopw [5, 6] (fun y x wr => ∃ (i k : Nat) (l : List Plc), i ≤ n ∧ x = .int .i64 i ∧ y = .int .i64 k ∧ Hid (k = l.length) ∧ Hid (Below W2.heap.size W2 wr) ∧ Hid (l ++ ruP i (L.drop i) = A)) (fun _ x _ => n - (intOf x).toNat)
  case atStart => exact ⟨0, 0, [], Nat.zero_le _, rfl, rfl, rfl, Below.refl _ _, HAA.out.symm⟩
  case round =>
    obtain ⟨i, kk, l, hi, rfl, rfl, HK, HB, HE⟩ := hrel
    obtain ⟨-, c0, c1', c2'⟩ := HX3.out _ HB.out
    by_cases hlt : i < n
    · obtain ⟨t, ht⟩ : ∃ t, L[i]? = some t := ⟨_, List.getElem?_eq_getElem (by rw [← HNL.out]; exact hlt)⟩
      obtain ⟨g1, o1, u1, hp, -, a1, hcn⟩ := HL.out.row ht
      subst hp
      obtain ⟨hc8, hcm⟩ := HI.out.2 t (List.mem_of_getElem? ht)
      have HE2 : Hid (l ++ (cnP i 0 (t.conj.drop 0) ++ ruP (i + 1) (L.drop (i + 1))) = A) := by
        show _ = _
        rw [← ruP_drop ht]; exact HE.out
      obtain ⟨R, hR⟩ : ∃ R, R = ruP (i + 1) (L.drop (i + 1)) := ⟨_, rfl⟩
      have HRR : Hid (R = ruP (i + 1) (L.drop (i + 1))) := hR
      rw [← hR] at HE2
      obtain ⟨hd, cs⟩ := t
      simp only at a1 hcn hc8 hcm HE2
      obtain ⟨q, cq, hu1⟩ := lngC hcn
      have HCN : Hid (IsCns W2 F u1 cs) := hcn
      have HCM : Hid (∀ c, c ∈ cs → c.seq.length ≤ 64) := hcm
      obtain ⟨m, hm⟩ : ∃ m, m = cs.length := ⟨_, rfl⟩
      have HM : Hid (m = cs.length) := hm
      rw [← hm] at hu1 hc8
      subst hu1
      have HA1 : Hid (∀ w', Below W2.heap.size W2 w' → w'.cell? ⟨g1, o1 + i * 2 + 1, none⟩ = some (.slice q m cq)) := fun w' hb => (hb.cell (p := ⟨_, _, none⟩) (block_lt_of_cell a1)).trans a1
      clear ht hcn hcm hR hm HE a1
      go_wp2
      clear c0 c1' c2'
      go_loopw [5, 7] (fun y x wr => ∃ (j k : Nat) (l : List Plc), j ≤ m ∧ x = .int .i64 j ∧ y = .int .i64 k ∧ Hid (k = l.length) ∧ Hid (Below W2.heap.size W2 wr) ∧ Hid (l ++ (cnP i j (cs.drop j) ++ R) = A)) (fun _ x _ => m - (intOf x).toNat)
      case atStart => exact ⟨0, kk, l, Nat.zero_le _, rfl, rfl, HK, HB, HE2⟩
      case round =>
        clear HK HB HE2
        obtain ⟨j, kk, l, hj, rfl, rfl, HK, HB, HE⟩ := hrel
        obtain ⟨-, c0, c1', c2'⟩ := HX3.out _ HB.out
        have a1 := HA1.out _ HB.out
        by_cases hltj : j < m
        · obtain ⟨t, ht⟩ : ∃ t, cs[j]? = some t := ⟨_, List.getElem?_eq_getElem (by rw [← HM.out]; exact hltj)⟩
          obtain ⟨g3, o3, u3, hp3, -, b1, hsy⟩ := HCN.out.row ht
          subst hp3
          have hs64 := HCM.out t (List.mem_of_getElem? ht)
          have HE2 : Hid (l ++ (sqP i j 0 (t.seq.length + 1 - 0) ++ (cnP i (j + 1) (cs.drop (j + 1)) ++ R)) = A) := by
            show _ = _
            rw [← List.append_assoc (sqP _ _ _ _), Nat.sub_zero, ← cnP_drop ht]; exact HE.out
          obtain ⟨R2, hR2⟩ : ∃ R2, R2 = cnP i (j + 1) (cs.drop (j + 1)) ++ R := ⟨_, rfl⟩
          have HR2 : Hid (R2 = cnP i (j + 1) (cs.drop (j + 1)) ++ R) := hR2
          rw [← hR2] at HE2
          obtain ⟨ng, sq⟩ := t
          simp only at b1 hsy hs64 HE2
          obtain ⟨q4, c4, hu3⟩ := hsy.slc
          subst hu3
          obtain ⟨z, hz⟩ : ∃ z, z = sq.length := ⟨_, rfl⟩
          rw [← hz] at b1 hs64 HE2
          have HB1 : Hid (∀ w', Below W2.heap.size W2 w' → w'.cell? ⟨g3, o3 + j * 2 + 1, none⟩ = some (.slice q4 z c4)) := fun w' hb => (hb.cell (p := ⟨_, _, none⟩) (block_lt_of_cell b1)).trans b1
          clear ht hsy hR2 hz HE b1
          go_wp2
          clear c0 c1' c2' a1
          go_loopw [5, 8] (fun y x wr => ∃ (k kk : Nat) (l : List Plc), k ≤ z + 1 ∧ x = .int .i64 k ∧ y = .int .i64 kk ∧ Hid (kk = l.length) ∧ Hid (Below W2.heap.size W2 wr) ∧ Hid (l ++ (sqP i j k (z + 1 - k) ++ R2) = A)) (fun _ x _ => z + 1 - (intOf x).toNat)
          case atStart => exact ⟨0, kk, l, Nat.zero_le _, rfl, rfl, HK, HB, HE2⟩
          case round =>
            clear HK HB HE2
            obtain ⟨k, kk, l, hk, rfl, rfl, HK, HB, HE⟩ := hrel
            obtain ⟨-, c0, c1', c2'⟩ := HX3.out _ HB.out
            have a1 := HA1.out _ HB.out
            have b1 := HB1.out _ HB.out
            by_cases hltk : k < z + 1
            · have HE3 : l ++ ((i : Int), (j : Int), (k : Int)) :: (sqP i j (k + 1) (z + 1 - (k + 1)) ++ R2) = A := by
                have := HE.out
                rw [sqP_more hltk] at this
                exact this
              have HE2 : Hid ((l ++ [((i : Int), (j : Int), (k : Int))]) ++ (sqP i j (k + 1) (z + 1 - (k + 1)) ++ R2) = A) := by
                show _ = _
                rw [← HE3]; simp
              obtain ⟨hat, hlA⟩ := at_mid HE3
              rw [← HK.out] at hat hlA
              rw [← HML.out] at hlA
              obtain ⟨g5, o5, hp5, -, d0, d1, d2⟩ := (HP.out.any HB.out).at hat
              subst hp5
              simp only at d0 d1 d2
              have heq : ∀ w, (Op.equalIn 10000 47 (.agg #[.int .i64 (i : Int), .int .i64 (j : Int), .int .i64 (k : Int)]) (.agg #[.int .i64 (i : Int), .int .i64 (j : Int), .int .i64 (k : Int)])).run Try.prog w = .ok true w := fun w => by rw [Try.eqPl]; simp
              have HK2 : Hid (kk + 1 = (l ++ [((i : Int), (j : Int), (k : Int))]).length) := by show _ = _; simp [HK.out]
              have hlk2 : (k : Int) ≤ (z : Int) := by omega
              have hlk3 : ¬ (M : Int) ≤ (kk : Int) := by omega
              have hlk4 : ¬ M ≤ kk := by omega
              clear HE HE3 hat
              go_wp2
              go_roundw
              case rel => exact ⟨k + 1, kk + 1, _, by omega, by go_num, by go_num, HK2, HB, HE2⟩
              case measure => simp [intOf]; omega
            · obtain rfl : k = z + 1 := by omega
              have HE2 : Hid (l ++ (cnP i (j + 1) (cs.drop (j + 1)) ++ R) = A) := by
                have := HE.out
                rw [Nat.sub_self, HR2.out] at this
                exact this
              have hlk2 : ¬ ((z + 1 : Nat) : Int) ≤ (z : Int) := by omega
              have hlk3 : ¬ ((z : Int) + 1) ≤ (z : Int) := by omega
              clear HE
              go_wp2
              go_roundw
              case rel => exact ⟨j + 1, kk, l, by omega, by go_num, rfl, HK, HB, HE2⟩
              case measure => simp [intOf]; omega
        · obtain rfl : j = m := by omega
          have HE2 : Hid (l ++ ruP (i + 1) (L.drop (i + 1)) = A) := by
            have := HE.out
            rw [HM.out, cnP_end, HRR.out] at this
            exact this
          clear HE
          go_wp2
          go_roundw
          case rel => exact ⟨i + 1, kk, l, by omega, by go_num, rfl, HK, HB, HE2⟩
          case measure => simp [intOf]; omega
    · obtain rfl : i = n := by omega
      have HE2 : Hid (l = A) := by
        have := HE.out
        rw [HNL.out, ruP_end, List.append_nil] at this
        exact this
      obtain rfl : kk = M := by rw [HK.out, HE2.out, HML.out]
      have HBW : Hid (Below W.heap.size W wr) := (HX3.out _ HB.out).1
      clear HE
      go_wp2_with (go_at_call 10; refine (HC.out _ HBW.out).mono ?_; rintro e w5 ⟨rfl, b5⟩)
      go_ret
      exact ⟨rfl, HBW.out.trans (b5.out.mono HBW.out.size)⟩
end Go.Proofs.Ytdhjegajbhlmbaa
