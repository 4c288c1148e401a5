/- The program's walk over places, Count and Places. -/
import Derived.Test.YtdhjegajbhlmbaaSeqM
namespace Go.Proofs.Ytdhjegajbhlmbaa
set_option linter.unusedVariables false
open Go.ChangeShapes Go.WideShapes Go.ChangeAt Go.RowKit

theorem lngR {w : World} {F : Nat → Prop} {v : Value} {l : List Ru} (h : IsRus w F v l) : ∃ p c, v = .slice p l.length c := by
  obtain ⟨_, ⟨p, c, e, _⟩, _⟩ := h
  exact ⟨p, c, e⟩
theorem lngC {w : World} {F : Nat → Prop} {v : Value} {l : List Cn} (h : IsCns w F v l) : ∃ p c, v = .slice p l.length c := by
  obtain ⟨_, ⟨p, c, e, _⟩, _⟩ := h
  exact ⟨p, c, e⟩
set_option maxHeartbeats 4000000 in
set_option maxRecDepth 100000 in
theorem walkCnt (s : Int) (v1 v2 : Value) (L : List Ru) (W : World) {F : Nat → Prop} (hL : IsRus W F v2 L) (hin : PlIn L) (k1 : Option Addr × Nat × Nat) (e1 : v1 = .slice k1.1 k1.2.1 k1.2.2) (x : Nat) (J : List Plc → World → Prop)
    (hJB : ∀ l w, J l w → Below W.heap.size W w) (hJA : ∀ l w w', J l w → Below w.heap.size w w' → J l w')
    (hJC : ∀ l w (i j k : Int), J l w → l.length < (ruP 0 L).length → Calls Try.prog 18 #[.agg #[.int .i64 i, .int .i64 j, .int .i64 k], .pointer (some ⟨x, 0, none⟩)] w fun e w' => e = .returned (.tuple #[]) ∧ Hid (J (l ++ [(i, j, k)]) w')) (w : World) (h0 : J [] w) :
    Calls Try.prog 16 #[.agg #[.int .i64 s, v1, v2], .func (.func 18) #[] #[.pointer (some ⟨x, 0, none⟩)]] w fun e w' => e = .returned (.tuple #[]) ∧ Hid (J (ruP 0 L) w') := by
  have HL : Hid (IsRus W F v2 L) := hL
  have HB : Hid (∀ l w, J l w → Below W.heap.size W w) := hJB
  have HA : Hid (∀ l w w', J l w → Below w.heap.size w w' → J l w') := hJA
  have HC : Hid (∀ l w (i j k : Int), J l w → l.length < (ruP 0 L).length → Calls Try.prog 18 #[.agg #[.int .i64 i, .int .i64 j, .int .i64 k], .pointer (some ⟨x, 0, none⟩)] w fun e w' => e = .returned (.tuple #[]) ∧ Hid (J (l ++ [(i, j, k)]) w')) := hJC
  have HI : Hid (PlIn L) := hin
  have H0 : Hid (J [] w) := h0
  obtain ⟨p2, c2, e2⟩ := lngR hL
  have hn6 := hin.1
  obtain ⟨n, hn⟩ : ∃ n, n = L.length := ⟨_, rfl⟩
  have HN : Hid (n = L.length) := hn
  obtain ⟨A, hA⟩ : ∃ A, A = ruP 0 L := ⟨_, rfl⟩
  have HAA : Hid (A = ruP 0 L) := hA
  rw [← hn] at e2 hn6
  rw [← hA] at HC ⊢
  subst e1 e2
  clear hL hJB hJA hJC hin h0 hn hA
  have H1 : Hid (J [] (w.alloc (.cells #[.int .i64 s, .slice k1.1 k1.2.1 k1.2.2, .slice p2 n c2] 25))) := HA.out _ _ _ H0.out (bel1 _ _)
  go_enter Try.func16, Try.ntmps16
  go_wp2
  go_loopw [12] (fun x wr => ∃ (i : Nat) (l : List Plc), i ≤ n ∧ x = .int .i64 i ∧ Hid (J l wr) ∧ Hid (l ++ ruP i (L.drop i) = A)) (fun x _ => n - (intOf x).toNat)
  case atStart => exact ⟨0, [], Nat.zero_le _, rfl, H1, HAA.out.symm⟩
  case round =>
    obtain ⟨i, l, hi, rfl, HJ, HE⟩ := hrel
    by_cases hlt : i < n
    · obtain ⟨t, ht⟩ : ∃ t, L[i]? = some t := ⟨_, List.getElem?_eq_getElem (by rw [← HN.out]; exact hlt)⟩
      obtain ⟨g1, o1, u1, hp, a0, a1, hcn⟩ := (HL.out.any (HB.out _ _ HJ.out)).row ht
      subst hp
      obtain ⟨hc8, hcm⟩ := HI.out.2 t (List.mem_of_getElem? ht)
      have HE2 : Hid (l ++ (cnP i 0 (t.conj.drop 0) ++ ruP (i + 1) (L.drop (i + 1))) = A) := by
        show _ = _
        rw [← ruP_drop ht]; exact HE.out
      obtain ⟨R, hR⟩ : ∃ R, R = ruP (i + 1) (L.drop (i + 1)) := ⟨_, rfl⟩
      have HRR : Hid (R = ruP (i + 1) (L.drop (i + 1))) := hR
      rw [← hR] at HE2
      obtain ⟨hd, cs⟩ := t
      simp only at a0 a1 hcn hc8 hcm HE2
      obtain ⟨q, cq, hu1⟩ := lngC hcn
      have HCN : Hid (IsCns W F u1 cs) := by
        obtain ⟨g9, o9, u9, hp9, _, a9, hcn9⟩ := HL.out.row ht
        injection hp9 with hp9
        injection hp9 with h91 h92
        subst h91 h92
        have hlt9 : g1 < W.heap.size := by
          have := block_lt_of_cell a9
          exact this
        have := ((HB.out _ _ HJ.out).cell (p := ⟨g1, o1 + i * 2 + 1, none⟩) hlt9).trans a9
        rw [this] at a1
        injection a1 with a1
        subst a1
        exact hcn9
      have HCM : Hid (∀ c, c ∈ cs → c.seq.length ≤ 64) := hcm
      obtain ⟨m, hm⟩ : ∃ m, m = cs.length := ⟨_, rfl⟩
      have HM : Hid (m = cs.length) := hm
      rw [← hm] at hu1 hc8
      subst hu1
      have HJ2 : Hid (J l (wr.alloc (.cells #[.int .i64 hd, .slice q m cq] 42))) := HA.out _ _ _ HJ.out (bel1 _ _)
      clear ht hcn hcm hR hm HE
      go_wp2
      go_loopw [20] (fun x wr => ∃ (j : Nat) (l : List Plc), j ≤ m ∧ x = .int .i64 j ∧ Hid (J l wr) ∧ Hid (l ++ (cnP i j (cs.drop j) ++ R) = A)) (fun x _ => m - (intOf x).toNat)
      case atStart => exact ⟨0, l, Nat.zero_le _, rfl, HJ2, HE2⟩
      case round =>
        clear HJ HJ2 HE2 a0 a1
        obtain ⟨j, l, hj, rfl, HJ, HE⟩ := hrel
        by_cases hltj : j < m
        · obtain ⟨t, ht⟩ : ∃ t, cs[j]? = some t := ⟨_, List.getElem?_eq_getElem (by rw [← HM.out]; exact hltj)⟩
          obtain ⟨g3, o3, u3, hp3, b0, b1, hsy⟩ := (HCN.out.any (HB.out _ _ HJ.out)).row ht
          subst hp3
          have hs64 := HCM.out t (List.mem_of_getElem? ht)
          have HE2 : Hid (l ++ (sqP i j 0 (t.seq.length + 1 - 0) ++ (cnP i (j + 1) (cs.drop (j + 1)) ++ R)) = A) := by
            show _ = _
            rw [← List.append_assoc (sqP _ _ _ _), Nat.sub_zero, ← cnP_drop ht]; exact HE.out
          obtain ⟨R2, hR2⟩ : ∃ R2, R2 = cnP i (j + 1) (cs.drop (j + 1)) ++ R := ⟨_, rfl⟩
          have HR2 : Hid (R2 = cnP i (j + 1) (cs.drop (j + 1)) ++ R) := hR2
          rw [← hR2] at HE2
          obtain ⟨ng, sq⟩ := t
          simp only at b0 b1 hsy hs64 HE2
          obtain ⟨q4, c4, hu3⟩ := hsy.slc
          subst hu3
          obtain ⟨z, hz⟩ : ∃ z, z = sq.length := ⟨_, rfl⟩
          rw [← hz] at b1 hs64 HE2
          have HJ2 : Hid (J l (wr.alloc (.cells #[.bool ng, .slice q4 z c4] 45))) := HA.out _ _ _ HJ.out (bel1 _ _)
          clear ht hsy hR2 hz HE
          go_wp2
          go_loopw [29] (fun x wr => ∃ (k : Nat) (l : List Plc), k ≤ z + 1 ∧ x = .int .i64 k ∧ Hid (J l wr) ∧ Hid (l ++ (sqP i j k (z + 1 - k) ++ R2) = A)) (fun x _ => z + 1 - (intOf x).toNat)
          case atStart => exact ⟨0, l, Nat.zero_le _, rfl, HJ2, HE2⟩
          case round =>
            clear HJ HJ2 HE2 b0 b1
            obtain ⟨k, l, hk, rfl, HJ, HE⟩ := hrel
            by_cases hltk : k < z + 1
            · have HE2 : Hid ((l ++ [((i : Int), (j : Int), (k : Int))]) ++ (sqP i j (k + 1) (z + 1 - (k + 1)) ++ R2) = A) := by
                have := HE.out
                rw [sqP_more hltk] at this
                show _ = _
                rw [← this]; simp
              have KC := HC.out l wr (i : Int) (j : Int) (k : Int) HJ.out (by rw [← HE.out, sqP_more hltk]; simp)
              have hlk2 : (k : Int) < (z : Int) + 1 := by omega
              clear HE
              go_wp2_with (go_at_call 18; refine KC.mono ?_; rintro e w2 ⟨rfl, HJ2⟩)
              go_roundw
              case rel => exact ⟨k + 1, _, by omega, by go_num, HJ2, HE2⟩
              case measure => simp [intOf]; omega
            · obtain rfl : k = z + 1 := by omega
              have HE2 : Hid (l ++ (cnP i (j + 1) (cs.drop (j + 1)) ++ R) = A) := by
                have := HE.out
                rw [Nat.sub_self, HR2.out] at this
                exact this
              have hlk2 : ¬ ((z + 1 : Nat) : Int) < (z : Int) + 1 := by omega
              clear HE
              go_wp2
              go_roundw
              case rel => exact ⟨j + 1, l, by omega, by go_num, HJ, HE2⟩
              case measure => simp [intOf]; omega
        · obtain rfl : j = m := by omega
          have HE2 : Hid (l ++ ruP (i + 1) (L.drop (i + 1)) = A) := by
            have := HE.out
            rw [HM.out, cnP_end, HRR.out] at this
            exact this
          clear HE
          go_wp2
          go_roundw
          case rel => exact ⟨i + 1, l, by omega, by go_num, HJ, HE2⟩
          case measure => simp [intOf]; omega
    · obtain rfl : i = n := by omega
      have HE2 : Hid (l = A) := by
        have := HE.out
        rw [HN.out, ruP_end, List.append_nil] at this
        exact this
      clear HE
      go_wp2
      go_end0
      refine ⟨rfl, ?_⟩
      rw [← HE2.out]; exact HJ
set_option maxHeartbeats 4000000 in
set_option maxRecDepth 100000 in
theorem walkPls (s : Int) (v1 v2 : Value) (L : List Ru) (W : World) {F : Nat → Prop} (hL : IsRus W F v2 L) (hin : PlIn L) (k1 : Option Addr × Nat × Nat) (e1 : v1 = .slice k1.1 k1.2.1 k1.2.2) (x : Nat) (J : List Plc → World → Prop)
    (hJB : ∀ l w, J l w → Below W.heap.size W w) (hJA : ∀ l w w', J l w → Below w.heap.size w w' → J l w')
    (hJC : ∀ l w (i j k : Int), J l w → l.length < (ruP 0 L).length → Calls Try.prog 17 #[.agg #[.int .i64 i, .int .i64 j, .int .i64 k], .pointer (some ⟨x, 0, none⟩)] w fun e w' => e = .returned (.tuple #[]) ∧ Hid (J (l ++ [(i, j, k)]) w')) (w : World) (h0 : J [] w) :
    Calls Try.prog 16 #[.agg #[.int .i64 s, v1, v2], .func (.func 17) #[] #[.pointer (some ⟨x, 0, none⟩)]] w fun e w' => e = .returned (.tuple #[]) ∧ Hid (J (ruP 0 L) w') := by
  have HL : Hid (IsRus W F v2 L) := hL
  have HB : Hid (∀ l w, J l w → Below W.heap.size W w) := hJB
  have HA : Hid (∀ l w w', J l w → Below w.heap.size w w' → J l w') := hJA
  have HC : Hid (∀ l w (i j k : Int), J l w → l.length < (ruP 0 L).length → Calls Try.prog 17 #[.agg #[.int .i64 i, .int .i64 j, .int .i64 k], .pointer (some ⟨x, 0, none⟩)] w fun e w' => e = .returned (.tuple #[]) ∧ Hid (J (l ++ [(i, j, k)]) w')) := hJC
  have HI : Hid (PlIn L) := hin
  have H0 : Hid (J [] w) := h0
  obtain ⟨p2, c2, e2⟩ := lngR hL
  have hn6 := hin.1
  obtain ⟨n, hn⟩ : ∃ n, n = L.length := ⟨_, rfl⟩
  have HN : Hid (n = L.length) := hn
  obtain ⟨A, hA⟩ : ∃ A, A = ruP 0 L := ⟨_, rfl⟩
  have HAA : Hid (A = ruP 0 L) := hA
  rw [← hn] at e2 hn6
  rw [← hA] at HC ⊢
  subst e1 e2
  clear hL hJB hJA hJC hin h0 hn hA
  have H1 : Hid (J [] (w.alloc (.cells #[.int .i64 s, .slice k1.1 k1.2.1 k1.2.2, .slice p2 n c2] 25))) := HA.out _ _ _ H0.out (bel1 _ _)
  go_enter Try.func16, Try.ntmps16
  go_wp2
  go_loopw [12] (fun x wr => ∃ (i : Nat) (l : List Plc), i ≤ n ∧ x = .int .i64 i ∧ Hid (J l wr) ∧ Hid (l ++ ruP i (L.drop i) = A)) (fun x _ => n - (intOf x).toNat)
  case atStart => exact ⟨0, [], Nat.zero_le _, rfl, H1, HAA.out.symm⟩
  case round =>
    obtain ⟨i, l, hi, rfl, HJ, HE⟩ := hrel
    by_cases hlt : i < n
    · obtain ⟨t, ht⟩ : ∃ t, L[i]? = some t := ⟨_, List.getElem?_eq_getElem (by rw [← HN.out]; exact hlt)⟩
      obtain ⟨g1, o1, u1, hp, a0, a1, hcn⟩ := (HL.out.any (HB.out _ _ HJ.out)).row ht
      subst hp
      obtain ⟨hc8, hcm⟩ := HI.out.2 t (List.mem_of_getElem? ht)
      have HE2 : Hid (l ++ (cnP i 0 (t.conj.drop 0) ++ ruP (i + 1) (L.drop (i + 1))) = A) := by
        show _ = _
        rw [← ruP_drop ht]; exact HE.out
      obtain ⟨R, hR⟩ : ∃ R, R = ruP (i + 1) (L.drop (i + 1)) := ⟨_, rfl⟩
      have HRR : Hid (R = ruP (i + 1) (L.drop (i + 1))) := hR
      rw [← hR] at HE2
      obtain ⟨hd, cs⟩ := t
      simp only at a0 a1 hcn hc8 hcm HE2
      obtain ⟨q, cq, hu1⟩ := lngC hcn
      have HCN : Hid (IsCns W F u1 cs) := by
        obtain ⟨g9, o9, u9, hp9, _, a9, hcn9⟩ := HL.out.row ht
        injection hp9 with hp9
        injection hp9 with h91 h92
        subst h91 h92
        have hlt9 : g1 < W.heap.size := by
          have := block_lt_of_cell a9
          exact this
        have := ((HB.out _ _ HJ.out).cell (p := ⟨g1, o1 + i * 2 + 1, none⟩) hlt9).trans a9
        rw [this] at a1
        injection a1 with a1
        subst a1
        exact hcn9
      have HCM : Hid (∀ c, c ∈ cs → c.seq.length ≤ 64) := hcm
      obtain ⟨m, hm⟩ : ∃ m, m = cs.length := ⟨_, rfl⟩
      have HM : Hid (m = cs.length) := hm
      rw [← hm] at hu1 hc8
      subst hu1
      have HJ2 : Hid (J l (wr.alloc (.cells #[.int .i64 hd, .slice q m cq] 42))) := HA.out _ _ _ HJ.out (bel1 _ _)
      clear ht hcn hcm hR hm HE
      go_wp2
      go_loopw [20] (fun x wr => ∃ (j : Nat) (l : List Plc), j ≤ m ∧ x = .int .i64 j ∧ Hid (J l wr) ∧ Hid (l ++ (cnP i j (cs.drop j) ++ R) = A)) (fun x _ => m - (intOf x).toNat)
      case atStart => exact ⟨0, l, Nat.zero_le _, rfl, HJ2, HE2⟩
      case round =>
        clear HJ HJ2 HE2 a0 a1
        obtain ⟨j, l, hj, rfl, HJ, HE⟩ := hrel
        by_cases hltj : j < m
        · obtain ⟨t, ht⟩ : ∃ t, cs[j]? = some t := ⟨_, List.getElem?_eq_getElem (by rw [← HM.out]; exact hltj)⟩
          obtain ⟨g3, o3, u3, hp3, b0, b1, hsy⟩ := (HCN.out.any (HB.out _ _ HJ.out)).row ht
          subst hp3
          have hs64 := HCM.out t (List.mem_of_getElem? ht)
          have HE2 : Hid (l ++ (sqP i j 0 (t.seq.length + 1 - 0) ++ (cnP i (j + 1) (cs.drop (j + 1)) ++ R)) = A) := by
            show _ = _
            rw [← List.append_assoc (sqP _ _ _ _), Nat.sub_zero, ← cnP_drop ht]; exact HE.out
          obtain ⟨R2, hR2⟩ : ∃ R2, R2 = cnP i (j + 1) (cs.drop (j + 1)) ++ R := ⟨_, rfl⟩
          have HR2 : Hid (R2 = cnP i (j + 1) (cs.drop (j + 1)) ++ R) := hR2
          rw [← hR2] at HE2
          obtain ⟨ng, sq⟩ := t
          simp only at b0 b1 hsy hs64 HE2
          obtain ⟨q4, c4, hu3⟩ := hsy.slc
          subst hu3
          obtain ⟨z, hz⟩ : ∃ z, z = sq.length := ⟨_, rfl⟩
          rw [← hz] at b1 hs64 HE2
          have HJ2 : Hid (J l (wr.alloc (.cells #[.bool ng, .slice q4 z c4] 45))) := HA.out _ _ _ HJ.out (bel1 _ _)
          clear ht hsy hR2 hz HE
          go_wp2
          go_loopw [29] (fun x wr => ∃ (k : Nat) (l : List Plc), k ≤ z + 1 ∧ x = .int .i64 k ∧ Hid (J l wr) ∧ Hid (l ++ (sqP i j k (z + 1 - k) ++ R2) = A)) (fun x _ => z + 1 - (intOf x).toNat)
          case atStart => exact ⟨0, l, Nat.zero_le _, rfl, HJ2, HE2⟩
          case round =>
            clear HJ HJ2 HE2 b0 b1
            obtain ⟨k, l, hk, rfl, HJ, HE⟩ := hrel
            by_cases hltk : k < z + 1
            · have HE2 : Hid ((l ++ [((i : Int), (j : Int), (k : Int))]) ++ (sqP i j (k + 1) (z + 1 - (k + 1)) ++ R2) = A) := by
                have := HE.out
                rw [sqP_more hltk] at this
                show _ = _
                rw [← this]; simp
              have KC := HC.out l wr (i : Int) (j : Int) (k : Int) HJ.out (by rw [← HE.out, sqP_more hltk]; simp)
              have hlk2 : (k : Int) < (z : Int) + 1 := by omega
              clear HE
              go_wp2_with (go_at_call 17; refine KC.mono ?_; rintro e w2 ⟨rfl, HJ2⟩)
              go_roundw
              case rel => exact ⟨k + 1, _, by omega, by go_num, HJ2, HE2⟩
              case measure => simp [intOf]; omega
            · obtain rfl : k = z + 1 := by omega
              have HE2 : Hid (l ++ (cnP i (j + 1) (cs.drop (j + 1)) ++ R) = A) := by
                have := HE.out
                rw [Nat.sub_self, HR2.out] at this
                exact this
              have hlk2 : ¬ ((z + 1 : Nat) : Int) < (z : Int) + 1 := by omega
              clear HE
              go_wp2
              go_roundw
              case rel => exact ⟨j + 1, l, by omega, by go_num, HJ, HE2⟩
              case measure => simp [intOf]; omega
        · obtain rfl : j = m := by omega
          have HE2 : Hid (l ++ ruP (i + 1) (L.drop (i + 1)) = A) := by
            have := HE.out
            rw [HM.out, cnP_end, HRR.out] at this
            exact this
          clear HE
          go_wp2
          go_roundw
          case rel => exact ⟨i + 1, l, by omega, by go_num, HJ, HE2⟩
          case measure => simp [intOf]; omega
    · obtain rfl : i = n := by omega
      have HE2 : Hid (l = A) := by
        have := HE.out
        rw [HN.out, ruP_end, List.append_nil] at this
        exact this
      clear HE
      go_wp2
      go_end0
      refine ⟨rfl, ?_⟩
      rw [← HE2.out]; exact HJ
end Go.Proofs.Ytdhjegajbhlmbaa
