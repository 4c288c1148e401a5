/- MeanMore, walked. -/
import Derived.Test.YtfjejnkjlnkkhaaGreatDoorMmA
import Derived.Test.YtfjejnkjlnkkhaaGreatDoorMlX
import Derived.Test.YtfjejnkjlnkkhaaGreatDoorMeaLa
namespace Go.Proofs.YtfjejnkjlnkkhaaGreatDoor
set_option linter.unusedVariables false
set_option linter.unusedSimpArgs false
open Go.ChangeShapes Go.WideShapes Go.ChangeAt Go.RowKit Go.Maps

theorem tmodM (z : Int) (n : Nat) : ∃ k : Nat, k ≤ n ∧ Int.tmod (IntKind.u64.wrap z) ((n : Int) + 1) = (k : Int) := by
  have hp : 0 ≤ IntKind.u64.wrap z := by rw [IntKind.wrap_u64]; omega
  have h1 := Int.tmod_nonneg ((n : Int) + 1) hp
  have h2 : Int.tmod (IntKind.u64.wrap z) ((n : Int) + 1) < (n : Int) + 1 := Int.tmod_lt_of_pos _ (by omega)
  exact ⟨(Int.tmod (IntKind.u64.wrap z) ((n : Int) + 1)).toNat, by omega, by omega⟩
/-- The grammar without negations, and a rule of two names more. -/
def addG (g : Gr) (k x y : Nat) : Gr := ⟨g.start, g.names, (posG g).rules ++ [⟨(k : Int), rowC x y⟩]⟩
theorem tb_more {g : Gr} {T : ByteArray} {M M2 : SpM} {n n2 tb tb2 k x y : Nat} {w w2 : World} (h : TbM (posG g) T M n tb w) (h2 : TbM (addG g k x y) T M2 n2 tb2 w2) {a i j : Nat} (hm : M a i j = true) (ha : a < g.names.length) (hi : i ≤ j) (hj : j ≤ T.size) :
    M2 a i j = true ∧ rnkN (btsW T) (addG g k x y).rules M2 n2 a i j ≤ rnkN (btsW T) (posG g).rules M n a i j := by
  have hp : ∀ r, r ∈ (posG g).rules ++ [⟨(k : Int), rowC x y⟩] → ∀ c, c ∈ r.conj → c.neg = false := fun r hr c hc => by
    rcases List.mem_append.1 hr with h9 | h9
    · unfold posG at h9
      obtain ⟨r', -, rfl⟩ := List.mem_map.1 h9
      unfold posR at hc
      obtain ⟨c', -, rfl⟩ := List.mem_map.1 hc
      rfl
    · rw [List.mem_singleton.1 h9] at hc
      rw [List.mem_singleton.1 hc]
  have hs2 : Stb3 (btsW T) T.size ((posG g).rules ++ [⟨(k : Int), rowC x y⟩]) M2 := h2.stb
  have hM : ∀ a i j, M a i j = true → M2 a i j = true := fun a i j h9 => stb_more hp h.stb hs2 h9
  refine ⟨hM a i j hm, ?_⟩
  have e1 : (rkS (btsW T) (posG g).rules M n).1 a i j = true := by rw [h.full.nm a i j ha hi hj]; exact hm
  have p1 := (fstAt_pos (f := fun k => (rkS (btsW T) (posG g).rules M k).1 a i j) (rkN_up a i j) rfl n).2 e1
  have q1 := (fstAt_is (f := fun k => (rkS (btsW T) (posG g).rules M k).1 a i j) (rkN_up a i j) rfl n p1).1
  exact fstAt_le (f := fun k' => (rkS (btsW T) ((posG g).rules ++ [⟨(k : Int), rowC x y⟩]) M2 k').1 a i j) (rkN_up a i j) rfl ((rkS_more hp hM _).1 a i j q1)
set_option maxHeartbeats 8000000 in
set_option maxRecDepth 100000 in
theorem meanMore_core (W : World) (g : Gr) (v1 v2 : Value) (T : ByteArray) (tz nm : Int) (n : Nat) (hnl : n = g.names.length) (k1 : Option Addr × Nat) (k2 : Option Addr × Nat × Nat) (e1 : v1 = .slice k1.1 n k1.2) (e2 : v2 = .slice k2.1 k2.2.1 k2.2.2) (hrl : g.rules.length ≤ 9223372036854775807) (hcl : ∀ r, r ∈ g.rules → r.conj.length ≤ 9223372036854775807)
    (KA0 : ∀ w, Below W.heap.size W w → Calls Tryz.prog 13 #[] w fun e w' => e = .returned (.bool true) ∧ Hid (Below w.heap.size w w'))
    (KC0 : ∀ w, Below W.heap.size W w → Calls Tryz.prog 26 #[.agg #[.int .i64 g.start, v1, v2]] w fun e w' => ∃ u1 u2, e = .returned (.agg #[.int .i64 g.start, u1, u2]) ∧ Hid (Below w.heap.size w w') ∧ Hid (Cp w g u1 u2 w'))
    (KN0 : ∀ (u1 u2 : Value) w, Below W.heap.size W w → GrIs w Any u1 u2 (posG g) → Calls Tryz.prog 14 #[.agg #[.int .i64 g.start, u1, u2], .string T] w fun e w' => ∃ pt z, e = .returned (.tuple #[.pointer pt, .int .i64 z]) ∧ Hid ((z = 1100 ∧ pt = none) ∨ ∃ tb, z = 0 ∧ pt = some ⟨tb, 0, none⟩ ∧ TmIs (posG g) T tb w' ∧ mayG (posG g) = true) ∧ Hid (Below w.heap.size w w'))
    (KM0 : ∀ (u1 u2 : Value) w (k x y : Nat), Below W.heap.size W w → GrIs w Any u1 u2 (addG g k x y) → Calls Tryz.prog 14 #[.agg #[.int .i64 g.start, u1, u2], .string T] w fun e w' => ∃ pt z, e = .returned (.tuple #[.pointer pt, .int .i64 z]) ∧ Hid ((z = 1100 ∧ pt = none) ∨ ∃ tb, z = 0 ∧ pt = some ⟨tb, 0, none⟩ ∧ TmIs (addG g k x y) T tb w') ∧ Hid (Below w.heap.size w w')) :
    Calls Tryz.prog 11 #[.agg #[.int .i64 g.start, v1, v2], .string T, .int .i64 tz, .int .i64 nm] W fun e W' => e = .returned (.bool true) ∧ Below W.heap.size W W' := by
  have HX1 : Hid (BxM W g.start v1 v2 (W.alloc (.cells #[.int .i64 g.start, v1, v2] 25))) := BxM.new _ _ _ _
  have KA : Hid (∀ w, Below W.heap.size W w → Calls Tryz.prog 13 #[] w fun e w' => e = .returned (.bool true) ∧ Hid (Below w.heap.size w w')) := KA0
  have KC : Hid (∀ w, Below W.heap.size W w → Calls Tryz.prog 26 #[.agg #[.int .i64 g.start, v1, v2]] w fun e w' => ∃ u1 u2, e = .returned (.agg #[.int .i64 g.start, u1, u2]) ∧ Hid (Below w.heap.size w w') ∧ Hid (Cp w g u1 u2 w')) := KC0
  have KN := (show Hid _ from KN0)
  have KM := (show Hid _ from KM0)
  have HCL : Hid (∀ r, r ∈ g.rules → r.conj.length ≤ 9223372036854775807) := hcl
  have HNL : Hid (n = g.names.length) := hnl
  subst e1 e2
  clear KC0 KN0 KM0 KA0 hcl hnl
  go_enter Tryz.func11, Tryz.ntmps11
  go_upto_region 4 with (first
    | (go_at_call 13; refine (KA.out _ HX1.out.1).mono ?_; rintro e wa ⟨rfl, ba⟩; have XA : Hid (BxM _ _ _ _ wa) := HX1.out.any ba.out; obtain ⟨-, z1, c0, c1, c2⟩ := XA.out)
    | (go_at_call 26; refine (KC.out _ XA.out.1).mono ?_; rintro e wc ⟨u1, u2, rfl, bc, CP⟩; obtain ⟨B, F, us, hBb, GV0⟩ := CP.out.gvO; obtain ⟨q1, m1, hu1⟩ := row_slice GV0.on; obtain ⟨q2, d2, hu2⟩ := row_slice GV0.m0.oo; rw [← HNL.out] at hu1; subst hu1 hu2; have HGV0 := (show Hid _ from GV0); clear GV0 z1 c0 c1 c2))
  obtain ⟨Y, hY⟩ : ∃ Y, Y = wc.alloc (.cells #[.int .i64 g.start, .slice q1 n m1, .slice q2 g.rules.length d2] 25) := ⟨_, rfl⟩
  rw [← hY] at HGV0 ⊢
  have f0 : Y.cell? ⟨wc.heap.size, 0, none⟩ = some (.int .i64 g.start) := Lib.cell_of_heap HGV0.out.vb 0
  have f1 : Y.cell? ⟨wc.heap.size, 1, none⟩ = some (.slice q1 n m1) := Lib.cell_of_heap HGV0.out.vb 1
  have f2 : Y.cell? ⟨wc.heap.size, 2, none⟩ = some (.slice q2 g.rules.length d2) := Lib.cell_of_heap HGV0.out.vb 2
  obtain ⟨hb, hhb⟩ : ∃ b, b = wc.heap.size := ⟨_, rfl⟩
  rw [← hhb] at f0 f1 f2 HGV0 ⊢
  have HWB : Hid (Below W.heap.size W B) := XA.out.1.trans (hBb.mono XA.out.1.size)
  have HFB : Hid (∀ w', Struck Y w' → w'.cell? ⟨hb, 0, none⟩ = some (.int .i64 g.start) ∧ w'.cell? ⟨hb, 1, none⟩ = some (.slice q1 n m1) ∧ w'.cell? ⟨hb, 2, none⟩ = some (.slice q2 g.rules.length d2)) := fun w' s => ⟨s.cell _ _ f0 (fun b h => by cases h), s.cell _ _ f1 (fun b h => by cases h), s.cell _ _ f2 (fun b h => by cases h)⟩
  have HSB : Hid (hb < Y.heap.size) := block_lt HGV0.out.vb
  obtain ⟨N, hN⟩ : ∃ N, N = g.rules.length := ⟨_, rfl⟩
  have HN : Hid (N = g.rules.length) := hN
  rw [← hN] at HFB hrl ⊢
  have HRD : Hid (Reads Y (fun b => (Value.slice q2 N d2).ownBlock = some b) (.slice q2 N d2) N (rusV g.rules us)) := by
    have h9 := HGV0.out.m0.oo
    rw [← hN] at h9
    exact Reads.of h9 (fun b h => h)
  clear hY hhb f0 f1 f2 CP hBb bc XA HX1 ba KC KA
  rw [← hN] at HGV0
  clear hN
  go_wp2
  go_loopw [10] (fun x wr => ∃ i : Nat, i ≤ N ∧ x = .int .i64 i ∧ Hid (Struck Y wr) ∧ Hid (∀ b, ¬ F b → wr.heap[b]? = Y.heap[b]?) ∧ Hid (Below B.heap.size B wr) ∧ Hid (DnS g us i 0 wr)) (fun x _ => N - (intOf x).toNat)
  case atStart => exact ⟨0, Nat.zero_le _, rfl, Struck.refl _, fun _ _ => rfl, HGV0.out.m0.bl, fun i j r u h => by omega⟩
  case round =>
    obtain ⟨i, hi, rfl, HST, HFR, HB, HD⟩ := hrel
    obtain ⟨-, -, t2⟩ := HFB.out wr HST.out
    by_cases hlt : i < N
    · obtain ⟨r, hr⟩ : ∃ r, g.rules[i]? = some r := ⟨_, List.getElem?_eq_getElem (by rw [← HN.out]; exact hlt)⟩
      obtain ⟨u, hu⟩ : ∃ u, us[i]? = some u := ⟨_, List.getElem?_eq_getElem (by rw [HGV0.out.m0.ri.1, ← HN.out]; exact hlt)⟩
      obtain ⟨a0, a1⟩ := rusV_at g.rules us i r u hr hu
      obtain ⟨p9, c9, e9, _, hx9⟩ := HRD.out
      simp only [Value.slice.injEq] at e9
      obtain ⟨rfl, _, rfl⟩ := e9
      obtain ⟨gr, or, hq2, _, _, hc9, _⟩ := hx9 (by omega)
      subst hq2
      have icn := HGV0.out.m0.ri.2 i r u hr hu
      have hcl := HCL.out r (List.mem_of_getElem? hr)
      obtain ⟨vs, ⟨p8, c8, e8, hm8, hx8⟩, hl8, _⟩ := id icn
      subst e8
      have y1 : Y.cell? ⟨gr, or + i * 2 + 1, none⟩ = some (.slice p8 r.conj.length c8) := by rw [Nat.add_assoc]; exact hc9 _ _ a1
      have HY1 : Hid (∀ w', Struck Y w' → w'.cell? ⟨hb, 2, none⟩ = some (.slice (some ⟨gr, or, none⟩) N d2) ∧ w'.cell? ⟨gr, or + i * 2 + 1, none⟩ = some (.slice p8 r.conj.length c8)) := fun w' s => ⟨(HFB.out w' s).2.2, s.cell _ _ y1 (fun b h => by cases h)⟩
      have HCJ : Hid (∀ j, j < r.conj.length → ∃ gc oc, p8 = some ⟨gc, oc, none⟩ ∧ F gc ∧ (∃ b, Y.cell? ⟨gc, oc + j * 2, none⟩ = some (.bool b)) ∧ Y.frozen? ⟨gc, oc + j * 2, none⟩ = false) := fun j hj => by
        obtain ⟨gc, oc, e1, e2, e3, e4, e5⟩ := hx8 (by omega)
        obtain ⟨c0, hc0⟩ : ∃ c0, r.conj[j]? = some c0 := ⟨_, List.getElem?_eq_getElem hj⟩
        obtain ⟨v0, hv0⟩ : ∃ v0, vs[j]? = some v0 := ⟨_, List.getElem?_eq_getElem (by omega)⟩
        obtain ⟨b1, b2⟩ := cnsV_at r.conj vs j c0 v0 hc0 hv0
        exact ⟨gc, oc, e1, e2, ⟨_, e4 _ _ b1⟩, e5 _ (by rw [cnsV_length _ _ hl8]; omega)⟩
      obtain ⟨M, hM⟩ : ∃ M, M = r.conj.length := ⟨_, rfl⟩
      have HM : Hid (M = r.conj.length) := hM
      rw [← hM] at HY1 HCJ hcl
      have HRU : Hid (g.rules[i]? = some r ∧ us[i]? = some (.slice p8 M c8)) := ⟨hr, by rw [hM]; exact hu⟩
      have t3 := (HY1.out wr HST.out).2
      clear hr hu a0 a1 hx9 hc9 icn hm8 hx8 hl8 y1 hM
      go_wp2
      go_loopw [11] (fun x wr => ∃ j : Nat, j ≤ M ∧ x = .int .i64 j ∧ Hid (Struck Y wr) ∧ Hid (∀ b, ¬ F b → wr.heap[b]? = Y.heap[b]?) ∧ Hid (Below B.heap.size B wr) ∧ Hid (DnS g us i j wr)) (fun x _ => M - (intOf x).toNat)
      case atStart => exact ⟨0, Nat.zero_le _, rfl, HST, HFR, HB, HD⟩
      case round =>
        clear t2 t3 HST HB HD HFR
        obtain ⟨j, hj, rfl, HST, HFR, HB, HD⟩ := hrel
        obtain ⟨t2, t3⟩ := HY1.out wr HST.out
        by_cases hlj : j < M
        · obtain ⟨gc, oc, hp8, hgc, ⟨b, hcb⟩, hfz⟩ := HCJ.out j hlj
          subst hp8
          obtain ⟨b', hcb'⟩ : ∃ b', wr.cell? ⟨gc, oc + j * 2, none⟩ = some (.bool b') := by
            rcases HST.out.neg _ _ hcb with h | h
            · exact ⟨_, h⟩
            · exact ⟨_, h⟩
          have hfz' : wr.frozen? ⟨gc, oc + j * 2, none⟩ = false := (HST.out.frz _).trans hfz
          have s1 := struck_set hcb'
          have HST2 : Hid (Struck Y (wr.setCell ⟨gc, oc + j * 2, none⟩ (.bool false))) := HST.out.trans s1
          have HB2 : Hid (Below B.heap.size B (wr.setCell ⟨gc, oc + j * 2, none⟩ (.bool false))) := bel_set HB.out (HGV0.out.m0.fl gc hgc).1
          have HFR2 : Hid (∀ b, ¬ F b → (wr.setCell ⟨gc, oc + j * 2, none⟩ (.bool false)).heap[b]? = Y.heap[b]?) := fun b hb => (Go.Deep.blk_setCell_other wr ⟨gc, oc + j * 2, none⟩ _ b (fun e => hb (by rw [e]; exact hgc))).trans (HFR.out b hb)
          have HD2 : Hid (DnS g us i (j + 1) (wr.setCell ⟨gc, oc + j * 2, none⟩ (.bool false))) := fun i' j' r' u' h h1 h2 h3 => by
            by_cases x : i' = i ∧ j' = j
            · obtain ⟨rfl, rfl⟩ := x
              rw [HRU.out.2] at h2
              obtain rfl := Option.some.inj h2
              intro g' o' n' c' e'
              simp only [Value.slice.injEq, Option.some.injEq, Addr.mk.injEq] at e'
              obtain ⟨⟨rfl, rfl, _⟩, _, _⟩ := e'
              exact World.cell?_setCell_same _ _ _ hcb'
            · exact (HD.out i' j' r' u' (by omega) h1 h2 h3).struck s1
          clear hcb hfz s1 hgc
          go_wp2
          go_roundw
          case rel => exact ⟨j + 1, by omega, by go_num, HST2, HFR2, HB2, HD2⟩
          case measure => simp [intOf]; omega
        · obtain rfl : j = M := by omega
          have HD2 : Hid (DnS g us (i + 1) 0 wr) := fun i' j' r' u' h h1 h2 h3 => by
            by_cases x : i' = i
            · subst x
              rw [HRU.out.1] at h1
              obtain rfl := Option.some.inj h1
              exact HD.out i' j' r u' (Or.inr ⟨rfl, by rw [HM.out]; exact h3⟩) HRU.out.1 h2 h3
            · exact HD.out i' j' r' u' (Or.inl (by omega)) h1 h2 h3
          go_wp2
          go_roundw
          case rel => exact ⟨i + 1, by omega, by go_num, HST, HFR, HB, HD2⟩
          case measure => simp [intOf]; omega
    · obtain rfl : i = N := by omega
      have GP := (show Hid _ from GV.strike (by rw [HN.out] at HGV0; exact HGV0.out) HST.out HFR.out HB.out fun i' r' u' h1 h2 j' h3 => HD.out i' j' r' u' (Or.inl (by
        have := (List.getElem?_eq_some_iff.1 h1).1
        rw [HN.out]; exact this)) h1 h2 h3)
      obtain ⟨t0, t1, -⟩ := HFB.out wr HST.out
      have hzb : hb < wr.heap.size := by rw [HST.out.size]; exact HSB.out
      have HG : Hid (GrIs wr Any (.slice q1 n m1) (.slice q2 i d2) (posG g)) := by
        have h9 := GP.out.gr
        rw [HN.out]; exact h9
      have HBW : Hid (Below W.heap.size W wr) := HWB.out.trans (HB.out.mono HWB.out.size)
      have KN1 := KN.out _ _ wr HBW.out HG.out
      clear KN HFR HST HB HD GP HFB HSB HRD HGV0 HCL hrl
      go_upto_region 12 with (go_at_call 14; refine KN1.mono ?_; rintro e wd ⟨pt, z, rfl, HT, bd⟩)
      have s0 := (bd.out.cell (p := ⟨hb, 0, none⟩) hzb).trans t0
      have s1 := (bd.out.cell (p := ⟨hb, 1, none⟩) hzb).trans t1
      have s2 := (bd.out.cell (p := ⟨hb, 2, none⟩) hzb).trans t2
      have hzd : hb < wd.heap.size := Nat.lt_of_lt_of_le hzb bd.out.size
      have HWD : Hid (Below W.heap.size W wd) := HBW.out.trans (bd.out.mono HBW.out.size)
      have HGD : Hid (GrIs wd Any (.slice q1 n m1) (.slice q2 i d2) (posG g)) := HG.out.any bd.out
      clear t0 t1 t2 hzb KN1 HG HBW bd
      rcases HT.out with ⟨rfl, rfl⟩ | ⟨tb, rfl, rfl, hTm, hMy⟩
      · clear HT
        go_wp2_with (go_at_call 15; refine (num_any _ _).mono ?_; rintro e wn ⟨rfl, rfl⟩)
        go_ret
        exact ⟨rfl, HWD.out⟩
      · have hn0 : 0 < n := by rw [HNL.out]; exact (show 0 < (posG g).names.length from mayG_pos hMy)
        have hn64 : n ≤ 64 := by rw [HNL.out]; exact (show (posG g).names.length ≤ 64 from mayG_names hMy)
        have hi256 : i ≤ 256 := by
          have := (mayG_plIn hMy).1
          rw [HN.out]
          unfold posG at this
          simpa using this
        have KC2 := copyGr_own (posG g) _ _ wd HGD.out (gsz_may hMy)
        have HTD : Hid (TmIs (posG g) T tb wd) := hTm
        obtain ⟨k, rfl⟩ : ∃ k : Nat, n = k + 1 := ⟨n - 1, by omega⟩
        have hsub : ((k + 1 : Nat) : Int) - 1 = (k : Int) := by omega
        have n1 : (((k + 1 : Nat) : Int) == 0) = false := by rw [beq_eq_false_iff_ne]; omega
        have n2 : ¬ ((k + 1 : Nat) : Int) = 0 := by omega
        have n3 : ¬ k + 1 = 0 := by omega
        clear HT hTm hMy HGD
        go_upto_region 15 with (go_at_call 15; refine (num_any _ _).mono ?_; rintro e wn ⟨rfl, rfl⟩)
        (try rw [hsub])
        go_upto_region 16 with (go_at_call 26; refine KC2.mono ?_; rintro e we ⟨y1, y2, rfl, -, BE, CP2⟩; obtain ⟨B2, F2, us2, hB2, GW0⟩ := CP2.out.gvO; obtain ⟨o1, o2, hy1⟩ := row_slice GW0.on; obtain ⟨o3, o4, hy2⟩ := row_slice GW0.m0.oo; subst hy1 hy2; have HGW := (show Hid _ from GW0); clear GW0)
        have hpl : (posG g).rules.length = i := by rw [HN.out]; simp [posG]
        have hpn : (posG g).names.length = k + 1 := HNL.out.symm
        obtain ⟨Y2, hY2⟩ : ∃ Y2, Y2 = we.alloc (.cells #[.int .i64 (posG g).start, .slice o1 (posG g).names.length o2, .slice o3 (posG g).rules.length o4] 25) := ⟨_, rfl⟩
        have GW := HGW.out
        rw [← hY2] at GW ⊢
        rw [hpn] at GW
        obtain ⟨ob, hob⟩ : ∃ ob, ob = we.heap.size := ⟨_, rfl⟩
        rw [← hob] at GW ⊢
        have HBY : Hid (Below wd.heap.size wd Y2) := by
          show Below _ _ _
          rw [hY2]; exact BE.out.alloc BE.out.size _
        have hobl : ob < Y2.heap.size := block_lt GW.vb
        have q2 : Y2.cell? ⟨ob, 2, none⟩ = some (.slice o3 i o4) := by rw [← hpl]; exact Lib.cell_of_heap GW.vb 2
        obtain ⟨x, hx, hxm⟩ := tmodM nm k
        obtain ⟨y, hy, hym⟩ := tmodM tz k
        obtain ⟨X, hX⟩ : ∃ X, X = (Y2.drew.alloc (.cells #[.int .i64 (x : Int), .int .i64 0, .int .i64 0, .int .i64 (y : Int), .int .i64 0, .int .i64 0] 44)).alloc (.cells #[.bool false, .slice (some ⟨Y2.heap.size, 0, none⟩) 2 2] 48) := ⟨_, rfl⟩
        have bX : Below Y2.heap.size Y2 X := by rw [hX]; exact ((Below.refl _ Y2).drew.alloc (Nat.le_refl _) _).alloc (by simp) _
        have sX : X.heap.size = Y2.heap.size + 1 + 1 := by rw [hX]; simp
        have hs0 : X.heap[Y2.heap.size]? = some (.cells #[.int .i64 (x : Int), .int .i64 0, .int .i64 0, .int .i64 (y : Int), .int .i64 0, .int .i64 0] 44) := by
          rw [hX]
          exact (heap_alloc_old _ (by simp)).trans (heap_alloc_new Y2.drew _)
        have hc0 : X.heap[Y2.heap.size + 1]? = some (.cells #[.bool false, .slice (some ⟨Y2.heap.size, 0, none⟩) 2 2] 48) := by
          rw [hX]
          have h9 := heap_alloc_new (Y2.drew.alloc (.cells #[.int .i64 (x : Int), .int .i64 0, .int .i64 0, .int .i64 (y : Int), .int .i64 0, .int .i64 0] 44)) (.cells #[.bool false, .slice (some ⟨Y2.heap.size, 0, none⟩) 2 2] 48)
          rw [show (Y2.drew.alloc (.cells #[.int .i64 (x : Int), .int .i64 0, .int .i64 0, .int .i64 (y : Int), .int .i64 0, .int .i64 0] 44)).heap.size = Y2.heap.size + 1 by simp] at h9
          exact h9
        have hcn : IsCns X (fun b => Y2.heap.size ≤ b ∧ b < X.heap.size) (.slice (some ⟨Y2.heap.size + 1, 0, none⟩) 1 1) (rowC x y) := by
          have i2 : IsSys X (fun b => Y2.heap.size ≤ b ∧ b < X.heap.size) (.slice (some ⟨Y2.heap.size, 0, none⟩) 2 2) [⟨(x : Int), 0, 0⟩, ⟨(y : Int), 0, 0⟩] := reads_atM (reads_laid hs0 le22 rfl) ⟨Nat.le_refl _, by omega⟩
          have r2 : Reads X (fun b => Y2.heap.size ≤ b ∧ b < X.heap.size) (.slice (some ⟨Y2.heap.size + 1, 0, none⟩) 1 1) 1 [.bool false, .slice (some ⟨Y2.heap.size, 0, none⟩) 2 2] := reads_atM (reads_laid hc0 le11 rfl) ⟨Nat.le_succ _, by omega⟩
          exact ⟨[_], r2, (CnsIn.nil _ _).snoc (c := ⟨false, [⟨(x : Int), 0, 0⟩, ⟨(y : Int), 0, 0⟩]⟩) i2⟩
        have hB2s := GW.m0.bl.size
        obtain ⟨g2, cap2, w2, hr2, GV2, x2, z2, hbl⟩ := (GW.keep bX).appRuleO (h := (k : Int)) hcn (fun b h9 => ⟨by omega, h9.2, by omega, fun e => by have := (GW.on.lt b e).2; omega, fun e => by have := (GW.m0.oo.lt b e).2; omega⟩) rfl (by rw [hpl]; omega)
        rw [hpl] at hr2 GV2 hbl x2
        rw [sX] at hr2
        rw [show X.alloc (.cells #[.int .i64 (k : Int), .slice (some ⟨Y2.heap.size + 1, 0, none⟩) 1 1] 53) = (((Y2.alloc (.cells #[.int .i64 (x : Int), .int .i64 0, .int .i64 0, .int .i64 (y : Int), .int .i64 0, .int .i64 0] 44)).alloc (.cells #[.bool false, .slice (some ⟨Y2.heap.size, 0, none⟩) 2 2] 48)).alloc (.cells #[.int .i64 (k : Int), .slice (some ⟨Y2.heap.size + 1, 0, none⟩) 1 1] 53)).drew by rw [hX]; rfl] at hr2
        obtain ⟨X3, hX3⟩ : ∃ X3, X3 = w2.setCell ⟨ob, 2, none⟩ (.slice (some ⟨g2, 0, none⟩) (i + 1) cap2) := ⟨_, rfl⟩
        rw [← hX3] at GV2 hbl
        have hdX : Below wd.heap.size wd X3 := hbl wd (HBY.out.trans (bX.mono HBY.out.size)) (by have := GW.gg; have := hB2.size; omega) (fun b e => by have := (GW.m0.oo.lt b (by rw [hpl]; exact e)).1; have := hB2.size; omega)
        have HX3D : Hid (Below wd.heap.size wd X3) := hdX
        have HG3 : Hid (GrIs X3 Any (.slice o1 (k + 1) o2) (.slice (some ⟨g2, 0, none⟩) (i + 1) cap2) (addG g k x y)) := GV2.gr
        have r0 : X3.cell? ⟨ob, 0, none⟩ = some (.int .i64 g.start) := Lib.cell_of_heap GV2.vb 0
        have r1 : X3.cell? ⟨ob, 1, none⟩ = some (.slice o1 (k + 1) o2) := Lib.cell_of_heap GV2.vb 1
        have r2 : X3.cell? ⟨ob, 2, none⟩ = some (.slice (some ⟨g2, 0, none⟩) (i + 1) cap2) := Lib.cell_of_heap GV2.vb 2
        have zt : ob < X3.heap.size := block_lt GV2.vb
        have qD : Y2.drew.cell? ⟨ob, 2, none⟩ = some (.slice o3 i o4) := q2
        have qA : ∀ o, (Y2.drew.alloc o).cell? ⟨ob, 2, none⟩ = some (.slice o3 i o4) := fun o => (World.cell?_alloc_past _ _ _ hobl).trans q2
        have qB : ∀ o o', ((Y2.drew.alloc o).alloc o').cell? ⟨ob, 2, none⟩ = some (.slice o3 i o4) := fun o o' => (World.cell?_alloc_past _ _ _ (by simp; omega)).trans (qA o)
        have qC : ∀ o o' o'', (((Y2.drew.alloc o).alloc o').alloc o'').cell? ⟨ob, 2, none⟩ = some (.slice o3 i o4) := fun o o' o'' => (World.cell?_alloc_past _ _ _ (by simp; omega)).trans (qB o o')
        have pA : ∀ o, (Y2.alloc o).cell? ⟨ob, 2, none⟩ = some (.slice o3 i o4) := fun o => (World.cell?_alloc_past _ _ _ hobl).trans q2
        have pB : ∀ o o', ((Y2.alloc o).alloc o').cell? ⟨ob, 2, none⟩ = some (.slice o3 i o4) := fun o o' => (World.cell?_alloc_past _ _ _ (by simp; omega)).trans (pA o)
        have pC : ∀ o o' o'', (((Y2.alloc o).alloc o').alloc o'').cell? ⟨ob, 2, none⟩ = some (.slice o3 i o4) := fun o o' o'' => (World.cell?_alloc_past _ _ _ (by simp; omega)).trans (pB o o')
        have hku : IntKind.u64.wrap ((k : Int) + 1) = (k : Int) + 1 := by rw [IntKind.wrap_u64]; omega
        have m1 : ((k : Int) + 1 == 0) = false := by rw [beq_eq_false_iff_ne]; omega
        have m2 : ¬ (k : Int) + 1 = 0 := by omega
        have hki : IntKind.i64.wrap ((k : Int) + 1) = (k : Int) + 1 := by rw [IntKind.wrap_i64]; omega
        have hxw : IntKind.i64.wrap (x : Int) = (x : Int) := by rw [IntKind.wrap_i64]; omega
        have hyw : IntKind.i64.wrap (y : Int) = (y : Int) := by rw [IntKind.wrap_i64]; omega
        have hxw' : wrap64 (x : Int) = (x : Int) := by unfold wrap64; omega
        have hyw' : wrap64 (y : Int) = (y : Int) := by unfold wrap64; omega
        have LA := stepAppL hr2
        unfold StepAppL at LA
        have HX3E : Hid (X3 = w2.setCell ⟨ob, 2, none⟩ (.slice (some ⟨g2, 0, none⟩) (i + 1) cap2)) := hX3
        clear GV2 GW HGW CP2 hs0 hc0 hcn hbl hdX hr2 hX hY2 hob bX sX hB2 hB2s hpl hpn BE KC2 n1 n2 n3 hsub s0 s1 s2 hzd
        go_cut [] from 106 (fun wc => Hid (wc = X3))
        case first =>
          clear KM HG3 HX3D r0 r1 r2 zt HTD
          refine wp_region_noPanic ?_
          refine wp_region_held_drew (S := fun _ => True) (by kernel_rfl) ?_ (fun hHeld => ?_)
          · trivial
          refine wpAnyH_take (i := 0) (oi := _) (v := ?_) rfl (by kernel_rfl) (by kernel_rfl) (by kernel_rfl) (fun _ _ _ h => h) (Or.inl ⟨by rfl, ?_⟩) (by assumption) ?_
          rotate_left
          · intro w' hSw; (try dsimp only at hSw); go_simp; (try with_reducible rfl)
          simp only [Act.put, List.setIfInBounds_toArray, List.set_cons_zero, List.set_cons_succ]
          refine wpAnyH_take (i := 2) (oi := _) (v := ?_) rfl (by kernel_rfl) (by kernel_rfl) (by kernel_rfl) (fun _ _ _ h => h) (Or.inl ⟨by rfl, ?_⟩) (by assumption) ?_
          rotate_left
          · intro w' hSw; (try dsimp only at hSw); go_simp; (try with_reducible rfl)
          simp only [Act.put, List.setIfInBounds_toArray, List.set_cons_zero, List.set_cons_succ]
          refine wpAnyH_take (i := 3) (oi := _) (v := ?_) rfl (by kernel_rfl) (by kernel_rfl) (by kernel_rfl) (fun _ _ _ h => h) (Or.inl ⟨by rfl, ?_⟩) (by assumption) ?_
          rotate_left
          · intro w' hSw; (try dsimp only at hSw); go_simp; (try with_reducible rfl)
          simp only [Act.put, List.setIfInBounds_toArray, List.set_cons_zero, List.set_cons_succ]
          refine wpAnyH_take (i := 4) (oi := _) (v := ?_) rfl (by kernel_rfl) (by kernel_rfl) (by kernel_rfl) (fun _ _ _ h => h) (Or.inl ⟨by rfl, ?_⟩) (by assumption) ?_
          rotate_left
          · intro w' hSw; (try dsimp only at hSw); go_simp; (try with_reducible rfl)
          simp only [Act.put, List.setIfInBounds_toArray, List.set_cons_zero, List.set_cons_succ]
          refine wpAnyH_take (i := 5) (oi := _) (v := ?_) rfl (by kernel_rfl) (by kernel_rfl) (by kernel_rfl) (fun _ _ _ h => h) (Or.inl ⟨by rfl, ?_⟩) (by assumption) ?_
          rotate_left
          · intro w' hSw; (try dsimp only at hSw); go_simp; (try with_reducible rfl)
          simp only [Act.put, List.setIfInBounds_toArray, List.set_cons_zero, List.set_cons_succ]
          refine wpAnyH_take (i := 6) (oi := _) (v := ?_) rfl (by kernel_rfl) (by kernel_rfl) (by kernel_rfl) (fun _ _ _ h => h) (Or.inl ⟨by rfl, ?_⟩) (by assumption) ?_
          rotate_left
          · intro w' hSw; (try dsimp only at hSw); go_simp; (try with_reducible rfl)
          simp only [Act.put, List.setIfInBounds_toArray, List.set_cons_zero, List.set_cons_succ]
          refine wpAnyH_take (i := 7) (oi := _) (v := ?_) rfl (by kernel_rfl) (by kernel_rfl) (by kernel_rfl) (fun _ _ _ h => h) (Or.inl ⟨by rfl, ?_⟩) (by assumption) ?_
          rotate_left
          · intro w' hSw; (try dsimp only at hSw); go_simp; (try with_reducible rfl)
          simp only [Act.put, List.setIfInBounds_toArray, List.set_cons_zero, List.set_cons_succ]
          refine wpAnyH_take (i := 8) (oi := _) (v := ?_) rfl (by kernel_rfl) (by kernel_rfl) (by kernel_rfl) (fun _ _ _ h => h) (Or.inl ⟨by rfl, ?_⟩) (by assumption) ?_
          rotate_left
          · intro w' hSw; (try dsimp only at hSw); go_simp; (try with_reducible rfl)
          simp only [Act.put, List.setIfInBounds_toArray, List.set_cons_zero, List.set_cons_succ]
          refine wpAnyH_take (i := 9) (oi := _) (v := ?_) rfl (by kernel_rfl) (by kernel_rfl) (by kernel_rfl) (fun _ _ _ h => h) (Or.inl ⟨by rfl, ?_⟩) (by assumption) ?_
          rotate_left
          · intro w' hSw; (try dsimp only at hSw); go_simp; (try with_reducible rfl)
          simp only [Act.put, List.setIfInBounds_toArray, List.set_cons_zero, List.set_cons_succ]
          refine wpAnyH_take (i := 10) (oi := _) (v := ?_) rfl (by kernel_rfl) (by kernel_rfl) (by kernel_rfl) (fun _ _ _ h => h) (Or.inl ⟨by rfl, ?_⟩) (by assumption) ?_
          rotate_left
          · intro w' hSw; (try dsimp only at hSw); go_simp; (try with_reducible rfl)
          simp only [Act.put, List.setIfInBounds_toArray, List.set_cons_zero, List.set_cons_succ]
          refine wpAnyH_take (i := 11) (oi := _) (v := ?_) rfl (by kernel_rfl) (by kernel_rfl) (by kernel_rfl) (fun _ _ _ h => h) (Or.inl ⟨by rfl, ?_⟩) (by assumption) ?_
          rotate_left
          · intro w' hSw; (try dsimp only at hSw); go_simp; (try with_reducible rfl)
          simp only [Act.put, List.setIfInBounds_toArray, List.set_cons_zero, List.set_cons_succ]
          refine wpAnyH_take (i := 12) (oi := _) (v := ?_) rfl (by kernel_rfl) (by kernel_rfl) (by kernel_rfl) (fun _ _ _ h => h) (Or.inl ⟨by rfl, ?_⟩) (by assumption) ?_
          rotate_left
          · intro w' hSw; (try dsimp only at hSw); go_simp; (try with_reducible rfl)
          simp only [Act.put, List.setIfInBounds_toArray, List.set_cons_zero, List.set_cons_succ]
          refine wpAnyH_take (i := 13) (oi := _) (v := ?_) rfl (by kernel_rfl) (by kernel_rfl) (by kernel_rfl) (fun _ _ _ h => h) (Or.inl ⟨by rfl, ?_⟩) (by assumption) ?_
          rotate_left
          · intro w' hSw; (try dsimp only at hSw); go_simp; (try with_reducible rfl)
          simp only [Act.put, List.setIfInBounds_toArray, List.set_cons_zero, List.set_cons_succ]
          refine wpAnyH_take (i := 14) (oi := _) (v := ?_) rfl (by kernel_rfl) (by kernel_rfl) (by kernel_rfl) (fun _ _ _ h => h) (Or.inl ⟨by rfl, ?_⟩) (by assumption) ?_
          rotate_left
          · intro w' hSw; (try dsimp only at hSw); go_simp; (try with_reducible rfl)
          simp only [Act.put, List.setIfInBounds_toArray, List.set_cons_zero, List.set_cons_succ]
          refine wpAnyH_take (i := 15) (oi := _) (v := ?_) rfl (by kernel_rfl) (by kernel_rfl) (by kernel_rfl) (fun _ _ _ h => h) (Or.inl ⟨by rfl, ?_⟩) (by assumption) ?_
          rotate_left
          · intro w' hSw; (try dsimp only at hSw); go_simp; (try with_reducible rfl)
          simp only [Act.put, List.setIfInBounds_toArray, List.set_cons_zero, List.set_cons_succ]
          refine wpAnyH_take (i := 16) (oi := _) (v := ?_) rfl (by kernel_rfl) (by kernel_rfl) (by kernel_rfl) (fun _ _ _ h => h) (Or.inl ⟨by rfl, ?_⟩) (by assumption) ?_
          rotate_left
          · intro w' hSw; (try dsimp only at hSw); go_simp; (try with_reducible rfl)
          simp only [Act.put, List.setIfInBounds_toArray, List.set_cons_zero, List.set_cons_succ]
          refine wpAnyH_take (i := 17) (oi := _) (v := ?_) rfl (by kernel_rfl) (by kernel_rfl) (by kernel_rfl) (fun _ _ _ h => h) (Or.inl ⟨by rfl, ?_⟩) (by assumption) ?_
          rotate_left
          · intro w' hSw; (try dsimp only at hSw); go_simp; (try with_reducible rfl)
          simp only [Act.put, List.setIfInBounds_toArray, List.set_cons_zero, List.set_cons_succ]
          refine wpAnyH_take (i := 18) (oi := _) (v := ?_) rfl (by kernel_rfl) (by kernel_rfl) (by kernel_rfl) (fun _ _ _ h => h) (Or.inl ⟨by rfl, ?_⟩) (by assumption) ?_
          rotate_left
          · intro w' hSw; (try dsimp only at hSw); go_simp; (try with_reducible rfl)
          simp only [Act.put, List.setIfInBounds_toArray, List.set_cons_zero, List.set_cons_succ]
          refine wpAnyH_ready (rs := [1, 19]) (by kernel_rfl) (by simp) ?_
          refine AllReadyH.cons rfl (fun K hK => ?_) ?_
          · go_simp
            refine hK.out _ _ ?_ (fun hHeld => ?_)
            · (try dsimp only); (try trivial)
            clear hK K
            refine wpAnyH_ready (rs := [19]) (by kernel_rfl) (by simp) ?_
            refine AllReadyH.cons rfl (fun K hK => ?_) ?_
            · go_simp
              refine hK.out _ _ ?_ (fun hHeld => ?_)
              · (try dsimp only); (try trivial)
              clear hK K
              refine wpAnyH_take (i := 20) (oi := _) (v := ?_) rfl (by kernel_rfl) (by kernel_rfl) (by kernel_rfl) (fun _ _ _ h => h) (Or.inl ⟨by rfl, ?_⟩) (by assumption) ?_
              rotate_left
              · intro w' hSw; (try dsimp only at hSw); go_simp; (try with_reducible rfl)
              simp only [Act.put, List.setIfInBounds_toArray, List.set_cons_zero, List.set_cons_succ]
              refine wpAnyH_ready (rs := [21]) (by kernel_rfl) (by simp) ?_
              refine AllReadyH.cons rfl (fun K hK => ?_) ?_
              · go_simp
                refine hK.out _ _ ?_ (fun hHeld => ?_)
                · (try dsimp only); (try trivial)
                clear hK K
                refine wpAnyH_take (i := 22) (oi := _) (v := ?_) rfl (by kernel_rfl) (by kernel_rfl) (by kernel_rfl) (fun _ _ _ h => h) (Or.inl ⟨by rfl, ?_⟩) (by assumption) ?_
                rotate_left
                · intro w' hSw; (try dsimp only at hSw); go_simp; (try with_reducible rfl)
                simp only [Act.put, List.setIfInBounds_toArray, List.set_cons_zero, List.set_cons_succ]
                refine wpAnyH_ready (rs := [23]) (by kernel_rfl) (by simp) ?_
                refine AllReadyH.cons rfl (fun K hK => ?_) ?_
                · go_simp
                  refine hK.out _ _ ?_ (fun hHeld => ?_)
                  · (try dsimp only); (try trivial)
                  clear hK K
                  refine wpAnyH_ready (rs := [24]) (by kernel_rfl) (by simp) ?_
                  refine AllReadyH.cons rfl (fun K hK => ?_) ?_
                  · ((with_reducible refine LA _ _ _ _ _ _ ?_ ?_ ?_ ?_); rfl; exact ⟨_, _, rfl, rfl, rfl⟩; rfl)
                    refine hK.out _ _ ?_ (fun hHeld => ?_)
                    · (try dsimp only); (try trivial)
                    clear hK K
                    refine wpAnyH_take (i := 25) (oi := _) (v := ?_) rfl (by kernel_rfl) (by kernel_rfl) (by kernel_rfl) (fun _ _ _ h => h) (Or.inl ⟨by rfl, ?_⟩) (by assumption) ?_
                    rotate_left
                    · intro w' hSw; (try dsimp only at hSw); go_simp; (try with_reducible rfl)
                    simp only [Act.put, List.setIfInBounds_toArray, List.set_cons_zero, List.set_cons_succ]
                    refine wpAnyH_ready (rs := [26]) (by kernel_rfl) (by simp) ?_
                    refine AllReadyH.cons rfl (fun K hK => ?_) ?_
                    · go_simp
                      refine hK.out _ _ ?_ (fun hHeld => ?_)
                      · (try dsimp only); (try trivial)
                      clear hK K
                      refine wpAnyH_done (by kernel_rfl) ?_ _
                      refine NoPanic.normal ?_
                      go_wp2
                      go_meet
                      case rel => exact hX3.symm
                    exact AllReadyH.nil
                  exact AllReadyH.nil
                exact AllReadyH.nil
              exact AllReadyH.nil
            exact AllReadyH.nil
          refine AllReadyH.cons rfl (fun K hK => ?_) ?_
          · go_simp
            refine hK.out _ _ ?_ (fun hHeld => ?_)
            · (try dsimp only); (try trivial)
            clear hK K
            refine wpAnyH_take (i := 20) (oi := _) (v := ?_) rfl (by kernel_rfl) (by kernel_rfl) (by kernel_rfl) (fun _ _ _ h => h) (Or.inl ⟨by rfl, ?_⟩) (by assumption) ?_
            rotate_left
            · intro w' hSw; (try dsimp only at hSw); go_simp; (try with_reducible rfl)
            simp only [Act.put, List.setIfInBounds_toArray, List.set_cons_zero, List.set_cons_succ]
            refine wpAnyH_ready (rs := [1, 21]) (by kernel_rfl) (by simp) ?_
            refine AllReadyH.cons rfl (fun K hK => ?_) ?_
            · go_simp
              refine hK.out _ _ ?_ (fun hHeld => ?_)
              · (try dsimp only); (try trivial)
              clear hK K
              refine wpAnyH_ready (rs := [21]) (by kernel_rfl) (by simp) ?_
              refine AllReadyH.cons rfl (fun K hK => ?_) ?_
              · go_simp
                refine hK.out _ _ ?_ (fun hHeld => ?_)
                · (try dsimp only); (try trivial)
                clear hK K
                refine wpAnyH_take (i := 22) (oi := _) (v := ?_) rfl (by kernel_rfl) (by kernel_rfl) (by kernel_rfl) (fun _ _ _ h => h) (Or.inl ⟨by rfl, ?_⟩) (by assumption) ?_
                rotate_left
                · intro w' hSw; (try dsimp only at hSw); go_simp; (try with_reducible rfl)
                simp only [Act.put, List.setIfInBounds_toArray, List.set_cons_zero, List.set_cons_succ]
                refine wpAnyH_ready (rs := [23]) (by kernel_rfl) (by simp) ?_
                refine AllReadyH.cons rfl (fun K hK => ?_) ?_
                · go_simp
                  refine hK.out _ _ ?_ (fun hHeld => ?_)
                  · (try dsimp only); (try trivial)
                  clear hK K
                  refine wpAnyH_ready (rs := [24]) (by kernel_rfl) (by simp) ?_
                  refine AllReadyH.cons rfl (fun K hK => ?_) ?_
                  · ((with_reducible refine LA _ _ _ _ _ _ ?_ ?_ ?_ ?_); rfl; exact ⟨_, _, rfl, rfl, rfl⟩; rfl)
                    refine hK.out _ _ ?_ (fun hHeld => ?_)
                    · (try dsimp only); (try trivial)
                    clear hK K
                    refine wpAnyH_take (i := 25) (oi := _) (v := ?_) rfl (by kernel_rfl) (by kernel_rfl) (by kernel_rfl) (fun _ _ _ h => h) (Or.inl ⟨by rfl, ?_⟩) (by assumption) ?_
                    rotate_left
                    · intro w' hSw; (try dsimp only at hSw); go_simp; (try with_reducible rfl)
                    simp only [Act.put, List.setIfInBounds_toArray, List.set_cons_zero, List.set_cons_succ]
                    refine wpAnyH_ready (rs := [26]) (by kernel_rfl) (by simp) ?_
                    refine AllReadyH.cons rfl (fun K hK => ?_) ?_
                    · go_simp
                      refine hK.out _ _ ?_ (fun hHeld => ?_)
                      · (try dsimp only); (try trivial)
                      clear hK K
                      refine wpAnyH_done (by kernel_rfl) ?_ _
                      refine NoPanic.normal ?_
                      go_wp2
                      go_meet
                      case rel => exact hX3.symm
                    exact AllReadyH.nil
                  exact AllReadyH.nil
                exact AllReadyH.nil
              exact AllReadyH.nil
            refine AllReadyH.cons rfl (fun K hK => ?_) ?_
            · go_simp
              refine hK.out _ _ ?_ (fun hHeld => ?_)
              · (try dsimp only); (try trivial)
              clear hK K
              refine wpAnyH_take (i := 22) (oi := _) (v := ?_) rfl (by kernel_rfl) (by kernel_rfl) (by kernel_rfl) (fun _ _ _ h => h) (Or.inl ⟨by rfl, ?_⟩) (by assumption) ?_
              rotate_left
              · intro w' hSw; (try dsimp only at hSw); go_simp; (try with_reducible rfl)
              simp only [Act.put, List.setIfInBounds_toArray, List.set_cons_zero, List.set_cons_succ]
              refine wpAnyH_ready (rs := [1, 23]) (by kernel_rfl) (by simp) ?_
              refine AllReadyH.cons rfl (fun K hK => ?_) ?_
              · go_simp
                refine hK.out _ _ ?_ (fun hHeld => ?_)
                · (try dsimp only); (try trivial)
                clear hK K
                refine wpAnyH_ready (rs := [23]) (by kernel_rfl) (by simp) ?_
                refine AllReadyH.cons rfl (fun K hK => ?_) ?_
                · go_simp
                  refine hK.out _ _ ?_ (fun hHeld => ?_)
                  · (try dsimp only); (try trivial)
                  clear hK K
                  refine wpAnyH_ready (rs := [24]) (by kernel_rfl) (by simp) ?_
                  refine AllReadyH.cons rfl (fun K hK => ?_) ?_
                  · ((with_reducible refine LA _ _ _ _ _ _ ?_ ?_ ?_ ?_); rfl; exact ⟨_, _, rfl, rfl, rfl⟩; rfl)
                    refine hK.out _ _ ?_ (fun hHeld => ?_)
                    · (try dsimp only); (try trivial)
                    clear hK K
                    refine wpAnyH_take (i := 25) (oi := _) (v := ?_) rfl (by kernel_rfl) (by kernel_rfl) (by kernel_rfl) (fun _ _ _ h => h) (Or.inl ⟨by rfl, ?_⟩) (by assumption) ?_
                    rotate_left
                    · intro w' hSw; (try dsimp only at hSw); go_simp; (try with_reducible rfl)
                    simp only [Act.put, List.setIfInBounds_toArray, List.set_cons_zero, List.set_cons_succ]
                    refine wpAnyH_ready (rs := [26]) (by kernel_rfl) (by simp) ?_
                    refine AllReadyH.cons rfl (fun K hK => ?_) ?_
                    · go_simp
                      refine hK.out _ _ ?_ (fun hHeld => ?_)
                      · (try dsimp only); (try trivial)
                      clear hK K
                      refine wpAnyH_done (by kernel_rfl) ?_ _
                      refine NoPanic.normal ?_
                      go_wp2
                      go_meet
                      case rel => exact hX3.symm
                    exact AllReadyH.nil
                  exact AllReadyH.nil
                exact AllReadyH.nil
              refine AllReadyH.cons rfl (fun K hK => ?_) ?_
              · go_simp
                refine hK.out _ _ ?_ (fun hHeld => ?_)
                · (try dsimp only); (try trivial)
                clear hK K
                refine wpAnyH_ready (rs := [1]) (by kernel_rfl) (by simp) ?_
                refine AllReadyH.cons rfl (fun K hK => ?_) ?_
                · go_simp
                  refine hK.out _ _ ?_ (fun hHeld => ?_)
                  · (try dsimp only); (try trivial)
                  clear hK K
                  refine wpAnyH_ready (rs := [24]) (by kernel_rfl) (by simp) ?_
                  refine AllReadyH.cons rfl (fun K hK => ?_) ?_
                  · ((with_reducible refine LA _ _ _ _ _ _ ?_ ?_ ?_ ?_); rfl; exact ⟨_, _, rfl, rfl, rfl⟩; rfl)
                    refine hK.out _ _ ?_ (fun hHeld => ?_)
                    · (try dsimp only); (try trivial)
                    clear hK K
                    refine wpAnyH_take (i := 25) (oi := _) (v := ?_) rfl (by kernel_rfl) (by kernel_rfl) (by kernel_rfl) (fun _ _ _ h => h) (Or.inl ⟨by rfl, ?_⟩) (by assumption) ?_
                    rotate_left
                    · intro w' hSw; (try dsimp only at hSw); go_simp; (try with_reducible rfl)
                    simp only [Act.put, List.setIfInBounds_toArray, List.set_cons_zero, List.set_cons_succ]
                    refine wpAnyH_ready (rs := [26]) (by kernel_rfl) (by simp) ?_
                    refine AllReadyH.cons rfl (fun K hK => ?_) ?_
                    · go_simp
                      refine hK.out _ _ ?_ (fun hHeld => ?_)
                      · (try dsimp only); (try trivial)
                      clear hK K
                      refine wpAnyH_done (by kernel_rfl) ?_ _
                      refine NoPanic.normal ?_
                      go_wp2
                      go_meet
                      case rel => exact hX3.symm
                    exact AllReadyH.nil
                  exact AllReadyH.nil
                exact AllReadyH.nil
              exact AllReadyH.nil
            exact AllReadyH.nil
          exact AllReadyH.nil
        case rest =>
          have e9 : X3 = wc := hcut.out.symm
          subst e9
          clear hcut hX3 HX3E LA qA qB qC qD pA pB pC q2 x2 z2 hku hki hxw hyw hxw' hyw' m1 m2 hxm hym hx hy hobl
          have HW3 : Hid (Below W.heap.size W X3) := HWD.out.trans (HX3D.out.mono HWD.out.size)
          have KM1 := KM.out _ _ X3 k x y HW3.out HG3.out
          clear KM HG3
          go_upto_region 18 with (go_at_call 14; refine KM1.mono ?_; rintro e w7 ⟨pt, z, rfl, HU, b7⟩)
          have HW7 : Hid (Below W.heap.size W w7) := HW3.out.trans (b7.out.mono HW3.out.size)
          have HD7 : Hid (Below wd.heap.size wd w7) := HX3D.out.trans (b7.out.mono HX3D.out.size)
          clear KM1 r0 r1 r2 zt
          rcases HU.out with ⟨rfl, rfl⟩ | ⟨ub, rfl, rfl, hUm⟩
          · clear HU
            go_wp2_with (go_at_call 15; refine (num_any _ _).mono ?_; rintro e wn ⟨rfl, rfl⟩)
            go_ret
            exact ⟨rfl, HW7.out⟩
          · obtain ⟨M, nn, hTb⟩ := HTD.out.tbM
            obtain ⟨M2, n2, hUb⟩ := hUm.tbM
            have HTB : Hid (TbM (posG g) T M nn tb w7) := hTb.any HD7.out
            have HUB : Hid (TbM (addG g k x y) T M2 n2 ub w7) := hUb
            have hT32 : T.size ≤ 32 := hTb.hm
            obtain ⟨rt, hrt⟩ : ∃ rt : Nat → Nat → Nat → Nat, rt = fun a i j => rnkN (btsW T) (posG g).rules M nn a i j := ⟨_, rfl⟩
            obtain ⟨ru, hru⟩ : ∃ ru : Nat → Nat → Nat → Nat, ru = fun a i j => rnkN (btsW T) (addG g k x y).rules M2 n2 a i j := ⟨_, rfl⟩
            have HMO : Hid (∀ a i j, a < k + 1 → i ≤ j → j ≤ T.size → M a i j = true → M2 a i j = true ∧ ru a i j ≤ rt a i j) := fun a i j ha hi hj hm => by rw [hrt, hru]; exact tb_more hTb hUb hm (by rw [← HNL.out]; exact ha) hi hj
            have KH1 : Hid (∀ (a i j : Nat), a < k + 1 → i ≤ j → j ≤ T.size → Calls Tryz.prog 16 #[.pointer (some ⟨tb, 0, none⟩), .int .i64 (a : Int), .int .i64 (i : Int), .int .i64 (j : Int)] w7 fun e w'' => e = .returned (.bool (M a i j)) ∧ w7 = w'') := fun a i j ha hi hj => has_tb w7 HTB.out (show a < g.names.length by rw [← HNL.out]; exact ha) hi hj
            have KH2 : Hid (∀ (a i j : Nat), a < k + 1 → i ≤ j → j ≤ T.size → Calls Tryz.prog 16 #[.pointer (some ⟨ub, 0, none⟩), .int .i64 (a : Int), .int .i64 (i : Int), .int .i64 (j : Int)] w7 fun e w'' => e = .returned (.bool (M2 a i j)) ∧ w7 = w'') := fun a i j ha hi hj => has_tb w7 HUB.out (show a < g.names.length by rw [← HNL.out]; exact ha) hi hj
            have KR1 : Hid (∀ (a i j : Nat), a < k + 1 → i ≤ j → j ≤ T.size → Calls Tryz.prog 19 #[.pointer (some ⟨tb, 0, none⟩), .int .i64 (a : Int), .int .i64 (i : Int), .int .i64 (j : Int)] w7 fun e w'' => e = .returned (.int .i64 ((rt a i j : Nat) : Int)) ∧ w7 = w'') := fun a i j ha hi hj => by rw [hrt]; exact rank_tb w7 HTB.out (show a < g.names.length by rw [← HNL.out]; exact ha) hi hj
            have KR2 : Hid (∀ (a i j : Nat), a < k + 1 → i ≤ j → j ≤ T.size → Calls Tryz.prog 19 #[.pointer (some ⟨ub, 0, none⟩), .int .i64 (a : Int), .int .i64 (i : Int), .int .i64 (j : Int)] w7 fun e w'' => e = .returned (.int .i64 ((ru a i j : Nat) : Int)) ∧ w7 = w'') := fun a i j ha hi hj => by rw [hru]; exact rank_tb w7 HUB.out (show a < g.names.length by rw [← HNL.out]; exact ha) hi hj
            obtain ⟨t, ht⟩ : ∃ t, t = T.size := ⟨_, rfl⟩
            have HTS : Hid (t = T.size) := ht
            rw [← ht] at hT32 KH1 KH2 KR1 KR2 HMO
            clear HU hUm hTb hUb HTB HUB HTD hrt hru ht HD7 HX3D HW3 HWD b7
            clear hi hlt hn0 hi256 HN HWB HBY
            go_upto_region 20 with (go_at_call 15; refine (num_any _ _).mono ?_; rintro e wn ⟨rfl, rfl⟩)
            go_wp2
            go_loopw [18] (fun x' wr => ∃ i : Nat, i ≤ t + 1 ∧ x' = .int .i64 (i : Int) ∧ Hid (wr = w7)) (fun x' _ => t + 1 - (intOf x').toNat)
            case atStart => exact ⟨0, Nat.zero_le _, rfl, rfl⟩
            case round =>
              obtain ⟨i, hi, rfl, HWX⟩ := hrel
              obtain rfl : wr = w7 := HWX.out
              clear HWX
              by_cases hlt : i ≤ t
              · have e1 : decide ((i : Int) ≤ (T.size : Int)) = true := decide_eq_true (by have := HTS.out; omega)
                have e1' : (i : Int) ≤ (T.size : Int) := by have := HTS.out; omega
                go_wp2
                clear e1 e1'
                obtain ⟨wq, hwq⟩ : ∃ wq, wq = wr := ⟨_, rfl⟩
                subst hwq
                go_loopw [19] (fun x' wr => ∃ j : Nat, i ≤ j ∧ j ≤ t + 1 ∧ x' = .int .i64 (j : Int) ∧ Hid (wr = wq)) (fun x' _ => t + 1 - (intOf x').toNat)
                case atStart => exact ⟨i, Nat.le_refl _, hi, rfl, rfl⟩
                case round =>
                  obtain ⟨j, hij, hj, rfl, HWX⟩ := hrel
                  obtain rfl : wr = wq := HWX.out
                  clear HWX
                  by_cases hltj : j ≤ t
                  · have e1 : decide ((j : Int) ≤ (T.size : Int)) = true := decide_eq_true (by have := HTS.out; omega)
                    have e1' : (j : Int) ≤ (T.size : Int) := by have := HTS.out; omega
                    go_wp2
                    clear e1 e1'
                    obtain ⟨wq, hwq⟩ : ∃ wq, wq = wr := ⟨_, rfl⟩
                    subst hwq
                    go_loopw [20] (fun x' wr => ∃ a : Nat, a ≤ k + 1 ∧ x' = .int .i64 (a : Int) ∧ Hid (wr = wq)) (fun x' _ => k + 1 - (intOf x').toNat)
                    case atStart => exact ⟨0, Nat.zero_le _, rfl, rfl⟩
                    case round =>
                      obtain ⟨a, ha, rfl, HWX⟩ := hrel
                      obtain rfl : wr = wq := HWX.out
                      clear HWX
                      by_cases hlta : a ≤ k
                      · have H1 : Hid (Calls Tryz.prog 16 #[.pointer (some ⟨tb, 0, none⟩), .int .i64 (a : Int), .int .i64 (i : Int), .int .i64 (j : Int)] wr fun e w'' => e = .returned (.bool (M a i j)) ∧ wr = w'') := KH1.out a i j (by omega) hij hltj
                        have H2 : Hid (Calls Tryz.prog 16 #[.pointer (some ⟨ub, 0, none⟩), .int .i64 (a : Int), .int .i64 (i : Int), .int .i64 (j : Int)] wr fun e w'' => e = .returned (.bool (M2 a i j)) ∧ wr = w'') := KH2.out a i j (by omega) hij hltj
                        have H3 : Hid (Calls Tryz.prog 19 #[.pointer (some ⟨ub, 0, none⟩), .int .i64 (a : Int), .int .i64 (i : Int), .int .i64 (j : Int)] wr fun e w'' => e = .returned (.int .i64 ((ru a i j : Nat) : Int)) ∧ wr = w'') := KR2.out a i j (by omega) hij hltj
                        have H4 : Hid (Calls Tryz.prog 19 #[.pointer (some ⟨tb, 0, none⟩), .int .i64 (a : Int), .int .i64 (i : Int), .int .i64 (j : Int)] wr fun e w'' => e = .returned (.int .i64 ((rt a i j : Nat) : Int)) ∧ wr = w'') := KR1.out a i j (by omega) hij hltj
                        have hmo := HMO.out a i j (by omega) hij hltj
                        obtain ⟨ma, hma⟩ : ∃ ma, ma = M a i j := ⟨_, rfl⟩
                        rw [← hma] at H1 hmo
                        clear hma
                        cases ma with
                        | false =>
                          clear hmo H2 H3 H4
                          go_wp2_with (go_at_call 16; refine H1.out.mono ?_; rintro e wn ⟨rfl, rfl⟩)
                          go_roundw
                          case rel => exact ⟨a + 1, by omega, by go_num, by trivial⟩
                          case measure => simp [intOf]; omega
                        | true =>
                          obtain ⟨hm2, hrk⟩ := hmo rfl
                          rw [hm2] at H2
                          obtain ⟨r9, hr9⟩ : ∃ r9 : Nat, r9 = ru a i j := ⟨_, rfl⟩
                          obtain ⟨s9, hs9⟩ : ∃ s9 : Nat, s9 = rt a i j := ⟨_, rfl⟩
                          rw [← hr9] at H3 hrk
                          rw [← hs9] at H4 hrk
                          have d9 : decide ((r9 : Int) > (s9 : Int)) = false := decide_eq_false (by omega)
                          have d9' : ¬ (s9 : Int) < (r9 : Int) := by omega
                          clear hm2 hmo hr9 hs9
                          go_wp2_with (first
                            | (go_at_call 16; first | (have hh := F1; clear hh; refine H2.out.mono ?_; rintro e wn ⟨rfl, rfl⟩) | (refine H1.out.mono ?_; rintro e wn ⟨rfl, rfl⟩; have F1 : True := trivial))
                            | (go_at_call 19; first | (have hh := FG2; clear hh; refine H4.out.mono ?_; rintro e wn ⟨rfl, rfl⟩) | (refine H3.out.mono ?_; rintro e wn ⟨rfl, rfl⟩; have FG2 : True := trivial)))
                          go_roundw
                          case rel => exact ⟨a + 1, by omega, by go_num, by trivial⟩
                          case measure => simp [intOf]; omega
                      · obtain rfl : a = k + 1 := by omega
                        have n9 : ¬ (((k + 1 : Nat) : Int) ≤ (k : Int)) := by omega
                        have d9 : decide (((k + 1 : Nat) : Int) ≤ (k : Int)) = false := decide_eq_false n9
                        go_wp2
                        go_roundw
                        case rel => exact ⟨j + 1, by omega, by omega, by go_num, by trivial⟩
                        case measure => simp [intOf]; omega
                  · obtain rfl : j = t + 1 := by omega
                    have e1 : decide (((t + 1 : Nat) : Int) ≤ (T.size : Int)) = false := decide_eq_false (by have := HTS.out; omega)
                    have e1' : ¬ ((t + 1 : Nat) : Int) ≤ (T.size : Int) := by have := HTS.out; omega
                    go_wp2
                    go_roundw
                    case rel => exact ⟨i + 1, by omega, by go_num, by trivial⟩
                    case measure => simp [intOf]; omega
              · obtain rfl : i = t + 1 := by omega
                have e1 : decide (((t + 1 : Nat) : Int) ≤ (T.size : Int)) = false := decide_eq_false (by have := HTS.out; omega)
                have e1' : ¬ ((t + 1 : Nat) : Int) ≤ (T.size : Int) := by have := HTS.out; omega
                go_wp2
                go_ret
                exact ⟨rfl, HW7.out⟩
end Go.Proofs.YtfjejnkjlnkkhaaGreatDoor
