/- The document's Places. -/
import Derived.Test.YtdhjegajbhlmbaaSeqC
import Derived.Test.YtdhjegajbhlmbaaRefMayE
import Derived.Test.YtdhjegajbhlmbaaRefMayG
namespace Go.Proofs.Ytdhjegajbhlmbaa
set_option linter.unusedVariables false
open Go.ChangeShapes Go.WideShapes Go.ChangeAt Go.RowKit

/-- A grammar in a block of its own, and what is behind it. -/
def BxP (W : World) (b : Nat) (s : Int) (v1 v2 : Value) (w : World) : Prop := Below W.heap.size W w ∧ w.cell? ⟨b, 0, none⟩ = some (.int .i64 s) ∧ w.cell? ⟨b, 1, none⟩ = some v1 ∧ w.cell? ⟨b, 2, none⟩ = some v2
theorem BxP.any {W : World} {b : Nat} {s : Int} {v1 v2 : Value} {w : World} (hb : b < W.heap.size) (h0 : W.cell? ⟨b, 0, none⟩ = some (.int .i64 s)) (h1 : W.cell? ⟨b, 1, none⟩ = some v1) (h2 : W.cell? ⟨b, 2, none⟩ = some v2) (h : Below W.heap.size W w) : BxP W b s v1 v2 w :=
  ⟨h, (h.cell (p := ⟨_, _, none⟩) hb).trans h0, (h.cell (p := ⟨_, _, none⟩) hb).trans h1, (h.cell (p := ⟨_, _, none⟩) hb).trans h2⟩
set_option maxHeartbeats 2000000 in
set_option maxRecDepth 100000 in
theorem refPlaces_no (g : Gr) (v1 v2 : Value) (w : World) {F : Nat → Prop} (hg : GrIs w F v1 v2 g) (hl : ∀ s, s ∈ g.names → s.size ≤ maxLen) (hM : mayG g = false) :
    Calls Try.prog 7 #[.agg #[.int .i64 g.start, v1, v2]] w fun e w' => e = .returned (.tuple #[.slice none 0 0, .int .i64 1000]) ∧ Hid (Below w.heap.size w w') := by
  have KM : Hid (∀ w', Below w.heap.size w w' → Calls Try.prog 14 #[.agg #[.int .i64 g.start, v1, v2]] w' fun e w'' => e = .returned (.bool false) ∧ Hid (Below w'.heap.size w' w'')) := fun w' hb => by
    have := mayG_ref g v1 v2 w' (hg.any hb) hl
    rw [refMay_eq, hM] at this
    exact this
  obtain ⟨⟨p1, c1, rfl⟩, ⟨p2, c2, rfl⟩⟩ := grSlc hg
  have B1 : Hid (Below w.heap.size w (w.alloc (.cells #[.int .i64 g.start, .slice p1 g.names.length c1, .slice p2 g.rules.length c2] 25))) := bel1 _ _
  generalize g.names.length = n1 at *
  generalize g.rules.length = n2 at *
  generalize g.start = st at *
  clear hg hl hM
  go_enter Try.func7, Try.ntmps7
  go_wp2_with (go_at_call 14; refine (KM.out _ B1.out).mono ?_; rintro e w2 ⟨rfl, b2⟩)
  go_ret2
  exact ⟨rfl, B1.out.trans (b2.out.mono B1.out.size)⟩
set_option maxHeartbeats 4000000 in
set_option maxRecDepth 100000 in
theorem refPlaces_ok (g : Gr) (v1 v2 : Value) (w : World) {F : Nat → Prop} (hg : GrIs w F v1 v2 g) (hl : ∀ s, s ∈ g.names → s.size ≤ maxLen) (hM : mayG g = true) :
    Calls Try.prog 7 #[.agg #[.int .i64 g.start, v1, v2]] w fun e w' => ∃ p c, e = .returned (.tuple #[.slice p (ruP 0 g.rules).length c, .int .i64 0]) ∧ Hid (OwPl w (.slice p (ruP 0 g.rules).length c) (ruP 0 g.rules) w') ∧ Hid (Below w.heap.size w w') := by
  have KM : Hid (∀ w', Below w.heap.size w w' → Calls Try.prog 14 #[.agg #[.int .i64 g.start, v1, v2]] w' fun e w'' => e = .returned (.bool true) ∧ Hid (Below w'.heap.size w' w'')) := fun w' hb => by
    have := mayG_ref g v1 v2 w' (hg.any hb) hl
    rw [refMay_eq, hM] at this
    exact this
  have hin := mayG_plIn hM
  have hpl := hin.len
  have HI : Hid (PlIn g.rules) := hin
  have hn6 := hin.1
  have HG : Hid (IsRus w F v2 g.rules) := hg.2
  obtain ⟨⟨p1, c1, rfl⟩, ⟨p2, c2, rfl⟩⟩ := grSlc hg
  obtain ⟨L, hL⟩ : ∃ L, L = g.rules := ⟨_, rfl⟩
  rw [← hL] at HI hn6 HG hpl KM ⊢
  obtain ⟨n, hn⟩ : ∃ n, n = L.length := ⟨_, rfl⟩
  have HN : Hid (n = L.length) := hn
  obtain ⟨A, hA⟩ : ∃ A, A = ruP 0 L := ⟨_, rfl⟩
  have HAA : Hid (A = ruP 0 L) := hA
  rw [← hn] at hn6 HG KM ⊢
  rw [← hA] at hpl ⊢
  have B1 : Hid (Below w.heap.size w (w.alloc (.cells #[.int .i64 g.start, .slice p1 g.names.length c1, .slice p2 n c2] 25))) := bel1 _ _
  have HQ : Hid (∀ w', Below (w.alloc (.cells #[.int .i64 g.start, .slice p1 g.names.length c1, .slice p2 n c2] 25)).heap.size (w.alloc (.cells #[.int .i64 g.start, .slice p1 g.names.length c1, .slice p2 n c2] 25)) w' → w'.cell? ⟨w.heap.size, 0, none⟩ = some (.int .i64 g.start) ∧ w'.cell? ⟨w.heap.size, 1, none⟩ = some (.slice p1 g.names.length c1) ∧ w'.cell? ⟨w.heap.size, 2, none⟩ = some (.slice p2 n c2)) := fun w' hb => cells3 hb
  clear hg hl hM hin hA hn
  obtain ⟨i0, hi0, hz0, hz1, hz2⟩ := info_partsP Try.infoPl
  have HIN : Hid (Try.prog.info? 47 = some i0 ∧ i0.zero = some (.agg #[.int .i64 0, .int .i64 0, .int .i64 0]) ∧ i0.size = 3 ∧ i0.bytes = 24) := ⟨hi0, hz0, hz1, hz2⟩
  clear hL hi0 hz0 hz1 hz2
  generalize g.names.length = n1 at *
  generalize g.start = st at *
  go_enter Try.func7, Try.ntmps7
  go_upto_region 3 with (go_at_call 14; refine (KM.out _ B1.out).mono ?_; rintro e W2 ⟨rfl, b2⟩)
  have B2 : Hid (Below w.heap.size w W2) := B1.out.trans (b2.out.mono B1.out.size)
  obtain ⟨nb, hnb⟩ : ∃ nb, nb = w.heap.size := ⟨_, rfl⟩
  have HX : Hid (∀ w', Below W2.heap.size W2 w' → BxP W2 nb st (.slice p1 n1 c1) (.slice p2 n c2) w') := fun w' hb => by
    obtain ⟨q0, q1, q2⟩ := HQ.out _ b2.out
    rw [hnb]
    exact BxP.any (by have := b2.out.size; simp at this; omega) q0 q1 q2 hb
  have HL : Hid (IsRus W2 F (.slice p2 n c2) L) := HG.out.any B2.out
  rw [← hnb]
  clear KM HQ B1 b2 HG hnb
  go_wp2
  go_loopw [4, 5] (fun o x wr => ∃ (i : Nat) (l : List Plc), i ≤ n ∧ x = .int .i64 i ∧ Hid (wr.ownsRow W2.heap.size 47 3 o l.length (plcsV l)) ∧ Hid (Below W2.heap.size W2 wr) ∧ Hid (l ++ ruP i (L.drop i) = A)) (fun _ x _ => n - (intOf x).toNat)
  case atStart => exact ⟨0, [], Nat.zero_le _, rfl, World.ownsRow_nil _ _ _ _, Below.refl _ _, HAA.out.symm⟩
  case round =>
    obtain ⟨i, l, hi, rfl, HO, HB, HE⟩ := hrel
    obtain ⟨-, c0, c1', c2'⟩ := HX.out _ HB.out
    by_cases hlt : i < n
    · obtain ⟨t, ht⟩ : ∃ t, L[i]? = some t := ⟨_, List.getElem?_eq_getElem (by rw [← HN.out]; exact hlt)⟩
      obtain ⟨g1, o1, u1, hp, -, a1, hcn⟩ := HL.out.row ht
      subst hp
      obtain ⟨hc8, hcm⟩ := HI.out.2 t (List.mem_of_getElem? ht)
      have HE2 : Hid (l ++ (cnP i 0 (t.conj.drop 0) ++ ruP (i + 1) (L.drop (i + 1))) = A) := by
        show _ = _
        rw [← ruP_drop ht]; exact HE.out
      obtain ⟨R, hR⟩ : ∃ R, R = ruP (i + 1) (L.drop (i + 1)) := ⟨_, rfl⟩
      have HRR : Hid (R = ruP (i + 1) (L.drop (i + 1))) := hR
      rw [← hR] at HE2
      obtain ⟨hd, cs⟩ := t
      simp only at a1 hcn hc8 hcm HE2
      obtain ⟨q, cq, hu1⟩ := lngC hcn
      have HCN : Hid (IsCns W2 F u1 cs) := hcn
      have HCM : Hid (∀ c, c ∈ cs → c.seq.length ≤ 64) := hcm
      obtain ⟨m, hm⟩ : ∃ m, m = cs.length := ⟨_, rfl⟩
      have HM : Hid (m = cs.length) := hm
      rw [← hm] at hu1 hc8
      subst hu1
      have HA1 : Hid (∀ w', Below W2.heap.size W2 w' → w'.cell? ⟨g1, o1 + i * 2 + 1, none⟩ = some (.slice q m cq)) := fun w' hb => (hb.cell (p := ⟨_, _, none⟩) (block_lt_of_cell a1)).trans a1
      clear ht hcn hcm hR hm HE a1
      go_wp2
      clear c0 c1' c2'
      go_loopw [4, 6] (fun o x wr => ∃ (j : Nat) (l : List Plc), j ≤ m ∧ x = .int .i64 j ∧ Hid (wr.ownsRow W2.heap.size 47 3 o l.length (plcsV l)) ∧ Hid (Below W2.heap.size W2 wr) ∧ Hid (l ++ (cnP i j (cs.drop j) ++ R) = A)) (fun _ x _ => m - (intOf x).toNat)
      case atStart => exact ⟨0, l, Nat.zero_le _, rfl, HO, HB, HE2⟩
      case round =>
        clear HO HB HE2
        obtain ⟨j, l, hj, rfl, HO, HB, HE⟩ := hrel
        obtain ⟨-, c0, c1', c2'⟩ := HX.out _ HB.out
        have a1 := HA1.out _ HB.out
        by_cases hltj : j < m
        · obtain ⟨t, ht⟩ : ∃ t, cs[j]? = some t := ⟨_, List.getElem?_eq_getElem (by rw [← HM.out]; exact hltj)⟩
          obtain ⟨g3, o3, u3, hp3, -, b1, hsy⟩ := HCN.out.row ht
          subst hp3
          have hs64 := HCM.out t (List.mem_of_getElem? ht)
          have HE2 : Hid (l ++ (sqP i j 0 (t.seq.length + 1 - 0) ++ (cnP i (j + 1) (cs.drop (j + 1)) ++ R)) = A) := by
            show _ = _
            rw [← List.append_assoc (sqP _ _ _ _), Nat.sub_zero, ← cnP_drop ht]; exact HE.out
          obtain ⟨R2, hR2⟩ : ∃ R2, R2 = cnP i (j + 1) (cs.drop (j + 1)) ++ R := ⟨_, rfl⟩
          have HR2 : Hid (R2 = cnP i (j + 1) (cs.drop (j + 1)) ++ R) := hR2
          rw [← hR2] at HE2
          obtain ⟨ng, sq⟩ := t
          simp only at b1 hsy hs64 HE2
          obtain ⟨q4, c4, hu3⟩ := hsy.slc
          subst hu3
          obtain ⟨z, hz⟩ : ∃ z, z = sq.length := ⟨_, rfl⟩
          rw [← hz] at b1 hs64 HE2
          have HB1 : Hid (∀ w', Below W2.heap.size W2 w' → w'.cell? ⟨g3, o3 + j * 2 + 1, none⟩ = some (.slice q4 z c4)) := fun w' hb => (hb.cell (p := ⟨_, _, none⟩) (block_lt_of_cell b1)).trans b1
          clear ht hsy hR2 hz HE b1
          go_wp2
          clear c0 c1' c2' a1
          go_loopw [4, 7] (fun o x wr => ∃ (k : Nat) (l : List Plc), k ≤ z + 1 ∧ x = .int .i64 k ∧ Hid (wr.ownsRow W2.heap.size 47 3 o l.length (plcsV l)) ∧ Hid (Below W2.heap.size W2 wr) ∧ Hid (l ++ (sqP i j k (z + 1 - k) ++ R2) = A)) (fun _ x _ => z + 1 - (intOf x).toNat)
          case atStart => exact ⟨0, l, Nat.zero_le _, rfl, HO, HB, HE2⟩
          case round =>
            clear HO HB HE2
            obtain ⟨k, l, hk, rfl, HO, HB, HE⟩ := hrel
            obtain ⟨-, c0, c1', c2'⟩ := HX.out _ HB.out
            have a1 := HA1.out _ HB.out
            have b1 := HB1.out _ HB.out
            by_cases hltk : k < z + 1
            · have HE2 : Hid ((l ++ [((i : Int), (j : Int), (k : Int))]) ++ (sqP i j (k + 1) (z + 1 - (k + 1)) ++ R2) = A) := by
                have := HE.out
                rw [sqP_more hltk] at this
                show _ = _
                rw [← this]; simp
              have hll : l.length ≤ 133120 := by
                have := congrArg List.length HE.out
                simp only [List.length_append] at this
                omega
              obtain ⟨po, co, hov⟩ := row_slice HO.out
              subst hov
              have hs1 : W2.heap.size ≤ wr.heap.size := HB.out.size
              obtain ⟨gg, cap, w3, hrun, hown, hgrow, hat, _⟩ := run_append_lies (P := Try.prog) (wr.alloc (.cells #[.int .i64 (i : Int), .int .i64 (j : Int), .int .i64 (k : Int)] 47)) 27 27 W2.heap.size 47 i0 _ 3 24 Try.underlying27 HIN.out.1 HIN.out.2.1 HIN.out.2.2.1 HIN.out.2.2.2 rfl (by omega) (.slice po l.length co) l.length (plcsV l) (HO.out.alloc _) ⟨wr.heap.size, 0, none⟩ 1 1 [.int .i64 (i : Int), .int .i64 (j : Int), .int .i64 (k : Int)] rfl
                (World.news_of_block (cs := #[.int .i64 (i : Int), .int .i64 (j : Int), .int .i64 (k : Int)]) (t := 47) (fr := (0, 0)) (heap_alloc_new wr _)) (by intro u hu; simp at hu; rcases hu with rfl | rfl | rfl <;> rfl) (by omega) (by unfold maxLen; omega) (by omega) (by simp; omega) (wr.heap.size + 1) (by simp)
              have HB3 : Hid (Below W2.heap.size W2 w3) := (HB.out.alloc HB.out.size _).grown hgrow (Nat.le_trans HB.out.size (le_alloc _ _)) (fun i hi => (HO.out.lt i hi).1)
              have HO3 : Hid (w3.ownsRow W2.heap.size 47 3 (.slice (some ⟨gg, 0, none⟩) (l.length + 1) cap) (l ++ [((i : Int), (j : Int), (k : Int))]).length (plcsV (l ++ [((i : Int), (j : Int), (k : Int))]))) := by
                show World.ownsRow _ _ _ _ _ _ _
                rw [plcsV_append, show (l ++ [((i : Int), (j : Int), (k : Int))]).length = l.length + 1 by simp]; exact hown
              have HRN : Hid ((Builtin.append_ #[27, 27] 27 #[.slice po l.length co, .slice (some ⟨wr.heap.size, 0, none⟩) 1 1]).run Try.prog (wr.alloc (.cells #[.int .i64 (i : Int), .int .i64 (j : Int), .int .i64 (k : Int)] 47)) = .ok (.slice (some ⟨gg, 0, none⟩) (l.length + 1) cap) w3) := hrun
              have hlk2 : (k : Int) ≤ (z : Int) := by omega
              clear HE hown hgrow hat hrun
              go_wp2_with (at_builtin; refine wpList_run_appendP rfl _ _ 27 rfl _ _ rfl rfl HRN.out ?_)
              go_roundw
              case rel => exact ⟨k + 1, _, by omega, by go_num, HO3, HB3, HE2⟩
              case measure => simp [intOf]; omega
            · obtain rfl : k = z + 1 := by omega
              have HE2 : Hid (l ++ (cnP i (j + 1) (cs.drop (j + 1)) ++ R) = A) := by
                have := HE.out
                rw [Nat.sub_self, HR2.out] at this
                exact this
              have hlk2 : ¬ ((z + 1 : Nat) : Int) ≤ (z : Int) := by omega
              have hlk3 : ¬ ((z : Int) + 1) ≤ (z : Int) := by omega
              clear HE
              go_wp2
              go_roundw
              case rel => exact ⟨j + 1, l, by omega, by go_num, HO, HB, HE2⟩
              case measure => simp [intOf]; omega
        · obtain rfl : j = m := by omega
          have HE2 : Hid (l ++ ruP (i + 1) (L.drop (i + 1)) = A) := by
            have := HE.out
            rw [HM.out, cnP_end, HRR.out] at this
            exact this
          clear HE
          go_wp2
          go_roundw
          case rel => exact ⟨i + 1, l, by omega, by go_num, HO, HB, HE2⟩
          case measure => simp [intOf]; omega
    · obtain rfl : i = n := by omega
      have HE2 : Hid (l = A) := by
        have := HE.out
        rw [HN.out, ruP_end, List.append_nil] at this
        exact this
      obtain ⟨po, co, hov⟩ := row_slice HO.out
      subst hov
      clear HE
      go_wp2
      go_ret2
      obtain rfl : l = A := HE2.out
      exact ⟨_, _, rfl, ⟨_, B2.out.size, HO.out⟩, B2.out.trans (HB.out.mono B2.out.size)⟩
end Go.Proofs.Ytdhjegajbhlmbaa
