/- The document's Strata, against the plain functions. -/
import Derived.Test.YtejhdhlpdcfedaaGreatStrRef
import Derived.Test.YtejhdhlpdcfedaaGreatStrTop
import Derived.Test.YtejhdhlpdcfedaaGreatRefEdg
import Derived.Test.YtejhdhlpdcfedaaGreatCopyGrW
namespace Go.Proofs.YtejhdhlpdcfedaaGreat
set_option linter.unusedVariables false
open Go.ChangeShapes Go.WideShapes Go.ChangeAt Go.RowKit

set_option maxHeartbeats 4000000 in
set_option maxRecDepth 100000 in
theorem refStrata_no (g : Gr) (v1 v2 : Value) (w : World) {F : Nat → Prop} (hg : GrIs w F v1 v2 g) (hn : ∀ s, s ∈ g.names → s.size ≤ maxLen) (hM : mayG g = false) :
    Calls Tryz.prog 24 #[.agg #[.int .i64 g.start, v1, v2]] w fun e w' => e = .returned (.tuple #[.slice none 0 0, .slice none 0 0, .int .i64 800]) ∧ Hid (Below w.heap.size w w') := by
  have K1 : ∀ o, Calls Tryz.prog 38 #[.agg #[.int .i64 g.start, v1, v2]] (w.alloc o) fun e w' => e = .returned (.tuple #[.slice none 0 0, .int .i64 600]) ∧ Hid (Below (w.alloc o).heap.size (w.alloc o) w') := fun o => refEdges_no g v1 v2 (w.alloc o) (hg.any (bel1 w o)) hn hM
  obtain ⟨p1, c1, l1, hv1⟩ : ∃ p n c, v1 = .slice p n c := by obtain ⟨p, c, e, _⟩ := hg.1; exact ⟨_, _, _, e⟩
  obtain ⟨p2, c2, hv2⟩ := hg.2.slc
  subst hv1 hv2
  clear hg hn hM
  go_enter Tryz.func24, Tryz.ntmps24
  go_wp2_with (go_at_call 38; refine (K1 _).mono ?_; rintro e w1 ⟨rfl, b1⟩)
  go_ret3
  exact ⟨rfl, (bel1 _ _).trans (b1.out.mono (bel1 w _).size)⟩
/-- An edge that is not bad: if it is negated there is no way back. -/
theorem reach_bad {n : Nat} {l : List Ed} (hm : mayE (n : Int) l = true) {x y : Nat} (hx : x < n) (hy : y < n) (he : ((x : Int), (y : Int), true) ∈ l) : reachT (n : Int) l (y : Int) (x : Int) = badE n l ((x : Int), (y : Int), true) := by
  obtain ⟨_, _, hl⟩ := mayE_all hm
  rw [reach_way hm hy hx, Bool.eq_iff_iff, way_iff hl hy, bad_iff hl he]
  simp
set_option maxHeartbeats 8000000 in
set_option maxRecDepth 100000 in
theorem refStrata_ok (g : Gr) (v1 v2 : Value) (w : World) {F : Nat → Prop} (hg : GrIs w F v1 v2 g) (hn : ∀ s, s ∈ g.names → s.size ≤ maxLen) (hM : mayG g = true) (hc : (edgesT g).find? (badE g.names.length (edgesT g)) = none) :
    Calls Tryz.prog 24 #[.agg #[.int .i64 g.start, v1, v2]] w fun e w' => ∃ u, e = .returned (.tuple #[u, .slice none 0 0, .int .i64 0]) ∧ Hid (IsInts w' (fun i => w.heap.size ≤ i) u (levL g.names.length (levT g.names.length (edgesT g)))) ∧ Hid (Below w.heap.size w w') := by
  obtain ⟨W1, hW1⟩ : ∃ W1, W1 = w.alloc (.cells #[.int .i64 g.start, v1, v2] 25) := ⟨_, rfl⟩
  have hb1 : Below w.heap.size w W1 := by rw [hW1]; exact bel1 _ _
  have K1 := refEdges_ok g v1 v2 W1 (hg.any hb1) hn hM
  have hm := mayE_edges hM
  obtain ⟨p1, l1, hv1⟩ : ∃ p c, v1 = .slice p g.names.length c := by obtain ⟨p, c, e, _⟩ := hg.1; exact ⟨_, _, e⟩
  obtain ⟨p2, c2, hv2⟩ := hg.2.slc
  obtain ⟨L, hL⟩ : ∃ L, L = edgesT g := ⟨_, rfl⟩
  obtain ⟨n, hn9⟩ : ∃ n, n = g.names.length := ⟨_, rfl⟩
  have hn64 : n ≤ 64 := by rw [hn9]; exact mayG_names hM
  rw [← hL] at K1 hm hc ⊢
  rw [← hn9] at hm hc hv1 ⊢
  have q1 : W1.cell? ⟨w.heap.size, 1, none⟩ = some v1 := by rw [hW1]; exact World.cell?_alloc_at _ _ _ _ rfl
  have hz1 : w.heap.size < W1.heap.size := by rw [hW1]; simp
  have HB1 : Hid (Below w.heap.size w W1) := hb1
  have HM : Hid (mayE (n : Int) L = true) := hm
  have HC : Hid (∀ e, e ∈ L → badE n L e = false) := fun e he => by rw [List.find?_eq_none] at hc; simpa using hc e he
  have HCl : Hid (Clean L) := clean_of (mayE_all hm).2.2 hc
  have HL : Hid (edsB (n : Int) L = true) := (mayE_all hm).2.2
  subst hv1 hv2
  clear hg hn hM hb1 hm hc hL hn9
  go_enter Tryz.func24, Tryz.ntmps24
  go_upto_region 2 with (go_at_call 38; rw [← hW1]; refine K1.mono ?_; rintro e w2 ⟨v, rfl, IE, b2⟩)
  have hm9 : L.length ≤ 9223372036854775807 := by have := IE.out.len; unfold maxLen at this; omega
  obtain ⟨p3, c3, hv⟩ := IE.out.slc
  subst hv
  have q2 : w2.cell? ⟨w.heap.size, 1, none⟩ = some (.slice p1 n l1) := (b2.out.cell (p := ⟨_, _, none⟩) hz1).trans q1
  have hz2 : w.heap.size < w2.heap.size := Nat.lt_of_lt_of_le hz1 b2.out.size
  have HB2 : Hid (Below w.heap.size w w2) := HB1.out.trans (b2.out.mono HB1.out.size)
  clear hW1 K1 q1 hz1
  go_wp2
  clear q2
  go_loopw [8] (fun x wr => ∃ k : Nat, k ≤ L.length ∧ x = .int .i64 k ∧ Hid (Below w2.heap.size w2 wr)) (fun x _ => L.length - (intOf x).toNat)
  case atStart => exact ⟨0, Nat.zero_le _, rfl, Below.refl _ _⟩
  case round =>
    obtain ⟨k, hk, rfl, HB⟩ := hrel
    by_cases hlt : k < L.length
    · obtain ⟨t, ht⟩ : ∃ t, L[k]? = some t := ⟨_, List.getElem?_eq_getElem hlt⟩
      obtain ⟨g1, o1, hp, hg1, a0, a1, a2⟩ := (IE.out.any HB.out).at ht
      subst hp
      have htm := List.mem_of_getElem? ht
      have hed := edB_lt (List.all_eq_true.1 HL.out t htm)
      have hnb := HC.out t htm
      obtain ⟨t0, t1, t2⟩ := t
      simp only at a0 a1 a2 hed
      obtain ⟨x, rfl⟩ : ∃ x : Nat, t0 = (x : Int) := ⟨t0.toNat, by omega⟩
      obtain ⟨y, rfl⟩ : ∃ y : Nat, t1 = (y : Int) := ⟨t1.toNat, by omega⟩
      have hx : x < n := by omega
      have hy : y < n := by omega
      cases t2 with
      | false =>
        clear ht htm hed hnb
        go_wp2
        go_quiet (fail)
        go_wp2
        go_roundw
        case rel => exact ⟨k + 1, by omega, by go_num, bel_drewN HB.out⟩
        case measure => simp [intOf]; omega
      | true =>
        have hrb := reach_bad HM.out hx hy htm
        rw [hnb] at hrb
        obtain ⟨V, hV⟩ : ∃ V, V = wr := ⟨_, rfl⟩
        subst hV
        have KR : Hid (∀ w', Below V.heap.size V w' → Calls Tryz.prog 39 #[.int .i64 (n : Int), .slice (some ⟨g1, o1, none⟩) L.length c3, .int .i64 (y : Int), .int .i64 (x : Int)] w' fun e w'' => e = .returned (.bool false) ∧ Hid (Below w'.heap.size w' w'')) := fun w' hb => by
          have h := reachRef_any (n : Int) (.slice (some ⟨g1, o1, none⟩) L.length c3) L (y : Int) (x : Int) w' ((IE.out.any HB.out).any hb)
          rw [hrb] at h; exact h
        have HS : Hid (∀ w', Below V.heap.size V w' → Below V.heap.size V w' ∧ w'.cell? ⟨g1, o1 + k * 3, none⟩ = some (.int .i64 (x : Int)) ∧ w'.cell? ⟨g1, o1 + k * 3 + 1, none⟩ = some (.int .i64 (y : Int)) ∧ w'.cell? ⟨g1, o1 + k * 3 + 2, none⟩ = some (.bool true)) := fun w' hb =>
          ⟨hb, (hb.cell (p := ⟨_, _, none⟩) hg1).trans a0, (hb.cell (p := ⟨_, _, none⟩) hg1).trans a1, (hb.cell (p := ⟨_, _, none⟩) hg1).trans a2⟩
        clear ht htm hed hnb hrb a0 a1 a2
        go_wp2
        go_region_held3 (fun w' => Below V.heap.size V w' ∧ w'.cell? ⟨g1, o1 + k * 3, none⟩ = some (.int .i64 (x : Int)) ∧ w'.cell? ⟨g1, o1 + k * 3 + 1, none⟩ = some (.int .i64 (y : Int)) ∧ w'.cell? ⟨g1, o1 + k * 3 + 2, none⟩ = some (.bool true))
          ((refine HS.out _ ?_; (repeat' (first | with_reducible assumption | with_reducible exact Below.refl _ _ | with_reducible apply Below.drew))))
          ((go_at_call 39; refine (KR.out _ (by repeat' (first | exact Below.refl _ _ | apply Below.drew))).mono ?_; rintro e w3 ⟨rfl, b3⟩; have b4 : Below V.heap.size V w3 := Below.trans (b := V.drew) (Below.refl _ _).drew b3.out))
        go_wp2
        go_roundw
        case rel => exact ⟨k + 1, by omega, by go_num, HB.out.trans (b4.mono HB.out.size)⟩
        case measure => simp [intOf]; omega
    · obtain rfl : k = L.length := by omega
      have HB5 : Hid (Below w.heap.size w wr) := HB2.out.trans (HB.out.mono HB2.out.size)
      have hmk := make_ints n hn64 wr
      obtain ⟨V, hV⟩ : ∃ V, V = wr := ⟨_, rfl⟩
      subst hV
      obtain ⟨W3, hW3⟩ : ∃ W3, W3 = V.alloc (.cells (intsA (levL n fun _ => 0)) 3) := ⟨_, rfl⟩
      rw [← hW3] at hmk
      have HZ3 : Hid (ZAt W3 V.heap.size (levL n (itL L 0))) := by rw [hW3]; exact ZAt.new V _
      have HB3 : Hid (Below V.heap.size V W3) := by rw [hW3]; exact bel1 _ _
      clear hW3
      go_wp2
      clear hmk
      obtain ⟨B, hB⟩ : ∃ B, B = V.heap.size := ⟨_, rfl⟩
      have HBB : Hid (B = V.heap.size) := hB
      rw [← hB] at HZ3 HB3 ⊢
      have HBV : Hid (∀ wr, Below B V wr → Below w2.heap.size w2 wr ∧ Below w.heap.size w wr) := fun wr h => by
        rw [hB] at h
        exact ⟨HB.out.trans (h.mono HB.out.size), HB5.out.trans (h.mono HB5.out.size)⟩
      clear hB
      go_loopw [11] (fun x wr => ∃ r : Nat, r ≤ n + 1 ∧ x = .int .i64 r ∧ Hid (ZAt wr B (levL n (itL L r))) ∧ Hid (Below B V wr)) (fun x _ => n + 1 - (intOf x).toNat)
      case atStart => exact ⟨0, Nat.zero_le _, rfl, HZ3, HB3⟩
      case round =>
        obtain ⟨r, hr, rfl, HZ, HBr⟩ := hrel
        by_cases hlr : r ≤ n
        · have hle : (r : Int) ≤ (n : Int) := by omega
          go_wp2
          go_loopw [12] (fun x wr => ∃ q : Nat, q ≤ L.length ∧ x = .int .i64 q ∧ Hid (ZAt wr B (levL n (rai (itL L r) (L.take q)))) ∧ Hid (Below B V wr)) (fun x _ => L.length - (intOf x).toNat)
          case atStart => exact ⟨0, Nat.zero_le _, rfl, HZ, HBr⟩
          case round =>
            obtain ⟨q, hq, rfl, HZq, HBq⟩ := hrel
            by_cases hlq : q < L.length
            · obtain ⟨t, ht⟩ : ∃ t, L[q]? = some t := ⟨_, List.getElem?_eq_getElem hlq⟩
              obtain ⟨g1, o1, hp, hg1, a0, a1, a2⟩ := (IE.out.any (HBV.out wr HBq.out).1).at ht
              subst hp
              have htm := List.mem_of_getElem? ht
              have hed := edB_lt (List.all_eq_true.1 HL.out t htm)
              have e1 := take_rai ht (itL L r)
              obtain ⟨F0, hF0⟩ : ∃ F0, F0 = rai (itL L r) (L.take q) := ⟨_, rfl⟩
              have hub : ∀ i, F0 i ≤ 1000 := fun i => by
                rw [hF0]
                refine Nat.le_trans (rai_take L q (itL L r) i) ?_
                show itL L (r + 1) i ≤ 1000
                by_cases hi : i < n
                · have := it_lt HL.out HCl.out (r + 1) hi; omega
                · rw [it_out HL.out _ i (by omega)]; omega
              rw [← hF0] at e1 HZq
              rw [raiE_max] at e1
              obtain ⟨t0, t1, t2⟩ := t
              simp only at a0 a1 a2 hed e1
              obtain ⟨x, rfl⟩ : ∃ x : Nat, t0 = (x : Int) := ⟨t0.toNat, by omega⟩
              obtain ⟨y, rfl⟩ : ∃ y : Nat, t1 = (y : Int) := ⟨t1.toNat, by omega⟩
              rw [Int.toNat_natCast, Int.toNat_natCast] at e1
              have hx : x < n := by omega
              have hy : y < n := by omega
              have cx := HZq.out.cell (levL_at F0 hx)
              have cy := HZq.out.cell (levL_at F0 hy)
              have fx := HZq.out.frozen x
              have hux := hub x
              have huy := hub y
              obtain ⟨zx, hzx⟩ : ∃ z, z = F0 x := ⟨_, rfl⟩
              obtain ⟨zy, hzy⟩ : ∃ z, z = F0 y := ⟨_, rfl⟩
              rw [← hzx] at cx hux e1
              rw [← hzy] at cy huy e1
              have HE : Hid (∀ m : Nat, m = zy + stp ((x : Int), (y : Int), t2) → levL n (rai (itL L r) (L.take (q + 1))) = (levL n F0).set x (max (zx : Int) (m : Int))) := fun m hm => by
                rw [e1, ← hm, show max (zx : Int) (m : Int) = ((max zx m : Nat) : Int) by omega, levL_put _ hx]
              clear ht htm hed hF0 e1 hub hzx hzy
              cases t2 with
              | false =>
                have HN : Hid (ZAt (wr.setCell ⟨B, x, none⟩ (.int .i64 (max (zx : Int) (zy : Int)))) B (levL n (rai (itL L r) (L.take (q + 1))))) := by
                  show ZAt _ _ _
                  rw [HE.out zy rfl]; exact HZq.out.put _ _
                have HB3q : Hid (Below B V (wr.setCell ⟨B, x, none⟩ (.int .i64 (max (zx : Int) (zy : Int))))) := HBq.out.setCell (p := ⟨B, x, none⟩) (Nat.le_refl _) _
                go_wp2
                go_region
                all_goals
                  go_wp2
                  go_roundw
                  case rel => exact ⟨q + 1, by omega, by go_num, HN, HB3q.out.drew⟩
                  case measure => simp [intOf]; omega
              | true =>
                have HN : Hid (ZAt (wr.setCell ⟨B, x, none⟩ (.int .i64 (max (zx : Int) ((zy : Int) + 1)))) B (levL n (rai (itL L r) (L.take (q + 1))))) := by
                  show ZAt _ _ _
                  have := HE.out (zy + 1) rfl
                  rw [show ((zy + 1 : Nat) : Int) = (zy : Int) + 1 by omega] at this
                  rw [this]; exact HZq.out.put _ _
                have HB3q : Hid (Below B V (wr.setCell ⟨B, x, none⟩ (.int .i64 (max (zx : Int) ((zy : Int) + 1))))) := HBq.out.setCell (p := ⟨B, x, none⟩) (Nat.le_refl _) _
                go_wp2
                go_region
                all_goals
                  go_wp2
                  go_roundw
                  case rel => exact ⟨q + 1, by omega, by go_num, HN, HB3q.out.drew⟩
                  case measure => simp [intOf]; omega
            · obtain rfl : q = L.length := by omega
              rw [List.take_length] at HZq
              go_wp2
              go_roundw
              case rel => exact ⟨r + 1, by omega, by go_num, HZq, HBq⟩
              case measure => simp [intOf]; omega
        · obtain rfl : r = n + 1 := by omega
          rw [it_more HL.out HCl.out] at HZ
          have hgt : ¬ (((n + 1 : Nat) : Int)) ≤ (n : Int) := by omega
          have HI : Hid (IsInts wr (fun i => w.heap.size ≤ i) (.slice (some ⟨B, 0, none⟩) n n) (levL n (levT n L))) := HZ.out.ints (by rw [HBB.out]; exact HB5.out.size) (levL_length _ _).symm (by unfold maxLen; omega)
          have HE : Hid (Below w.heap.size w wr) := (HBV.out wr HBr.out).2
          go_wp2
          go_ret3
          exact ⟨_, rfl, HI, HE⟩
theorem natsV_one (q : List Nat) : ∀ x ∈ natsV q, x.oneCell' = true := fun x hx => by
  obtain ⟨i, _, rfl⟩ := List.mem_map.1 hx
  rfl
set_option maxHeartbeats 8000000 in
set_option maxRecDepth 100000 in
theorem refStrata_cyc (g : Gr) (v1 v2 : Value) (w : World) {F : Nat → Prop} (hg : GrIs w F v1 v2 g) (hn : ∀ s, s ∈ g.names → s.size ≤ maxLen) (hM : mayG g = true) (t : Ed) (hc : (edgesT g).find? (badE g.names.length (edgesT g)) = some t) (D : Nat → Int) (hD : FarIs (edgesT g) t.1.toNat D) :
    Calls Tryz.prog 24 #[.agg #[.int .i64 g.start, v1, v2]] w fun e w' => ∃ u, e = .returned (.tuple #[.slice none 0 0, u, .int .i64 801]) ∧ Hid (IsInts w' (fun i => w.heap.size ≤ i) u (cycT (edgesT g) D t)) ∧ Hid (Below w.heap.size w w') := by
  obtain ⟨W1, hW1⟩ : ∃ W1, W1 = w.alloc (.cells #[.int .i64 g.start, v1, v2] 25) := ⟨_, rfl⟩
  have hb1 : Below w.heap.size w W1 := by rw [hW1]; exact bel1 _ _
  have K1 := refEdges_ok g v1 v2 W1 (hg.any hb1) hn hM
  have hm := mayE_edges hM
  have hri := edgesT_rise g
  obtain ⟨p1, l1, hv1⟩ : ∃ p c, v1 = .slice p g.names.length c := by obtain ⟨p, c, e, _⟩ := hg.1; exact ⟨_, _, e⟩
  obtain ⟨p2, c2, hv2⟩ := hg.2.slc
  obtain ⟨L, hL⟩ : ∃ L, L = edgesT g := ⟨_, rfl⟩
  obtain ⟨n, hn9⟩ : ∃ n, n = g.names.length := ⟨_, rfl⟩
  have hn64 : n ≤ 64 := by rw [hn9]; exact mayG_names hM
  rw [← hL] at K1 hm hc hri hD ⊢
  rw [← hn9] at hm hc hv1
  have hbad := List.find?_some hc
  have htm := List.mem_of_find?_eq_some hc
  obtain ⟨h0, h1, hl⟩ := mayE_all hm
  have hed := edB_lt (List.all_eq_true.1 hl t htm)
  have hw := (bad_iff hl htm).1 hbad
  obtain ⟨t0, t1, t2⟩ := t
  simp only at hed hw hD
  obtain ⟨x0, rfl⟩ : ∃ x : Nat, t0 = (x : Int) := ⟨t0.toNat, by omega⟩
  obtain ⟨y0, rfl⟩ : ∃ y : Nat, t1 = (y : Int) := ⟨t1.toNat, by omega⟩
  have hx0 : x0 < n := by omega
  have hy0 : y0 < n := by omega
  obtain rfl : t2 = true := hw.1
  rw [Int.toNat_natCast] at hD
  have hwy := hw.2
  rw [Int.toNat_natCast, Int.toNat_natCast] at hwy
  obtain ⟨d, hd⟩ : ∃ d : Nat, D y0 = (d : Int) := by
    obtain ⟨k, hk⟩ := hwy
    rcases hD y0 with ⟨_, h⟩ | ⟨d, h, _⟩
    · exact absurd hk (h k)
    · exact ⟨d, h⟩
  have hd64 : d ≤ 64 := by have := far_le hl hx0 hD y0; omega
  have HCT : Hid (cycT L D ((x0 : Int), (y0 : Int), true) = (x0 :: wayT L D d y0).map fun i => ((i : Nat) : Int)) := by
    show _ = _
    unfold cycT
    simp only [Int.toNat_natCast]
    rw [hd, Int.toNat_natCast]
  have q1 : W1.cell? ⟨w.heap.size, 1, none⟩ = some v1 := by rw [hW1]; exact World.cell?_alloc_at _ _ _ _ rfl
  have hz1 : w.heap.size < W1.heap.size := by rw [hW1]; simp
  have HB1 : Hid (Below w.heap.size w W1) := hb1
  have HM : Hid (mayE (n : Int) L = true) := hm
  have HL : Hid (edsB (n : Int) L = true) := hl
  have HC : Hid (L.find? (badE n L) = some ((x0 : Int), (y0 : Int), true)) := hc
  have HRI : Hid (L.Pairwise fun x y => ltE x y = true) := hri
  have HD : Hid (FarIs L x0 D ∧ D y0 = (d : Int)) := ⟨hD, hd⟩
  subst hv1 hv2
  clear hg hn hM hb1 hm hc hL hn9 hbad htm hed hw hwy hri hD hd h0 h1 hl
  obtain ⟨i0, hi0, hzz, hzs, hzb⟩ := info_parts Tryz.infoInt
  go_enter Tryz.func24, Tryz.ntmps24
  go_upto_region 2 with (go_at_call 38; rw [← hW1]; refine K1.mono ?_; rintro e w2 ⟨v, rfl, IE, b2⟩)
  have hm9 : L.length ≤ 9223372036854775807 := by have := IE.out.len; unfold maxLen at this; omega
  obtain ⟨p3, c3, hv⟩ := IE.out.slc
  subst hv
  have q2 : w2.cell? ⟨w.heap.size, 1, none⟩ = some (.slice p1 n l1) := (b2.out.cell (p := ⟨_, _, none⟩) hz1).trans q1
  have hz2 : w.heap.size < w2.heap.size := Nat.lt_of_lt_of_le hz1 b2.out.size
  have HB2 : Hid (Below w.heap.size w w2) := HB1.out.trans (b2.out.mono HB1.out.size)
  clear hW1 K1 q1 hz1
  go_wp2
  clear q2
  go_loopw [8] (fun x wr => ∃ k : Nat, k ≤ L.length ∧ x = .int .i64 k ∧ Hid (Below w2.heap.size w2 wr) ∧ Hid (∀ j e, j < k → L[j]? = some e → badE n L e = false)) (fun x _ => L.length - (intOf x).toNat)
  case atStart => exact ⟨0, Nat.zero_le _, rfl, Below.refl _ _, fun j e hj => by omega⟩
  case round =>
    obtain ⟨k, hk, rfl, HB, HN⟩ := hrel
    by_cases hlt : k < L.length
    · obtain ⟨t, ht⟩ : ∃ t, L[k]? = some t := ⟨_, List.getElem?_eq_getElem hlt⟩
      obtain ⟨g1, o1, hp, hg1, a0, a1, a2⟩ := (IE.out.any HB.out).at ht
      subst hp
      have htm := List.mem_of_getElem? ht
      have hed := edB_lt (List.all_eq_true.1 HL.out t htm)
      obtain ⟨t0, t1, t2⟩ := t
      simp only at a0 a1 a2 hed
      obtain ⟨x, rfl⟩ : ∃ x : Nat, t0 = (x : Int) := ⟨t0.toNat, by omega⟩
      obtain ⟨y, rfl⟩ : ∃ y : Nat, t1 = (y : Int) := ⟨t1.toNat, by omega⟩
      have hx : x < n := by omega
      have hy : y < n := by omega
      have HNX : Hid (badE n L ((x : Int), (y : Int), t2) = false → ∀ j e, j < k + 1 → L[j]? = some e → badE n L e = false) := fun h j e hj he => by
        by_cases x : j = k
        · subst x
          rw [ht] at he
          cases he
          exact h
        · exact HN.out j e (by omega) he
      have HT : Hid (L[k]? = some ((x : Int), (y : Int), t2)) := ht
      cases t2 with
      | false =>
        have HN3 : Hid (∀ j e, j < k + 1 → L[j]? = some e → badE n L e = false) := HNX.out rfl
        clear ht htm hed
        go_wp2
        go_quiet (fail)
        go_wp2
        go_roundw
        case rel => exact ⟨k + 1, by omega, by go_num, bel_drewN HB.out, HN3⟩
        case measure => simp [intOf]; omega
      | true =>
        have hrb := reach_bad HM.out hx hy htm
        obtain ⟨V, hV⟩ : ∃ V, V = wr := ⟨_, rfl⟩
        subst hV
        have KR : Hid (∀ w', Below V.heap.size V w' → Calls Tryz.prog 39 #[.int .i64 (n : Int), .slice (some ⟨g1, o1, none⟩) L.length c3, .int .i64 (y : Int), .int .i64 (x : Int)] w' fun e w'' => e = .returned (.bool (badE n L ((x : Int), (y : Int), true))) ∧ Hid (Below w'.heap.size w' w'')) := fun w' hb => by
          have h := reachRef_any (n : Int) (.slice (some ⟨g1, o1, none⟩) L.length c3) L (y : Int) (x : Int) w' ((IE.out.any HB.out).any hb)
          rw [hrb] at h; exact h
        have HS : Hid (∀ w', Below V.heap.size V w' → Below V.heap.size V w' ∧ w'.cell? ⟨g1, o1 + k * 3, none⟩ = some (.int .i64 (x : Int)) ∧ w'.cell? ⟨g1, o1 + k * 3 + 1, none⟩ = some (.int .i64 (y : Int)) ∧ w'.cell? ⟨g1, o1 + k * 3 + 2, none⟩ = some (.bool true)) := fun w' hb =>
          ⟨hb, (hb.cell (p := ⟨_, _, none⟩) hg1).trans a0, (hb.cell (p := ⟨_, _, none⟩) hg1).trans a1, (hb.cell (p := ⟨_, _, none⟩) hg1).trans a2⟩
        have HG1 : Hid (g1 < V.heap.size) := hg1
        clear ht htm hed hrb a0 a1 a2
        cases hbe : badE n L ((x : Int), (y : Int), true) with
        | false =>
          have HN3 : Hid (∀ j e, j < k + 1 → L[j]? = some e → badE n L e = false) := HNX.out hbe
          rw [hbe] at KR
          clear hbe
          go_wp2
          go_region_held3 (fun w' => Below V.heap.size V w' ∧ w'.cell? ⟨g1, o1 + k * 3, none⟩ = some (.int .i64 (x : Int)) ∧ w'.cell? ⟨g1, o1 + k * 3 + 1, none⟩ = some (.int .i64 (y : Int)) ∧ w'.cell? ⟨g1, o1 + k * 3 + 2, none⟩ = some (.bool true))
            ((refine HS.out _ ?_; (repeat' (first | with_reducible assumption | with_reducible exact Below.refl _ _ | with_reducible apply Below.drew))))
            ((go_at_call 39; refine (KR.out _ (by repeat' (first | exact Below.refl _ _ | apply Below.drew))).mono ?_; rintro e w3 ⟨rfl, b3⟩; have b4 : Below V.heap.size V w3 := Below.trans (b := V.drew) (Below.refl _ _).drew b3.out))
          go_wp2
          go_roundw
          case rel => exact ⟨k + 1, by omega, by go_num, HB.out.trans (b4.mono HB.out.size), HN3⟩
          case measure => simp [intOf]; omega
        | true =>
          have hfa := find_at HN.out HT.out hbe
          rw [HC.out] at hfa
          simp only [Option.some.injEq, Prod.mk.injEq, and_true] at hfa
          obtain ⟨e1, e2⟩ := hfa
          have e1 : x0 = x := by omega
          have e2 : y0 = y := by omega
          subst e1 e2
          rw [hbe] at KR
          clear hbe
          go_wp2
          go_region_held3 (fun w' => Below V.heap.size V w' ∧ w'.cell? ⟨g1, o1 + k * 3, none⟩ = some (.int .i64 (x0 : Int)) ∧ w'.cell? ⟨g1, o1 + k * 3 + 1, none⟩ = some (.int .i64 (y0 : Int)) ∧ w'.cell? ⟨g1, o1 + k * 3 + 2, none⟩ = some (.bool true))
            ((refine HS.out _ ?_; (repeat' (first | with_reducible assumption | with_reducible exact Below.refl _ _ | with_reducible apply Below.drew))))
            ((go_at_call 39; refine (KR.out _ (by repeat' (first | exact Below.refl _ _ | apply Below.drew))).mono ?_; rintro e w3 ⟨rfl, b3⟩; have b4 : Below V.heap.size V w3 := Below.trans (b := V.drew) (Below.refl _ _).drew b3.out))
          obtain ⟨-, d0, d1, d2⟩ := HS.out _ b4
          have HB3 : Hid (Below w2.heap.size w2 w3) := HB.out.trans (b4.mono HB.out.size)
          have HBw3 : Hid (Below w.heap.size w w3) := HB2.out.trans (HB3.out.mono HB2.out.size)
          have hg3 : g1 < w3.heap.size := Nat.lt_of_lt_of_le HG1.out b4.size
          go_upto_region 10 with fail
          obtain ⟨W4, hW4⟩ : ∃ W4, W4 = w3.alloc (.cells #[.int .i64 (x0 : Int)] 3) := ⟨_, rfl⟩
          rw [← hW4]
          have bW4 : Below w3.heap.size w3 W4 := by rw [hW4]; exact bel1 _ _
          have HO4 : Hid (W4.ownsRow w3.heap.size 3 1 (.slice (some ⟨w3.heap.size, 0, none⟩) 1 1) 1 (natsV [x0])) := by
            rw [hW4]
            exact ⟨rfl, .inr ⟨w3.heap.size, 1, _, rfl, Nat.le_refl _, heap_alloc_new w3 _, Nat.le_refl _, by unfold maxLen; omega, rfl, rfl⟩⟩
          have u0 : W4.cell? ⟨g1, o1 + k * 3, none⟩ = some (.int .i64 (x0 : Int)) := (bW4.cell (p := ⟨_, _, none⟩) hg3).trans d0
          have u1 : W4.cell? ⟨g1, o1 + k * 3 + 1, none⟩ = some (.int .i64 (y0 : Int)) := (bW4.cell (p := ⟨_, _, none⟩) hg3).trans d1
          have hz4 : w3.heap.size < W4.heap.size := by rw [hW4]; simp
          have KW : Hid (∀ w', Below W4.heap.size W4 w' → Calls Tryz.prog 40 #[.int .i64 (n : Int), .slice (some ⟨g1, o1, none⟩) L.length c3, .int .i64 (y0 : Int), .int .i64 (x0 : Int)] w' fun e w'' => ∃ u v' w6, e = .returned u ∧ Hid ((Builtin.append_ #[44, 44] 44 #[.slice (some ⟨w3.heap.size, 0, none⟩) 1 1, u]).run Tryz.prog w'' = .ok v' w6) ∧ Hid (IsInts w6 (fun i => w.heap.size ≤ i) v' (cycT L D ((x0 : Int), (y0 : Int), true))) ∧ Hid (Below w.heap.size w w6)) := fun w' hb => by
            refine (refWay_any n y0 x0 d _ L w' D ((IE.out.any HB3.out).any (bW4.trans (hb.mono bW4.size))) HM.out HRI.out hx hy HD.out.1 HD.out.2).mono ?_
            rintro e w5 ⟨u, rfl, IR, b5⟩
            have ho5 := row_keep (row_keep HO4.out hb) b5.out
            obtain ⟨v', w6, r6, o6, g6⟩ := run_append_reads (P := Tryz.prog) w3.heap.size 44 44 3 i0 _ 1 8 Tryz.underlying44 hi0 hzz hzs hzb rfl (by omega) _ 1 _ ho5 u d (natsV (wayT L D d y0)) IR.out (by rw [natsV_length, wayT_length]; omega) (natsV_one _) (by unfold maxLen; omega) (by omega) (by have := bW4.size; have := hb.size; have := b5.out.size; omega)
            have hB6 : Below w.heap.size w w6 := by
              have h9 := HBw3.out.trans ((bW4.trans ((hb.trans (b5.out.mono hb.size)).mono bW4.size)).mono HBw3.out.size)
              have hsz := HBw3.out.size
              exact ⟨h9.os.symm ▸ g6.os, h9.tape.symm ▸ g6.tape, h9.output.symm ▸ g6.output, Nat.le_trans h9.size g6.size, fun i hi => (g6.block i (by have := h9.size; omega) (fun e => by simp [Value.ownBlock] at e; omega)).trans (h9.block i hi)⟩
            refine ⟨u, v', w6, rfl, r6, ?_, hB6⟩
            show Reads _ _ _ _ _
            have h9 := Reads.of (F := fun i => w.heap.size ≤ i) o6 (fun b hb => by have := (o6.lt b hb).1; have := HBw3.out.size; show _ ≤ _; omega)
            rw [HCT.out, ← natsV_ints]
            have h8 : natsV [x0] ++ natsV (wayT L D d y0) = natsV (x0 :: wayT L D d y0) := by simp [natsV]
            rw [h8] at h9
            have h7 : ((x0 :: wayT L D d y0).map fun i => ((i : Nat) : Int)).length = 1 + d := by simp [wayT_length]; omega
            rw [h7]; exact h9
          clear hW4 d0 d1 d2
          go_region_law (first
            | (with_reducible refine LA _ _ _ _ _ _ ?_ ?_ ?_ ?_; rfl; exact ⟨_, _, rfl, rfl, rfl⟩; rfl)
            | (go_simp; refine (KW.out _ ((Below.refl _ _).drew)).mono ?_; rintro e w5 ⟨u, v6, w6, rfl, r6, I6, b6⟩; have LA := stepApp r6.out; unfold StepApp at LA))
          all_goals
            obtain ⟨p6, c6, hv6⟩ := I6.out.slc
            subst hv6
            go_wp2
            go_ret3
            exact ⟨_, rfl, I6, b6⟩
    · obtain rfl : k = L.length := by omega
      exfalso
      have h1 := List.find?_some HC.out
      obtain ⟨j, hj⟩ := List.mem_iff_getElem?.1 (List.mem_of_find?_eq_some HC.out)
      rw [HN.out j _ (List.getElem?_eq_some_iff.1 hj).1 hj] at h1
      cases h1
end Go.Proofs.YtejhdhlpdcfedaaGreat
