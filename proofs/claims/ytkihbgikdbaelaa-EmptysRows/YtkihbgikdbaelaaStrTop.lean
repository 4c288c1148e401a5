import Derived.Test.YtkihbgikdbaelaaStrFar
import Derived.Laws.ResultCell
/- firstInCycle and Strata of the program, against their plain functions. -/
namespace Go.Proofs.Ytkihbgikdbaelaa
set_option linter.unusedVariables false
open Go.ChangeShapes Go.WideShapes Go.ChangeAt Go.RowKit

def firstR : Option Ed → Value
  | none => .tuple #[.agg #[.int .i64 0, .int .i64 0, .bool false], .bool false]
  | some t => .tuple #[.agg #[.int .i64 t.1, .int .i64 t.2.1, .bool t.2.2], .bool true]
set_option maxHeartbeats 4000000 in
set_option maxRecDepth 100000 in
theorem firstIn_any (n : Nat) (v : Value) (l : List Ed) (w : World) {F : Nat → Prop} (ha : IsEds w F v l) (hm : mayE (n : Int) l = true) (R : Option Ed) (hR : l.find? (badE n l) = R) :
    Calls Try.prog 22 #[.int .i64 (n : Int), v] w fun e w' => e = .returned (firstR R) ∧ Hid (Below w.heap.size w w') := by
  obtain ⟨h0, h1, hl⟩ := mayE_all hm
  have hn : n ≤ 64 := by omega
  obtain ⟨W1, hW1⟩ : ∃ W1, W1 = w.alloc (.cells #[.int .i64 0, .int .i64 0, .bool false] 63) := ⟨_, rfl⟩
  have hb1 : Below w.heap.size w W1 := by rw [hW1]; exact bel1 _ _
  have KC := comps_ok n v l W1 (ha.any hb1) hm
  have q1 : W1.heap[w.heap.size]? = some (.cells #[.int .i64 0, .int .i64 0, .bool false] 63) := by rw [hW1]; exact heap_alloc_new _ _
  have hz1 : w.heap.size < W1.heap.size := by rw [hW1]; simp
  have HQ : Hid (∀ w', Below W1.heap.size W1 w' → w.heap.size < w'.heap.size ∧ (w'.cell? ⟨w.heap.size, 0, none⟩ = some (.int .i64 0) ∧ w'.cell? ⟨w.heap.size, 1, none⟩ = some (.int .i64 0) ∧ w'.cell? ⟨w.heap.size, 2, none⟩ = some (.bool false)) ∧ w'.frozen? ⟨w.heap.size, 0, none⟩ = false ∧ w'.frozen? ⟨w.heap.size, 1, none⟩ = false ∧ w'.frozen? ⟨w.heap.size, 2, none⟩ = false) := fun w' hb => by
    have h9 := (hb.block _ hz1).trans q1
    have h8 := Lib.cell_of_heap h9
    have h7 : ∀ j, w'.frozen? ⟨w.heap.size, j, none⟩ = false := fun j => by simp [World.frozen?, h9]
    exact ⟨Nat.lt_of_lt_of_le hz1 hb.size, ⟨h8 0, h8 1, h8 2⟩, h7 0, h7 1, h7 2⟩
  obtain ⟨p, cp, rfl⟩ := ha.slc
  have hm9 : l.length ≤ 9223372036854775807 := by have := ha.len; unfold maxLen at this; omega
  have HA : Hid (IsEds w F (.slice p l.length cp) l) := ha
  have HL : Hid (edsB (n : Int) l = true) := hl
  have HB1 : Hid (Below w.heap.size w W1) := hb1
  have HR : Hid (l.find? (badE n l) = R) := hR
  clear ha hm h0 h1 hl hb1 q1 hz1 hR
  go_enter Try.func22, Try.ntmps22
  go_upto_region 2 with (go_at_call 33; rw [← hW1]; refine KC.mono ?_; rintro e w2 ⟨u, rfl, HI, HB2⟩)
  obtain ⟨p7, c7, hu⟩ := HI.out.slc
  rw [compsT_length] at hu
  subst hu
  have HB3 : Hid (Below w.heap.size w w2) := HB1.out.trans (HB2.out.mono HB1.out.size)
  clear hW1 KC
  go_wp2
  go_loopw [18] (fun i wr => ∃ k : Nat, k ≤ l.length ∧ i = .int .i64 k ∧ Hid (Below w2.heap.size w2 wr) ∧ Hid (∀ j e, j < k → l[j]? = some e → badE n l e = false)) (fun i _ => l.length - (intOf i).toNat)
  case atStart => exact ⟨0, Nat.zero_le _, rfl, Below.refl _ _, fun j e hj => by omega⟩
  case round =>
    obtain ⟨k, hk, rfl, HBr, HN⟩ := hrel
    have HB4 : Hid (Below W1.heap.size W1 wr) := HB2.out.trans (HBr.out.mono HB2.out.size)
    have HB5 : Hid (Below w.heap.size w wr) := HB3.out.trans (HBr.out.mono HB3.out.size)
    by_cases hlt : k < l.length
    · obtain ⟨t, ht⟩ : ∃ t, l[k]? = some t := ⟨_, List.getElem?_eq_getElem hlt⟩
      obtain ⟨g1, o1, hp, hg1, a0, a1, a2⟩ := (HA.out.any HB5.out).at ht
      subst hp
      have hed := edB_lt (List.all_eq_true.1 HL.out t (List.mem_of_getElem? ht))
      obtain ⟨t0, t1, t2⟩ := t
      simp only at a0 a1 a2 hed
      obtain ⟨x, rfl⟩ : ∃ x : Nat, t0 = (x : Int) := ⟨t0.toNat, by omega⟩
      obtain ⟨y, rfl⟩ : ∃ y : Nat, t1 = (y : Int) := ⟨t1.toNat, by omega⟩
      have hx : x < n := by omega
      have hy : y < n := by omega
      obtain ⟨g2, o2, hp2, hg2, cx⟩ := (HI.out.any HBr.out).at (compsT_at l hx)
      obtain ⟨g3, o3, hp3, hg3, cy⟩ := (HI.out.any HBr.out).at (compsT_at l hy)
      subst hp2
      simp only [Option.some.injEq, Addr.mk.injEq, and_true] at hp3
      obtain ⟨rfl, rfl⟩ := hp3
      have HE : Hid (badE n l ((x : Int), (y : Int), t2) = (t2 && decide (comp n l x = comp n l y))) := by show _ = _; unfold badE; simp only [Int.toNat_natCast]
      have HT : Hid (l[k]? = some ((x : Int), (y : Int), t2)) := ht
      obtain ⟨u, hu⟩ : ∃ u, u = comp n l x := ⟨_, rfl⟩
      obtain ⟨z, hz⟩ : ∃ z, z = comp n l y := ⟨_, rfl⟩
      rw [← hu] at cx HE
      rw [← hz] at cy HE
      have HNX : Hid (badE n l ((x : Int), (y : Int), t2) = false → ∀ j e, j < k + 1 → l[j]? = some e → badE n l e = false) := fun h j e hj he => by
        by_cases x : j = k
        · subst x
          rw [HT.out] at he
          cases he
          exact h
        · exact HN.out j e (by omega) he
      clear ht hed hu hz
      cases t2 with
      | false =>
        have HN2 := HNX.out HE.out
        have HN3 : Hid (∀ j e, j < k + 1 → l[j]? = some e → badE n l e = false) := HN2
        clear HN2
        go_wp2
        go_quiet (fail)
        go_wp2
        go_roundw
        case rel => exact ⟨k + 1, by omega, by go_num, bel_drewN (bel_alloc HBr.out), HN3⟩
        case measure => simp [intOf]; omega
      | true =>
        by_cases huz : u = z
        · subst huz
          have HF : Hid (R = some ((x : Int), (y : Int), true)) := by
            show _ = _
            rw [← HR.out]; exact find_at HN.out HT.out (by rw [HE.out]; simp)
          obtain ⟨b0, ⟨d0, d1, d2⟩, f0, f1, f2⟩ := HQ.out wr HB4.out
          have HB6 : Hid (Below w.heap.size w (wr.alloc (.cells #[.int .i64 (x : Int), .int .i64 (y : Int), .bool true] 63))) := bel_alloc HB5.out
          go_wp2
          go_quiet (fail)
          go_wp2
          (try simp only [Exit.inBlock, Exit.then])
          refine bodyPost_ret (v := .tuple #[.agg #[.int .i64 (x : Int), .int .i64 (y : Int), .bool true], .bool true]) ?_ rfl ⟨by rw [HF.out]; rfl, bel_set (bel_set (bel_set (bel_drewN HB6.out) (Nat.le_refl _)) (Nat.le_refl _)) (Nat.le_refl _)⟩
          rw [results_cell_tmp rfl]
          go_simp
        · have HN2 := HNX.out (by rw [HE.out]; simp [huz])
          have HN3 : Hid (∀ j e, j < k + 1 → l[j]? = some e → badE n l e = false) := HN2
          have huz2 : ((u : Int) == (z : Int)) = false := by simp; omega
          clear HN2
          go_wp2
          go_quiet (fail)
          go_wp2
          go_roundw
          case rel => exact ⟨k + 1, by omega, by go_num, bel_drewN (bel_alloc HBr.out), HN3⟩
          case measure => simp [intOf]; omega
    · obtain rfl : k = l.length := by omega
      have HF : Hid (R = none) := by
        show _ = _
        rw [← HR.out, List.find?_eq_none]
        intro e he
        obtain ⟨j, hj⟩ := List.mem_iff_getElem?.1 he
        simp [HN.out j e (List.getElem?_eq_some_iff.1 hj).1 hj]
      obtain ⟨b0, ⟨d0, d1, d2⟩, f0, f1, f2⟩ := HQ.out wr HB4.out
      go_wp2
      (try simp only [Exit.inBlock, Exit.then])
      refine bodyPost_ret (v := .tuple #[.agg #[.int .i64 0, .int .i64 0, .bool false], .bool false]) ?_ rfl ⟨by rw [HF.out]; rfl, bel_set (bel_set (bel_set HB5.out (Nat.le_refl _)) (Nat.le_refl _)) (Nat.le_refl _)⟩
      rw [results_cell_tmp rfl]
      go_simp
theorem mayE_edges {g : Gr} (h : mayG g = true) : mayE (g.names.length : Int) (edgesT g) = true := by
  have h1 := mayG_names h
  unfold mayE edsB
  simp only [Bool.and_eq_true, decide_eq_true_eq, List.all_eq_true]
  refine ⟨⟨by omega, by omega⟩, fun e he => ?_⟩
  rw [mem_edgesT, mem_allE] at he
  obtain ⟨r, hr, he⟩ := he
  rw [mem_cnsE] at he
  obtain ⟨c, hc, he⟩ := he
  rw [mem_seqE] at he
  obtain ⟨e1, e2, s, hs, e3, e4⟩ := he
  have h2 := mayG_head h r hr
  have h3 := mayG_sym h r hr c hc s hs
  unfold edB endB
  simp only [Bool.and_eq_true, decide_eq_true_eq]
  rw [e1, ← e4]
  omega
set_option maxHeartbeats 4000000 in
set_option maxRecDepth 100000 in
theorem strata_no (g : Gr) (v1 v2 : Value) (w : World) {F : Nat → Prop} (hg : GrIs w F v1 v2 g) (hn : ∀ s, s ∈ g.names → s.size ≤ maxLen) (hS : Short g.rules) (hM : mayG g = false) :
    Calls Try.prog 14 #[.agg #[.int .i64 g.start, v1, v2]] w fun e w' => e = .returned (.tuple #[.slice none 0 0, .slice none 0 0, .int .i64 800]) ∧ Hid (Below w.heap.size w w') := by
  have K1 : ∀ o, Calls Try.prog 21 #[.agg #[.int .i64 g.start, v1, v2]] (w.alloc o) fun e w' => e = .returned (.tuple #[.slice none 0 0, .int .i64 600]) ∧ Hid (Below (w.alloc o).heap.size (w.alloc o) w') := fun o => edges_no g v1 v2 (w.alloc o) (hg.any (bel1 w o)) hn hS hM
  obtain ⟨p1, c1, l1, hv1⟩ : ∃ p n c, v1 = .slice p n c := by obtain ⟨p, c, e, _⟩ := hg.1; exact ⟨_, _, _, e⟩
  obtain ⟨p2, c2, hv2⟩ := hg.2.slc
  subst hv1 hv2
  clear hg hn hS hM
  go_enter Try.func14, Try.ntmps14
  go_wp2_with (go_at_call 21; refine (K1 _).mono ?_; rintro e w1 ⟨rfl, b1⟩)
  go_ret3
  exact ⟨rfl, (bel1 _ _).trans (b1.out.mono (bel1 w _).size)⟩
set_option maxHeartbeats 4000000 in
set_option maxRecDepth 100000 in
theorem strata_ok (g : Gr) (v1 v2 : Value) (w : World) {F : Nat → Prop} (hg : GrIs w F v1 v2 g) (hn : ∀ s, s ∈ g.names → s.size ≤ maxLen) (hS : Short g.rules) (hM : mayG g = true) (hc : (edgesT g).find? (badE g.names.length (edgesT g)) = none) :
    Calls Try.prog 14 #[.agg #[.int .i64 g.start, v1, v2]] w fun e w' => ∃ u, e = .returned (.tuple #[u, .slice none 0 0, .int .i64 0]) ∧ Hid (IsInts w' (fun i => w.heap.size ≤ i) u (levL g.names.length (levT g.names.length (edgesT g)))) ∧ Hid (Below w.heap.size w w') := by
  obtain ⟨W1, hW1⟩ : ∃ W1, W1 = w.alloc (.cells #[.int .i64 g.start, v1, v2] 25) := ⟨_, rfl⟩
  have hb1 : Below w.heap.size w W1 := by rw [hW1]; exact bel1 _ _
  have K1 := edges_ok g v1 v2 W1 (hg.any hb1) hn hS hM
  have hm := mayE_edges hM
  obtain ⟨p1, l1, hv1⟩ : ∃ p c, v1 = .slice p g.names.length c := by obtain ⟨p, c, e, _⟩ := hg.1; exact ⟨_, _, e⟩
  obtain ⟨p2, c2, hv2⟩ := hg.2.slc
  obtain ⟨L, hL⟩ : ∃ L, L = edgesT g := ⟨_, rfl⟩
  obtain ⟨n, hn9⟩ : ∃ n, n = g.names.length := ⟨_, rfl⟩
  have hn64 : n ≤ 64 := by rw [hn9]; exact mayG_names hM
  rw [← hL] at K1 hm hc ⊢
  rw [← hn9] at hm hc hv1 ⊢
  have q1 : W1.cell? ⟨w.heap.size, 1, none⟩ = some v1 := by rw [hW1]; exact World.cell?_alloc_at _ _ _ _ rfl
  have hz1 : w.heap.size < W1.heap.size := by rw [hW1]; simp
  have HB1 : Hid (Below w.heap.size w W1) := hb1
  have HM : Hid (mayE (n : Int) L = true) := hm
  have HC : Hid (L.find? (badE n L) = none) := hc
  have HCl : Hid (Clean L) := clean_of (mayE_all hm).2.2 hc
  subst hv1 hv2
  clear hg hn hS hM hb1 hm hc hL hn9
  go_enter Try.func14, Try.ntmps14
  go_upto_region 2 with (go_at_call 21; rw [← hW1]; refine K1.mono ?_; rintro e w2 ⟨v, rfl, IE, b2⟩)
  obtain ⟨p3, c3, hv⟩ := IE.out.slc
  subst hv
  have q2 : w2.cell? ⟨w.heap.size, 1, none⟩ = some (.slice p1 n l1) := (b2.out.cell (p := ⟨_, _, none⟩) hz1).trans q1
  have hz2 : w.heap.size < w2.heap.size := Nat.lt_of_lt_of_le hz1 b2.out.size
  have HB2 : Hid (Below w.heap.size w w2) := HB1.out.trans (b2.out.mono HB1.out.size)
  have K2 := firstIn_any n (.slice p3 L.length c3) L w2 IE.out HM.out none HC.out
  have K3 : Hid (∀ w', Below w2.heap.size w2 w' → Calls Try.prog 24 #[.int .i64 (n : Int), .slice p3 L.length c3] w' fun e w'' => ∃ u, e = .returned u ∧ Hid (IsInts w'' (fun i => w'.heap.size ≤ i) u (levL n (levT n L))) ∧ Hid (Below w'.heap.size w' w'')) := fun w' hb => levels_any n _ L w' (IE.out.any hb) HM.out HCl.out
  unfold firstR at K2
  clear hW1 K1 q1 hz1
  go_wp2_with (first
    | (go_at_call 22; refine K2.mono ?_; rintro e w3 ⟨rfl, b3⟩)
    | (go_at_call 24; refine (K3.out _ (bel_alloc b3.out)).mono ?_; rintro e w4 ⟨u, rfl, IU, b4⟩))
  obtain ⟨p5, c5, hu⟩ := IU.out.slc
  rw [levL_length] at hu
  subst hu
  have HB4 : Hid (Below w.heap.size w w4) := HB2.out.trans (((bel_alloc b3.out).trans (b4.out.mono (bel_alloc b3.out).size)).mono HB2.out.size)
  have HI : Hid (IsInts w4 (fun i => w.heap.size ≤ i) (.slice p5 n c5) (levL n (levT n L))) := by
    refine Reads.low IU.out fun b hb _ => ?_
    have h1 := (bel_alloc (o := .cells #[.int .i64 0, .int .i64 0, .bool false] 63) b3.out).size
    have h2 := HB2.out.size
    exact Nat.le_trans (Nat.le_trans h2 h1) hb
  go_ret3
  exact ⟨_, rfl, HI, HB4⟩
set_option maxHeartbeats 4000000 in
set_option maxRecDepth 100000 in
theorem strata_cyc (g : Gr) (v1 v2 : Value) (w : World) {F : Nat → Prop} (hg : GrIs w F v1 v2 g) (hn : ∀ s, s ∈ g.names → s.size ≤ maxLen) (hS : Short g.rules) (hM : mayG g = true) (t : Ed) (hc : (edgesT g).find? (badE g.names.length (edgesT g)) = some t) :
    Calls Try.prog 14 #[.agg #[.int .i64 g.start, v1, v2]] w fun e w' => ∃ u f, e = .returned (.tuple #[.slice none 0 0, u, .int .i64 801]) ∧ Hid (FarIs (edgesT g) t.1.toNat f) ∧ Hid (IsInts w' (fun i => w.heap.size ≤ i) u (cycT (edgesT g) f t)) ∧ Hid (Below w.heap.size w w') := by
  obtain ⟨W1, hW1⟩ : ∃ W1, W1 = w.alloc (.cells #[.int .i64 g.start, v1, v2] 25) := ⟨_, rfl⟩
  have hb1 : Below w.heap.size w W1 := by rw [hW1]; exact bel1 _ _
  have K1 := edges_ok g v1 v2 W1 (hg.any hb1) hn hS hM
  have hm := mayE_edges hM
  obtain ⟨p1, l1, hv1⟩ : ∃ p c, v1 = .slice p g.names.length c := by obtain ⟨p, c, e, _⟩ := hg.1; exact ⟨_, _, e⟩
  obtain ⟨p2, c2, hv2⟩ := hg.2.slc
  obtain ⟨L, hL⟩ : ∃ L, L = edgesT g := ⟨_, rfl⟩
  obtain ⟨n, hn9⟩ : ∃ n, n = g.names.length := ⟨_, rfl⟩
  have hn64 : n ≤ 64 := by rw [hn9]; exact mayG_names hM
  rw [← hL] at K1 hm hc ⊢
  rw [← hn9] at hm hc hv1
  have hbad := List.find?_some hc
  have htm := List.mem_of_find?_eq_some hc
  have hed := edB_lt (List.all_eq_true.1 (mayE_all hm).2.2 t htm)
  have hw := ((bad_iff (mayE_all hm).2.2 htm).1 hbad).2
  obtain ⟨t0, t1, t2⟩ := t
  simp only at hed hw
  obtain ⟨x, rfl⟩ : ∃ x : Nat, t0 = (x : Int) := ⟨t0.toNat, by omega⟩
  obtain ⟨y, rfl⟩ : ∃ y : Nat, t1 = (y : Int) := ⟨t1.toNat, by omega⟩
  have hx : x < n := by omega
  have hy : y < n := by omega
  rw [Int.toNat_natCast, Int.toNat_natCast] at hw
  show Calls _ _ _ _ fun e w' => ∃ u f, e = .returned (.tuple #[.slice none 0 0, u, .int .i64 801]) ∧ Hid (FarIs L x f) ∧ Hid (IsInts w' (fun i => w.heap.size ≤ i) u (cycT L f ((x : Int), (y : Int), t2))) ∧ Hid (Below w.heap.size w w')
  have q1 : W1.cell? ⟨w.heap.size, 1, none⟩ = some v1 := by rw [hW1]; exact World.cell?_alloc_at _ _ _ _ rfl
  have hz1 : w.heap.size < W1.heap.size := by rw [hW1]; simp
  have HB1 : Hid (Below w.heap.size w W1) := hb1
  have HM : Hid (mayE (n : Int) L = true) := hm
  have HC : Hid (L.find? (badE n L) = some ((x : Int), (y : Int), t2)) := hc
  have HW : Hid (Way L y x) := hw
  subst hv1 hv2
  clear hg hn hS hM hb1 hm hc hL hn9 hbad htm hed hw
  go_enter Try.func14, Try.ntmps14
  go_upto_region 2 with (go_at_call 21; rw [← hW1]; refine K1.mono ?_; rintro e w2 ⟨v, rfl, IE, b2⟩)
  obtain ⟨p3, c3, hv⟩ := IE.out.slc
  subst hv
  have q2 : w2.cell? ⟨w.heap.size, 1, none⟩ = some (.slice p1 n l1) := (b2.out.cell (p := ⟨_, _, none⟩) hz1).trans q1
  have hz2 : w.heap.size < w2.heap.size := Nat.lt_of_lt_of_le hz1 b2.out.size
  have HB2 : Hid (Below w.heap.size w w2) := HB1.out.trans (b2.out.mono HB1.out.size)
  have K2 := firstIn_any n (.slice p3 L.length c3) L w2 IE.out HM.out _ HC.out
  have K3 : Hid (∀ w', Below w2.heap.size w2 w' → Calls Try.prog 23 #[.int .i64 (n : Int), .slice p3 L.length c3, .agg #[.int .i64 (x : Int), .int .i64 (y : Int), .bool t2]] w' fun e w'' => ∃ u f, e = .returned u ∧ Hid (FarIs L x f) ∧ Hid (IsInts w'' (fun i => w'.heap.size ≤ i) u (cycT L f ((x : Int), (y : Int), t2))) ∧ Hid (Below w'.heap.size w' w'')) := fun w' hb => cycle_any n x y t2 _ L w' (IE.out.any hb) HM.out hx hy HW.out
  unfold firstR at K2
  clear hW1 K1 q1 hz1
  go_wp2_with (first
    | (go_at_call 22; refine K2.mono ?_; rintro e w3 ⟨rfl, b3⟩)
    | (go_at_call 23; refine (K3.out _ (bel_alloc b3.out)).mono ?_; rintro e w4 ⟨u, f, rfl, HF, IU, b4⟩))
  obtain ⟨p5, c5, hu⟩ := IU.out.slc
  have HB4 : Hid (Below w.heap.size w w4) := HB2.out.trans (((bel_alloc b3.out).trans (b4.out.mono (bel_alloc b3.out).size)).mono HB2.out.size)
  have HI : Hid (IsInts w4 (fun i => w.heap.size ≤ i) u (cycT L f ((x : Int), (y : Int), t2))) := by
    refine Reads.low IU.out fun b hb _ => ?_
    have h1 := (bel_alloc (o := .cells #[.int .i64 (x : Int), .int .i64 (y : Int), .bool t2] 63) b3.out).size
    have h2 := HB2.out.size
    exact Nat.le_trans (Nat.le_trans h2 h1) hb
  subst hu
  go_ret3
  exact ⟨_, f, rfl, HF, HI, HB4⟩
end Go.Proofs.Ytkihbgikdbaelaa
/- awake of layer 8. -/
namespace Go.Proofs.Ytkihbgikdbaelaa
set_option linter.unusedVariables false
open Go.ChangeShapes Go.WideShapes Go.ChangeAt Go.RowKit

def a8G (l : List Sy) : Gr := ⟨0, [⟨#[83]⟩, ⟨#[65]⟩], [⟨0, [⟨true, [⟨1, 0, 0⟩]⟩]⟩, ⟨1, [⟨false, l⟩]⟩]⟩
theorem a8_gram (X : World) (n : Nat) (sq : Value) (l : List Sy) (h0 : X.heap[n]? = some (.cells #[.string ⟨#[83]⟩, .string ⟨#[65]⟩] 9)) (h1 : X.heap[n + 1]? = some (.cells #[.int .i64 1, .int .i64 0, .int .i64 0] 40))
    (h2 : X.heap[n + 1 + 1]? = some (.cells #[.bool true, .slice (some ⟨n + 1, 0, none⟩) 1 1] 38)) (h3 : X.heap[n + 1 + 1 + 1]? = some (.cells #[.bool false, sq] 38))
    (h4 : X.heap[n + 1 + 1 + 1 + 1]? = some (.cells #[.int .i64 0, .slice (some ⟨n + 1 + 1, 0, none⟩) 1 1, .int .i64 1, .slice (some ⟨n + 1 + 1 + 1, 0, none⟩) 1 1] 35)) (hs : IsSys X Any sq l) :
    GrIs X Any (.slice (some ⟨n, 0, none⟩) 2 2) (.slice (some ⟨n + 1 + 1 + 1 + 1, 0, none⟩) 2 2) (a8G l) := by
  have i1 : IsSys X Any (.slice (some ⟨n + 1, 0, none⟩) 1 1) [⟨1, 0, 0⟩] := reads_laid h1 le11 rfl
  have c1 : IsCns X Any (.slice (some ⟨n + 1 + 1, 0, none⟩) 1 1) [⟨true, [⟨1, 0, 0⟩]⟩] := ⟨[_], reads_laid h2 le11 rfl, (CnsIn.nil _ _).snoc (c := ⟨true, [⟨1, 0, 0⟩]⟩) i1⟩
  have c2 : IsCns X Any (.slice (some ⟨n + 1 + 1 + 1, 0, none⟩) 1 1) [⟨false, l⟩] := ⟨[_], reads_laid h3 le11 rfl, (CnsIn.nil _ _).snoc (c := ⟨false, l⟩) hs⟩
  exact ⟨reads_laid h0 le22 rfl, [_, _], reads_laid h4 le22 rfl, ((RusIn.nil _ _).snoc (c := ⟨0, _⟩) c1).snoc (c := ⟨1, _⟩) c2⟩
def a8S : List Sy := [⟨0, 0, 0⟩]
theorem a8m : mayG (a8G []) = true := by kernel_rfl
theorem a8m2 : mayG (a8G a8S) = true := by kernel_rfl
theorem a8z : mayG ⟨0, [], []⟩ = false := by kernel_rfl
def a8L : List Ed := [(0, 1, true)]
def a8L2 : List Ed := [(0, 1, true), (1, 0, false)]
theorem a8l : edgesT (a8G []) = a8L := edgesT_eq (by unfold a8L; decide) (fun x => by
  have : allE (a8G []).rules = [(0, 1, true)] := by decide
  rw [this]; rfl)
theorem a8l2 : edgesT (a8G a8S) = a8L2 := edgesT_eq (by unfold a8L2; decide) (fun x => by
  have : allE (a8G a8S).rules = [(0, 1, true), (1, 0, false)] := by decide
  rw [this]; rfl)
theorem a8f : a8L.find? (badE 2 a8L) = none := by decide +kernel
theorem a8f2 : a8L2.find? (badE 2 a8L2) = some (0, 1, true) := by decide +kernel
theorem a8v : levL 2 (levT 2 a8L) = [1, 0] := by decide +kernel
theorem a8c {f : Nat → Int} (h : FarIs a8L2 0 f) : cycT a8L2 f (0, 1, true) = [0, 1] := by
  have h1 : f 1 = 1 := by
    have hs : St a8L2 1 1 0 := ⟨(1, 0, false), by unfold a8L2; simp, rfl, rfl⟩
    rcases h 1 with ⟨_, h2⟩ | ⟨d, h2, h3, h4⟩
    · exact absurd hs (h2 1)
    · have := h4 1 hs
      have : d ≠ 0 := fun e => by
        subst e
        have : (1 : Nat) = 0 := h3
        omega
      omega
  unfold cycT
  show ((0 : Nat) :: wayT a8L2 f (f 1).toNat 1).map _ = _
  rw [h1]
  rfl
def a8P (n : Nat) : List Obj :=
  [.cells #[.string ⟨#[83]⟩, .string ⟨#[65]⟩] 9, .cells #[.int .i64 1, .int .i64 0, .int .i64 0] 40, .cells #[.bool true, .slice (some ⟨n + 1, 0, none⟩) 1 1] 38, .cells #[.bool false, .slice none 0 0] 38,
   .cells #[.int .i64 0, .slice (some ⟨n + 1 + 1, 0, none⟩) 1 1, .int .i64 1, .slice (some ⟨n + 1 + 1 + 1, 0, none⟩) 1 1] 35, .cells #[.int .i64 0, .slice (some ⟨n, 0, none⟩) 2 2, .slice (some ⟨n + 1 + 1 + 1 + 1, 0, none⟩) 2 2] 25]
theorem two_ints (w : World) (a b : Int) : IsInts (w.alloc (.cells #[.int .i64 a, .int .i64 b] 3)) Any (.slice (some ⟨w.heap.size, 0, none⟩) 2 2) [a, b] := reads_laid (heap_alloc_new w _) le22 rfl
end Go.Proofs.Ytkihbgikdbaelaa
