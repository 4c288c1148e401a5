/- FollowsHold, walked. -/
import Derived.Test.YtopokicdgdjgkaaFirL
namespace Go.Proofs.Ytopokicdgdjgkaa
set_option linter.unusedVariables false
set_option linter.unusedSimpArgs false
open Go.ChangeShapes Go.WideShapes Go.ChangeAt Go.RowKit

set_option maxHeartbeats 4000000 in
set_option maxRecDepth 100000 in
theorem followsHold_no (W : World) (s : Int) (v1 v2 : Value) (k1 k2 : Option Addr × Nat × Nat) (e1 : v1 = .slice k1.1 k1.2.1 k1.2.2) (e2 : v2 = .slice k2.1 k2.2.1 k2.2.2)
    (K1 : ∀ w, Below W.heap.size W w → Calls Try.prog 11 #[.agg #[.int .i64 s, v1, v2]] w fun e w' => e = .returned (.tuple #[.slice none 0 0, .int .i64 1200]) ∧ Hid (Below w.heap.size w w'))
    (K2 : ∀ w, Below W.heap.size W w → Calls Try.prog 12 #[.agg #[.int .i64 s, v1, v2]] w fun e w' => e = .returned (.tuple #[.slice none 0 0, .int .i64 1200]) ∧ Hid (Below w.heap.size w w'))
    (K3 : ∀ w, Below W.heap.size W w → Calls Try.prog 13 #[.agg #[.int .i64 s, v1, v2]] w fun e w' => e = .returned (.tuple #[.slice none 0 0, .int .i64 1200]) ∧ Hid (Below w.heap.size w w')) :
    Calls Try.prog 5 #[.agg #[.int .i64 s, v1, v2]] W fun e W' => e = .returned (.bool true) ∧ Below W.heap.size W W' := by
  have HX1 : Hid (BxF W s v1 v2 (W.alloc (.cells #[.int .i64 s, v1, v2] 27))) := BxF.new _ _ _ _
  have H1 := hid_ofF K1
  have H2 := hid_ofF K2
  have H3 := hid_ofF K3
  subst e1 e2
  clear K1 K2 K3
  go_enter Try.func5, Try.ntmps5
  go_wp2_with (first
    | (go_at_call 7; refine (awake12_any _).mono ?_; rintro e wa ⟨rfl, ba⟩; have XA : Hid (BxF _ _ _ _ wa) := HX1.out.any ba.out; obtain ⟨-, z1, c0, c1, c2⟩ := XA.out)
    | (go_at_call 11; refine (H1.out _ XA.out.1).mono ?_; rintro e wb ⟨rfl, bb⟩; have XB : Hid (BxF _ _ _ _ wb) := XA.out.any bb.out; clear z1 c0 c1 c2; obtain ⟨-, z1, c0, c1, c2⟩ := XB.out)
    | (go_at_call 12; refine (H2.out _ XB.out.1).mono ?_; rintro e wc ⟨rfl, bc⟩; have XC : Hid (BxF _ _ _ _ wc) := XB.out.any bc.out; clear z1 c0 c1 c2; obtain ⟨-, z1, c0, c1, c2⟩ := XC.out)
    | (go_at_call 13; refine (H3.out _ XC.out.1).mono ?_; rintro e wd ⟨rfl, bd⟩; have XD : Hid (BxF _ _ _ _ wd) := XC.out.any bd.out; clear z1 c0 c1 c2)
    | (go_at_call 14; refine (num_any _ _).mono ?_; rintro e wn ⟨rfl, rfl⟩))
  go_ret
  exact ⟨rfl, XD.out.1⟩
set_option maxHeartbeats 8000000 in
set_option maxRecDepth 100000 in
theorem followsHold_ok (W : World) (g : Gr) (v1 v2 : Value) (s n : Nat) (hg0 : g.start = (s : Int)) (hn : n ≤ 64) (hs : s < n) (hL : IsRus W Any v2 g.rules) (hl : g.rules.length ≤ 256) (hr : ∀ r, r ∈ g.rules → RuOk n r ∧ 0 ≤ r.head ∧ r.head < (n : Int)) (k1 : Option Addr × Nat) (e1 : v1 = .slice k1.1 n k1.2)
    (K1 : ∀ w, Below W.heap.size W w → Calls Try.prog 11 #[.agg #[.int .i64 (s : Int), v1, v2]] w fun e w' => ∃ eb E, e = .returned (.tuple #[.slice (some ⟨eb, 0, none⟩) n n, .int .i64 0]) ∧ w.heap.size ≤ eb ∧ Hid (BlAt w' eb n E) ∧ Hid (EmpOk g.rules E) ∧ Hid (Below w.heap.size w w'))
    (K2 : ∀ w, Below W.heap.size W w → Calls Try.prog 12 #[.agg #[.int .i64 (s : Int), v1, v2]] w fun e w' => ∃ bb E B, e = .returned (.tuple #[.slice (some ⟨bb, 0, none⟩) n n, .int .i64 0]) ∧ w.heap.size ≤ bb ∧ Hid (ByAt w' bb n B) ∧ Hid (FstOk g E B) ∧ Hid (Below w.heap.size w w'))
    (K3 : ∀ w, Below W.heap.size W w → Calls Try.prog 13 #[.agg #[.int .i64 (s : Int), v1, v2]] w fun e w' => ∃ fb E B D, e = .returned (.tuple #[.slice (some ⟨fb, 0, none⟩) n n, .int .i64 0]) ∧ w.heap.size ≤ fb ∧ Hid (FoAt w' fb n D) ∧ Hid (FstOk g E B) ∧ Hid (okF D ∧ ClosF g E B D ∧ LeastF g E B D) ∧ Hid (Below w.heap.size w w'))
    (KM : ∀ w, Below W.heap.size W w → Calls Try.prog 15 #[.agg #[.int .i64 (s : Int), v1, v2]] w fun e w' => e = .returned (.bool true) ∧ Hid (Below w.heap.size w w')) :
    Calls Try.prog 5 #[.agg #[.int .i64 (s : Int), v1, v2]] W fun e W' => e = .returned (.bool true) ∧ Below W.heap.size W W' := by
  have HX1 : Hid (BxF W s v1 v2 (W.alloc (.cells #[.int .i64 (s : Int), v1, v2] 27))) := BxF.new _ _ _ _
  have H1 := hid_ofF K1
  have H2 := hid_ofF K2
  have H3 := hid_ofF K3
  have HM := hid_ofF KM
  have HL : Hid (IsRus W Any v2 g.rules) := hL
  have HR := hid_ofF hr
  obtain ⟨p2, q2, e2⟩ := lngRF hL
  obtain ⟨m, hm⟩ : ∃ m, m = g.rules.length := ⟨_, rfl⟩
  have HML : Hid (m = g.rules.length) := hm
  rw [← hm] at e2 hl
  have HST : Hid (g.start.toNat = s) := by show _ = _; rw [hg0, Int.toNat_natCast]
  have hsI : (s : Int) < (n : Int) := by omega
  subst e1 e2
  clear K1 K2 K3 KM hL hr hm hg0
  go_enter Try.func5, Try.ntmps5
  go_upto_region 9 with (first
    | (go_at_call 7; refine (awake12_any _).mono ?_; rintro e wa ⟨rfl, ba⟩; have XA : Hid (BxF _ _ _ _ wa) := HX1.out.any ba.out; obtain ⟨-, z1, c0, c1, c2⟩ := XA.out)
    | (go_at_call 11; refine (H1.out _ XA.out.1).mono ?_; rintro e wb ⟨eb, E, rfl, -, E1, E2, bb⟩; have XB : Hid (BxF _ _ _ _ wb) := XA.out.any bb.out; clear z1 c0 c1 c2; obtain ⟨-, z1, c0, c1, c2⟩ := XB.out)
    | (go_at_call 12; refine (H2.out _ XB.out.1).mono ?_; rintro e wc ⟨yb, E', B, rfl, -, F1, F2, bc⟩; have XC : Hid (BxF _ _ _ _ wc) := XB.out.any bc.out; clear z1 c0 c1 c2; obtain ⟨-, z1, c0, c1, c2⟩ := XC.out)
    | (go_at_call 13; refine (H3.out _ XC.out.1).mono ?_; rintro e wd ⟨fb, E'', B'', D, rfl, -, G1, G2, G3, bd⟩; have XD : Hid (BxF _ _ _ _ wd) := XC.out.any bd.out; clear z1 c0 c1 c2; obtain ⟨-, z1, c0, c1, c2⟩ := XD.out)
    | (go_at_call 14; refine (num_any _ _).mono ?_; rintro e wn ⟨rfl, rfl⟩))
  have HE : Hid (BlAt wd eb n E) := (E1.out.keep bc.out).keep bd.out
  have HB : Hid (ByAt wd yb n B) := (bd.out.block _ (block_lt F1.out)).trans F1.out
  have HD : Hid (FoAt wd fb n D) := G1.out
  have HOB : Hid (∀ k, okB (B k)) := F2.out.ok
  have HOD : Hid (okF D) := G3.out.1
  have HCL : Hid (ClosF g E B D) := by
    obtain ⟨e9, s1, s2⟩ := fst_same F2.out G2.out
    subst e9
    have e8 := emp_same E2.out F2.out.eo
    subst e8
    exact closF_with G3.out.2.1 s1
  clear E1 E2 F1 F2 G1 G2 G3 H1 H2 H3 bb bc bd XA XB XC HX1
  obtain ⟨s5, hs5⟩ : ∃ x, x = s * 5 + 4 := ⟨_, rfl⟩
  have d4 : ∀ w', Below wd.heap.size wd w' → w'.cell? ⟨fb, s * 5 + 4, none⟩ = some (.bool true) := fun w' h => by
    have hf : FoAt w' fb n D := (h.block fb (block_lt HD.out)).trans HD.out
    have h2 := hf.cell hs (j := 4) (by omega)
    rw [h2]
    have h3 := HCL.out.1
    rw [HST.out] at h3
    show some (Value.bool (D s).2) = _
    rw [h3]
  have D4 := hid_ofF d4
  clear d4 hs5
  go_upto_region 11 with (go_at_call 15; refine (HM.out _ XD.out.1).mono ?_; rintro e we ⟨rfl, be⟩; have XE : Hid (BxF _ _ _ _ we) := XD.out.any be.out; clear z1 c0 c1 c2; obtain ⟨-, z1, c0, c1, c2⟩ := XE.out; have d4 := D4.out we be.out)
  have HLE : Hid (IsRus we Any (.slice p2 m q2) g.rules) := HL.out.any XE.out.1
  have HE2 : Hid (BlAt we eb n E) := HE.out.keep be.out
  have HB2 : Hid (ByAt we yb n B) := (be.out.block _ (block_lt HB.out)).trans HB.out
  have HD2 : Hid (FoAt we fb n D) := (be.out.block _ (block_lt HD.out)).trans HD.out
  have HCE : Hid (∀ w', Below we.heap.size we w' → (∀ y, y < n → w'.cell? ⟨eb, y, none⟩ = some (.bool (E y))) ∧ (∀ y, y < n → ∀ j, j < 4 → w'.cell? ⟨yb, y * 4 + j, none⟩ = some (.int .u64 ((B y j : Nat) : Int))) ∧ (∀ y, y < n → ∀ j, j < 5 → w'.cell? ⟨fb, y * 5 + j, none⟩ = some (foV (D y) j))) := fun w' h =>
    ⟨fun y hy => (HE2.out.keep h).cell hy, fun y hy j hj => ByAt.cell (w := w') (b := yb) ((h.block _ (block_lt HB2.out)).trans HB2.out) hy hj, fun y hy j hj => FoAt.cell (w := w') (b := fb) ((h.block _ (block_lt HD2.out)).trans HD2.out) hy hj⟩
  clear D4 be HM HE HB HD HL d4 XD
  go_wp2
  go_loopw [10] (fun x wr => ∃ i : Nat, i ≤ m ∧ x = .int .i64 (i : Int) ∧ Hid (Below we.heap.size we wr)) (fun x _ => m - (intOf x).toNat)
  case atStart => exact ⟨0, Nat.zero_le _, rfl, Below.refl _ _⟩
  case round =>
    obtain ⟨i, hi, rfl, HBi⟩ := hrel
    obtain ⟨U, hU⟩ : ∃ U, U = wr := ⟨_, rfl⟩
    subst hU
    clear z1 c0 c1 c2
    have XR : Hid (BxF _ _ _ _ U) := XE.out.any HBi.out
    obtain ⟨-, z1, c0, c1, c2⟩ := XR.out
    by_cases hlt : i < m
    · have hltI : (i : Int) < (m : Int) := by omega
      have hltD : decide ((i : Int) < (m : Int)) = true := decide_eq_true hltI
      obtain ⟨r, hrr⟩ : ∃ r, g.rules[i]? = some r := ⟨_, List.getElem?_eq_getElem (by rw [← HML.out]; exact hlt)⟩
      obtain ⟨g1, o1, u1, hp, -, hA1, hcn0⟩ := HLE.out.row hrr
      subst hp
      obtain ⟨⟨hcl, hrow⟩, hh0, hh1⟩ := HR.out r (List.mem_of_getElem? hrr)
      obtain ⟨p3, c3, hu1⟩ := lngCF hcn0
      obtain ⟨cl, hcl2⟩ : ∃ cl, cl = r.conj.length := ⟨_, rfl⟩
      rw [← hcl2] at hu1 hcl
      have HCLN : Hid (cl = r.conj.length) := hcl2
      have hcl8 := hcl.2
      obtain ⟨hd, hhd⟩ : ∃ h : Nat, r.head = (h : Int) := ⟨r.head.toNat, by omega⟩
      have hdn : hd < n := by omega
      have hdI : (hd : Int) < (n : Int) := by omega
      subst hu1
      have HRR : Hid (∀ w', Below we.heap.size we w' → w'.cell? ⟨g1, o1 + i * 2, none⟩ = some (.int .i64 (hd : Int)) ∧ w'.cell? ⟨g1, o1 + i * 2 + 1, none⟩ = some (.slice p3 cl c3) ∧ IsCns w' Any (.slice p3 cl c3) r.conj) := fun w' h => by
        obtain ⟨g2, o2, u2, e2, a0, a1, a2⟩ := (HLE.out.any h).row hrr
        injection e2 with e2; injection e2 with e2 e4 e5; subst e2; subst e4
        rw [hhd] at a0
        have h1 := (h.cell (p := ⟨g1, o1 + i * 2 + 1, none⟩) (cell_in hA1)).trans hA1
        rw [a1] at h1
        injection h1 with h1
        rw [h1] at a1 a2
        exact ⟨a0, a1, a2⟩
      have HRM : Hid (r ∈ g.rules) := List.mem_of_getElem? hrr
      have HROW := hid_ofF hrow
      have HHD : Hid (r.head.toNat = hd) := by show _ = _; rw [hhd, Int.toNat_natCast]
      clear hrr hcn0 hcl hrow hh0 hh1 hcl2 hhd hA1
      obtain ⟨x0, x1, -⟩ := HRR.out U HBi.out
      go_wp2
      clear z1 c0 c1 c2 x0 x1 hltI hltD XR
      go_loopw [11] (fun x wr => ∃ j : Nat, j ≤ cl ∧ x = .int .i64 (j : Int) ∧ Hid (Below we.heap.size we wr)) (fun x _ => cl - (intOf x).toNat)
      case atStart => exact ⟨0, Nat.zero_le _, rfl, HBi⟩
      case round =>
        clear HBi
        obtain ⟨j, hj, rfl, HBj⟩ := hrel
        obtain ⟨Y, hY⟩ : ∃ Y, Y = wr := ⟨_, rfl⟩
        subst hY
        have XR : Hid (BxF _ _ _ _ Y) := XE.out.any HBj.out
        obtain ⟨-, z1, c0, c1, c2⟩ := XR.out
        obtain ⟨x0, x1, hcn⟩ := HRR.out Y HBj.out
        by_cases hlj : j < cl
        · have hljI : (j : Int) < (cl : Int) := by omega
          have hljD : decide ((j : Int) < (cl : Int)) = true := decide_eq_true hljI
          have hltI : (i : Int) < (m : Int) := by omega
          obtain ⟨d, hdd⟩ : ∃ d, r.conj[j]? = some d := ⟨_, List.getElem?_eq_getElem (by rw [← HCLN.out]; exact hlj)⟩
          obtain ⟨g3, o3, u3, hp3, b0, b1, hsy⟩ := hcn.row hdd
          subst hp3
          obtain ⟨p4, c4, hu3⟩ := hsy.slc
          obtain ⟨zl, hz⟩ : ∃ z, z = d.seq.length := ⟨_, rfl⟩
          rw [← hz] at hu3
          subst hu3
          have hrw := HROW.out d (List.mem_of_getElem? hdd)
          unfold mayRow at hrw
          simp only [Bool.and_eq_true, decide_eq_true_eq, List.all_eq_true] at hrw
          have HZL : Hid (zl = d.seq.length) := hz
          have hz64 : zl ≤ 64 := by rw [hz]; exact hrw.1
          have HMS := hid_ofF hrw.2
          have HSY : Hid (∀ w', Below Y.heap.size Y w' → IsSys w' Any (.slice p4 zl c4) d.seq) := fun w' h => hsy.any h
          have HCD : Hid (∀ l1 x l2, d.seq = l1 ++ x :: l2 → x.name ≠ -1 → leF (comF E B (D hd) l2) (D x.name.toNat)) := fun l1 x l2 e hx => by
            have := HCL.out.2 r HRM.out d (List.mem_of_getElem? hdd) l1 x l2 e hx
            rw [HHD.out] at this; exact this
          clear hdd hsy hz hrw
          go_upto_region 20 with fail
          obtain ⟨nb, hnb⟩ : ∃ b, b = Y.heap.size := ⟨_, rfl⟩
          obtain ⟨Y2, hY2⟩ : ∃ w, w = Y.alloc (.cells #[.int .u64 0, .int .u64 0, .int .u64 0, .int .u64 0] 39) := ⟨_, rfl⟩
          have bY : Below Y.heap.size Y Y2 := by rw [hY2]; exact bel1 _ _
          have HNB : Hid (WbAt Y2 nb zB) := by show _ = _; rw [hY2, hnb]; exact heap_alloc_new _ _
          have HB2' : Hid (Below we.heap.size we Y2) := HBj.out.trans (bY.mono HBj.out.size)
          have HBY : Hid (Below Y.heap.size Y Y2) := bY
          have HNW : Hid (we.heap.size ≤ nb ∧ Y.heap.size ≤ nb) := by rw [hnb]; exact ⟨HBj.out.size, Nat.le_refl _⟩
          rw [← hY2, ← hnb]
          clear hY2 hnb bY b0 b1 x0 x1 z1 c0 c1 c2 hljI hljD hcn XR hltI
          go_wp2
          go_loopw [13, 15] (fun t x wr => ∃ (k : Nat), k ≤ zl ∧ x = .int .i64 ((k : Int) - 1) ∧ t = .bool (empB E (d.seq.drop k)) ∧ Hid (WbAt wr nb (comT E B (d.seq.drop k)).1) ∧ Hid (Below we.heap.size we wr) ∧ Hid (Below Y.heap.size Y wr)) (fun _ x _ => (intOf x + 1).toNat)
          case atStart => exact ⟨zl, Nat.le_refl _, by go_num, by rw [HZL.out, List.drop_length]; rfl, by rw [HZL.out, List.drop_length]; exact HNB, HB2', HBY⟩
          case round =>
            clear HNB HB2' HBY
            obtain ⟨k, hk, rfl, rfl, HNX, HBk, HBY⟩ := hrel
            obtain ⟨V, hV⟩ : ∃ V, V = wr := ⟨_, rfl⟩
            subst hV
            cases k with
            | zero =>
              rw [show (((0 : Nat) : Int) - 1) = -1 by omega]
              go_wp2
              go_roundw
              case rel => exact ⟨j + 1, by omega, by go_num, HBk⟩
              case measure => simp [intOf]; omega
            | succ q =>
              rw [show (((q + 1 : Nat) : Int) - 1) = (q : Int) by omega]
              have hqz : q < zl := by omega
              have hqI : (q : Int) < (zl : Int) := by omega
              have hq0 : (0 : Int) ≤ (q : Int) := by omega
              obtain ⟨x, hx⟩ : ∃ x, d.seq[q]? = some x := ⟨_, List.getElem?_eq_getElem (by rw [← HZL.out]; exact hqz)⟩
              obtain ⟨g5, o5, hp5, hg5, y0, y1, y2⟩ := (HSY.out V HBY.out).cel hx
              subst hp5
              have hxm := HMS.out x (List.mem_of_getElem? hx)
              obtain ⟨X, hX⟩ : ∃ X, X = (comT E B (d.seq.drop (q + 1))).1 := ⟨_, rfl⟩
              obtain ⟨t, ht⟩ : ∃ t, t = empB E (d.seq.drop (q + 1)) := ⟨_, rfl⟩
              have hdq := drop_cons hx
              have hcd : x.name ≠ -1 → leF (comF E B (D hd) (d.seq.drop (q + 1))) (D x.name.toNat) := HCD.out (d.seq.take q) x _ (by rw [← hdq, List.take_append_drop])
              have okX : okB X := by rw [hX]; exact comT_ok HOB.out _
              have hpt := com_parts E B (D hd) (d.seq.drop (q + 1))
              rw [← hX, ← ht] at hpt
              have hC1 : comT E B (d.seq.drop q) = aheadT E B x (comT E B (d.seq.drop (q + 1))) := comT_drop hx
              have hE1 : empB E (d.seq.drop q) = (symB E x && t) := by rw [hdq, ht]; rfl
              have HXEQ : Hid (X = (comT E B (d.seq.drop (q + 1))).1) := hX
              rw [← hX] at HNX
              rw [← ht]
              have XR : Hid (BxF _ _ _ _ V) := XE.out.any HBk.out
              obtain ⟨-, z1, c0, c1, c2⟩ := XR.out
              obtain ⟨x0, x1, -⟩ := HRR.out V HBk.out
              have n0 : V.cell? ⟨nb, 0, none⟩ = some (.int .u64 ((X 0 : Nat) : Int)) := Lib.cell_of_heap HNX.out 0
              have n1 : V.cell? ⟨nb, 1, none⟩ = some (.int .u64 ((X 1 : Nat) : Int)) := Lib.cell_of_heap HNX.out 1
              have n2 : V.cell? ⟨nb, 2, none⟩ = some (.int .u64 ((X 2 : Nat) : Int)) := Lib.cell_of_heap HNX.out 2
              have n3 : V.cell? ⟨nb, 3, none⟩ = some (.int .u64 ((X 3 : Nat) : Int)) := Lib.cell_of_heap HNX.out 3
              have nl : nb < V.heap.size := block_lt HNX.out
              obtain ⟨xb, hxb⟩ : ∃ b, b = V.heap.size := ⟨_, rfl⟩
              obtain ⟨nm, lo, up⟩ := x
              obtain ⟨V2, hV2⟩ : ∃ w, w = V.alloc (.cells #[.int .i64 nm, .int .i64 lo, .int .i64 up] 36) := ⟨_, rfl⟩
              have bV : Below V.heap.size V V2 := by rw [hV2]; exact bel1 _ _
              have hxv : V2.heap[xb]? = some (.cells #[.int .i64 nm, .int .i64 lo, .int .i64 up] 36) := by rw [hV2, hxb]; exact heap_alloc_new _ _
              have HB3 : Hid (Below we.heap.size we V2) := HBk.out.trans (bV.mono HBk.out.size)
              have HBY3 : Hid (Below Y.heap.size Y V2) := HBY.out.trans (bV.mono HBY.out.size)
              have HN3 : Hid (WbAt V2 nb X) := HNX.out.keep bV
              have HXV := hid_ofF hxv
              have HNX2 : Hid (nb < xb) := by rw [hxb]; exact nl
              dsimp only at y0 y1 y2 hxm hcd hC1 hE1
              clear ht hx hdq hX
              go_upto_region 24 with fail
              rw [← hV2, ← hxb]
              have s0 : V2.cell? ⟨xb, 0, none⟩ = some (.int .i64 nm) := Lib.cell_of_heap hxv 0
              have s1 : V2.cell? ⟨xb, 1, none⟩ = some (.int .i64 lo) := Lib.cell_of_heap hxv 1
              have s2 : V2.cell? ⟨xb, 2, none⟩ = some (.int .i64 up) := Lib.cell_of_heap hxv 2
              clear hV2 hxb bV hxv y0 y1 y2 z1 c0 c1 c2 x0 x1 n0 n1 n2 n3 nl XR hg5
              by_cases hnm : nm = -1
              · --SE
                subst hnm
                obtain ⟨a, b, ha, hb, hab, hb2⟩ := may_range hxm rfl
                dsimp only at ha hb
                subst ha hb
                have HR1 : Hid ((comT E B (d.seq.drop q)).1 = rngB (a : Int) (b : Int) ∧ empB E (d.seq.drop q) = false) := by
                  rw [hC1, hE1]
                  unfold aheadT symB
                  exact ⟨rfl, rfl⟩
                have KR := rrange_yes a b V2 hb2 hab
                obtain ⟨R, hR⟩ : ∃ R, R = rngB (a : Int) (b : Int) := ⟨_, rfl⟩
                rw [← hR] at KR HR1
                have N3 := HN3.out
                have HR2 := HR1.out
                clear hcd hpt hC1 hE1 hxm hR
                go_upto_region 32 with (go_at_call 9; refine KR.mono ?_; rintro e w6 ⟨rfl, b6⟩)
                obtain ⟨rb, hrb⟩ : ∃ b, b = w6.heap.size := ⟨_, rfl⟩
                obtain ⟨w7, hw7⟩ : ∃ w, w = w6.alloc (.cells #[.int .u64 ((R 0 : Nat) : Int), .int .u64 ((R 1 : Nat) : Int), .int .u64 ((R 2 : Nat) : Int), .int .u64 ((R 3 : Nat) : Int)] 39) := ⟨_, rfl⟩
                have b7 : Below V2.heap.size V2 w7 := by rw [hw7]; exact b6.alloc b6.size _
                have hrv : w7.heap[rb]? = some (.cells #[.int .u64 ((R 0 : Nat) : Int), .int .u64 ((R 1 : Nat) : Int), .int .u64 ((R 2 : Nat) : Int), .int .u64 ((R 3 : Nat) : Int)] 39) := by rw [hw7, hrb]; exact heap_alloc_new _ _
                have HN7 : Hid (WbAt w7 nb X) := HN3.out.keep b7
                have HB7 : Hid (Below V2.heap.size V2 w7) := b7
                rw [← hw7, ← hrb]
                have r0 : w7.cell? ⟨rb, 0, none⟩ = some (.int .u64 ((R 0 : Nat) : Int)) := Lib.cell_of_heap hrv 0
                have r1 : w7.cell? ⟨rb, 1, none⟩ = some (.int .u64 ((R 1 : Nat) : Int)) := Lib.cell_of_heap hrv 1
                have r2 : w7.cell? ⟨rb, 2, none⟩ = some (.int .u64 ((R 2 : Nat) : Int)) := Lib.cell_of_heap hrv 2
                have r3 : w7.cell? ⟨rb, 3, none⟩ = some (.int .u64 ((R 3 : Nat) : Int)) := Lib.cell_of_heap hrv 3
                have n0 : w7.cell? ⟨nb, 0, none⟩ = some (.int .u64 ((X 0 : Nat) : Int)) := Lib.cell_of_heap HN7.out 0
                have n1 : w7.cell? ⟨nb, 1, none⟩ = some (.int .u64 ((X 1 : Nat) : Int)) := Lib.cell_of_heap HN7.out 1
                have n2 : w7.cell? ⟨nb, 2, none⟩ = some (.int .u64 ((X 2 : Nat) : Int)) := Lib.cell_of_heap HN7.out 2
                have n3 : w7.cell? ⟨nb, 3, none⟩ = some (.int .u64 ((X 3 : Nat) : Int)) := Lib.cell_of_heap HN7.out 3
                have f0 : w7.frozen? ⟨nb, 0, none⟩ = false := frzV HN7.out 0
                have f1 : w7.frozen? ⟨nb, 1, none⟩ = false := frzV HN7.out 1
                have f2 : w7.frozen? ⟨nb, 2, none⟩ = false := frzV HN7.out 2
                have f3 : w7.frozen? ⟨nb, 3, none⟩ = false := frzV HN7.out 3
                have nl : nb < w7.heap.size := block_lt HN7.out
                clear hw7 hrb b6 b7 hrv KR s0 s1 s2 N3
                go_wp2
                go_roundw
                case rel => exact ⟨q, by omega, by go_num, by rw [HR2.2], by rw [HR2.1]; exact HN7.out.set R, bel_setW (HB3.out.trans (HB7.out.mono HB3.out.size)) HNW.out.1 R, bel_setW (HBY3.out.trans (HB7.out.mono HBY3.out.size)) HNW.out.2 R⟩
                case measure => simp [intOf]
              · --SF
                obtain ⟨y, hy, hyn⟩ := may_name hxm hnm
                dsimp only at hy
                subst hy
                have hyI : (y : Int) < (n : Int) := by omega
                have hy0 : (0 : Int) ≤ (y : Int) := by omega
                have hle := hcd hnm
                rw [Int.toNat_natCast] at hle
                obtain ⟨dy, hdy⟩ : ∃ d, d = D y := ⟨_, rfl⟩
                obtain ⟨dh, hdh⟩ : ∃ d, d = D hd := ⟨_, rfl⟩
                have okdy : okB dy.1 := by rw [hdy]; exact HOD.out y
                have okdh : okB dh.1 := by rw [hdh]; exact HOD.out hd
                rw [← hdh] at hpt hle
                rw [← hdy] at hle
                have hX1 : leB X dy.1 := hpt.1.trans hle.1
                have hX2 : t = true → leF dh dy := fun e => (hpt.2 e).trans hle
                have K1 : Hid (∀ w, Below V2.heap.size V2 w → Calls Try.prog 10 #[.int .i64 0, bv dy.1, bv X] w fun e w' => e = .returned (bv dy.1) ∧ Below V2.heap.size V2 w') := fun w hb => (mix_le dy.1 X w okdy okX hX1).mono fun e w' ⟨a, b⟩ => ⟨a, hb.trans (b.mono hb.size)⟩
                have hq : ∀ w, (Op.equalIn 10000 39 (bv dy.1) (bv dy.1)).run Try.prog w = .ok true w := eq_bv 10000 (Or.inr rfl) dy.1 dy.1 (fun _ _ => rfl)
                obtain ⟨ye, yc, fc0⟩ := HCE.out V2 HB3.out
                have fy := fc0 y hyn
                rw [← hdy] at fy
                have fy0 : V2.cell? ⟨fb, y * 5, none⟩ = some (.int .u64 ((dy.1 0 : Nat) : Int)) := fy 0 (by omega)
                have fy1 : V2.cell? ⟨fb, y * 5 + 1, none⟩ = some (.int .u64 ((dy.1 1 : Nat) : Int)) := fy 1 (by omega)
                have fy2 : V2.cell? ⟨fb, y * 5 + 2, none⟩ = some (.int .u64 ((dy.1 2 : Nat) : Int)) := fy 2 (by omega)
                have fy3 : V2.cell? ⟨fb, y * 5 + 3, none⟩ = some (.int .u64 ((dy.1 3 : Nat) : Int)) := fy 3 (by omega)
                have fy4 : V2.cell? ⟨fb, y * 5 + 4, none⟩ = some (.bool dy.2) := fy 4 (by omega)
                obtain ⟨V4, hV4⟩ : ∃ w, w = V2.alloc (.cells (fc dy) 55) := ⟨_, rfl⟩
                obtain ⟨db, hdb⟩ : ∃ b, b = V2.heap.size := ⟨_, rfl⟩
                have b4 : Below V2.heap.size V2 V4 := by rw [hV4]; exact bel1 _ _
                have hdv : V4.heap[db]? = some (.cells (fc dy) 55) := by rw [hV4, hdb]; exact heap_alloc_new _ _
                have HB4 : Hid (Below we.heap.size we V4) := HB3.out.trans (b4.mono HB3.out.size)
                have HBY4 : Hid (Below Y.heap.size Y V4) := HBY3.out.trans (b4.mono HBY3.out.size)
                have HN4 : Hid (WbAt V4 nb X) := HN3.out.keep b4
                have HXV4 : Hid (V4.heap[xb]? = some (.cells #[.int .i64 (y : Int), .int .i64 lo, .int .i64 up] 36)) := (b4.block _ (block_lt HXV.out)).trans HXV.out
                have HXN : Hid (nb < xb) := by
                  have := HXV.out
                  show nb < xb
                  exact HNX2.out
                have HYN : Hid (yb < nb) := by have := HNW.out.1; have := block_lt HB2.out; show _ < _; omega
                have HXC : Hid (X = (comT E B (d.seq.drop (q + 1))).1) := HXEQ.out
                have HC1 := hid_ofF hC1
                have HE1 := hid_ofF hE1
                have HDH : Hid (dh = D hd) := hdh
                clear ye yc fc0 fy hC1 hE1 hxm hdy hdh
                go_upto_region 26 with fail
                have hV4' : V2.alloc (.cells #[.int .u64 ((dy.1 0 : Nat) : Int), .int .u64 ((dy.1 1 : Nat) : Int), .int .u64 ((dy.1 2 : Nat) : Int), .int .u64 ((dy.1 3 : Nat) : Int), .bool dy.2] 55) = V4 := hV4.symm
                rw [hV4', ← hdb]
                clear hV4' hV4 hdb fy0 fy1 fy2 fy3 fy4 s0 s1 s2
                have K1 : Hid (∀ w, Below V4.heap.size V4 w → Calls Try.prog 10 #[.int .i64 0, bv dy.1, bv X] w fun e w' => e = .returned (bv dy.1) ∧ Below V4.heap.size V4 w') := fun w hb => (mix_le dy.1 X w okdy okX hX1).mono fun e w' ⟨a, b⟩ => ⟨a, hb.trans (b.mono hb.size)⟩
                have D0 : V4.cell? ⟨db, 0, none⟩ = some (.int .u64 ((dy.1 0 : Nat) : Int)) := Lib.cell_of_heap hdv 0
                have D1 : V4.cell? ⟨db, 1, none⟩ = some (.int .u64 ((dy.1 1 : Nat) : Int)) := Lib.cell_of_heap hdv 1
                have D2 : V4.cell? ⟨db, 2, none⟩ = some (.int .u64 ((dy.1 2 : Nat) : Int)) := Lib.cell_of_heap hdv 2
                have D3 : V4.cell? ⟨db, 3, none⟩ = some (.int .u64 ((dy.1 3 : Nat) : Int)) := Lib.cell_of_heap hdv 3
                have D4 : V4.cell? ⟨db, 4, none⟩ = some (.bool dy.2) := Lib.cell_of_heap hdv 4
                have N0 : V4.cell? ⟨nb, 0, none⟩ = some (.int .u64 ((X 0 : Nat) : Int)) := Lib.cell_of_heap HN4.out 0
                have N1 : V4.cell? ⟨nb, 1, none⟩ = some (.int .u64 ((X 1 : Nat) : Int)) := Lib.cell_of_heap HN4.out 1
                have N2 : V4.cell? ⟨nb, 2, none⟩ = some (.int .u64 ((X 2 : Nat) : Int)) := Lib.cell_of_heap HN4.out 2
                have N3 : V4.cell? ⟨nb, 3, none⟩ = some (.int .u64 ((X 3 : Nat) : Int)) := Lib.cell_of_heap HN4.out 3
                have XR : Hid (BxF _ _ _ _ V4) := XE.out.any HB4.out
                obtain ⟨-, -, c0, c1, c2⟩ := XR.out
                obtain ⟨x0, -, -⟩ := HRR.out V4 HB4.out
                obtain ⟨-, -, fc0⟩ := HCE.out V4 HB4.out
                have fh := fc0 hd hdn
                rw [← HDH.out] at fh
                have h0 : V4.cell? ⟨fb, hd * 5, none⟩ = some (.int .u64 ((dh.1 0 : Nat) : Int)) := fh 0 (by omega)
                have h1 : V4.cell? ⟨fb, hd * 5 + 1, none⟩ = some (.int .u64 ((dh.1 1 : Nat) : Int)) := fh 1 (by omega)
                have h2 : V4.cell? ⟨fb, hd * 5 + 2, none⟩ = some (.int .u64 ((dh.1 2 : Nat) : Int)) := fh 2 (by omega)
                have h3 : V4.cell? ⟨fb, hd * 5 + 3, none⟩ = some (.int .u64 ((dh.1 3 : Nat) : Int)) := fh 3 (by omega)
                have h4 : V4.cell? ⟨fb, hd * 5 + 4, none⟩ = some (.bool dh.2) := fh 4 (by omega)
                have hltI : (i : Int) < (m : Int) := by omega
                have hdI2 : (hd : Int) < (n : Int) := by omega
                clear fc0 fh hdv XR
                cases t with
                | false =>
                  as_aux_lemma =>
                    have K2 := K1
                    clear hX2 okdy okdh hX1 hle hpt
                    obtain ⟨ι, f, n0, hf0, hf, hcl⟩ := family2F (fun w' => Below V4.heap.size V4 w') V4.drew (Below.refl _ _).drew
                    have hne0 : Nonempty ι := ⟨n0⟩
                    have z0 := fun n => laterF D0 (hf n)
                    have z1 := fun n => laterF D1 (hf n)
                    have z2 := fun n => laterF D2 (hf n)
                    have z3 := fun n => laterF D3 (hf n)
                    have z4 := fun n => laterF D4 (hf n)
                    have z5 := fun n => laterF N0 (hf n)
                    have z6 := fun n => laterF N1 (hf n)
                    have z7 := fun n => laterF N2 (hf n)
                    have z8 := fun n => laterF N3 (hf n)
                    have z9 := fun n => laterF c0 (hf n)
                    have za := fun n => laterF c1 (hf n)
                    have zb := fun n => laterF c2 (hf n)
                    have zc := fun n => laterF x0 (hf n)
                    have zd := fun n => laterF h0 (hf n)
                    have ze := fun n => laterF h1 (hf n)
                    have zf := fun n => laterF h2 (hf n)
                    have zg := fun n => laterF h3 (hf n)
                    have zh := fun n => laterF h4 (hf n)
                    clear D0 D1 D2 D3 D4 N0 N1 N2 N3 c0 c1 c2 x0 h0 h1 h2 h3 h4
                    refine region_classF f (by kernel_rfl) (by kernel_rfl) ⟨n0, hf0⟩ ?_
                    clear hf0
                    have k1' := K1.out
                    have k2' := K2.out
                    repeat (go_big_quiet_step (first | (go_at_call 10; (with_reducible refine (k1' _ (hf _)).mono ?_; rintro e w' ⟨rfl, hb⟩; exact ⟨rfl, hcl _ hb⟩)) | (go_at_call 10; (with_reducible refine (k2' _ (hf _)).mono ?_; rintro e w' ⟨rfl, hb⟩; exact ⟨rfl, hcl _ hb⟩))))
                    clear k1' k2'
                    refine wpQuiet_nil ?_
                    intro w9 hw9
                    obtain ⟨mm, rfl⟩ := hw9
                    have H9 : Hid (Below V4.heap.size V4 (f mm)) := hf mm
                    generalize f mm = w9 at H9
                    clear hcl hf hne0 n0 z0 z1 z2 z3 z4 z5 z6 z7 z8 z9 za zb zc zd ze zf zg zh
                    clear f
                    have HN9 : Hid (WbAt w9 nb X) := HN4.out.keep H9.out
                    have HB9 : Hid (Below we.heap.size we w9) := HB4.out.trans (H9.out.mono HB4.out.size)
                    have HBY9 : Hid (Below Y.heap.size Y w9) := HBY4.out.trans (H9.out.mono HBY4.out.size)
                    have HX9 : Hid (w9.heap[xb]? = some (.cells #[.int .i64 (y : Int), .int .i64 lo, .int .i64 up] 36)) := (H9.out.block _ (block_lt HXV4.out)).trans HXV4.out
                    have x0 : w9.cell? ⟨xb, 0, none⟩ = some (.int .i64 (y : Int)) := Lib.cell_of_heap HX9.out 0
                    have ey := (HCE.out w9 HB9.out).1 y hyn
                    cases hEy : E y with
                    | true =>
                      rw [hEy] at ey
                      have HR1 : Hid ((comT E B (d.seq.drop q)).1 = orB X (B y) ∧ empB E (d.seq.drop q) = false) := by
                        rw [HC1.out, HE1.out, com_yes hEy, sym_nm, hEy, ← HXC.out]
                        exact ⟨orB_comm _ _, rfl⟩
                      obtain ⟨b4, hb4⟩ : ∃ b, b = B y := ⟨_, rfl⟩
                      have bc := (HCE.out w9 HB9.out).2.1 y hyn
                      have okb : okB b4 := by rw [hb4]; exact HOB.out y
                      rw [← hb4] at bc HR1
                      have y0 : w9.cell? ⟨yb, y * 4, none⟩ = some (.int .u64 ((b4 0 : Nat) : Int)) := bc 0 (by omega)
                      have y1 : w9.cell? ⟨yb, y * 4 + 1, none⟩ = some (.int .u64 ((b4 1 : Nat) : Int)) := bc 1 (by omega)
                      have y2 : w9.cell? ⟨yb, y * 4 + 2, none⟩ = some (.int .u64 ((b4 2 : Nat) : Int)) := bc 2 (by omega)
                      have y3 : w9.cell? ⟨yb, y * 4 + 3, none⟩ = some (.int .u64 ((b4 3 : Nat) : Int)) := bc 3 (by omega)
                      obtain ⟨X', hX'⟩ : ∃ x, x = orB X b4 := ⟨_, rfl⟩
                      have KX : Hid (∀ w, Calls Try.prog 10 #[.int .i64 0, bv X, bv b4] w fun e w' => e = .returned (bv X') ∧ Below w.heap.size w w') := fun w => by rw [hX']; exact rmix_or X b4 w okX okb
                      rw [← hX'] at HR1
                      have ny : xb ≠ nb ∧ yb ≠ nb := ⟨by have := HXN.out; omega, by have := HYN.out; omega⟩
                      have HSS : Hid (∀ w', But w9.heap.size nb w9 w' → But w9.heap.size nb w9 w' ∧ w'.cell? ⟨xb, 0, none⟩ = some (.int .i64 (y : Int)) ∧ w'.cell? ⟨yb, y * 4, none⟩ = some (.int .u64 ((b4 0 : Nat) : Int)) ∧ w'.cell? ⟨yb, y * 4 + 1, none⟩ = some (.int .u64 ((b4 1 : Nat) : Int)) ∧ w'.cell? ⟨yb, y * 4 + 2, none⟩ = some (.int .u64 ((b4 2 : Nat) : Int)) ∧ w'.cell? ⟨yb, y * 4 + 3, none⟩ = some (.int .u64 ((b4 3 : Nat) : Int))) := fun w' h => by
                        have T : ∀ {b o : Nat} {v : Value}, w9.cell? ⟨b, o, none⟩ = some v → b ≠ nb → w'.cell? ⟨b, o, none⟩ = some v := fun hc hne => (h.cell (p := ⟨_, _, none⟩) (cell_in hc) hne).trans hc
                        exact ⟨h, T x0 ny.1, T y0 ny.2, T y1 ny.2, T y2 ny.2, T y3 ny.2⟩
                      clear hX' hb4 bc okb hEy ny
                      go_upto_region 29 with fail
                      refine wp_region_noPanic ?_
                      refine wp_region_held_drew (S := fun w' => But w9.heap.size nb w9 w' ∧ w'.cell? ⟨xb, 0, none⟩ = some (.int .i64 (y : Int)) ∧ w'.cell? ⟨yb, y * 4, none⟩ = some (.int .u64 ((b4 0 : Nat) : Int)) ∧ w'.cell? ⟨yb, y * 4 + 1, none⟩ = some (.int .u64 ((b4 1 : Nat) : Int)) ∧ w'.cell? ⟨yb, y * 4 + 2, none⟩ = some (.int .u64 ((b4 2 : Nat) : Int)) ∧ w'.cell? ⟨yb, y * 4 + 3, none⟩ = some (.int .u64 ((b4 3 : Nat) : Int))) (by kernel_rfl) (HSS.out _ (But.refl _ _ _).drew) (fun hHeld => ?_)
                      clear x0 ey y0 y1 y2 y3
                      refine wpAnyH_take (i := 1) (oi := _) (v := ?_) rfl (by kernel_rfl) (by kernel_rfl) (by kernel_rfl) (fun _ _ _ h => h) (Or.inl ⟨by rfl, ?_⟩) (by assumption) ?_
                      rotate_left
                      · intro w' hSw; (try dsimp only at hSw); go_simp; (try with_reducible rfl)
                      simp only [Act.put, List.setIfInBounds_toArray, List.set_cons_zero, List.set_cons_succ]
                      refine wpAnyH_take (i := 2) (oi := _) (v := ?_) rfl (by kernel_rfl) (by kernel_rfl) (by kernel_rfl) (fun _ _ _ h => h) (Or.inl ⟨by rfl, ?_⟩) (by assumption) ?_
                      rotate_left
                      · intro w' hSw; (try dsimp only at hSw); go_simp; (try with_reducible rfl)
                      simp only [Act.put, List.setIfInBounds_toArray, List.set_cons_zero, List.set_cons_succ]
                      refine wpAnyH_take (i := 3) (oi := _) (v := ?_) rfl (by kernel_rfl) (by kernel_rfl) (by kernel_rfl) (fun _ _ _ h => h) (Or.inl ⟨by rfl, ?_⟩) (by assumption) ?_
                      rotate_left
                      · intro w' hSw; (try dsimp only at hSw); go_simp; (try with_reducible rfl)
                      simp only [Act.put, List.setIfInBounds_toArray, List.set_cons_zero, List.set_cons_succ]
                      refine wpAnyH_take (i := 4) (oi := _) (v := ?_) rfl (by kernel_rfl) (by kernel_rfl) (by kernel_rfl) (fun _ _ _ h => h) (Or.inl ⟨by rfl, ?_⟩) (by assumption) ?_
                      rotate_left
                      · intro w' hSw; (try dsimp only at hSw); go_simp; (try with_reducible rfl)
                      simp only [Act.put, List.setIfInBounds_toArray, List.set_cons_zero, List.set_cons_succ]
                      refine wpAnyH_take (i := 5) (oi := _) (v := ?_) rfl (by kernel_rfl) (by kernel_rfl) (by kernel_rfl) (fun _ _ _ h => h) (Or.inl ⟨by rfl, ?_⟩) (by assumption) ?_
                      rotate_left
                      · intro w' hSw; (try dsimp only at hSw); go_simp; (try with_reducible rfl)
                      simp only [Act.put, List.setIfInBounds_toArray, List.set_cons_zero, List.set_cons_succ]
                      refine wpAnyH_ready (rs := [0]) (by kernel_rfl) (by simp) ?_
                      refine AllReadyH.cons rfl (fun K hK => ?_) ?_
                      · have n0 : w9.drew.cell? ⟨nb, 0, none⟩ = some (.int .u64 ((X 0 : Nat) : Int)) := Lib.cell_of_heap HN9.out 0
                        have n1 : w9.drew.cell? ⟨nb, 1, none⟩ = some (.int .u64 ((X 1 : Nat) : Int)) := Lib.cell_of_heap HN9.out 1
                        have n2 : w9.drew.cell? ⟨nb, 2, none⟩ = some (.int .u64 ((X 2 : Nat) : Int)) := Lib.cell_of_heap HN9.out 2
                        have n3 : w9.drew.cell? ⟨nb, 3, none⟩ = some (.int .u64 ((X 3 : Nat) : Int)) := Lib.cell_of_heap HN9.out 3
                        go_simp
                        refine hK.out _ _ (HSS.out _ (But.refl _ _ _).drew) (fun hHeld => ?_)
                        clear hK K n0 n1 n2 n3
                        refine wpAnyH_ready (rs := [6]) (by kernel_rfl) (by simp) ?_
                        refine AllReadyH.cons rfl (fun K hK => ?_) ?_
                        · go_simp
                          refine (KX.out _).mono ?_
                          rintro e wz ⟨rfl, bz⟩
                          have HBZ : Hid (Below w9.heap.size w9 wz) := (Below.refl _ _).drew.trans bz
                          refine hK.out _ _ (HSS.out _ (But.of HBZ.out)) (fun hHeld => ?_)
                          clear hK K bz
                          refine wpAnyH_ready (rs := [7]) (by kernel_rfl) (by simp) ?_
                          refine AllReadyH.cons rfl (fun K hK => ?_) ?_
                          · have HNZ : Hid (WbAt wz nb X) := HN9.out.keep HBZ.out
                            have n0 : wz.cell? ⟨nb, 0, none⟩ = some (.int .u64 ((X 0 : Nat) : Int)) := Lib.cell_of_heap HNZ.out 0
                            have n1 : wz.cell? ⟨nb, 1, none⟩ = some (.int .u64 ((X 1 : Nat) : Int)) := Lib.cell_of_heap HNZ.out 1
                            have n2 : wz.cell? ⟨nb, 2, none⟩ = some (.int .u64 ((X 2 : Nat) : Int)) := Lib.cell_of_heap HNZ.out 2
                            have n3 : wz.cell? ⟨nb, 3, none⟩ = some (.int .u64 ((X 3 : Nat) : Int)) := Lib.cell_of_heap HNZ.out 3
                            have f0 : wz.frozen? ⟨nb, 0, none⟩ = false := frzV HNZ.out 0
                            have f1 : wz.frozen? ⟨nb, 1, none⟩ = false := frzV HNZ.out 1
                            have f2 : wz.frozen? ⟨nb, 2, none⟩ = false := frzV HNZ.out 2
                            have f3 : wz.frozen? ⟨nb, 3, none⟩ = false := frzV HNZ.out 3
                            have nl : nb < wz.heap.size := block_lt HNZ.out
                            go_simp
                            refine hK.out _ _ (HSS.out _ (but_setW (But.of HBZ.out) X')) (fun hHeld => ?_)
                            clear hK K
                            refine wpAnyH_done (by kernel_rfl) ?_ _
                            refine NoPanic.normal ?_
                            clear hHeld n0 n1 n2 n3 f0 f1 f2 f3 nl
                            go_wp2
                            go_roundw
                            case rel => exact ⟨q, by omega, by go_num, by rw [HR1.out.2], by rw [HR1.out.1]; exact HNZ.out.set X', bel_setW (HB9.out.trans (HBZ.out.mono HB9.out.size)) HNW.out.1 X', bel_setW (HBY9.out.trans (HBZ.out.mono HBY9.out.size)) HNW.out.2 X'⟩
                            case measure => simp [intOf]
                          exact AllReadyH.nil
                        exact AllReadyH.nil
                      exact AllReadyH.nil
                    | false =>
                      rw [hEy] at ey
                      have HR1 : Hid ((comT E B (d.seq.drop q)).1 = B y ∧ empB E (d.seq.drop q) = false) := by
                        rw [HC1.out, HE1.out, com_no hEy, sym_nm, hEy]
                        exact ⟨rfl, rfl⟩
                      obtain ⟨b4, hb4⟩ : ∃ b, b = B y := ⟨_, rfl⟩
                      have bc := (HCE.out w9 HB9.out).2.1 y hyn
                      rw [← hb4] at bc HR1
                      have y0 : w9.cell? ⟨yb, y * 4, none⟩ = some (.int .u64 ((b4 0 : Nat) : Int)) := bc 0 (by omega)
                      have y1 : w9.cell? ⟨yb, y * 4 + 1, none⟩ = some (.int .u64 ((b4 1 : Nat) : Int)) := bc 1 (by omega)
                      have y2 : w9.cell? ⟨yb, y * 4 + 2, none⟩ = some (.int .u64 ((b4 2 : Nat) : Int)) := bc 2 (by omega)
                      have y3 : w9.cell? ⟨yb, y * 4 + 3, none⟩ = some (.int .u64 ((b4 3 : Nat) : Int)) := bc 3 (by omega)
                      have n0 : w9.cell? ⟨nb, 0, none⟩ = some (.int .u64 ((X 0 : Nat) : Int)) := Lib.cell_of_heap HN9.out 0
                      have n1 : w9.cell? ⟨nb, 1, none⟩ = some (.int .u64 ((X 1 : Nat) : Int)) := Lib.cell_of_heap HN9.out 1
                      have n2 : w9.cell? ⟨nb, 2, none⟩ = some (.int .u64 ((X 2 : Nat) : Int)) := Lib.cell_of_heap HN9.out 2
                      have n3 : w9.cell? ⟨nb, 3, none⟩ = some (.int .u64 ((X 3 : Nat) : Int)) := Lib.cell_of_heap HN9.out 3
                      have f0 : w9.frozen? ⟨nb, 0, none⟩ = false := frzV HN9.out 0
                      have f1 : w9.frozen? ⟨nb, 1, none⟩ = false := frzV HN9.out 1
                      have f2 : w9.frozen? ⟨nb, 2, none⟩ = false := frzV HN9.out 2
                      have f3 : w9.frozen? ⟨nb, 3, none⟩ = false := frzV HN9.out 3
                      have nl : nb < w9.heap.size := block_lt HN9.out
                      clear hb4 bc hEy
                      go_wp2
                      go_roundw
                      case rel => exact ⟨q, by omega, by go_num, by rw [HR1.out.2], by rw [HR1.out.1]; exact HN9.out.set b4, bel_setW HB9.out HNW.out.1 b4, bel_setW HBY9.out HNW.out.2 b4⟩
                      case measure => simp [intOf]
                | true =>
                  have hX3 := hX2 rfl
                  have K2 : Hid (∀ w, Below V4.heap.size V4 w → Calls Try.prog 10 #[.int .i64 0, bv dy.1, bv dh.1] w fun e w' => e = .returned (bv dy.1) ∧ Below V4.heap.size V4 w') := fun w hb => (mix_le dy.1 dh.1 w okdy okdh hX3.1).mono fun e w' ⟨a, b⟩ => ⟨a, hb.trans (b.mono hb.size)⟩
                  clear hX2 okdy okdh hX1 hle hpt
                  obtain ⟨dhB, dhE⟩ := dh
                  cases dhE with
                  | false =>
                    as_aux_lemma =>
                      clear hX3
                      obtain ⟨ι, f, n0, hf0, hf, hcl⟩ := family2F (fun w' => Below V4.heap.size V4 w') V4.drew (Below.refl _ _).drew
                      have hne0 : Nonempty ι := ⟨n0⟩
                      have z0 := fun n => laterF D0 (hf n)
                      have z1 := fun n => laterF D1 (hf n)
                      have z2 := fun n => laterF D2 (hf n)
                      have z3 := fun n => laterF D3 (hf n)
                      have z4 := fun n => laterF D4 (hf n)
                      have z5 := fun n => laterF N0 (hf n)
                      have z6 := fun n => laterF N1 (hf n)
                      have z7 := fun n => laterF N2 (hf n)
                      have z8 := fun n => laterF N3 (hf n)
                      have z9 := fun n => laterF c0 (hf n)
                      have za := fun n => laterF c1 (hf n)
                      have zb := fun n => laterF c2 (hf n)
                      have zc := fun n => laterF x0 (hf n)
                      have zd := fun n => laterF h0 (hf n)
                      have ze := fun n => laterF h1 (hf n)
                      have zf := fun n => laterF h2 (hf n)
                      have zg := fun n => laterF h3 (hf n)
                      have zh := fun n => laterF h4 (hf n)
                      clear D0 D1 D2 D3 D4 N0 N1 N2 N3 c0 c1 c2 x0 h0 h1 h2 h3 h4
                      refine region_classF f (by kernel_rfl) (by kernel_rfl) ⟨n0, hf0⟩ ?_
                      clear hf0
                      have k1' := K1.out
                      have k2' := K2.out
                      repeat (go_big_quiet_step (first | (go_at_call 10; (with_reducible refine (k1' _ (hf _)).mono ?_; rintro e w' ⟨rfl, hb⟩; exact ⟨rfl, hcl _ hb⟩)) | (go_at_call 10; (with_reducible refine (k2' _ (hf _)).mono ?_; rintro e w' ⟨rfl, hb⟩; exact ⟨rfl, hcl _ hb⟩))))
                      clear k1' k2'
                      refine wpQuiet_nil ?_
                      intro w9 hw9
                      obtain ⟨mm, rfl⟩ := hw9
                      have H9 : Hid (Below V4.heap.size V4 (f mm)) := hf mm
                      generalize f mm = w9 at H9
                      clear hcl hf hne0 n0 z0 z1 z2 z3 z4 z5 z6 z7 z8 z9 za zb zc zd ze zf zg zh
                      clear f
                      have HN9 : Hid (WbAt w9 nb X) := HN4.out.keep H9.out
                      have HB9 : Hid (Below we.heap.size we w9) := HB4.out.trans (H9.out.mono HB4.out.size)
                      have HBY9 : Hid (Below Y.heap.size Y w9) := HBY4.out.trans (H9.out.mono HBY4.out.size)
                      have HX9 : Hid (w9.heap[xb]? = some (.cells #[.int .i64 (y : Int), .int .i64 lo, .int .i64 up] 36)) := (H9.out.block _ (block_lt HXV4.out)).trans HXV4.out
                      have x0 : w9.cell? ⟨xb, 0, none⟩ = some (.int .i64 (y : Int)) := Lib.cell_of_heap HX9.out 0
                      have ey := (HCE.out w9 HB9.out).1 y hyn
                      cases hEy : E y with
                      | true =>
                        rw [hEy] at ey
                        have HR1 : Hid ((comT E B (d.seq.drop q)).1 = orB X (B y) ∧ empB E (d.seq.drop q) = true) := by
                          rw [HC1.out, HE1.out, com_yes hEy, sym_nm, hEy, ← HXC.out]
                          exact ⟨orB_comm _ _, rfl⟩
                        obtain ⟨b4, hb4⟩ : ∃ b, b = B y := ⟨_, rfl⟩
                        have bc := (HCE.out w9 HB9.out).2.1 y hyn
                        have okb : okB b4 := by rw [hb4]; exact HOB.out y
                        rw [← hb4] at bc HR1
                        have y0 : w9.cell? ⟨yb, y * 4, none⟩ = some (.int .u64 ((b4 0 : Nat) : Int)) := bc 0 (by omega)
                        have y1 : w9.cell? ⟨yb, y * 4 + 1, none⟩ = some (.int .u64 ((b4 1 : Nat) : Int)) := bc 1 (by omega)
                        have y2 : w9.cell? ⟨yb, y * 4 + 2, none⟩ = some (.int .u64 ((b4 2 : Nat) : Int)) := bc 2 (by omega)
                        have y3 : w9.cell? ⟨yb, y * 4 + 3, none⟩ = some (.int .u64 ((b4 3 : Nat) : Int)) := bc 3 (by omega)
                        obtain ⟨X', hX'⟩ : ∃ x, x = orB X b4 := ⟨_, rfl⟩
                        have KX : Hid (∀ w, Calls Try.prog 10 #[.int .i64 0, bv X, bv b4] w fun e w' => e = .returned (bv X') ∧ Below w.heap.size w w') := fun w => by rw [hX']; exact rmix_or X b4 w okX okb
                        rw [← hX'] at HR1
                        have ny : xb ≠ nb ∧ yb ≠ nb := ⟨by have := HXN.out; omega, by have := HYN.out; omega⟩
                        have HSS : Hid (∀ w', But w9.heap.size nb w9 w' → But w9.heap.size nb w9 w' ∧ w'.cell? ⟨xb, 0, none⟩ = some (.int .i64 (y : Int)) ∧ w'.cell? ⟨yb, y * 4, none⟩ = some (.int .u64 ((b4 0 : Nat) : Int)) ∧ w'.cell? ⟨yb, y * 4 + 1, none⟩ = some (.int .u64 ((b4 1 : Nat) : Int)) ∧ w'.cell? ⟨yb, y * 4 + 2, none⟩ = some (.int .u64 ((b4 2 : Nat) : Int)) ∧ w'.cell? ⟨yb, y * 4 + 3, none⟩ = some (.int .u64 ((b4 3 : Nat) : Int))) := fun w' h => by
                          have T : ∀ {b o : Nat} {v : Value}, w9.cell? ⟨b, o, none⟩ = some v → b ≠ nb → w'.cell? ⟨b, o, none⟩ = some v := fun hc hne => (h.cell (p := ⟨_, _, none⟩) (cell_in hc) hne).trans hc
                          exact ⟨h, T x0 ny.1, T y0 ny.2, T y1 ny.2, T y2 ny.2, T y3 ny.2⟩
                        clear hX' hb4 bc okb hEy ny
                        go_upto_region 29 with fail
                        refine wp_region_noPanic ?_
                        refine wp_region_held_drew (S := fun w' => But w9.heap.size nb w9 w' ∧ w'.cell? ⟨xb, 0, none⟩ = some (.int .i64 (y : Int)) ∧ w'.cell? ⟨yb, y * 4, none⟩ = some (.int .u64 ((b4 0 : Nat) : Int)) ∧ w'.cell? ⟨yb, y * 4 + 1, none⟩ = some (.int .u64 ((b4 1 : Nat) : Int)) ∧ w'.cell? ⟨yb, y * 4 + 2, none⟩ = some (.int .u64 ((b4 2 : Nat) : Int)) ∧ w'.cell? ⟨yb, y * 4 + 3, none⟩ = some (.int .u64 ((b4 3 : Nat) : Int))) (by kernel_rfl) (HSS.out _ (But.refl _ _ _).drew) (fun hHeld => ?_)
                        clear x0 ey y0 y1 y2 y3
                        refine wpAnyH_take (i := 1) (oi := _) (v := ?_) rfl (by kernel_rfl) (by kernel_rfl) (by kernel_rfl) (fun _ _ _ h => h) (Or.inl ⟨by rfl, ?_⟩) (by assumption) ?_
                        rotate_left
                        · intro w' hSw; (try dsimp only at hSw); go_simp; (try with_reducible rfl)
                        simp only [Act.put, List.setIfInBounds_toArray, List.set_cons_zero, List.set_cons_succ]
                        refine wpAnyH_take (i := 2) (oi := _) (v := ?_) rfl (by kernel_rfl) (by kernel_rfl) (by kernel_rfl) (fun _ _ _ h => h) (Or.inl ⟨by rfl, ?_⟩) (by assumption) ?_
                        rotate_left
                        · intro w' hSw; (try dsimp only at hSw); go_simp; (try with_reducible rfl)
                        simp only [Act.put, List.setIfInBounds_toArray, List.set_cons_zero, List.set_cons_succ]
                        refine wpAnyH_take (i := 3) (oi := _) (v := ?_) rfl (by kernel_rfl) (by kernel_rfl) (by kernel_rfl) (fun _ _ _ h => h) (Or.inl ⟨by rfl, ?_⟩) (by assumption) ?_
                        rotate_left
                        · intro w' hSw; (try dsimp only at hSw); go_simp; (try with_reducible rfl)
                        simp only [Act.put, List.setIfInBounds_toArray, List.set_cons_zero, List.set_cons_succ]
                        refine wpAnyH_take (i := 4) (oi := _) (v := ?_) rfl (by kernel_rfl) (by kernel_rfl) (by kernel_rfl) (fun _ _ _ h => h) (Or.inl ⟨by rfl, ?_⟩) (by assumption) ?_
                        rotate_left
                        · intro w' hSw; (try dsimp only at hSw); go_simp; (try with_reducible rfl)
                        simp only [Act.put, List.setIfInBounds_toArray, List.set_cons_zero, List.set_cons_succ]
                        refine wpAnyH_take (i := 5) (oi := _) (v := ?_) rfl (by kernel_rfl) (by kernel_rfl) (by kernel_rfl) (fun _ _ _ h => h) (Or.inl ⟨by rfl, ?_⟩) (by assumption) ?_
                        rotate_left
                        · intro w' hSw; (try dsimp only at hSw); go_simp; (try with_reducible rfl)
                        simp only [Act.put, List.setIfInBounds_toArray, List.set_cons_zero, List.set_cons_succ]
                        refine wpAnyH_ready (rs := [0]) (by kernel_rfl) (by simp) ?_
                        refine AllReadyH.cons rfl (fun K hK => ?_) ?_
                        · have n0 : w9.drew.cell? ⟨nb, 0, none⟩ = some (.int .u64 ((X 0 : Nat) : Int)) := Lib.cell_of_heap HN9.out 0
                          have n1 : w9.drew.cell? ⟨nb, 1, none⟩ = some (.int .u64 ((X 1 : Nat) : Int)) := Lib.cell_of_heap HN9.out 1
                          have n2 : w9.drew.cell? ⟨nb, 2, none⟩ = some (.int .u64 ((X 2 : Nat) : Int)) := Lib.cell_of_heap HN9.out 2
                          have n3 : w9.drew.cell? ⟨nb, 3, none⟩ = some (.int .u64 ((X 3 : Nat) : Int)) := Lib.cell_of_heap HN9.out 3
                          go_simp
                          refine hK.out _ _ (HSS.out _ (But.refl _ _ _).drew) (fun hHeld => ?_)
                          clear hK K n0 n1 n2 n3
                          refine wpAnyH_ready (rs := [6]) (by kernel_rfl) (by simp) ?_
                          refine AllReadyH.cons rfl (fun K hK => ?_) ?_
                          · go_simp
                            refine (KX.out _).mono ?_
                            rintro e wz ⟨rfl, bz⟩
                            have HBZ : Hid (Below w9.heap.size w9 wz) := (Below.refl _ _).drew.trans bz
                            refine hK.out _ _ (HSS.out _ (But.of HBZ.out)) (fun hHeld => ?_)
                            clear hK K bz
                            refine wpAnyH_ready (rs := [7]) (by kernel_rfl) (by simp) ?_
                            refine AllReadyH.cons rfl (fun K hK => ?_) ?_
                            · have HNZ : Hid (WbAt wz nb X) := HN9.out.keep HBZ.out
                              have n0 : wz.cell? ⟨nb, 0, none⟩ = some (.int .u64 ((X 0 : Nat) : Int)) := Lib.cell_of_heap HNZ.out 0
                              have n1 : wz.cell? ⟨nb, 1, none⟩ = some (.int .u64 ((X 1 : Nat) : Int)) := Lib.cell_of_heap HNZ.out 1
                              have n2 : wz.cell? ⟨nb, 2, none⟩ = some (.int .u64 ((X 2 : Nat) : Int)) := Lib.cell_of_heap HNZ.out 2
                              have n3 : wz.cell? ⟨nb, 3, none⟩ = some (.int .u64 ((X 3 : Nat) : Int)) := Lib.cell_of_heap HNZ.out 3
                              have f0 : wz.frozen? ⟨nb, 0, none⟩ = false := frzV HNZ.out 0
                              have f1 : wz.frozen? ⟨nb, 1, none⟩ = false := frzV HNZ.out 1
                              have f2 : wz.frozen? ⟨nb, 2, none⟩ = false := frzV HNZ.out 2
                              have f3 : wz.frozen? ⟨nb, 3, none⟩ = false := frzV HNZ.out 3
                              have nl : nb < wz.heap.size := block_lt HNZ.out
                              go_simp
                              refine hK.out _ _ (HSS.out _ (but_setW (But.of HBZ.out) X')) (fun hHeld => ?_)
                              clear hK K
                              refine wpAnyH_done (by kernel_rfl) ?_ _
                              refine NoPanic.normal ?_
                              clear hHeld n0 n1 n2 n3 f0 f1 f2 f3 nl
                              go_wp2
                              go_roundw
                              case rel => exact ⟨q, by omega, by go_num, by rw [HR1.out.2], by rw [HR1.out.1]; exact HNZ.out.set X', bel_setW (HB9.out.trans (HBZ.out.mono HB9.out.size)) HNW.out.1 X', bel_setW (HBY9.out.trans (HBZ.out.mono HBY9.out.size)) HNW.out.2 X'⟩
                              case measure => simp [intOf]
                            exact AllReadyH.nil
                          exact AllReadyH.nil
                        exact AllReadyH.nil
                      | false =>
                        rw [hEy] at ey
                        have HR1 : Hid ((comT E B (d.seq.drop q)).1 = B y ∧ empB E (d.seq.drop q) = false) := by
                          rw [HC1.out, HE1.out, com_no hEy, sym_nm, hEy]
                          exact ⟨rfl, rfl⟩
                        obtain ⟨b4, hb4⟩ : ∃ b, b = B y := ⟨_, rfl⟩
                        have bc := (HCE.out w9 HB9.out).2.1 y hyn
                        rw [← hb4] at bc HR1
                        have y0 : w9.cell? ⟨yb, y * 4, none⟩ = some (.int .u64 ((b4 0 : Nat) : Int)) := bc 0 (by omega)
                        have y1 : w9.cell? ⟨yb, y * 4 + 1, none⟩ = some (.int .u64 ((b4 1 : Nat) : Int)) := bc 1 (by omega)
                        have y2 : w9.cell? ⟨yb, y * 4 + 2, none⟩ = some (.int .u64 ((b4 2 : Nat) : Int)) := bc 2 (by omega)
                        have y3 : w9.cell? ⟨yb, y * 4 + 3, none⟩ = some (.int .u64 ((b4 3 : Nat) : Int)) := bc 3 (by omega)
                        have n0 : w9.cell? ⟨nb, 0, none⟩ = some (.int .u64 ((X 0 : Nat) : Int)) := Lib.cell_of_heap HN9.out 0
                        have n1 : w9.cell? ⟨nb, 1, none⟩ = some (.int .u64 ((X 1 : Nat) : Int)) := Lib.cell_of_heap HN9.out 1
                        have n2 : w9.cell? ⟨nb, 2, none⟩ = some (.int .u64 ((X 2 : Nat) : Int)) := Lib.cell_of_heap HN9.out 2
                        have n3 : w9.cell? ⟨nb, 3, none⟩ = some (.int .u64 ((X 3 : Nat) : Int)) := Lib.cell_of_heap HN9.out 3
                        have f0 : w9.frozen? ⟨nb, 0, none⟩ = false := frzV HN9.out 0
                        have f1 : w9.frozen? ⟨nb, 1, none⟩ = false := frzV HN9.out 1
                        have f2 : w9.frozen? ⟨nb, 2, none⟩ = false := frzV HN9.out 2
                        have f3 : w9.frozen? ⟨nb, 3, none⟩ = false := frzV HN9.out 3
                        have nl : nb < w9.heap.size := block_lt HN9.out
                        clear hb4 bc hEy
                        go_wp2
                        go_roundw
                        case rel => exact ⟨q, by omega, by go_num, by rw [HR1.out.2], by rw [HR1.out.1]; exact HN9.out.set b4, bel_setW HB9.out HNW.out.1 b4, bel_setW HBY9.out HNW.out.2 b4⟩
                        case measure => simp [intOf]
                  | true =>
                    as_aux_lemma =>
                      have hye : dy.2 = true := hX3.2 rfl
                      rw [hye] at D4
                      clear hX3 hye
                      obtain ⟨ι, f, n0, hf0, hf, hcl⟩ := family2F (fun w' => Below V4.heap.size V4 w') V4.drew (Below.refl _ _).drew
                      have hne0 : Nonempty ι := ⟨n0⟩
                      have z0 := fun n => laterF D0 (hf n)
                      have z1 := fun n => laterF D1 (hf n)
                      have z2 := fun n => laterF D2 (hf n)
                      have z3 := fun n => laterF D3 (hf n)
                      have z4 := fun n => laterF D4 (hf n)
                      have z5 := fun n => laterF N0 (hf n)
                      have z6 := fun n => laterF N1 (hf n)
                      have z7 := fun n => laterF N2 (hf n)
                      have z8 := fun n => laterF N3 (hf n)
                      have z9 := fun n => laterF c0 (hf n)
                      have za := fun n => laterF c1 (hf n)
                      have zb := fun n => laterF c2 (hf n)
                      have zc := fun n => laterF x0 (hf n)
                      have zd := fun n => laterF h0 (hf n)
                      have ze := fun n => laterF h1 (hf n)
                      have zf := fun n => laterF h2 (hf n)
                      have zg := fun n => laterF h3 (hf n)
                      have zh := fun n => laterF h4 (hf n)
                      clear D0 D1 D2 D3 D4 N0 N1 N2 N3 c0 c1 c2 x0 h0 h1 h2 h3 h4
                      refine region_classF f (by kernel_rfl) (by kernel_rfl) ⟨n0, hf0⟩ ?_
                      clear hf0
                      have k1' := K1.out
                      have k2' := K2.out
                      repeat (go_big_quiet_step (first | (go_at_call 10; (with_reducible refine (k1' _ (hf _)).mono ?_; rintro e w' ⟨rfl, hb⟩; exact ⟨rfl, hcl _ hb⟩)) | (go_at_call 10; (with_reducible refine (k2' _ (hf _)).mono ?_; rintro e w' ⟨rfl, hb⟩; exact ⟨rfl, hcl _ hb⟩))))
                      clear k1' k2'
                      refine wpQuiet_nil ?_
                      intro w9 hw9
                      obtain ⟨mm, rfl⟩ := hw9
                      have H9 : Hid (Below V4.heap.size V4 (f mm)) := hf mm
                      generalize f mm = w9 at H9
                      clear hcl hf hne0 n0 z0 z1 z2 z3 z4 z5 z6 z7 z8 z9 za zb zc zd ze zf zg zh
                      clear f
                      have HN9 : Hid (WbAt w9 nb X) := HN4.out.keep H9.out
                      have HB9 : Hid (Below we.heap.size we w9) := HB4.out.trans (H9.out.mono HB4.out.size)
                      have HBY9 : Hid (Below Y.heap.size Y w9) := HBY4.out.trans (H9.out.mono HBY4.out.size)
                      have HX9 : Hid (w9.heap[xb]? = some (.cells #[.int .i64 (y : Int), .int .i64 lo, .int .i64 up] 36)) := (H9.out.block _ (block_lt HXV4.out)).trans HXV4.out
                      have x0 : w9.cell? ⟨xb, 0, none⟩ = some (.int .i64 (y : Int)) := Lib.cell_of_heap HX9.out 0
                      have ey := (HCE.out w9 HB9.out).1 y hyn
                      cases hEy : E y with
                      | true =>
                        rw [hEy] at ey
                        have HR1 : Hid ((comT E B (d.seq.drop q)).1 = orB X (B y) ∧ empB E (d.seq.drop q) = true) := by
                          rw [HC1.out, HE1.out, com_yes hEy, sym_nm, hEy, ← HXC.out]
                          exact ⟨orB_comm _ _, rfl⟩
                        obtain ⟨b4, hb4⟩ : ∃ b, b = B y := ⟨_, rfl⟩
                        have bc := (HCE.out w9 HB9.out).2.1 y hyn
                        have okb : okB b4 := by rw [hb4]; exact HOB.out y
                        rw [← hb4] at bc HR1
                        have y0 : w9.cell? ⟨yb, y * 4, none⟩ = some (.int .u64 ((b4 0 : Nat) : Int)) := bc 0 (by omega)
                        have y1 : w9.cell? ⟨yb, y * 4 + 1, none⟩ = some (.int .u64 ((b4 1 : Nat) : Int)) := bc 1 (by omega)
                        have y2 : w9.cell? ⟨yb, y * 4 + 2, none⟩ = some (.int .u64 ((b4 2 : Nat) : Int)) := bc 2 (by omega)
                        have y3 : w9.cell? ⟨yb, y * 4 + 3, none⟩ = some (.int .u64 ((b4 3 : Nat) : Int)) := bc 3 (by omega)
                        obtain ⟨X', hX'⟩ : ∃ x, x = orB X b4 := ⟨_, rfl⟩
                        have KX : Hid (∀ w, Calls Try.prog 10 #[.int .i64 0, bv X, bv b4] w fun e w' => e = .returned (bv X') ∧ Below w.heap.size w w') := fun w => by rw [hX']; exact rmix_or X b4 w okX okb
                        rw [← hX'] at HR1
                        have ny : xb ≠ nb ∧ yb ≠ nb := ⟨by have := HXN.out; omega, by have := HYN.out; omega⟩
                        have HSS : Hid (∀ w', But w9.heap.size nb w9 w' → But w9.heap.size nb w9 w' ∧ w'.cell? ⟨xb, 0, none⟩ = some (.int .i64 (y : Int)) ∧ w'.cell? ⟨yb, y * 4, none⟩ = some (.int .u64 ((b4 0 : Nat) : Int)) ∧ w'.cell? ⟨yb, y * 4 + 1, none⟩ = some (.int .u64 ((b4 1 : Nat) : Int)) ∧ w'.cell? ⟨yb, y * 4 + 2, none⟩ = some (.int .u64 ((b4 2 : Nat) : Int)) ∧ w'.cell? ⟨yb, y * 4 + 3, none⟩ = some (.int .u64 ((b4 3 : Nat) : Int))) := fun w' h => by
                          have T : ∀ {b o : Nat} {v : Value}, w9.cell? ⟨b, o, none⟩ = some v → b ≠ nb → w'.cell? ⟨b, o, none⟩ = some v := fun hc hne => (h.cell (p := ⟨_, _, none⟩) (cell_in hc) hne).trans hc
                          exact ⟨h, T x0 ny.1, T y0 ny.2, T y1 ny.2, T y2 ny.2, T y3 ny.2⟩
                        clear hX' hb4 bc okb hEy ny
                        go_upto_region 29 with fail
                        refine wp_region_noPanic ?_
                        refine wp_region_held_drew (S := fun w' => But w9.heap.size nb w9 w' ∧ w'.cell? ⟨xb, 0, none⟩ = some (.int .i64 (y : Int)) ∧ w'.cell? ⟨yb, y * 4, none⟩ = some (.int .u64 ((b4 0 : Nat) : Int)) ∧ w'.cell? ⟨yb, y * 4 + 1, none⟩ = some (.int .u64 ((b4 1 : Nat) : Int)) ∧ w'.cell? ⟨yb, y * 4 + 2, none⟩ = some (.int .u64 ((b4 2 : Nat) : Int)) ∧ w'.cell? ⟨yb, y * 4 + 3, none⟩ = some (.int .u64 ((b4 3 : Nat) : Int))) (by kernel_rfl) (HSS.out _ (But.refl _ _ _).drew) (fun hHeld => ?_)
                        clear x0 ey y0 y1 y2 y3
                        refine wpAnyH_take (i := 1) (oi := _) (v := ?_) rfl (by kernel_rfl) (by kernel_rfl) (by kernel_rfl) (fun _ _ _ h => h) (Or.inl ⟨by rfl, ?_⟩) (by assumption) ?_
                        rotate_left
                        · intro w' hSw; (try dsimp only at hSw); go_simp; (try with_reducible rfl)
                        simp only [Act.put, List.setIfInBounds_toArray, List.set_cons_zero, List.set_cons_succ]
                        refine wpAnyH_take (i := 2) (oi := _) (v := ?_) rfl (by kernel_rfl) (by kernel_rfl) (by kernel_rfl) (fun _ _ _ h => h) (Or.inl ⟨by rfl, ?_⟩) (by assumption) ?_
                        rotate_left
                        · intro w' hSw; (try dsimp only at hSw); go_simp; (try with_reducible rfl)
                        simp only [Act.put, List.setIfInBounds_toArray, List.set_cons_zero, List.set_cons_succ]
                        refine wpAnyH_take (i := 3) (oi := _) (v := ?_) rfl (by kernel_rfl) (by kernel_rfl) (by kernel_rfl) (fun _ _ _ h => h) (Or.inl ⟨by rfl, ?_⟩) (by assumption) ?_
                        rotate_left
                        · intro w' hSw; (try dsimp only at hSw); go_simp; (try with_reducible rfl)
                        simp only [Act.put, List.setIfInBounds_toArray, List.set_cons_zero, List.set_cons_succ]
                        refine wpAnyH_take (i := 4) (oi := _) (v := ?_) rfl (by kernel_rfl) (by kernel_rfl) (by kernel_rfl) (fun _ _ _ h => h) (Or.inl ⟨by rfl, ?_⟩) (by assumption) ?_
                        rotate_left
                        · intro w' hSw; (try dsimp only at hSw); go_simp; (try with_reducible rfl)
                        simp only [Act.put, List.setIfInBounds_toArray, List.set_cons_zero, List.set_cons_succ]
                        refine wpAnyH_take (i := 5) (oi := _) (v := ?_) rfl (by kernel_rfl) (by kernel_rfl) (by kernel_rfl) (fun _ _ _ h => h) (Or.inl ⟨by rfl, ?_⟩) (by assumption) ?_
                        rotate_left
                        · intro w' hSw; (try dsimp only at hSw); go_simp; (try with_reducible rfl)
                        simp only [Act.put, List.setIfInBounds_toArray, List.set_cons_zero, List.set_cons_succ]
                        refine wpAnyH_ready (rs := [0]) (by kernel_rfl) (by simp) ?_
                        refine AllReadyH.cons rfl (fun K hK => ?_) ?_
                        · have n0 : w9.drew.cell? ⟨nb, 0, none⟩ = some (.int .u64 ((X 0 : Nat) : Int)) := Lib.cell_of_heap HN9.out 0
                          have n1 : w9.drew.cell? ⟨nb, 1, none⟩ = some (.int .u64 ((X 1 : Nat) : Int)) := Lib.cell_of_heap HN9.out 1
                          have n2 : w9.drew.cell? ⟨nb, 2, none⟩ = some (.int .u64 ((X 2 : Nat) : Int)) := Lib.cell_of_heap HN9.out 2
                          have n3 : w9.drew.cell? ⟨nb, 3, none⟩ = some (.int .u64 ((X 3 : Nat) : Int)) := Lib.cell_of_heap HN9.out 3
                          go_simp
                          refine hK.out _ _ (HSS.out _ (But.refl _ _ _).drew) (fun hHeld => ?_)
                          clear hK K n0 n1 n2 n3
                          refine wpAnyH_ready (rs := [6]) (by kernel_rfl) (by simp) ?_
                          refine AllReadyH.cons rfl (fun K hK => ?_) ?_
                          · go_simp
                            refine (KX.out _).mono ?_
                            rintro e wz ⟨rfl, bz⟩
                            have HBZ : Hid (Below w9.heap.size w9 wz) := (Below.refl _ _).drew.trans bz
                            refine hK.out _ _ (HSS.out _ (But.of HBZ.out)) (fun hHeld => ?_)
                            clear hK K bz
                            refine wpAnyH_ready (rs := [7]) (by kernel_rfl) (by simp) ?_
                            refine AllReadyH.cons rfl (fun K hK => ?_) ?_
                            · have HNZ : Hid (WbAt wz nb X) := HN9.out.keep HBZ.out
                              have n0 : wz.cell? ⟨nb, 0, none⟩ = some (.int .u64 ((X 0 : Nat) : Int)) := Lib.cell_of_heap HNZ.out 0
                              have n1 : wz.cell? ⟨nb, 1, none⟩ = some (.int .u64 ((X 1 : Nat) : Int)) := Lib.cell_of_heap HNZ.out 1
                              have n2 : wz.cell? ⟨nb, 2, none⟩ = some (.int .u64 ((X 2 : Nat) : Int)) := Lib.cell_of_heap HNZ.out 2
                              have n3 : wz.cell? ⟨nb, 3, none⟩ = some (.int .u64 ((X 3 : Nat) : Int)) := Lib.cell_of_heap HNZ.out 3
                              have f0 : wz.frozen? ⟨nb, 0, none⟩ = false := frzV HNZ.out 0
                              have f1 : wz.frozen? ⟨nb, 1, none⟩ = false := frzV HNZ.out 1
                              have f2 : wz.frozen? ⟨nb, 2, none⟩ = false := frzV HNZ.out 2
                              have f3 : wz.frozen? ⟨nb, 3, none⟩ = false := frzV HNZ.out 3
                              have nl : nb < wz.heap.size := block_lt HNZ.out
                              go_simp
                              refine hK.out _ _ (HSS.out _ (but_setW (But.of HBZ.out) X')) (fun hHeld => ?_)
                              clear hK K
                              refine wpAnyH_done (by kernel_rfl) ?_ _
                              refine NoPanic.normal ?_
                              clear hHeld n0 n1 n2 n3 f0 f1 f2 f3 nl
                              go_wp2
                              go_roundw
                              case rel => exact ⟨q, by omega, by go_num, by rw [HR1.out.2], by rw [HR1.out.1]; exact HNZ.out.set X', bel_setW (HB9.out.trans (HBZ.out.mono HB9.out.size)) HNW.out.1 X', bel_setW (HBY9.out.trans (HBZ.out.mono HBY9.out.size)) HNW.out.2 X'⟩
                              case measure => simp [intOf]
                            exact AllReadyH.nil
                          exact AllReadyH.nil
                        exact AllReadyH.nil
                      | false =>
                        rw [hEy] at ey
                        have HR1 : Hid ((comT E B (d.seq.drop q)).1 = B y ∧ empB E (d.seq.drop q) = false) := by
                          rw [HC1.out, HE1.out, com_no hEy, sym_nm, hEy]
                          exact ⟨rfl, rfl⟩
                        obtain ⟨b4, hb4⟩ : ∃ b, b = B y := ⟨_, rfl⟩
                        have bc := (HCE.out w9 HB9.out).2.1 y hyn
                        rw [← hb4] at bc HR1
                        have y0 : w9.cell? ⟨yb, y * 4, none⟩ = some (.int .u64 ((b4 0 : Nat) : Int)) := bc 0 (by omega)
                        have y1 : w9.cell? ⟨yb, y * 4 + 1, none⟩ = some (.int .u64 ((b4 1 : Nat) : Int)) := bc 1 (by omega)
                        have y2 : w9.cell? ⟨yb, y * 4 + 2, none⟩ = some (.int .u64 ((b4 2 : Nat) : Int)) := bc 2 (by omega)
                        have y3 : w9.cell? ⟨yb, y * 4 + 3, none⟩ = some (.int .u64 ((b4 3 : Nat) : Int)) := bc 3 (by omega)
                        have n0 : w9.cell? ⟨nb, 0, none⟩ = some (.int .u64 ((X 0 : Nat) : Int)) := Lib.cell_of_heap HN9.out 0
                        have n1 : w9.cell? ⟨nb, 1, none⟩ = some (.int .u64 ((X 1 : Nat) : Int)) := Lib.cell_of_heap HN9.out 1
                        have n2 : w9.cell? ⟨nb, 2, none⟩ = some (.int .u64 ((X 2 : Nat) : Int)) := Lib.cell_of_heap HN9.out 2
                        have n3 : w9.cell? ⟨nb, 3, none⟩ = some (.int .u64 ((X 3 : Nat) : Int)) := Lib.cell_of_heap HN9.out 3
                        have f0 : w9.frozen? ⟨nb, 0, none⟩ = false := frzV HN9.out 0
                        have f1 : w9.frozen? ⟨nb, 1, none⟩ = false := frzV HN9.out 1
                        have f2 : w9.frozen? ⟨nb, 2, none⟩ = false := frzV HN9.out 2
                        have f3 : w9.frozen? ⟨nb, 3, none⟩ = false := frzV HN9.out 3
                        have nl : nb < w9.heap.size := block_lt HN9.out
                        clear hb4 bc hEy
                        go_wp2
                        go_roundw
                        case rel => exact ⟨q, by omega, by go_num, by rw [HR1.out.2], by rw [HR1.out.1]; exact HN9.out.set b4, bel_setW HB9.out HNW.out.1 b4, bel_setW HBY9.out HNW.out.2 b4⟩
                        case measure => simp [intOf]
        · obtain rfl : cl = j := by omega
          have hljI : ¬ (cl : Int) < (cl : Int) := by omega
          have hljD : decide ((cl : Int) < (cl : Int)) = false := decide_eq_false hljI
          have hltI : (i : Int) < (m : Int) := by omega
          clear hlj hj
          go_wp2
          go_roundw
          case rel => exact ⟨i + 1, by omega, by go_num, HBj⟩
          case measure => simp [intOf]; omega
    · obtain rfl : m = i := by omega
      have hltI : ¬ (m : Int) < (m : Int) := by omega
      have hltD : decide ((m : Int) < (m : Int)) = false := decide_eq_false hltI
      clear hlt hi
      go_wp2
      go_ret
      exact ⟨rfl, XE.out.1.trans (HBi.out.mono XE.out.1.size)⟩
end Go.Proofs.Ytopokicdgdjgkaa
