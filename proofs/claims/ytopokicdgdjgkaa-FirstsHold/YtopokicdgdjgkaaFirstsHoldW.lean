/- FirstsHold, walked. -/
import Derived.Test.YtopokicdgdjgkaaFirI
namespace Go.Proofs.Ytopokicdgdjgkaa
set_option linter.unusedVariables false
set_option linter.unusedSimpArgs false
open Go.ChangeShapes Go.WideShapes Go.ChangeAt Go.RowKit

set_option maxHeartbeats 4000000 in
set_option maxRecDepth 100000 in
theorem firstsHold_no (W : World) (s : Int) (v1 v2 : Value) (k1 k2 : Option Addr × Nat × Nat) (e1 : v1 = .slice k1.1 k1.2.1 k1.2.2) (e2 : v2 = .slice k2.1 k2.2.1 k2.2.2)
    (K1 : ∀ w, Below W.heap.size W w → Calls Try.prog 11 #[.agg #[.int .i64 s, v1, v2]] w fun e w' => e = .returned (.tuple #[.slice none 0 0, .int .i64 1200]) ∧ Hid (Below w.heap.size w w'))
    (K2 : ∀ w, Below W.heap.size W w → Calls Try.prog 12 #[.agg #[.int .i64 s, v1, v2]] w fun e w' => e = .returned (.tuple #[.slice none 0 0, .int .i64 1200]) ∧ Hid (Below w.heap.size w w')) :
    Calls Try.prog 4 #[.agg #[.int .i64 s, v1, v2]] W fun e W' => e = .returned (.bool true) ∧ Below W.heap.size W W' := by
  have HX1 : Hid (BxF W s v1 v2 (W.alloc (.cells #[.int .i64 s, v1, v2] 27))) := BxF.new _ _ _ _
  have H1 := hid_ofF K1
  have H2 := hid_ofF K2
  subst e1 e2
  clear K1 K2
  go_enter Try.func4, Try.ntmps4
  go_wp2_with (first
    | (go_at_call 7; refine (awake12_any _).mono ?_; rintro e wa ⟨rfl, ba⟩; have XA : Hid (BxF _ _ _ _ wa) := HX1.out.any ba.out; obtain ⟨-, z1, c0, c1, c2⟩ := XA.out)
    | (go_at_call 11; refine (H1.out _ XA.out.1).mono ?_; rintro e wb ⟨rfl, bb⟩; have XB : Hid (BxF _ _ _ _ wb) := XA.out.any bb.out; clear z1 c0 c1 c2; obtain ⟨-, z1, c0, c1, c2⟩ := XB.out)
    | (go_at_call 12; refine (H2.out _ XB.out.1).mono ?_; rintro e wc ⟨rfl, bc⟩; have XC : Hid (BxF _ _ _ _ wc) := XB.out.any bc.out; clear z1 c0 c1 c2)
    | (go_at_call 14; refine (num_any _ _).mono ?_; rintro e wn ⟨rfl, rfl⟩))
  go_ret
  exact ⟨rfl, XC.out.1⟩
set_option maxHeartbeats 80000000 in
set_option maxRecDepth 100000 in
theorem firstsHold_ok (W : World) (g : Gr) (v1 v2 : Value) (s : Int) (n : Nat) (hn : n ≤ 64) (hL : IsRus W Any v2 g.rules) (hl : g.rules.length ≤ 256) (hr : ∀ r, r ∈ g.rules → RuOk n r ∧ 0 ≤ r.head ∧ r.head < (n : Int)) (k1 : Option Addr × Nat) (e1 : v1 = .slice k1.1 n k1.2)
    (K1 : ∀ w, Below W.heap.size W w → Calls Try.prog 11 #[.agg #[.int .i64 s, v1, v2]] w fun e w' => ∃ eb E, e = .returned (.tuple #[.slice (some ⟨eb, 0, none⟩) n n, .int .i64 0]) ∧ w.heap.size ≤ eb ∧ Hid (BlAt w' eb n E) ∧ Hid (EmpOk g.rules E) ∧ Hid (Below w.heap.size w w'))
    (K2 : ∀ w, Below W.heap.size W w → Calls Try.prog 12 #[.agg #[.int .i64 s, v1, v2]] w fun e w' => ∃ bb E B, e = .returned (.tuple #[.slice (some ⟨bb, 0, none⟩) n n, .int .i64 0]) ∧ w.heap.size ≤ bb ∧ Hid (ByAt w' bb n B) ∧ Hid (FstOk g E B) ∧ Hid (Below w.heap.size w w'))
    (KM : ∀ w, Below W.heap.size W w → Calls Try.prog 15 #[.agg #[.int .i64 s, v1, v2]] w fun e w' => e = .returned (.bool true) ∧ Hid (Below w.heap.size w w')) :
    Calls Try.prog 4 #[.agg #[.int .i64 s, v1, v2]] W fun e W' => e = .returned (.bool true) ∧ Below W.heap.size W W' := by
  have HX1 : Hid (BxF W s v1 v2 (W.alloc (.cells #[.int .i64 s, v1, v2] 27))) := BxF.new _ _ _ _
  have H1 := hid_ofF K1
  have H2 := hid_ofF K2
  have HM := hid_ofF KM
  have HL : Hid (IsRus W Any v2 g.rules) := hL
  have HR := hid_ofF hr
  obtain ⟨p2, q2, e2⟩ := lngRF hL
  obtain ⟨m, hm⟩ : ∃ m, m = g.rules.length := ⟨_, rfl⟩
  have HML : Hid (m = g.rules.length) := hm
  rw [← hm] at e2 hl
  subst e1 e2
  clear K1 K2 KM hL hr hm
  go_enter Try.func4, Try.ntmps4
  go_upto_region 9 with (first
    | (go_at_call 7; refine (awake12_any _).mono ?_; rintro e wa ⟨rfl, ba⟩; have XA : Hid (BxF _ _ _ _ wa) := HX1.out.any ba.out; obtain ⟨-, z1, c0, c1, c2⟩ := XA.out)
    | (go_at_call 11; refine (H1.out _ XA.out.1).mono ?_; rintro e wb ⟨eb, E, rfl, -, E1, E2, bb⟩; have XB : Hid (BxF _ _ _ _ wb) := XA.out.any bb.out; clear z1 c0 c1 c2; obtain ⟨-, z1, c0, c1, c2⟩ := XB.out)
    | (go_at_call 12; refine (H2.out _ XB.out.1).mono ?_; rintro e wc ⟨yb, E', B, rfl, -, F1, F2, bc⟩; have XC : Hid (BxF _ _ _ _ wc) := XB.out.any bc.out; clear z1 c0 c1 c2; obtain ⟨-, z1, c0, c1, c2⟩ := XC.out)
    | (go_at_call 15; refine (HM.out _ XC.out.1).mono ?_; rintro e we ⟨rfl, be⟩; have XE : Hid (BxF _ _ _ _ we) := XC.out.any be.out; clear z1 c0 c1 c2; obtain ⟨-, z1, c0, c1, c2⟩ := XE.out)
    | (go_at_call 14; refine (num_any _ _).mono ?_; rintro e wn ⟨rfl, rfl⟩))
  have HLE : Hid (IsRus we Any (.slice p2 m q2) g.rules) := HL.out.any XE.out.1
  have HE2 : Hid (BlAt we eb n E) := (E1.out.keep bc.out).keep be.out
  have HB2 : Hid (ByAt we yb n B) := (be.out.block _ (block_lt F1.out)).trans F1.out
  have HFO : Hid (FstOk g E B) := by
    have e8 := emp_same E2.out F2.out.eo
    rw [e8]; exact F2.out
  have HOB : Hid (∀ k, okB (B k)) := F2.out.ok
  have HCE : Hid (∀ w', Below we.heap.size we w' → (∀ y, y < n → w'.cell? ⟨eb, y, none⟩ = some (.bool (E y))) ∧ (∀ y, y < n → ∀ j, j < 4 → w'.cell? ⟨yb, y * 4 + j, none⟩ = some (.int .u64 ((B y j : Nat) : Int)))) := fun w' h =>
    ⟨fun y hy => (HE2.out.keep h).cell hy, fun y hy j hj => ByAt.cell (w := w') (b := yb) ((h.block _ (block_lt HB2.out)).trans HB2.out) hy hj⟩
  have HYW : Hid (yb < we.heap.size) := block_lt HB2.out
  clear E1 E2 F1 F2 H1 H2 HM HL HE2 HB2 bb bc be XA XB XC HX1 ba
  go_wp2
  go_loopw [7] (fun x wr => ∃ k : Nat, k ≤ n ∧ x = .int .i64 (k : Int) ∧ Hid (Below we.heap.size we wr)) (fun x _ => n - (intOf x).toNat)
  case atStart => exact ⟨0, Nat.zero_le _, rfl, Below.refl _ _⟩
  case round =>
    obtain ⟨k, hk, rfl, HBk⟩ := hrel
    obtain ⟨U, hU⟩ : ∃ U, U = wr := ⟨_, rfl⟩
    subst hU
    clear z1 c0 c1 c2
    have XR : Hid (BxF _ _ _ _ U) := XE.out.any HBk.out
    obtain ⟨-, z1, c0, c1, c2⟩ := XR.out
    by_cases hlk : k < n
    · have hlkI : (k : Int) < (n : Int) := by omega
      have hlkD : decide ((k : Int) < (n : Int)) = true := decide_eq_true hlkI
      go_upto_region 14 with fail
      obtain ⟨nb, hnb⟩ : ∃ b, b = U.heap.size := ⟨_, rfl⟩
      obtain ⟨U2, hU2⟩ : ∃ w, w = U.alloc (.cells #[.int .u64 0, .int .u64 0, .int .u64 0, .int .u64 0] 39) := ⟨_, rfl⟩
      have bU : Below U.heap.size U U2 := by rw [hU2]; exact bel1 _ _
      have HNB : Hid (WbAt U2 nb zB) := by show _ = _; rw [hU2, hnb]; exact heap_alloc_new _ _
      have HBU : Hid (Below we.heap.size we U2) := HBk.out.trans (bU.mono HBk.out.size)
      have HNW : Hid (we.heap.size ≤ nb) := by rw [hnb]; exact HBk.out.size
      rw [← hU2, ← hnb]
      have HXM : Hid (W.heap.size < we.heap.size) := XE.out.2.1
      clear hU2 hnb bU z1 c0 c1 c2 XR hlkI hlkD
      go_wp2
      go_loopw [8, 10] (fun e x wr => ∃ (i : Nat) (b : Bool) (A : Nat → Nat), i ≤ m ∧ x = .int .i64 (i : Int) ∧ e = .bool b ∧ Hid (IvP E B k (S2 g.rules k i) b A) ∧ Hid (WbAt wr nb A) ∧ Hid (Below we.heap.size we wr)) (fun _ x _ => m - (intOf x).toNat)
      case atStart => exact ⟨0, false, zB, Nat.zero_le _, rfl, rfl, IvP.zero _ _ _ _, HNB, HBU⟩
      case round =>
        clear HNB HBU HBk
        obtain ⟨i, eb0, A, hi, rfl, rfl, HI, HN, HBi⟩ := hrel
        obtain ⟨V, hV⟩ : ∃ V, V = wr := ⟨_, rfl⟩
        subst hV
        have XR : Hid (BxF _ _ _ _ V) := XE.out.any HBi.out
        obtain ⟨-, z1, c0, c1, c2⟩ := XR.out
        by_cases hlt : i < m
        · have hltI : (i : Int) < (m : Int) := by omega
          have hltD : decide ((i : Int) < (m : Int)) = true := decide_eq_true hltI
          obtain ⟨r, hrr⟩ : ∃ r, g.rules[i]? = some r := ⟨_, List.getElem?_eq_getElem (by rw [← HML.out]; exact hlt)⟩
          obtain ⟨g1, o1, u1, hp, a0, a1, hcn⟩ := HLE.out.row hrr
          subst hp
          obtain ⟨⟨hcl, hrow⟩, hh0, hh1⟩ := HR.out r (List.mem_of_getElem? hrr)
          obtain ⟨p3, c3, hu1⟩ := lngCF hcn
          obtain ⟨cl, hcl2⟩ : ∃ cl, cl = r.conj.length := ⟨_, rfl⟩
          rw [← hcl2] at hu1 hcl
          have HCLN : Hid (cl = r.conj.length) := hcl2
          have hcl8 := hcl.2
          obtain ⟨hd, hhd⟩ : ∃ h : Nat, r.head = (h : Int) := ⟨r.head.toNat, by omega⟩
          subst hu1
          rw [hhd] at a0
          have HRR : Hid (∀ w', Below we.heap.size we w' → w'.cell? ⟨g1, o1 + i * 2, none⟩ = some (.int .i64 (hd : Int)) ∧ w'.cell? ⟨g1, o1 + i * 2 + 1, none⟩ = some (.slice p3 cl c3)) := fun w' h => ⟨laterF a0 h, laterF a1 h⟩
          have HCN : Hid (IsCns we Any (.slice p3 cl c3) r.conj) := hcn
          have HRM : Hid (r ∈ g.rules) := List.mem_of_getElem? hrr
          have HRI : Hid (g.rules[i]? = some r) := hrr
          have HROW := hid_ofF hrow
          have HHD : Hid (r.head.toNat = hd) := by show _ = _; rw [hhd, Int.toNat_natCast]
          obtain ⟨x0, x1⟩ := HRR.out V HBi.out
          clear hrr hcn hcl hrow hh0 hh1 hcl2 hhd a0 a1
          go_wp2
          clear z1 c0 c1 c2 x0 x1 hltI hltD XR
          go_loopw [8, 11] (fun e x wr => ∃ (j : Nat) (b : Bool) (A : Nat → Nat), j ≤ cl ∧ x = .int .i64 (j : Int) ∧ e = .bool b ∧ Hid (IvP E B k (S3 g.rules k i r j) b A) ∧ Hid (WbAt wr nb A) ∧ Hid (Below we.heap.size we wr)) (fun _ x _ => cl - (intOf x).toNat)
          case atStart => exact ⟨0, eb0, A, Nat.zero_le _, rfl, rfl, HI.out.into, HN, HBi⟩
          case round =>
            clear HI HN HBi
            obtain ⟨j, bj, A, hj, rfl, rfl, HI, HN, HBj⟩ := hrel
            obtain ⟨Y, hY⟩ : ∃ Y, Y = wr := ⟨_, rfl⟩
            subst hY
            have XR : Hid (BxF _ _ _ _ Y) := XE.out.any HBj.out
            obtain ⟨-, z1, c0, c1, c2⟩ := XR.out
            obtain ⟨x0, x1⟩ := HRR.out Y HBj.out
            have hltI : (i : Int) < (m : Int) := by omega
            by_cases hlj : j < cl
            · have hljI : (j : Int) < (cl : Int) := by omega
              have hljD : decide ((j : Int) < (cl : Int)) = true := decide_eq_true hljI
              by_cases hhk : hd = k
              · --SB
                have hkB : ((hd : Int) == (k : Int)) = true := by rw [hhk, beq_self_eq_true]
                obtain ⟨d, hdd⟩ : ∃ d, r.conj[j]? = some d := ⟨_, List.getElem?_eq_getElem (by rw [← HCLN.out]; exact hlj)⟩
                obtain ⟨g3, o3, u3, hp3, -, b1, hsy⟩ := HCN.out.row hdd
                subst hp3
                obtain ⟨p4, c4, hu3⟩ := hsy.slc
                obtain ⟨zl, hz⟩ : ∃ z, z = d.seq.length := ⟨_, rfl⟩
                rw [← hz] at hu3
                subst hu3
                have hrw := HROW.out d (List.mem_of_getElem? hdd)
                unfold mayRow at hrw
                simp only [Bool.and_eq_true, decide_eq_true_eq, List.all_eq_true] at hrw
                have HZL : Hid (zl = d.seq.length) := hz
                have hz64 : zl ≤ 64 := by rw [hz]; exact hrw.1
                have HMS := hid_ofF hrw.2
                have HSY : Hid (IsSys we Any (.slice p4 zl c4) d.seq) := hsy
                have HCJ : Hid (r.conj[j]? = some d) := hdd
                have HKH : Hid (r.head.toNat = k) := by show _ = _; rw [HHD.out, hhk]
                have HM0 : Hid (IvM E B k d.seq A 0 A) := IvM.zero HI.out.1 HI.out.2.1 (by have := HFO.out.cl r HRM.out d (List.mem_of_getElem? hdd); rw [HKH.out] at this; exact this)
                have bb1 := laterF b1 HBj.out
                clear hdd hsy hz hrw b1
                go_upto_region 21 with fail
                clear z1 c0 c1 c2 x0 x1 hltI hljI hljD XR bb1 hkB
                go_wp2
                go_loopw [13] (fun x wr => ∃ (q : Nat) (A' : Nat → Nat), q ≤ zl ∧ x = .int .i64 (q : Int) ∧ Hid (IvM E B k d.seq A q A') ∧ Hid (WbAt wr nb A') ∧ Hid (Below we.heap.size we wr)) (fun x _ => zl - (intOf x).toNat)
                case atStart => exact ⟨0, A, Nat.zero_le _, rfl, HM0, HN, HBj⟩
                case round =>
                  clear HM0 HN HBj
                  obtain ⟨q, A', hq, rfl, HIM, HN, HBq⟩ := hrel
                  obtain ⟨Z, hZ⟩ : ∃ Z, Z = wr := ⟨_, rfl⟩
                  subst hZ
                  by_cases hlq : q < zl
                  · have hlqI : (q : Int) < (zl : Int) := by omega
                    have hlqD : decide ((q : Int) < (zl : Int)) = true := decide_eq_true hlqI
                    have hqe : ((q : Int) == (zl : Int)) = false := by rw [beq_eq_false_iff_ne]; omega
                    obtain ⟨x, hx⟩ : ∃ x, d.seq[q]? = some x := ⟨_, List.getElem?_eq_getElem (by rw [← HZL.out]; exact hlq)⟩
                    obtain ⟨g5, o5, hp5, hg5, y0, y1, y2⟩ := HSY.out.cel hx
                    subst hp5
                    have hxm := HMS.out x (List.mem_of_getElem? hx)
                    have HG5 : Hid (g5 ≠ nb) := by have := HNW.out; show _ ≠ _; omega
                    obtain ⟨nm, lo, up⟩ := x
                    dsimp only at y0 y1 y2 hxm
                    have HYC : Hid (∀ w', Below we.heap.size we w' → w'.cell? ⟨g5, o5 + q * 3, none⟩ = some (.int .i64 nm) ∧ w'.cell? ⟨g5, o5 + q * 3 + 1, none⟩ = some (.int .i64 lo) ∧ w'.cell? ⟨g5, o5 + q * 3 + 2, none⟩ = some (.int .i64 up)) := fun w' h => ⟨laterF y0 h, laterF y1 h, laterF y2 h⟩
                    clear y0 y1 y2 hg5
                    have HXQ := hid_ofF hx
                    by_cases hnm : nm = -1
                    · --SE
                      subst hnm
                      obtain ⟨a, b, ha, hb, hab, hb2⟩ := may_range hxm rfl
                      dsimp only at ha hb
                      subst ha hb
                      obtain ⟨R, hR⟩ : ∃ R, R = rngB (a : Int) (b : Int) := ⟨_, rfl⟩
                      have okR : okB R := by rw [hR]; exact okB_rng _ _
                      have hst := HIM.out.stop hx (show symB E ⟨-1, (a : Int), (b : Int)⟩ = false by rfl) (R := R) (by rw [hR]; rfl) okR
                      have HIP : Hid (IvP E B k (S3 g.rules k i r (j + 1)) bj (orB A' R)) := HI.out.add HCJ.out hst.2.1 hst.2.2.1 hst.2.2.2.1 hst.1 (by rw [hst.2.2.2.2, Bool.or_false]) (by rw [hst.2.2.2.2]; intro h; cases h)
                      have KR : Hid (∀ w, Calls Try.prog 9 #[.int .i64 (a : Int), .int .i64 (b : Int)] w fun e w' => e = .returned (.tuple #[bv R, .int .i64 0]) ∧ Below w.heap.size w w') := fun w => by rw [hR]; exact rrange_yes a b w hb2 hab
                      obtain ⟨A2, hA2⟩ : ∃ x, x = orB A' R := ⟨_, rfl⟩
                      have KX : Hid (∀ w, Calls Try.prog 10 #[.int .i64 0, bv A', bv R] w fun e w' => e = .returned (bv A2) ∧ Below w.heap.size w w') := fun w => by rw [hA2]; exact rmix_or A' R w HIM.out.1 okR
                      rw [← hA2] at HIP
                      obtain ⟨t0, t1, t2⟩ := HYC.out Z HBq.out
                      clear hst hA2 hR okR hxm hx
                      cases bj with
                      | true =>
                        go_upto_region 29 with fail
                        clear t0 t1 t2
                        have HSR : Hid (∀ w', Below Z.heap.size Z w' → Below Z.heap.size Z w' ∧ w'.cell? ⟨g5, o5 + q * 3 + 1, none⟩ = some (.int .i64 (a : Int)) ∧ w'.cell? ⟨g5, o5 + q * 3 + 2, none⟩ = some (.int .i64 (b : Int))) := fun w' h => by
                          obtain ⟨t0, t1, t2⟩ := HYC.out w' (HBq.out.trans (h.mono HBq.out.size))
                          exact ⟨h, t1, t2⟩
                        have hbjf : ∀ b : Bool, (b != b) = false := fun b => by cases b <;> rfl
                        refine wp_region_noPanic ?_
                        refine wp_region_held_drew (S := fun w' => Below Z.heap.size Z w' ∧ w'.cell? ⟨g5, o5 + q * 3 + 1, none⟩ = some (.int .i64 (a : Int)) ∧ w'.cell? ⟨g5, o5 + q * 3 + 2, none⟩ = some (.int .i64 (b : Int))) (by kernel_rfl) (HSR.out _ (Below.refl _ _).drew) (fun hHeld => ?_)
                        refine wpAnyH_take (i := 0) (oi := _) (v := ?_) rfl (by kernel_rfl) (by kernel_rfl) (by kernel_rfl) (fun _ _ _ h => h) (Or.inl ⟨by rfl, ?_⟩) (by assumption) ?_
                        rotate_left
                        · intro w' hSw; (try dsimp only at hSw); go_simp; (try with_reducible rfl)
                        simp only [Act.put, List.setIfInBounds_toArray, List.set_cons_zero, List.set_cons_succ]
                        refine wpAnyH_take (i := 1) (oi := _) (v := ?_) rfl (by kernel_rfl) (by kernel_rfl) (by kernel_rfl) (fun _ _ _ h => h) (Or.inl ⟨by rfl, ?_⟩) (by assumption) ?_
                        rotate_left
                        · intro w' hSw; (try dsimp only at hSw); go_simp; (try with_reducible rfl)
                        simp only [Act.put, List.setIfInBounds_toArray, List.set_cons_zero, List.set_cons_succ]
                        refine wpAnyH_take (i := 2) (oi := _) (v := ?_) rfl (by kernel_rfl) (by kernel_rfl) (by kernel_rfl) (fun _ _ _ h => h) (Or.inl ⟨by rfl, ?_⟩) (by assumption) ?_
                        rotate_left
                        · intro w' hSw; (try dsimp only at hSw); go_simp; (try with_reducible rfl)
                        simp only [Act.put, List.setIfInBounds_toArray, List.set_cons_zero, List.set_cons_succ]
                        refine wpAnyH_take (i := 3) (oi := _) (v := ?_) rfl (by kernel_rfl) (by kernel_rfl) (by kernel_rfl) (fun _ _ _ h => h) (Or.inl ⟨by rfl, ?_⟩) (by assumption) ?_
                        rotate_left
                        · intro w' hSw; (try dsimp only at hSw); go_simp; (try with_reducible rfl)
                        simp only [Act.put, List.setIfInBounds_toArray, List.set_cons_zero, List.set_cons_succ]
                        refine wpAnyH_take (i := 4) (oi := _) (v := ?_) rfl (by kernel_rfl) (by kernel_rfl) (by kernel_rfl) (fun _ _ _ h => h) (Or.inl ⟨by rfl, ?_⟩) (by assumption) ?_
                        rotate_left
                        · intro w' hSw; (try dsimp only at hSw); go_simp; (try with_reducible rfl)
                        simp only [Act.put, List.setIfInBounds_toArray, List.set_cons_zero, List.set_cons_succ]
                        refine wpAnyH_take (i := 5) (oi := _) (v := ?_) rfl (by kernel_rfl) (by kernel_rfl) (by kernel_rfl) (fun _ _ _ h => h) (Or.inl ⟨by rfl, ?_⟩) (by assumption) ?_
                        rotate_left
                        · intro w' hSw; (try dsimp only at hSw); go_simp; (try with_reducible rfl)
                        simp only [Act.put, List.setIfInBounds_toArray, List.set_cons_zero, List.set_cons_succ]
                        refine wpAnyH_take (i := 6) (oi := _) (v := ?_) rfl (by kernel_rfl) (by kernel_rfl) (by kernel_rfl) (fun _ _ _ h => h) (Or.inl ⟨by rfl, ?_⟩) (by assumption) ?_
                        rotate_left
                        · intro w' hSw; (try dsimp only at hSw); go_simp; (try with_reducible rfl)
                        simp only [Act.put, List.setIfInBounds_toArray, List.set_cons_zero, List.set_cons_succ]
                        refine wpAnyH_take (i := 7) (oi := _) (v := ?_) rfl (by kernel_rfl) (by kernel_rfl) (by kernel_rfl) (fun _ _ _ h => h) (Or.inl ⟨by rfl, ?_⟩) (by assumption) ?_
                        rotate_left
                        · intro w' hSw; (try dsimp only at hSw); go_simp; (try with_reducible rfl)
                        simp only [Act.put, List.setIfInBounds_toArray, List.set_cons_zero, List.set_cons_succ]
                        refine wpAnyH_take (i := 8) (oi := _) (v := ?_) rfl (by kernel_rfl) (by kernel_rfl) (by kernel_rfl) (fun _ _ _ h => h) (Or.inl ⟨by rfl, ?_⟩) (by assumption) ?_
                        rotate_left
                        · intro w' hSw; (try dsimp only at hSw); go_simp; (try with_reducible rfl)
                        simp only [Act.put, List.setIfInBounds_toArray, List.set_cons_zero, List.set_cons_succ]
                        refine wpAnyH_take (i := 9) (oi := _) (v := ?_) rfl (by kernel_rfl) (by kernel_rfl) (by kernel_rfl) (fun _ _ _ h => h) (Or.inl ⟨by rfl, ?_⟩) (by assumption) ?_
                        rotate_left
                        · intro w' hSw; (try dsimp only at hSw); go_simp; (try with_reducible rfl)
                        simp only [Act.put, List.setIfInBounds_toArray, List.set_cons_zero, List.set_cons_succ]
                        refine wpAnyH_ready (rs := [10, 14]) (by kernel_rfl) (by simp) ?_
                        refine AllReadyH.cons rfl (fun K hK => ?_) ?_
                        · go_simp
                          refine (KR.out _).mono ?_
                          rintro e V1 ⟨rfl, b1⟩
                          have HV1 : Hid (Below Z.heap.size Z V1) := (Below.refl _ _).drew.trans b1
                          refine hK.out _ _ (HSR.out _ HV1.out) (fun hHeld => ?_)
                          clear hK K b1
                          refine wpAnyH_take (i := 11) (oi := _) (v := ?_) rfl (by kernel_rfl) (by kernel_rfl) (by kernel_rfl) (fun _ _ _ h => h) (Or.inl ⟨by rfl, ?_⟩) (by assumption) ?_
                          rotate_left
                          · intro w' hSw; (try dsimp only at hSw); go_simp; (try with_reducible rfl)
                          simp only [Act.put, List.setIfInBounds_toArray, List.set_cons_zero, List.set_cons_succ]
                          refine wpAnyH_take (i := 12) (oi := _) (v := ?_) rfl (by kernel_rfl) (by kernel_rfl) (by kernel_rfl) (fun _ _ _ h => h) (Or.inl ⟨by rfl, ?_⟩) (by assumption) ?_
                          rotate_left
                          · intro w' hSw; (try dsimp only at hSw); go_simp; (try with_reducible rfl)
                          simp only [Act.put, List.setIfInBounds_toArray, List.set_cons_zero, List.set_cons_succ]
                          refine wpAnyH_take (i := 13) (oi := _) (v := ?_) rfl (by kernel_rfl) (by kernel_rfl) (by kernel_rfl) (fun _ _ _ h => h) (Or.inl ⟨by rfl, ?_⟩) (by assumption) ?_
                          rotate_left
                          · intro w' hSw; (try dsimp only at hSw); go_simp; (try with_reducible rfl)
                          simp only [Act.put, List.setIfInBounds_toArray, List.set_cons_zero, List.set_cons_succ]
                          refine wpAnyH_ready (rs := [14]) (by kernel_rfl) (by simp) ?_
                          refine AllReadyH.cons rfl (fun K hK => ?_) ?_
                          · go_simp
                            obtain ⟨V3, hV⟩ : ∃ V, V = V1.alloc (.cells #[.int .u64 0, .int .u64 0, .int .u64 0, .int .u64 0] 39) := ⟨_, rfl⟩
                            obtain ⟨gx, hgx⟩ : ∃ gx, gx = V1.heap.size := ⟨_, rfl⟩
                            have HV3 : Hid (Below Z.heap.size Z V3) := by show Below _ _ _; rw [hV]; exact HV1.out.alloc HV1.out.size _
                            have hx : V3.heap[gx]? = some (.cells #[.int .u64 0, .int .u64 0, .int .u64 0, .int .u64 0] 39) := by rw [hV, hgx]; exact heap_alloc_new _ _
                            have HGX : Hid (Z.heap.size ≤ gx) := by show _ ≤ _; rw [hgx]; exact HV1.out.size
                            rw [← hV, ← hgx]
                            refine hK.out _ _ (HSR.out _ HV3.out) (fun hHeld => ?_)
                            clear hK K hV hgx
                            have r0 : V3.cell? ⟨gx, 0, none⟩ = some (.int .u64 0) := Lib.cell_of_heap hx 0
                            have r1 : V3.cell? ⟨gx, 1, none⟩ = some (.int .u64 0) := Lib.cell_of_heap hx 1
                            have r2 : V3.cell? ⟨gx, 2, none⟩ = some (.int .u64 0) := Lib.cell_of_heap hx 2
                            have r3 : V3.cell? ⟨gx, 3, none⟩ = some (.int .u64 0) := Lib.cell_of_heap hx 3
                            have f0 : V3.frozen? ⟨gx, 0, none⟩ = false := frzV hx 0
                            have f1 : V3.frozen? ⟨gx, 1, none⟩ = false := frzV hx 1
                            have f2 : V3.frozen? ⟨gx, 2, none⟩ = false := frzV hx 2
                            have f3 : V3.frozen? ⟨gx, 3, none⟩ = false := frzV hx 3
                            have rl : gx < V3.heap.size := block_lt hx
                            have HX3 := hid_ofF hx
                            clear hx
                            refine wpAnyH_ready (rs := [15]) (by kernel_rfl) (by simp) ?_
                            refine AllReadyH.cons rfl (fun K hK => ?_) ?_
                            · go_simp
                              refine hK.out _ _ (HSR.out _ (bel_setW HV3.out HGX.out R)) (fun hHeld => ?_)
                              clear hK K
                              refine wpAnyH_take (i := 16) (oi := _) (v := ?_) rfl (by kernel_rfl) (by kernel_rfl) (by kernel_rfl) (fun _ _ _ h => h) (Or.inl ⟨by rfl, ?_⟩) (by assumption) ?_
                              rotate_left
                              · intro w' hSw; (try dsimp only at hSw); go_simp; (try with_reducible rfl)
                              simp only [Act.put, List.setIfInBounds_toArray, List.set_cons_zero, List.set_cons_succ]
                              refine wpAnyH_done (by kernel_rfl) ?_ _
                              refine NoPanic.normal ?_
                              obtain ⟨V9, hV9⟩ : ∃ x, x = setW V3 gx R := ⟨_, rfl⟩
                              have hb9 : Below Z.heap.size Z V9 := by rw [hV9]; exact bel_setW HV3.out HGX.out R
                              have hx9 : V9.heap[gx]? = some (.cells #[.int .u64 ((R 0 : Nat) : Int), .int .u64 ((R 1 : Nat) : Int), .int .u64 ((R 2 : Nat) : Int), .int .u64 ((R 3 : Nat) : Int)] 39) := by rw [hV9]; exact quad_set HX3.out
                              rw [show (((V3.setCell ⟨gx, 0, none⟩ (.int .u64 ((R 0 : Nat) : Int))).setCell ⟨gx, 1, none⟩ (.int .u64 ((R 1 : Nat) : Int))).setCell ⟨gx, 2, none⟩ (.int .u64 ((R 2 : Nat) : Int))).setCell ⟨gx, 3, none⟩ (.int .u64 ((R 3 : Nat) : Int)) = V9 from hV9.symm]
                              have HB9 : Hid (Below we.heap.size we V9) := HBq.out.trans (hb9.mono HBq.out.size)
                              have HN9 : Hid (WbAt V9 nb A') := HN.out.keep hb9
                              clear hHeld r0 r1 r2 r3 f0 f1 f2 f3 rl hV9 hb9
                              have r0 : V9.cell? ⟨gx, 0, none⟩ = some (.int .u64 ((R 0 : Nat) : Int)) := Lib.cell_of_heap hx9 0
                              have r1 : V9.cell? ⟨gx, 1, none⟩ = some (.int .u64 ((R 1 : Nat) : Int)) := Lib.cell_of_heap hx9 1
                              have r2 : V9.cell? ⟨gx, 2, none⟩ = some (.int .u64 ((R 2 : Nat) : Int)) := Lib.cell_of_heap hx9 2
                              have r3 : V9.cell? ⟨gx, 3, none⟩ = some (.int .u64 ((R 3 : Nat) : Int)) := Lib.cell_of_heap hx9 3
                              have n0 : V9.cell? ⟨nb, 0, none⟩ = some (.int .u64 ((A' 0 : Nat) : Int)) := Lib.cell_of_heap HN9.out 0
                              have n1 : V9.cell? ⟨nb, 1, none⟩ = some (.int .u64 ((A' 1 : Nat) : Int)) := Lib.cell_of_heap HN9.out 1
                              have n2 : V9.cell? ⟨nb, 2, none⟩ = some (.int .u64 ((A' 2 : Nat) : Int)) := Lib.cell_of_heap HN9.out 2
                              have n3 : V9.cell? ⟨nb, 3, none⟩ = some (.int .u64 ((A' 3 : Nat) : Int)) := Lib.cell_of_heap HN9.out 3
                              clear hx9
                              go_wp2_with (go_at_call 10; refine (KX.out _).mono ?_; rintro e wz ⟨rfl, bz⟩; have HNZ : Hid (WbAt wz nb A') := HN9.out.keep bz; have HBZ : Hid (Below we.heap.size we wz) := HB9.out.trans (bz.mono HB9.out.size); clear bz r0 r1 r2 r3 n0 n1 n2 n3; have n0 : wz.cell? ⟨nb, 0, none⟩ = some (.int .u64 ((A' 0 : Nat) : Int)) := Lib.cell_of_heap HNZ.out 0; have n1 : wz.cell? ⟨nb, 1, none⟩ = some (.int .u64 ((A' 1 : Nat) : Int)) := Lib.cell_of_heap HNZ.out 1; have n2 : wz.cell? ⟨nb, 2, none⟩ = some (.int .u64 ((A' 2 : Nat) : Int)) := Lib.cell_of_heap HNZ.out 2; have n3 : wz.cell? ⟨nb, 3, none⟩ = some (.int .u64 ((A' 3 : Nat) : Int)) := Lib.cell_of_heap HNZ.out 3; have f0 : wz.frozen? ⟨nb, 0, none⟩ = false := frzV HNZ.out 0; have f1 : wz.frozen? ⟨nb, 1, none⟩ = false := frzV HNZ.out 1; have f2 : wz.frozen? ⟨nb, 2, none⟩ = false := frzV HNZ.out 2; have f3 : wz.frozen? ⟨nb, 3, none⟩ = false := frzV HNZ.out 3; have nl : nb < wz.heap.size := block_lt HNZ.out)
                              go_roundw
                              case rel => exact ⟨j + 1, _, A2, by omega, by go_num, rfl, HIP, HNZ.out.set A2, bel_setW HBZ.out HNW.out A2⟩
                              case measure => simp [intOf]; omega
                            exact AllReadyH.nil
                          exact AllReadyH.nil
                        refine AllReadyH.cons rfl (fun K hK => ?_) ?_
                        · go_simp
                          obtain ⟨V1, hV⟩ : ∃ V, V = (Z.alloc (.cells #[.int .u64 0, .int .u64 0, .int .u64 0, .int .u64 0] 39)).drew := ⟨_, rfl⟩
                          obtain ⟨gx, hgx⟩ : ∃ gx, gx = Z.heap.size := ⟨_, rfl⟩
                          have HV1 : Hid (Below Z.heap.size Z V1) := by show Below _ _ _; rw [hV]; exact (bel1 _ _).drew
                          have hx0 : V1.heap[gx]? = some (.cells #[.int .u64 0, .int .u64 0, .int .u64 0, .int .u64 0] 39) := by rw [hV, hgx]; exact heap_alloc_new Z _
                          have HGX : Hid (Z.heap.size ≤ gx) := by show _ ≤ _; rw [hgx]; exact Nat.le_refl _
                          rw [← hV, ← hgx]
                          refine hK.out _ _ (HSR.out _ HV1.out) (fun hHeld => ?_)
                          clear hK K hV hgx
                          refine wpAnyH_ready (rs := [10]) (by kernel_rfl) (by simp) ?_
                          refine AllReadyH.cons rfl (fun K hK => ?_) ?_
                          · go_simp
                            refine (KR.out _).mono ?_
                            rintro e V3 ⟨rfl, b1⟩
                            have HV3 : Hid (Below Z.heap.size Z V3) := HV1.out.trans (b1.mono HV1.out.size)
                            have hx : V3.heap[gx]? = some (.cells #[.int .u64 0, .int .u64 0, .int .u64 0, .int .u64 0] 39) := (b1.block gx (block_lt hx0)).trans hx0
                            refine hK.out _ _ (HSR.out _ HV3.out) (fun hHeld => ?_)
                            clear hK K b1
                            refine wpAnyH_take (i := 11) (oi := _) (v := ?_) rfl (by kernel_rfl) (by kernel_rfl) (by kernel_rfl) (fun _ _ _ h => h) (Or.inl ⟨by rfl, ?_⟩) (by assumption) ?_
                            rotate_left
                            · intro w' hSw; (try dsimp only at hSw); go_simp; (try with_reducible rfl)
                            simp only [Act.put, List.setIfInBounds_toArray, List.set_cons_zero, List.set_cons_succ]
                            refine wpAnyH_take (i := 12) (oi := _) (v := ?_) rfl (by kernel_rfl) (by kernel_rfl) (by kernel_rfl) (fun _ _ _ h => h) (Or.inl ⟨by rfl, ?_⟩) (by assumption) ?_
                            rotate_left
                            · intro w' hSw; (try dsimp only at hSw); go_simp; (try with_reducible rfl)
                            simp only [Act.put, List.setIfInBounds_toArray, List.set_cons_zero, List.set_cons_succ]
                            refine wpAnyH_take (i := 13) (oi := _) (v := ?_) rfl (by kernel_rfl) (by kernel_rfl) (by kernel_rfl) (fun _ _ _ h => h) (Or.inl ⟨by rfl, ?_⟩) (by assumption) ?_
                            rotate_left
                            · intro w' hSw; (try dsimp only at hSw); go_simp; (try with_reducible rfl)
                            simp only [Act.put, List.setIfInBounds_toArray, List.set_cons_zero, List.set_cons_succ]
                            have r0 : V3.cell? ⟨gx, 0, none⟩ = some (.int .u64 0) := Lib.cell_of_heap hx 0
                            have r1 : V3.cell? ⟨gx, 1, none⟩ = some (.int .u64 0) := Lib.cell_of_heap hx 1
                            have r2 : V3.cell? ⟨gx, 2, none⟩ = some (.int .u64 0) := Lib.cell_of_heap hx 2
                            have r3 : V3.cell? ⟨gx, 3, none⟩ = some (.int .u64 0) := Lib.cell_of_heap hx 3
                            have f0 : V3.frozen? ⟨gx, 0, none⟩ = false := frzV hx 0
                            have f1 : V3.frozen? ⟨gx, 1, none⟩ = false := frzV hx 1
                            have f2 : V3.frozen? ⟨gx, 2, none⟩ = false := frzV hx 2
                            have f3 : V3.frozen? ⟨gx, 3, none⟩ = false := frzV hx 3
                            have rl : gx < V3.heap.size := block_lt hx
                            have HX3 := hid_ofF hx
                            clear hx
                            refine wpAnyH_ready (rs := [15]) (by kernel_rfl) (by simp) ?_
                            refine AllReadyH.cons rfl (fun K hK => ?_) ?_
                            · go_simp
                              refine hK.out _ _ (HSR.out _ (bel_setW HV3.out HGX.out R)) (fun hHeld => ?_)
                              clear hK K
                              refine wpAnyH_take (i := 16) (oi := _) (v := ?_) rfl (by kernel_rfl) (by kernel_rfl) (by kernel_rfl) (fun _ _ _ h => h) (Or.inl ⟨by rfl, ?_⟩) (by assumption) ?_
                              rotate_left
                              · intro w' hSw; (try dsimp only at hSw); go_simp; (try with_reducible rfl)
                              simp only [Act.put, List.setIfInBounds_toArray, List.set_cons_zero, List.set_cons_succ]
                              refine wpAnyH_done (by kernel_rfl) ?_ _
                              refine NoPanic.normal ?_
                              obtain ⟨V9, hV9⟩ : ∃ x, x = setW V3 gx R := ⟨_, rfl⟩
                              have hb9 : Below Z.heap.size Z V9 := by rw [hV9]; exact bel_setW HV3.out HGX.out R
                              have hx9 : V9.heap[gx]? = some (.cells #[.int .u64 ((R 0 : Nat) : Int), .int .u64 ((R 1 : Nat) : Int), .int .u64 ((R 2 : Nat) : Int), .int .u64 ((R 3 : Nat) : Int)] 39) := by rw [hV9]; exact quad_set HX3.out
                              rw [show (((V3.setCell ⟨gx, 0, none⟩ (.int .u64 ((R 0 : Nat) : Int))).setCell ⟨gx, 1, none⟩ (.int .u64 ((R 1 : Nat) : Int))).setCell ⟨gx, 2, none⟩ (.int .u64 ((R 2 : Nat) : Int))).setCell ⟨gx, 3, none⟩ (.int .u64 ((R 3 : Nat) : Int)) = V9 from hV9.symm]
                              have HB9 : Hid (Below we.heap.size we V9) := HBq.out.trans (hb9.mono HBq.out.size)
                              have HN9 : Hid (WbAt V9 nb A') := HN.out.keep hb9
                              clear hHeld r0 r1 r2 r3 f0 f1 f2 f3 rl hV9 hb9
                              have r0 : V9.cell? ⟨gx, 0, none⟩ = some (.int .u64 ((R 0 : Nat) : Int)) := Lib.cell_of_heap hx9 0
                              have r1 : V9.cell? ⟨gx, 1, none⟩ = some (.int .u64 ((R 1 : Nat) : Int)) := Lib.cell_of_heap hx9 1
                              have r2 : V9.cell? ⟨gx, 2, none⟩ = some (.int .u64 ((R 2 : Nat) : Int)) := Lib.cell_of_heap hx9 2
                              have r3 : V9.cell? ⟨gx, 3, none⟩ = some (.int .u64 ((R 3 : Nat) : Int)) := Lib.cell_of_heap hx9 3
                              have n0 : V9.cell? ⟨nb, 0, none⟩ = some (.int .u64 ((A' 0 : Nat) : Int)) := Lib.cell_of_heap HN9.out 0
                              have n1 : V9.cell? ⟨nb, 1, none⟩ = some (.int .u64 ((A' 1 : Nat) : Int)) := Lib.cell_of_heap HN9.out 1
                              have n2 : V9.cell? ⟨nb, 2, none⟩ = some (.int .u64 ((A' 2 : Nat) : Int)) := Lib.cell_of_heap HN9.out 2
                              have n3 : V9.cell? ⟨nb, 3, none⟩ = some (.int .u64 ((A' 3 : Nat) : Int)) := Lib.cell_of_heap HN9.out 3
                              clear hx9
                              go_wp2_with (go_at_call 10; refine (KX.out _).mono ?_; rintro e wz ⟨rfl, bz⟩; have HNZ : Hid (WbAt wz nb A') := HN9.out.keep bz; have HBZ : Hid (Below we.heap.size we wz) := HB9.out.trans (bz.mono HB9.out.size); clear bz r0 r1 r2 r3 n0 n1 n2 n3; have n0 : wz.cell? ⟨nb, 0, none⟩ = some (.int .u64 ((A' 0 : Nat) : Int)) := Lib.cell_of_heap HNZ.out 0; have n1 : wz.cell? ⟨nb, 1, none⟩ = some (.int .u64 ((A' 1 : Nat) : Int)) := Lib.cell_of_heap HNZ.out 1; have n2 : wz.cell? ⟨nb, 2, none⟩ = some (.int .u64 ((A' 2 : Nat) : Int)) := Lib.cell_of_heap HNZ.out 2; have n3 : wz.cell? ⟨nb, 3, none⟩ = some (.int .u64 ((A' 3 : Nat) : Int)) := Lib.cell_of_heap HNZ.out 3; have f0 : wz.frozen? ⟨nb, 0, none⟩ = false := frzV HNZ.out 0; have f1 : wz.frozen? ⟨nb, 1, none⟩ = false := frzV HNZ.out 1; have f2 : wz.frozen? ⟨nb, 2, none⟩ = false := frzV HNZ.out 2; have f3 : wz.frozen? ⟨nb, 3, none⟩ = false := frzV HNZ.out 3; have nl : nb < wz.heap.size := block_lt HNZ.out)
                              go_roundw
                              case rel => exact ⟨j + 1, _, A2, by omega, by go_num, rfl, HIP, HNZ.out.set A2, bel_setW HBZ.out HNW.out A2⟩
                              case measure => simp [intOf]; omega
                            exact AllReadyH.nil
                          exact AllReadyH.nil
                        exact AllReadyH.nil
                      | false =>
                        go_upto_region 29 with fail
                        clear t0 t1 t2
                        have HSR : Hid (∀ w', Below Z.heap.size Z w' → Below Z.heap.size Z w' ∧ w'.cell? ⟨g5, o5 + q * 3 + 1, none⟩ = some (.int .i64 (a : Int)) ∧ w'.cell? ⟨g5, o5 + q * 3 + 2, none⟩ = some (.int .i64 (b : Int))) := fun w' h => by
                          obtain ⟨t0, t1, t2⟩ := HYC.out w' (HBq.out.trans (h.mono HBq.out.size))
                          exact ⟨h, t1, t2⟩
                        have hbjf : ∀ b : Bool, (b != b) = false := fun b => by cases b <;> rfl
                        refine wp_region_noPanic ?_
                        refine wp_region_held_drew (S := fun w' => Below Z.heap.size Z w' ∧ w'.cell? ⟨g5, o5 + q * 3 + 1, none⟩ = some (.int .i64 (a : Int)) ∧ w'.cell? ⟨g5, o5 + q * 3 + 2, none⟩ = some (.int .i64 (b : Int))) (by kernel_rfl) (HSR.out _ (Below.refl _ _).drew) (fun hHeld => ?_)
                        refine wpAnyH_take (i := 0) (oi := _) (v := ?_) rfl (by kernel_rfl) (by kernel_rfl) (by kernel_rfl) (fun _ _ _ h => h) (Or.inl ⟨by rfl, ?_⟩) (by assumption) ?_
                        rotate_left
                        · intro w' hSw; (try dsimp only at hSw); go_simp; (try with_reducible rfl)
                        simp only [Act.put, List.setIfInBounds_toArray, List.set_cons_zero, List.set_cons_succ]
                        refine wpAnyH_take (i := 1) (oi := _) (v := ?_) rfl (by kernel_rfl) (by kernel_rfl) (by kernel_rfl) (fun _ _ _ h => h) (Or.inl ⟨by rfl, ?_⟩) (by assumption) ?_
                        rotate_left
                        · intro w' hSw; (try dsimp only at hSw); go_simp; (try with_reducible rfl)
                        simp only [Act.put, List.setIfInBounds_toArray, List.set_cons_zero, List.set_cons_succ]
                        refine wpAnyH_take (i := 2) (oi := _) (v := ?_) rfl (by kernel_rfl) (by kernel_rfl) (by kernel_rfl) (fun _ _ _ h => h) (Or.inl ⟨by rfl, ?_⟩) (by assumption) ?_
                        rotate_left
                        · intro w' hSw; (try dsimp only at hSw); go_simp; (try with_reducible rfl)
                        simp only [Act.put, List.setIfInBounds_toArray, List.set_cons_zero, List.set_cons_succ]
                        refine wpAnyH_take (i := 3) (oi := _) (v := ?_) rfl (by kernel_rfl) (by kernel_rfl) (by kernel_rfl) (fun _ _ _ h => h) (Or.inl ⟨by rfl, ?_⟩) (by assumption) ?_
                        rotate_left
                        · intro w' hSw; (try dsimp only at hSw); go_simp; (try with_reducible rfl)
                        simp only [Act.put, List.setIfInBounds_toArray, List.set_cons_zero, List.set_cons_succ]
                        refine wpAnyH_take (i := 4) (oi := _) (v := ?_) rfl (by kernel_rfl) (by kernel_rfl) (by kernel_rfl) (fun _ _ _ h => h) (Or.inl ⟨by rfl, ?_⟩) (by assumption) ?_
                        rotate_left
                        · intro w' hSw; (try dsimp only at hSw); go_simp; (try with_reducible rfl)
                        simp only [Act.put, List.setIfInBounds_toArray, List.set_cons_zero, List.set_cons_succ]
                        refine wpAnyH_take (i := 5) (oi := _) (v := ?_) rfl (by kernel_rfl) (by kernel_rfl) (by kernel_rfl) (fun _ _ _ h => h) (Or.inl ⟨by rfl, ?_⟩) (by assumption) ?_
                        rotate_left
                        · intro w' hSw; (try dsimp only at hSw); go_simp; (try with_reducible rfl)
                        simp only [Act.put, List.setIfInBounds_toArray, List.set_cons_zero, List.set_cons_succ]
                        refine wpAnyH_take (i := 6) (oi := _) (v := ?_) rfl (by kernel_rfl) (by kernel_rfl) (by kernel_rfl) (fun _ _ _ h => h) (Or.inl ⟨by rfl, ?_⟩) (by assumption) ?_
                        rotate_left
                        · intro w' hSw; (try dsimp only at hSw); go_simp; (try with_reducible rfl)
                        simp only [Act.put, List.setIfInBounds_toArray, List.set_cons_zero, List.set_cons_succ]
                        refine wpAnyH_take (i := 7) (oi := _) (v := ?_) rfl (by kernel_rfl) (by kernel_rfl) (by kernel_rfl) (fun _ _ _ h => h) (Or.inl ⟨by rfl, ?_⟩) (by assumption) ?_
                        rotate_left
                        · intro w' hSw; (try dsimp only at hSw); go_simp; (try with_reducible rfl)
                        simp only [Act.put, List.setIfInBounds_toArray, List.set_cons_zero, List.set_cons_succ]
                        refine wpAnyH_take (i := 8) (oi := _) (v := ?_) rfl (by kernel_rfl) (by kernel_rfl) (by kernel_rfl) (fun _ _ _ h => h) (Or.inl ⟨by rfl, ?_⟩) (by assumption) ?_
                        rotate_left
                        · intro w' hSw; (try dsimp only at hSw); go_simp; (try with_reducible rfl)
                        simp only [Act.put, List.setIfInBounds_toArray, List.set_cons_zero, List.set_cons_succ]
                        refine wpAnyH_take (i := 9) (oi := _) (v := ?_) rfl (by kernel_rfl) (by kernel_rfl) (by kernel_rfl) (fun _ _ _ h => h) (Or.inl ⟨by rfl, ?_⟩) (by assumption) ?_
                        rotate_left
                        · intro w' hSw; (try dsimp only at hSw); go_simp; (try with_reducible rfl)
                        simp only [Act.put, List.setIfInBounds_toArray, List.set_cons_zero, List.set_cons_succ]
                        refine wpAnyH_ready (rs := [10, 14]) (by kernel_rfl) (by simp) ?_
                        refine AllReadyH.cons rfl (fun K hK => ?_) ?_
                        · go_simp
                          refine (KR.out _).mono ?_
                          rintro e V1 ⟨rfl, b1⟩
                          have HV1 : Hid (Below Z.heap.size Z V1) := (Below.refl _ _).drew.trans b1
                          refine hK.out _ _ (HSR.out _ HV1.out) (fun hHeld => ?_)
                          clear hK K b1
                          refine wpAnyH_take (i := 11) (oi := _) (v := ?_) rfl (by kernel_rfl) (by kernel_rfl) (by kernel_rfl) (fun _ _ _ h => h) (Or.inl ⟨by rfl, ?_⟩) (by assumption) ?_
                          rotate_left
                          · intro w' hSw; (try dsimp only at hSw); go_simp; (try with_reducible rfl)
                          simp only [Act.put, List.setIfInBounds_toArray, List.set_cons_zero, List.set_cons_succ]
                          refine wpAnyH_take (i := 12) (oi := _) (v := ?_) rfl (by kernel_rfl) (by kernel_rfl) (by kernel_rfl) (fun _ _ _ h => h) (Or.inl ⟨by rfl, ?_⟩) (by assumption) ?_
                          rotate_left
                          · intro w' hSw; (try dsimp only at hSw); go_simp; (try with_reducible rfl)
                          simp only [Act.put, List.setIfInBounds_toArray, List.set_cons_zero, List.set_cons_succ]
                          refine wpAnyH_take (i := 13) (oi := _) (v := ?_) rfl (by kernel_rfl) (by kernel_rfl) (by kernel_rfl) (fun _ _ _ h => h) (Or.inl ⟨by rfl, ?_⟩) (by assumption) ?_
                          rotate_left
                          · intro w' hSw; (try dsimp only at hSw); go_simp; (try with_reducible rfl)
                          simp only [Act.put, List.setIfInBounds_toArray, List.set_cons_zero, List.set_cons_succ]
                          refine wpAnyH_ready (rs := [14]) (by kernel_rfl) (by simp) ?_
                          refine AllReadyH.cons rfl (fun K hK => ?_) ?_
                          · go_simp
                            obtain ⟨V3, hV⟩ : ∃ V, V = V1.alloc (.cells #[.int .u64 0, .int .u64 0, .int .u64 0, .int .u64 0] 39) := ⟨_, rfl⟩
                            obtain ⟨gx, hgx⟩ : ∃ gx, gx = V1.heap.size := ⟨_, rfl⟩
                            have HV3 : Hid (Below Z.heap.size Z V3) := by show Below _ _ _; rw [hV]; exact HV1.out.alloc HV1.out.size _
                            have hx : V3.heap[gx]? = some (.cells #[.int .u64 0, .int .u64 0, .int .u64 0, .int .u64 0] 39) := by rw [hV, hgx]; exact heap_alloc_new _ _
                            have HGX : Hid (Z.heap.size ≤ gx) := by show _ ≤ _; rw [hgx]; exact HV1.out.size
                            rw [← hV, ← hgx]
                            refine hK.out _ _ (HSR.out _ HV3.out) (fun hHeld => ?_)
                            clear hK K hV hgx
                            have r0 : V3.cell? ⟨gx, 0, none⟩ = some (.int .u64 0) := Lib.cell_of_heap hx 0
                            have r1 : V3.cell? ⟨gx, 1, none⟩ = some (.int .u64 0) := Lib.cell_of_heap hx 1
                            have r2 : V3.cell? ⟨gx, 2, none⟩ = some (.int .u64 0) := Lib.cell_of_heap hx 2
                            have r3 : V3.cell? ⟨gx, 3, none⟩ = some (.int .u64 0) := Lib.cell_of_heap hx 3
                            have f0 : V3.frozen? ⟨gx, 0, none⟩ = false := frzV hx 0
                            have f1 : V3.frozen? ⟨gx, 1, none⟩ = false := frzV hx 1
                            have f2 : V3.frozen? ⟨gx, 2, none⟩ = false := frzV hx 2
                            have f3 : V3.frozen? ⟨gx, 3, none⟩ = false := frzV hx 3
                            have rl : gx < V3.heap.size := block_lt hx
                            have HX3 := hid_ofF hx
                            clear hx
                            refine wpAnyH_ready (rs := [15]) (by kernel_rfl) (by simp) ?_
                            refine AllReadyH.cons rfl (fun K hK => ?_) ?_
                            · go_simp
                              refine hK.out _ _ (HSR.out _ (bel_setW HV3.out HGX.out R)) (fun hHeld => ?_)
                              clear hK K
                              refine wpAnyH_take (i := 16) (oi := _) (v := ?_) rfl (by kernel_rfl) (by kernel_rfl) (by kernel_rfl) (fun _ _ _ h => h) (Or.inl ⟨by rfl, ?_⟩) (by assumption) ?_
                              rotate_left
                              · intro w' hSw; (try dsimp only at hSw); go_simp; (try with_reducible rfl)
                              simp only [Act.put, List.setIfInBounds_toArray, List.set_cons_zero, List.set_cons_succ]
                              refine wpAnyH_done (by kernel_rfl) ?_ _
                              refine NoPanic.normal ?_
                              obtain ⟨V9, hV9⟩ : ∃ x, x = setW V3 gx R := ⟨_, rfl⟩
                              have hb9 : Below Z.heap.size Z V9 := by rw [hV9]; exact bel_setW HV3.out HGX.out R
                              have hx9 : V9.heap[gx]? = some (.cells #[.int .u64 ((R 0 : Nat) : Int), .int .u64 ((R 1 : Nat) : Int), .int .u64 ((R 2 : Nat) : Int), .int .u64 ((R 3 : Nat) : Int)] 39) := by rw [hV9]; exact quad_set HX3.out
                              rw [show (((V3.setCell ⟨gx, 0, none⟩ (.int .u64 ((R 0 : Nat) : Int))).setCell ⟨gx, 1, none⟩ (.int .u64 ((R 1 : Nat) : Int))).setCell ⟨gx, 2, none⟩ (.int .u64 ((R 2 : Nat) : Int))).setCell ⟨gx, 3, none⟩ (.int .u64 ((R 3 : Nat) : Int)) = V9 from hV9.symm]
                              have HB9 : Hid (Below we.heap.size we V9) := HBq.out.trans (hb9.mono HBq.out.size)
                              have HN9 : Hid (WbAt V9 nb A') := HN.out.keep hb9
                              clear hHeld r0 r1 r2 r3 f0 f1 f2 f3 rl hV9 hb9
                              have r0 : V9.cell? ⟨gx, 0, none⟩ = some (.int .u64 ((R 0 : Nat) : Int)) := Lib.cell_of_heap hx9 0
                              have r1 : V9.cell? ⟨gx, 1, none⟩ = some (.int .u64 ((R 1 : Nat) : Int)) := Lib.cell_of_heap hx9 1
                              have r2 : V9.cell? ⟨gx, 2, none⟩ = some (.int .u64 ((R 2 : Nat) : Int)) := Lib.cell_of_heap hx9 2
                              have r3 : V9.cell? ⟨gx, 3, none⟩ = some (.int .u64 ((R 3 : Nat) : Int)) := Lib.cell_of_heap hx9 3
                              have n0 : V9.cell? ⟨nb, 0, none⟩ = some (.int .u64 ((A' 0 : Nat) : Int)) := Lib.cell_of_heap HN9.out 0
                              have n1 : V9.cell? ⟨nb, 1, none⟩ = some (.int .u64 ((A' 1 : Nat) : Int)) := Lib.cell_of_heap HN9.out 1
                              have n2 : V9.cell? ⟨nb, 2, none⟩ = some (.int .u64 ((A' 2 : Nat) : Int)) := Lib.cell_of_heap HN9.out 2
                              have n3 : V9.cell? ⟨nb, 3, none⟩ = some (.int .u64 ((A' 3 : Nat) : Int)) := Lib.cell_of_heap HN9.out 3
                              clear hx9
                              go_wp2_with (go_at_call 10; refine (KX.out _).mono ?_; rintro e wz ⟨rfl, bz⟩; have HNZ : Hid (WbAt wz nb A') := HN9.out.keep bz; have HBZ : Hid (Below we.heap.size we wz) := HB9.out.trans (bz.mono HB9.out.size); clear bz r0 r1 r2 r3 n0 n1 n2 n3; have n0 : wz.cell? ⟨nb, 0, none⟩ = some (.int .u64 ((A' 0 : Nat) : Int)) := Lib.cell_of_heap HNZ.out 0; have n1 : wz.cell? ⟨nb, 1, none⟩ = some (.int .u64 ((A' 1 : Nat) : Int)) := Lib.cell_of_heap HNZ.out 1; have n2 : wz.cell? ⟨nb, 2, none⟩ = some (.int .u64 ((A' 2 : Nat) : Int)) := Lib.cell_of_heap HNZ.out 2; have n3 : wz.cell? ⟨nb, 3, none⟩ = some (.int .u64 ((A' 3 : Nat) : Int)) := Lib.cell_of_heap HNZ.out 3; have f0 : wz.frozen? ⟨nb, 0, none⟩ = false := frzV HNZ.out 0; have f1 : wz.frozen? ⟨nb, 1, none⟩ = false := frzV HNZ.out 1; have f2 : wz.frozen? ⟨nb, 2, none⟩ = false := frzV HNZ.out 2; have f3 : wz.frozen? ⟨nb, 3, none⟩ = false := frzV HNZ.out 3; have nl : nb < wz.heap.size := block_lt HNZ.out)
                              go_roundw
                              case rel => exact ⟨j + 1, _, A2, by omega, by go_num, rfl, HIP, HNZ.out.set A2, bel_setW HBZ.out HNW.out A2⟩
                              case measure => simp [intOf]; omega
                            exact AllReadyH.nil
                          exact AllReadyH.nil
                        refine AllReadyH.cons rfl (fun K hK => ?_) ?_
                        · go_simp
                          obtain ⟨V1, hV⟩ : ∃ V, V = (Z.alloc (.cells #[.int .u64 0, .int .u64 0, .int .u64 0, .int .u64 0] 39)).drew := ⟨_, rfl⟩
                          obtain ⟨gx, hgx⟩ : ∃ gx, gx = Z.heap.size := ⟨_, rfl⟩
                          have HV1 : Hid (Below Z.heap.size Z V1) := by show Below _ _ _; rw [hV]; exact (bel1 _ _).drew
                          have hx0 : V1.heap[gx]? = some (.cells #[.int .u64 0, .int .u64 0, .int .u64 0, .int .u64 0] 39) := by rw [hV, hgx]; exact heap_alloc_new Z _
                          have HGX : Hid (Z.heap.size ≤ gx) := by show _ ≤ _; rw [hgx]; exact Nat.le_refl _
                          rw [← hV, ← hgx]
                          refine hK.out _ _ (HSR.out _ HV1.out) (fun hHeld => ?_)
                          clear hK K hV hgx
                          refine wpAnyH_ready (rs := [10]) (by kernel_rfl) (by simp) ?_
                          refine AllReadyH.cons rfl (fun K hK => ?_) ?_
                          · go_simp
                            refine (KR.out _).mono ?_
                            rintro e V3 ⟨rfl, b1⟩
                            have HV3 : Hid (Below Z.heap.size Z V3) := HV1.out.trans (b1.mono HV1.out.size)
                            have hx : V3.heap[gx]? = some (.cells #[.int .u64 0, .int .u64 0, .int .u64 0, .int .u64 0] 39) := (b1.block gx (block_lt hx0)).trans hx0
                            refine hK.out _ _ (HSR.out _ HV3.out) (fun hHeld => ?_)
                            clear hK K b1
                            refine wpAnyH_take (i := 11) (oi := _) (v := ?_) rfl (by kernel_rfl) (by kernel_rfl) (by kernel_rfl) (fun _ _ _ h => h) (Or.inl ⟨by rfl, ?_⟩) (by assumption) ?_
                            rotate_left
                            · intro w' hSw; (try dsimp only at hSw); go_simp; (try with_reducible rfl)
                            simp only [Act.put, List.setIfInBounds_toArray, List.set_cons_zero, List.set_cons_succ]
                            refine wpAnyH_take (i := 12) (oi := _) (v := ?_) rfl (by kernel_rfl) (by kernel_rfl) (by kernel_rfl) (fun _ _ _ h => h) (Or.inl ⟨by rfl, ?_⟩) (by assumption) ?_
                            rotate_left
                            · intro w' hSw; (try dsimp only at hSw); go_simp; (try with_reducible rfl)
                            simp only [Act.put, List.setIfInBounds_toArray, List.set_cons_zero, List.set_cons_succ]
                            refine wpAnyH_take (i := 13) (oi := _) (v := ?_) rfl (by kernel_rfl) (by kernel_rfl) (by kernel_rfl) (fun _ _ _ h => h) (Or.inl ⟨by rfl, ?_⟩) (by assumption) ?_
                            rotate_left
                            · intro w' hSw; (try dsimp only at hSw); go_simp; (try with_reducible rfl)
                            simp only [Act.put, List.setIfInBounds_toArray, List.set_cons_zero, List.set_cons_succ]
                            have r0 : V3.cell? ⟨gx, 0, none⟩ = some (.int .u64 0) := Lib.cell_of_heap hx 0
                            have r1 : V3.cell? ⟨gx, 1, none⟩ = some (.int .u64 0) := Lib.cell_of_heap hx 1
                            have r2 : V3.cell? ⟨gx, 2, none⟩ = some (.int .u64 0) := Lib.cell_of_heap hx 2
                            have r3 : V3.cell? ⟨gx, 3, none⟩ = some (.int .u64 0) := Lib.cell_of_heap hx 3
                            have f0 : V3.frozen? ⟨gx, 0, none⟩ = false := frzV hx 0
                            have f1 : V3.frozen? ⟨gx, 1, none⟩ = false := frzV hx 1
                            have f2 : V3.frozen? ⟨gx, 2, none⟩ = false := frzV hx 2
                            have f3 : V3.frozen? ⟨gx, 3, none⟩ = false := frzV hx 3
                            have rl : gx < V3.heap.size := block_lt hx
                            have HX3 := hid_ofF hx
                            clear hx
                            refine wpAnyH_ready (rs := [15]) (by kernel_rfl) (by simp) ?_
                            refine AllReadyH.cons rfl (fun K hK => ?_) ?_
                            · go_simp
                              refine hK.out _ _ (HSR.out _ (bel_setW HV3.out HGX.out R)) (fun hHeld => ?_)
                              clear hK K
                              refine wpAnyH_take (i := 16) (oi := _) (v := ?_) rfl (by kernel_rfl) (by kernel_rfl) (by kernel_rfl) (fun _ _ _ h => h) (Or.inl ⟨by rfl, ?_⟩) (by assumption) ?_
                              rotate_left
                              · intro w' hSw; (try dsimp only at hSw); go_simp; (try with_reducible rfl)
                              simp only [Act.put, List.setIfInBounds_toArray, List.set_cons_zero, List.set_cons_succ]
                              refine wpAnyH_done (by kernel_rfl) ?_ _
                              refine NoPanic.normal ?_
                              obtain ⟨V9, hV9⟩ : ∃ x, x = setW V3 gx R := ⟨_, rfl⟩
                              have hb9 : Below Z.heap.size Z V9 := by rw [hV9]; exact bel_setW HV3.out HGX.out R
                              have hx9 : V9.heap[gx]? = some (.cells #[.int .u64 ((R 0 : Nat) : Int), .int .u64 ((R 1 : Nat) : Int), .int .u64 ((R 2 : Nat) : Int), .int .u64 ((R 3 : Nat) : Int)] 39) := by rw [hV9]; exact quad_set HX3.out
                              rw [show (((V3.setCell ⟨gx, 0, none⟩ (.int .u64 ((R 0 : Nat) : Int))).setCell ⟨gx, 1, none⟩ (.int .u64 ((R 1 : Nat) : Int))).setCell ⟨gx, 2, none⟩ (.int .u64 ((R 2 : Nat) : Int))).setCell ⟨gx, 3, none⟩ (.int .u64 ((R 3 : Nat) : Int)) = V9 from hV9.symm]
                              have HB9 : Hid (Below we.heap.size we V9) := HBq.out.trans (hb9.mono HBq.out.size)
                              have HN9 : Hid (WbAt V9 nb A') := HN.out.keep hb9
                              clear hHeld r0 r1 r2 r3 f0 f1 f2 f3 rl hV9 hb9
                              have r0 : V9.cell? ⟨gx, 0, none⟩ = some (.int .u64 ((R 0 : Nat) : Int)) := Lib.cell_of_heap hx9 0
                              have r1 : V9.cell? ⟨gx, 1, none⟩ = some (.int .u64 ((R 1 : Nat) : Int)) := Lib.cell_of_heap hx9 1
                              have r2 : V9.cell? ⟨gx, 2, none⟩ = some (.int .u64 ((R 2 : Nat) : Int)) := Lib.cell_of_heap hx9 2
                              have r3 : V9.cell? ⟨gx, 3, none⟩ = some (.int .u64 ((R 3 : Nat) : Int)) := Lib.cell_of_heap hx9 3
                              have n0 : V9.cell? ⟨nb, 0, none⟩ = some (.int .u64 ((A' 0 : Nat) : Int)) := Lib.cell_of_heap HN9.out 0
                              have n1 : V9.cell? ⟨nb, 1, none⟩ = some (.int .u64 ((A' 1 : Nat) : Int)) := Lib.cell_of_heap HN9.out 1
                              have n2 : V9.cell? ⟨nb, 2, none⟩ = some (.int .u64 ((A' 2 : Nat) : Int)) := Lib.cell_of_heap HN9.out 2
                              have n3 : V9.cell? ⟨nb, 3, none⟩ = some (.int .u64 ((A' 3 : Nat) : Int)) := Lib.cell_of_heap HN9.out 3
                              clear hx9
                              go_wp2_with (go_at_call 10; refine (KX.out _).mono ?_; rintro e wz ⟨rfl, bz⟩; have HNZ : Hid (WbAt wz nb A') := HN9.out.keep bz; have HBZ : Hid (Below we.heap.size we wz) := HB9.out.trans (bz.mono HB9.out.size); clear bz r0 r1 r2 r3 n0 n1 n2 n3; have n0 : wz.cell? ⟨nb, 0, none⟩ = some (.int .u64 ((A' 0 : Nat) : Int)) := Lib.cell_of_heap HNZ.out 0; have n1 : wz.cell? ⟨nb, 1, none⟩ = some (.int .u64 ((A' 1 : Nat) : Int)) := Lib.cell_of_heap HNZ.out 1; have n2 : wz.cell? ⟨nb, 2, none⟩ = some (.int .u64 ((A' 2 : Nat) : Int)) := Lib.cell_of_heap HNZ.out 2; have n3 : wz.cell? ⟨nb, 3, none⟩ = some (.int .u64 ((A' 3 : Nat) : Int)) := Lib.cell_of_heap HNZ.out 3; have f0 : wz.frozen? ⟨nb, 0, none⟩ = false := frzV HNZ.out 0; have f1 : wz.frozen? ⟨nb, 1, none⟩ = false := frzV HNZ.out 1; have f2 : wz.frozen? ⟨nb, 2, none⟩ = false := frzV HNZ.out 2; have f3 : wz.frozen? ⟨nb, 3, none⟩ = false := frzV HNZ.out 3; have nl : nb < wz.heap.size := block_lt HNZ.out)
                              go_roundw
                              case rel => exact ⟨j + 1, _, A2, by omega, by go_num, rfl, HIP, HNZ.out.set A2, bel_setW HBZ.out HNW.out A2⟩
                              case measure => simp [intOf]; omega
                            exact AllReadyH.nil
                          exact AllReadyH.nil
                        exact AllReadyH.nil
                    · --SF
                      obtain ⟨y, hy, hyn⟩ := may_name hxm hnm
                      dsimp only at hy
                      subst hy
                      have hyI : (y : Int) < (n : Int) := by omega
                      have hy0 : (0 : Int) ≤ (y : Int) := by omega
                      have hyl : ¬ (y : Int) < 0 := by omega
                      have hylD : decide ((y : Int) < 0) = false := decide_eq_false hyl
                      have hy0D : decide ((0 : Int) ≤ (y : Int)) = true := decide_eq_true hy0
                      obtain ⟨t0, t1, t2⟩ := HYC.out Z HBq.out
                      have ey := (HCE.out Z HBq.out).1 y hyn
                      obtain ⟨b4, hb4⟩ : ∃ b, b = B y := ⟨_, rfl⟩
                      have okb : okB b4 := by rw [hb4]; exact HOB.out y
                      have HBC : Hid (∀ w', Below we.heap.size we w' → w'.cell? ⟨yb, y * 4, none⟩ = some (.int .u64 ((b4 0 : Nat) : Int)) ∧ w'.cell? ⟨yb, y * 4 + 1, none⟩ = some (.int .u64 ((b4 1 : Nat) : Int)) ∧ w'.cell? ⟨yb, y * 4 + 2, none⟩ = some (.int .u64 ((b4 2 : Nat) : Int)) ∧ w'.cell? ⟨yb, y * 4 + 3, none⟩ = some (.int .u64 ((b4 3 : Nat) : Int))) := fun w' h => by
                        rw [hb4]
                        have hb := (HCE.out w' h).2 y hyn
                        exact ⟨hb 0 (by omega), hb 1 (by omega), hb 2 (by omega), hb 3 (by omega)⟩
                      obtain ⟨A2, hA2⟩ : ∃ x, x = orB A' b4 := ⟨_, rfl⟩
                      have KX : Hid (∀ w, Calls Try.prog 10 #[.int .i64 0, bv A', bv b4] w fun e w' => e = .returned (bv A2) ∧ Below w.heap.size w w') := fun w => by rw [hA2]; exact rmix_or A' b4 w HIM.out.1 okb
                      have HSS : Hid (∀ w', But Z.heap.size nb Z w' → But Z.heap.size nb Z w' ∧ w'.cell? ⟨g5, o5 + q * 3, none⟩ = some (.int .i64 (y : Int)) ∧ w'.cell? ⟨yb, y * 4, none⟩ = some (.int .u64 ((b4 0 : Nat) : Int)) ∧ w'.cell? ⟨yb, y * 4 + 1, none⟩ = some (.int .u64 ((b4 1 : Nat) : Int)) ∧ w'.cell? ⟨yb, y * 4 + 2, none⟩ = some (.int .u64 ((b4 2 : Nat) : Int)) ∧ w'.cell? ⟨yb, y * 4 + 3, none⟩ = some (.int .u64 ((b4 3 : Nat) : Int))) := fun w' h => by
                        have T : ∀ {b o : Nat} {v : Value}, Z.cell? ⟨b, o, none⟩ = some v → b ≠ nb → w'.cell? ⟨b, o, none⟩ = some v := fun hc hne => (h.cell (p := ⟨_, _, none⟩) (cell_in hc) hne).trans hc
                        have ny : yb ≠ nb := by have := HYW.out; have := HNW.out; omega
                        obtain ⟨q0, q1, q2, q3⟩ := HBC.out Z HBq.out
                        exact ⟨h, T t0 HG5.out, T q0 ny, T q1 ny, T q2 ny, T q3 ny⟩
                      cases hEy : E y with
                      | true =>
                        have HIM2 : Hid (IvM E B k d.seq A (q + 1) A2) := by rw [hA2, hb4]; exact HIM.out.next HOB.out hx hEy
                        rw [hEy] at ey
                        clear hA2 hb4 okb hxm hx hEy
                        go_upto_region 23 with fail
                        clear t0 t1 t2 ey
                        refine wp_region_noPanic ?_
                        refine wp_region_held_drew (S := fun w' => But Z.heap.size nb Z w' ∧ w'.cell? ⟨g5, o5 + q * 3, none⟩ = some (.int .i64 (y : Int)) ∧ w'.cell? ⟨yb, y * 4, none⟩ = some (.int .u64 ((b4 0 : Nat) : Int)) ∧ w'.cell? ⟨yb, y * 4 + 1, none⟩ = some (.int .u64 ((b4 1 : Nat) : Int)) ∧ w'.cell? ⟨yb, y * 4 + 2, none⟩ = some (.int .u64 ((b4 2 : Nat) : Int)) ∧ w'.cell? ⟨yb, y * 4 + 3, none⟩ = some (.int .u64 ((b4 3 : Nat) : Int))) (by kernel_rfl) (HSS.out _ (But.refl _ _ _).drew) (fun hHeld => ?_)
                        refine wpAnyH_take (i := 1) (oi := _) (v := ?_) rfl (by kernel_rfl) (by kernel_rfl) (by kernel_rfl) (fun _ _ _ h => h) (Or.inl ⟨by rfl, ?_⟩) (by assumption) ?_
                        rotate_left
                        · intro w' hSw; (try dsimp only at hSw); go_simp; (try with_reducible rfl)
                        simp only [Act.put, List.setIfInBounds_toArray, List.set_cons_zero, List.set_cons_succ]
                        refine wpAnyH_take (i := 2) (oi := _) (v := ?_) rfl (by kernel_rfl) (by kernel_rfl) (by kernel_rfl) (fun _ _ _ h => h) (Or.inl ⟨by rfl, ?_⟩) (by assumption) ?_
                        rotate_left
                        · intro w' hSw; (try dsimp only at hSw); go_simp; (try with_reducible rfl)
                        simp only [Act.put, List.setIfInBounds_toArray, List.set_cons_zero, List.set_cons_succ]
                        refine wpAnyH_take (i := 3) (oi := _) (v := ?_) rfl (by kernel_rfl) (by kernel_rfl) (by kernel_rfl) (fun _ _ _ h => h) (Or.inl ⟨by rfl, ?_⟩) (by assumption) ?_
                        rotate_left
                        · intro w' hSw; (try dsimp only at hSw); go_simp; (try with_reducible rfl)
                        simp only [Act.put, List.setIfInBounds_toArray, List.set_cons_zero, List.set_cons_succ]
                        refine wpAnyH_take (i := 4) (oi := _) (v := ?_) rfl (by kernel_rfl) (by kernel_rfl) (by kernel_rfl) (fun _ _ _ h => h) (Or.inl ⟨by rfl, ?_⟩) (by assumption) ?_
                        rotate_left
                        · intro w' hSw; (try dsimp only at hSw); go_simp; (try with_reducible rfl)
                        simp only [Act.put, List.setIfInBounds_toArray, List.set_cons_zero, List.set_cons_succ]
                        refine wpAnyH_take (i := 5) (oi := _) (v := ?_) rfl (by kernel_rfl) (by kernel_rfl) (by kernel_rfl) (fun _ _ _ h => h) (Or.inl ⟨by rfl, ?_⟩) (by assumption) ?_
                        rotate_left
                        · intro w' hSw; (try dsimp only at hSw); go_simp; (try with_reducible rfl)
                        simp only [Act.put, List.setIfInBounds_toArray, List.set_cons_zero, List.set_cons_succ]
                        refine wpAnyH_take (i := 6) (oi := _) (v := ?_) rfl (by kernel_rfl) (by kernel_rfl) (by kernel_rfl) (fun _ _ _ h => h) (Or.inl ⟨by rfl, ?_⟩) (by assumption) ?_
                        rotate_left
                        · intro w' hSw; (try dsimp only at hSw); go_simp; (try with_reducible rfl)
                        simp only [Act.put, List.setIfInBounds_toArray, List.set_cons_zero, List.set_cons_succ]
                        refine wpAnyH_take (i := 7) (oi := _) (v := ?_) rfl (by kernel_rfl) (by kernel_rfl) (by kernel_rfl) (fun _ _ _ h => h) (Or.inl ⟨by rfl, ?_⟩) (by assumption) ?_
                        rotate_left
                        · intro w' hSw; (try dsimp only at hSw); go_simp; (try with_reducible rfl)
                        simp only [Act.put, List.setIfInBounds_toArray, List.set_cons_zero, List.set_cons_succ]
                        refine wpAnyH_take (i := 8) (oi := _) (v := ?_) rfl (by kernel_rfl) (by kernel_rfl) (by kernel_rfl) (fun _ _ _ h => h) (Or.inl ⟨by rfl, ?_⟩) (by assumption) ?_
                        rotate_left
                        · intro w' hSw; (try dsimp only at hSw); go_simp; (try with_reducible rfl)
                        simp only [Act.put, List.setIfInBounds_toArray, List.set_cons_zero, List.set_cons_succ]
                        refine wpAnyH_ready (rs := [0]) (by kernel_rfl) (by simp) ?_
                        refine AllReadyH.cons rfl (fun K hK => ?_) ?_
                        · have n0 : Z.drew.cell? ⟨nb, 0, none⟩ = some (.int .u64 ((A' 0 : Nat) : Int)) := Lib.cell_of_heap HN.out 0
                          have n1 : Z.drew.cell? ⟨nb, 1, none⟩ = some (.int .u64 ((A' 1 : Nat) : Int)) := Lib.cell_of_heap HN.out 1
                          have n2 : Z.drew.cell? ⟨nb, 2, none⟩ = some (.int .u64 ((A' 2 : Nat) : Int)) := Lib.cell_of_heap HN.out 2
                          have n3 : Z.drew.cell? ⟨nb, 3, none⟩ = some (.int .u64 ((A' 3 : Nat) : Int)) := Lib.cell_of_heap HN.out 3
                          go_simp
                          refine hK.out _ _ (HSS.out _ (But.refl _ _ _).drew) (fun hHeld => ?_)
                          clear hK K n0 n1 n2 n3
                          refine wpAnyH_ready (rs := [9]) (by kernel_rfl) (by simp) ?_
                          refine AllReadyH.cons rfl (fun K hK => ?_) ?_
                          · go_simp
                            refine (KX.out _).mono ?_
                            rintro e wz ⟨rfl, bz⟩
                            have HBZ : Hid (Below Z.heap.size Z wz) := (Below.refl _ _).drew.trans bz
                            refine hK.out _ _ (HSS.out _ (But.of HBZ.out)) (fun hHeld => ?_)
                            clear hK K bz
                            refine wpAnyH_ready (rs := [10]) (by kernel_rfl) (by simp) ?_
                            refine AllReadyH.cons rfl (fun K hK => ?_) ?_
                            · have HNZ : Hid (WbAt wz nb A') := HN.out.keep HBZ.out
                              have n0 : wz.cell? ⟨nb, 0, none⟩ = some (.int .u64 ((A' 0 : Nat) : Int)) := Lib.cell_of_heap HNZ.out 0
                              have n1 : wz.cell? ⟨nb, 1, none⟩ = some (.int .u64 ((A' 1 : Nat) : Int)) := Lib.cell_of_heap HNZ.out 1
                              have n2 : wz.cell? ⟨nb, 2, none⟩ = some (.int .u64 ((A' 2 : Nat) : Int)) := Lib.cell_of_heap HNZ.out 2
                              have n3 : wz.cell? ⟨nb, 3, none⟩ = some (.int .u64 ((A' 3 : Nat) : Int)) := Lib.cell_of_heap HNZ.out 3
                              have f0 : wz.frozen? ⟨nb, 0, none⟩ = false := frzV HNZ.out 0
                              have f1 : wz.frozen? ⟨nb, 1, none⟩ = false := frzV HNZ.out 1
                              have f2 : wz.frozen? ⟨nb, 2, none⟩ = false := frzV HNZ.out 2
                              have f3 : wz.frozen? ⟨nb, 3, none⟩ = false := frzV HNZ.out 3
                              have nl : nb < wz.heap.size := block_lt HNZ.out
                              go_simp
                              refine hK.out _ _ (HSS.out _ (but_setW (But.of HBZ.out) A2)) (fun hHeld => ?_)
                              clear hK K
                              refine wpAnyH_done (by kernel_rfl) ?_ _
                              refine NoPanic.normal ?_
                              have HN9 : Hid (WbAt (setW wz nb A2) nb A2) := HNZ.out.set A2
                              have HB9 : Hid (Below we.heap.size we (setW wz nb A2)) := bel_setW (HBq.out.trans (HBZ.out.mono HBq.out.size)) HNW.out A2
                              clear hHeld n0 n1 n2 n3 f0 f1 f2 f3 nl
                              go_wp2
                              go_roundw
                              case rel => exact ⟨q + 1, A2, by omega, by go_num, HIM2, HN9, HB9⟩
                              case measure => simp [intOf]; omega
                            exact AllReadyH.nil
                          exact AllReadyH.nil
                        exact AllReadyH.nil
                      | false =>
                        have hst := HIM.out.stop hx (by rw [sym_nm]; exact hEy) (R := b4) (by rw [hb4]; exact com_no hEy) okb
                        have HIP : Hid (IvP E B k (S3 g.rules k i r (j + 1)) bj A2) := by rw [hA2]; exact HI.out.add HCJ.out hst.2.1 hst.2.2.1 hst.2.2.2.1 hst.1 (by rw [hst.2.2.2.2, Bool.or_false]) (by rw [hst.2.2.2.2]; intro h; cases h)
                        rw [hEy] at ey
                        clear hst hA2 hb4 okb hxm hx hEy
                        cases bj with
                        | true =>
                          go_upto_region 27 with fail
                          clear t0 t1 t2 ey
                          refine wp_region_noPanic ?_
                          refine wp_region_held_drew (S := fun w' => But Z.heap.size nb Z w' ∧ w'.cell? ⟨g5, o5 + q * 3, none⟩ = some (.int .i64 (y : Int)) ∧ w'.cell? ⟨yb, y * 4, none⟩ = some (.int .u64 ((b4 0 : Nat) : Int)) ∧ w'.cell? ⟨yb, y * 4 + 1, none⟩ = some (.int .u64 ((b4 1 : Nat) : Int)) ∧ w'.cell? ⟨yb, y * 4 + 2, none⟩ = some (.int .u64 ((b4 2 : Nat) : Int)) ∧ w'.cell? ⟨yb, y * 4 + 3, none⟩ = some (.int .u64 ((b4 3 : Nat) : Int))) (by kernel_rfl) (HSS.out _ (But.refl _ _ _).drew) (fun hHeld => ?_)
                          refine wpAnyH_take (i := 1) (oi := _) (v := ?_) rfl (by kernel_rfl) (by kernel_rfl) (by kernel_rfl) (fun _ _ _ h => h) (Or.inl ⟨by rfl, ?_⟩) (by assumption) ?_
                          rotate_left
                          · intro w' hSw; (try dsimp only at hSw); go_simp; (try with_reducible rfl)
                          simp only [Act.put, List.setIfInBounds_toArray, List.set_cons_zero, List.set_cons_succ]
                          refine wpAnyH_take (i := 2) (oi := _) (v := ?_) rfl (by kernel_rfl) (by kernel_rfl) (by kernel_rfl) (fun _ _ _ h => h) (Or.inl ⟨by rfl, ?_⟩) (by assumption) ?_
                          rotate_left
                          · intro w' hSw; (try dsimp only at hSw); go_simp; (try with_reducible rfl)
                          simp only [Act.put, List.setIfInBounds_toArray, List.set_cons_zero, List.set_cons_succ]
                          refine wpAnyH_take (i := 3) (oi := _) (v := ?_) rfl (by kernel_rfl) (by kernel_rfl) (by kernel_rfl) (fun _ _ _ h => h) (Or.inl ⟨by rfl, ?_⟩) (by assumption) ?_
                          rotate_left
                          · intro w' hSw; (try dsimp only at hSw); go_simp; (try with_reducible rfl)
                          simp only [Act.put, List.setIfInBounds_toArray, List.set_cons_zero, List.set_cons_succ]
                          refine wpAnyH_take (i := 4) (oi := _) (v := ?_) rfl (by kernel_rfl) (by kernel_rfl) (by kernel_rfl) (fun _ _ _ h => h) (Or.inl ⟨by rfl, ?_⟩) (by assumption) ?_
                          rotate_left
                          · intro w' hSw; (try dsimp only at hSw); go_simp; (try with_reducible rfl)
                          simp only [Act.put, List.setIfInBounds_toArray, List.set_cons_zero, List.set_cons_succ]
                          refine wpAnyH_take (i := 5) (oi := _) (v := ?_) rfl (by kernel_rfl) (by kernel_rfl) (by kernel_rfl) (fun _ _ _ h => h) (Or.inl ⟨by rfl, ?_⟩) (by assumption) ?_
                          rotate_left
                          · intro w' hSw; (try dsimp only at hSw); go_simp; (try with_reducible rfl)
                          simp only [Act.put, List.setIfInBounds_toArray, List.set_cons_zero, List.set_cons_succ]
                          refine wpAnyH_take (i := 6) (oi := _) (v := ?_) rfl (by kernel_rfl) (by kernel_rfl) (by kernel_rfl) (fun _ _ _ h => h) (Or.inl ⟨by rfl, ?_⟩) (by assumption) ?_
                          rotate_left
                          · intro w' hSw; (try dsimp only at hSw); go_simp; (try with_reducible rfl)
                          simp only [Act.put, List.setIfInBounds_toArray, List.set_cons_zero, List.set_cons_succ]
                          refine wpAnyH_take (i := 7) (oi := _) (v := ?_) rfl (by kernel_rfl) (by kernel_rfl) (by kernel_rfl) (fun _ _ _ h => h) (Or.inl ⟨by rfl, ?_⟩) (by assumption) ?_
                          rotate_left
                          · intro w' hSw; (try dsimp only at hSw); go_simp; (try with_reducible rfl)
                          simp only [Act.put, List.setIfInBounds_toArray, List.set_cons_zero, List.set_cons_succ]
                          refine wpAnyH_take (i := 8) (oi := _) (v := ?_) rfl (by kernel_rfl) (by kernel_rfl) (by kernel_rfl) (fun _ _ _ h => h) (Or.inl ⟨by rfl, ?_⟩) (by assumption) ?_
                          rotate_left
                          · intro w' hSw; (try dsimp only at hSw); go_simp; (try with_reducible rfl)
                          simp only [Act.put, List.setIfInBounds_toArray, List.set_cons_zero, List.set_cons_succ]
                          refine wpAnyH_ready (rs := [0]) (by kernel_rfl) (by simp) ?_
                          refine AllReadyH.cons rfl (fun K hK => ?_) ?_
                          · have n0 : Z.drew.cell? ⟨nb, 0, none⟩ = some (.int .u64 ((A' 0 : Nat) : Int)) := Lib.cell_of_heap HN.out 0
                            have n1 : Z.drew.cell? ⟨nb, 1, none⟩ = some (.int .u64 ((A' 1 : Nat) : Int)) := Lib.cell_of_heap HN.out 1
                            have n2 : Z.drew.cell? ⟨nb, 2, none⟩ = some (.int .u64 ((A' 2 : Nat) : Int)) := Lib.cell_of_heap HN.out 2
                            have n3 : Z.drew.cell? ⟨nb, 3, none⟩ = some (.int .u64 ((A' 3 : Nat) : Int)) := Lib.cell_of_heap HN.out 3
                            go_simp
                            refine hK.out _ _ (HSS.out _ (But.refl _ _ _).drew) (fun hHeld => ?_)
                            clear hK K n0 n1 n2 n3
                            refine wpAnyH_ready (rs := [9]) (by kernel_rfl) (by simp) ?_
                            refine AllReadyH.cons rfl (fun K hK => ?_) ?_
                            · go_simp
                              refine (KX.out _).mono ?_
                              rintro e wz ⟨rfl, bz⟩
                              have HBZ : Hid (Below Z.heap.size Z wz) := (Below.refl _ _).drew.trans bz
                              refine hK.out _ _ (HSS.out _ (But.of HBZ.out)) (fun hHeld => ?_)
                              clear hK K bz
                              refine wpAnyH_ready (rs := [10]) (by kernel_rfl) (by simp) ?_
                              refine AllReadyH.cons rfl (fun K hK => ?_) ?_
                              · have HNZ : Hid (WbAt wz nb A') := HN.out.keep HBZ.out
                                have n0 : wz.cell? ⟨nb, 0, none⟩ = some (.int .u64 ((A' 0 : Nat) : Int)) := Lib.cell_of_heap HNZ.out 0
                                have n1 : wz.cell? ⟨nb, 1, none⟩ = some (.int .u64 ((A' 1 : Nat) : Int)) := Lib.cell_of_heap HNZ.out 1
                                have n2 : wz.cell? ⟨nb, 2, none⟩ = some (.int .u64 ((A' 2 : Nat) : Int)) := Lib.cell_of_heap HNZ.out 2
                                have n3 : wz.cell? ⟨nb, 3, none⟩ = some (.int .u64 ((A' 3 : Nat) : Int)) := Lib.cell_of_heap HNZ.out 3
                                have f0 : wz.frozen? ⟨nb, 0, none⟩ = false := frzV HNZ.out 0
                                have f1 : wz.frozen? ⟨nb, 1, none⟩ = false := frzV HNZ.out 1
                                have f2 : wz.frozen? ⟨nb, 2, none⟩ = false := frzV HNZ.out 2
                                have f3 : wz.frozen? ⟨nb, 3, none⟩ = false := frzV HNZ.out 3
                                have nl : nb < wz.heap.size := block_lt HNZ.out
                                go_simp
                                refine hK.out _ _ (HSS.out _ (but_setW (But.of HBZ.out) A2)) (fun hHeld => ?_)
                                clear hK K
                                refine wpAnyH_done (by kernel_rfl) ?_ _
                                refine NoPanic.normal ?_
                                have HN9 : Hid (WbAt (setW wz nb A2) nb A2) := HNZ.out.set A2
                                have HB9 : Hid (Below we.heap.size we (setW wz nb A2)) := bel_setW (HBq.out.trans (HBZ.out.mono HBq.out.size)) HNW.out A2
                                clear hHeld n0 n1 n2 n3 f0 f1 f2 f3 nl
                                obtain ⟨V9, hV9⟩ : ∃ x, x = setW wz nb A2 := ⟨_, rfl⟩
                                rw [← hV9] at HN9 HB9
                                obtain ⟨t0, t1, t2⟩ := HYC.out V9 HB9.out
                                rw [show (((wz.setCell ⟨nb, 0, none⟩ (.int .u64 ((A2 0 : Nat) : Int))).setCell ⟨nb, 1, none⟩ (.int .u64 ((A2 1 : Nat) : Int))).setCell ⟨nb, 2, none⟩ (.int .u64 ((A2 2 : Nat) : Int))).setCell ⟨nb, 3, none⟩ (.int .u64 ((A2 3 : Nat) : Int)) = V9 from hV9.symm]
                                clear hV9
                                go_wp2
                                go_roundw
                                case rel => exact ⟨j + 1, _, A2, by omega, by go_num, rfl, HIP, HN9, HB9⟩
                                case measure => simp [intOf]; omega
                              exact AllReadyH.nil
                            exact AllReadyH.nil
                          exact AllReadyH.nil
                        | false =>
                          go_upto_region 27 with fail
                          clear t0 t1 t2 ey
                          refine wp_region_noPanic ?_
                          refine wp_region_held_drew (S := fun w' => But Z.heap.size nb Z w' ∧ w'.cell? ⟨g5, o5 + q * 3, none⟩ = some (.int .i64 (y : Int)) ∧ w'.cell? ⟨yb, y * 4, none⟩ = some (.int .u64 ((b4 0 : Nat) : Int)) ∧ w'.cell? ⟨yb, y * 4 + 1, none⟩ = some (.int .u64 ((b4 1 : Nat) : Int)) ∧ w'.cell? ⟨yb, y * 4 + 2, none⟩ = some (.int .u64 ((b4 2 : Nat) : Int)) ∧ w'.cell? ⟨yb, y * 4 + 3, none⟩ = some (.int .u64 ((b4 3 : Nat) : Int))) (by kernel_rfl) (HSS.out _ (But.refl _ _ _).drew) (fun hHeld => ?_)
                          refine wpAnyH_take (i := 1) (oi := _) (v := ?_) rfl (by kernel_rfl) (by kernel_rfl) (by kernel_rfl) (fun _ _ _ h => h) (Or.inl ⟨by rfl, ?_⟩) (by assumption) ?_
                          rotate_left
                          · intro w' hSw; (try dsimp only at hSw); go_simp; (try with_reducible rfl)
                          simp only [Act.put, List.setIfInBounds_toArray, List.set_cons_zero, List.set_cons_succ]
                          refine wpAnyH_take (i := 2) (oi := _) (v := ?_) rfl (by kernel_rfl) (by kernel_rfl) (by kernel_rfl) (fun _ _ _ h => h) (Or.inl ⟨by rfl, ?_⟩) (by assumption) ?_
                          rotate_left
                          · intro w' hSw; (try dsimp only at hSw); go_simp; (try with_reducible rfl)
                          simp only [Act.put, List.setIfInBounds_toArray, List.set_cons_zero, List.set_cons_succ]
                          refine wpAnyH_take (i := 3) (oi := _) (v := ?_) rfl (by kernel_rfl) (by kernel_rfl) (by kernel_rfl) (fun _ _ _ h => h) (Or.inl ⟨by rfl, ?_⟩) (by assumption) ?_
                          rotate_left
                          · intro w' hSw; (try dsimp only at hSw); go_simp; (try with_reducible rfl)
                          simp only [Act.put, List.setIfInBounds_toArray, List.set_cons_zero, List.set_cons_succ]
                          refine wpAnyH_take (i := 4) (oi := _) (v := ?_) rfl (by kernel_rfl) (by kernel_rfl) (by kernel_rfl) (fun _ _ _ h => h) (Or.inl ⟨by rfl, ?_⟩) (by assumption) ?_
                          rotate_left
                          · intro w' hSw; (try dsimp only at hSw); go_simp; (try with_reducible rfl)
                          simp only [Act.put, List.setIfInBounds_toArray, List.set_cons_zero, List.set_cons_succ]
                          refine wpAnyH_take (i := 5) (oi := _) (v := ?_) rfl (by kernel_rfl) (by kernel_rfl) (by kernel_rfl) (fun _ _ _ h => h) (Or.inl ⟨by rfl, ?_⟩) (by assumption) ?_
                          rotate_left
                          · intro w' hSw; (try dsimp only at hSw); go_simp; (try with_reducible rfl)
                          simp only [Act.put, List.setIfInBounds_toArray, List.set_cons_zero, List.set_cons_succ]
                          refine wpAnyH_take (i := 6) (oi := _) (v := ?_) rfl (by kernel_rfl) (by kernel_rfl) (by kernel_rfl) (fun _ _ _ h => h) (Or.inl ⟨by rfl, ?_⟩) (by assumption) ?_
                          rotate_left
                          · intro w' hSw; (try dsimp only at hSw); go_simp; (try with_reducible rfl)
                          simp only [Act.put, List.setIfInBounds_toArray, List.set_cons_zero, List.set_cons_succ]
                          refine wpAnyH_take (i := 7) (oi := _) (v := ?_) rfl (by kernel_rfl) (by kernel_rfl) (by kernel_rfl) (fun _ _ _ h => h) (Or.inl ⟨by rfl, ?_⟩) (by assumption) ?_
                          rotate_left
                          · intro w' hSw; (try dsimp only at hSw); go_simp; (try with_reducible rfl)
                          simp only [Act.put, List.setIfInBounds_toArray, List.set_cons_zero, List.set_cons_succ]
                          refine wpAnyH_take (i := 8) (oi := _) (v := ?_) rfl (by kernel_rfl) (by kernel_rfl) (by kernel_rfl) (fun _ _ _ h => h) (Or.inl ⟨by rfl, ?_⟩) (by assumption) ?_
                          rotate_left
                          · intro w' hSw; (try dsimp only at hSw); go_simp; (try with_reducible rfl)
                          simp only [Act.put, List.setIfInBounds_toArray, List.set_cons_zero, List.set_cons_succ]
                          refine wpAnyH_ready (rs := [0]) (by kernel_rfl) (by simp) ?_
                          refine AllReadyH.cons rfl (fun K hK => ?_) ?_
                          · have n0 : Z.drew.cell? ⟨nb, 0, none⟩ = some (.int .u64 ((A' 0 : Nat) : Int)) := Lib.cell_of_heap HN.out 0
                            have n1 : Z.drew.cell? ⟨nb, 1, none⟩ = some (.int .u64 ((A' 1 : Nat) : Int)) := Lib.cell_of_heap HN.out 1
                            have n2 : Z.drew.cell? ⟨nb, 2, none⟩ = some (.int .u64 ((A' 2 : Nat) : Int)) := Lib.cell_of_heap HN.out 2
                            have n3 : Z.drew.cell? ⟨nb, 3, none⟩ = some (.int .u64 ((A' 3 : Nat) : Int)) := Lib.cell_of_heap HN.out 3
                            go_simp
                            refine hK.out _ _ (HSS.out _ (But.refl _ _ _).drew) (fun hHeld => ?_)
                            clear hK K n0 n1 n2 n3
                            refine wpAnyH_ready (rs := [9]) (by kernel_rfl) (by simp) ?_
                            refine AllReadyH.cons rfl (fun K hK => ?_) ?_
                            · go_simp
                              refine (KX.out _).mono ?_
                              rintro e wz ⟨rfl, bz⟩
                              have HBZ : Hid (Below Z.heap.size Z wz) := (Below.refl _ _).drew.trans bz
                              refine hK.out _ _ (HSS.out _ (But.of HBZ.out)) (fun hHeld => ?_)
                              clear hK K bz
                              refine wpAnyH_ready (rs := [10]) (by kernel_rfl) (by simp) ?_
                              refine AllReadyH.cons rfl (fun K hK => ?_) ?_
                              · have HNZ : Hid (WbAt wz nb A') := HN.out.keep HBZ.out
                                have n0 : wz.cell? ⟨nb, 0, none⟩ = some (.int .u64 ((A' 0 : Nat) : Int)) := Lib.cell_of_heap HNZ.out 0
                                have n1 : wz.cell? ⟨nb, 1, none⟩ = some (.int .u64 ((A' 1 : Nat) : Int)) := Lib.cell_of_heap HNZ.out 1
                                have n2 : wz.cell? ⟨nb, 2, none⟩ = some (.int .u64 ((A' 2 : Nat) : Int)) := Lib.cell_of_heap HNZ.out 2
                                have n3 : wz.cell? ⟨nb, 3, none⟩ = some (.int .u64 ((A' 3 : Nat) : Int)) := Lib.cell_of_heap HNZ.out 3
                                have f0 : wz.frozen? ⟨nb, 0, none⟩ = false := frzV HNZ.out 0
                                have f1 : wz.frozen? ⟨nb, 1, none⟩ = false := frzV HNZ.out 1
                                have f2 : wz.frozen? ⟨nb, 2, none⟩ = false := frzV HNZ.out 2
                                have f3 : wz.frozen? ⟨nb, 3, none⟩ = false := frzV HNZ.out 3
                                have nl : nb < wz.heap.size := block_lt HNZ.out
                                go_simp
                                refine hK.out _ _ (HSS.out _ (but_setW (But.of HBZ.out) A2)) (fun hHeld => ?_)
                                clear hK K
                                refine wpAnyH_done (by kernel_rfl) ?_ _
                                refine NoPanic.normal ?_
                                have HN9 : Hid (WbAt (setW wz nb A2) nb A2) := HNZ.out.set A2
                                have HB9 : Hid (Below we.heap.size we (setW wz nb A2)) := bel_setW (HBq.out.trans (HBZ.out.mono HBq.out.size)) HNW.out A2
                                clear hHeld n0 n1 n2 n3 f0 f1 f2 f3 nl
                                obtain ⟨V9, hV9⟩ : ∃ x, x = setW wz nb A2 := ⟨_, rfl⟩
                                rw [← hV9] at HN9 HB9
                                obtain ⟨t0, t1, t2⟩ := HYC.out V9 HB9.out
                                rw [show (((wz.setCell ⟨nb, 0, none⟩ (.int .u64 ((A2 0 : Nat) : Int))).setCell ⟨nb, 1, none⟩ (.int .u64 ((A2 1 : Nat) : Int))).setCell ⟨nb, 2, none⟩ (.int .u64 ((A2 2 : Nat) : Int))).setCell ⟨nb, 3, none⟩ (.int .u64 ((A2 3 : Nat) : Int)) = V9 from hV9.symm]
                                clear hV9
                                go_wp2
                                go_roundw
                                case rel => exact ⟨j + 1, _, A2, by omega, by go_num, rfl, HIP, HN9, HB9⟩
                                case measure => simp [intOf]; omega
                              exact AllReadyH.nil
                            exact AllReadyH.nil
                          exact AllReadyH.nil
                  · --SD
                    obtain rfl : zl = q := by omega
                    have hlqI : ¬ (zl : Int) < (zl : Int) := by omega
                    have hlqD : decide ((zl : Int) < (zl : Int)) = false := decide_eq_false hlqI
                    have hqe : ((zl : Int) == (zl : Int)) = true := beq_self_eq_true _
                    have hen := HIM.out.end HZL.out
                    have HIP : Hid (IvP E B k (S3 g.rules k i r (j + 1)) true A') := HI.out.add HCJ.out HIM.out.2.1 hen.2 HIM.out.2.2.1 HIM.out.1 (by rw [hen.1, Bool.or_true]) (fun h => by have := HFO.out.eo.cl r HRM.out d (List.mem_of_getElem? HCJ.out) h; rw [HKH.out] at this; exact this)
                    clear hlq hq hen
                    cases bj with
                    | true =>
                      go_wp2
                      go_roundw
                      case rel => exact ⟨j + 1, true, A', by omega, by go_num, rfl, HIP, HN, HBq⟩
                      case measure => simp [intOf]; omega
                    | false =>
                      go_wp2
                      go_roundw
                      case rel => exact ⟨j + 1, true, A', by omega, by go_num, rfl, HIP, HN, HBq⟩
                      case measure => simp [intOf]; omega
              · have hkB : ((hd : Int) == (k : Int)) = false := by rw [beq_eq_false_iff_ne]; omega
                have HIP : Hid (IvP E B k (S2 g.rules k (i + 1)) bj A) := HI.out.skip HRI.out (by rw [HHD.out]; exact hhk)
                clear hhk
                go_wp2
                go_roundw
                case rel => exact ⟨i + 1, bj, A, by omega, by go_num, rfl, HIP, HN, HBj⟩
                case measure => simp [intOf]; omega
            · obtain rfl : cl = j := by omega
              have hljI : ¬ (cl : Int) < (cl : Int) := by omega
              have hljD : decide ((cl : Int) < (cl : Int)) = false := decide_eq_false hljI
              have HIP : Hid (IvP E B k (S2 g.rules k (i + 1)) bj A) := HI.out.out HRI.out HCLN.out
              clear hlj hj
              go_wp2
              go_roundw
              case rel => exact ⟨i + 1, bj, A, by omega, by go_num, rfl, HIP, HN, HBj⟩
              case measure => simp [intOf]; omega
        · --SC
          obtain rfl : m = i := by omega
          have hltI : ¬ (m : Int) < (m : Int) := by omega
          have hltD : decide ((m : Int) < (m : Int)) = false := decide_eq_false hltI
          obtain ⟨d1, d2⟩ := HI.out.done HFO.out HML.out
          obtain ⟨ce, cb⟩ := HCE.out V HBi.out
          have ey := ce k hlk
          rw [d1] at ey
          obtain ⟨b4, hb4⟩ : ∃ b, b = B k := ⟨_, rfl⟩
          have bc := cb k hlk
          rw [← hb4] at bc d2
          have y0 : V.cell? ⟨yb, k * 4, none⟩ = some (.int .u64 ((b4 0 : Nat) : Int)) := bc 0 (by omega)
          have y1 : V.cell? ⟨yb, k * 4 + 1, none⟩ = some (.int .u64 ((b4 1 : Nat) : Int)) := bc 1 (by omega)
          have y2 : V.cell? ⟨yb, k * 4 + 2, none⟩ = some (.int .u64 ((b4 2 : Nat) : Int)) := bc 2 (by omega)
          have y3 : V.cell? ⟨yb, k * 4 + 3, none⟩ = some (.int .u64 ((b4 3 : Nat) : Int)) := bc 3 (by omega)
          have n0 : V.cell? ⟨nb, 0, none⟩ = some (.int .u64 ((A 0 : Nat) : Int)) := Lib.cell_of_heap HN.out 0
          have n1 : V.cell? ⟨nb, 1, none⟩ = some (.int .u64 ((A 1 : Nat) : Int)) := Lib.cell_of_heap HN.out 1
          have n2 : V.cell? ⟨nb, 2, none⟩ = some (.int .u64 ((A 2 : Nat) : Int)) := Lib.cell_of_heap HN.out 2
          have n3 : V.cell? ⟨nb, 3, none⟩ = some (.int .u64 ((A 3 : Nat) : Int)) := Lib.cell_of_heap HN.out 3
          have hq1 : ∀ w, (Op.equalIn 10000 39 (bv b4) (bv A)).run Try.prog w = .ok true w := eq_bv 10000 (Or.inr rfl) b4 A d2
          have hbb : (eb0 != eb0) = false := by cases eb0 <;> rfl
          have hkI : (k : Int) < (n : Int) := by omega
          have hlkI : (k : Int) < (n : Int) := by omega
          clear hlt hi d1 d2 ce cb bc hb4 HI
          go_upto_region 31 with fail
          clear z1 c0 c1 c2
          have hcm : ∀ w, (Op.equalIn 10000 4 (.bool eb0) (.bool eb0)).run Try.prog w = .ok true w := fun w => by cases eb0 <;> rfl
          go_quiet (fail)
          have HB9 : Hid (Below we.heap.size we V.drew) := HBi.out.drew
          clear y0 y1 y2 y3 n0 n1 n2 n3 ey
          go_wp2
          go_roundw
          case rel => exact ⟨k + 1, by omega, by go_num, ⟨HB9.out.os, HB9.out.tape, HB9.out.output, HB9.out.size, HB9.out.block⟩⟩
          case measure => simp [intOf]; omega
    · obtain rfl : n = k := by omega
      have hlkI : ¬ (n : Int) < (n : Int) := by omega
      have hlkD : decide ((n : Int) < (n : Int)) = false := decide_eq_false hlkI
      clear hlk hk
      go_wp2
      go_ret
      exact ⟨rfl, XE.out.1.trans (HBk.out.mono XE.out.1.size)⟩
end Go.Proofs.Ytopokicdgdjgkaa
