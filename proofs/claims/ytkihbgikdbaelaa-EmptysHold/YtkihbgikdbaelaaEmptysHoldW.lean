/- EmptysHold, walked. -/
import Derived.Test.YtkihbgikdbaelaaNulTop
import Derived.Test.YtkihbgikdbaelaaRefMayE
import Derived.Test.YtkihbgikdbaelaaRefMayG
namespace Go.Proofs.Ytkihbgikdbaelaa
set_option linter.unusedVariables false
open Go.ChangeShapes Go.WideShapes Go.ChangeAt Go.RowKit

/-- A grammar in a block of its own, and what is behind it. -/
def Bx9 (W : World) (s : Int) (v1 v2 : Value) (w : World) : Prop := Below W.heap.size W w ∧ W.heap.size < w.heap.size ∧ w.cell? ⟨W.heap.size, 0, none⟩ = some (.int .i64 s) ∧ w.cell? ⟨W.heap.size, 1, none⟩ = some v1 ∧ w.cell? ⟨W.heap.size, 2, none⟩ = some v2
theorem Bx9.new (W : World) (s : Int) (v1 v2 : Value) : Bx9 W s v1 v2 (W.alloc (.cells #[.int .i64 s, v1, v2] 25)) :=
  ⟨bel1 _ _, by simp, World.cell?_alloc_at _ _ _ _ rfl, World.cell?_alloc_at _ _ _ _ rfl, World.cell?_alloc_at _ _ _ _ rfl⟩
theorem Bx9.any {W : World} {s : Int} {v1 v2 : Value} {w w' : World} (h : Bx9 W s v1 v2 w) (hb : Below w.heap.size w w') : Bx9 W s v1 v2 w' :=
  ⟨h.1.trans (hb.mono h.1.size), Nat.lt_of_lt_of_le h.2.1 hb.size, (hb.cell (p := ⟨_, _, none⟩) h.2.1).trans h.2.2.1, (hb.cell (p := ⟨_, _, none⟩) h.2.1).trans h.2.2.2.1, (hb.cell (p := ⟨_, _, none⟩) h.2.1).trans h.2.2.2.2⟩
set_option maxHeartbeats 4000000 in
set_option maxRecDepth 100000 in
theorem emptysHold_no (W : World) (s : Int) (v1 v2 : Value) (k1 k2 : Option Addr × Nat × Nat) (e1 : v1 = .slice k1.1 k1.2.1 k1.2.2) (e2 : v2 = .slice k2.1 k2.2.1 k2.2.2)
    (KN : ∀ w, Below W.heap.size W w → Calls Try.prog 8 #[.agg #[.int .i64 s, v1, v2]] w fun e w' => e = .returned (.tuple #[.slice none 0 0, .int .i64 900]) ∧ Hid (Below w.heap.size w w')) :
    Calls Try.prog 3 #[.agg #[.int .i64 s, v1, v2]] W fun e W' => e = .returned (.bool true) ∧ Below W.heap.size W W' := by
  have HX1 : Hid (Bx9 W s v1 v2 (W.alloc (.cells #[.int .i64 s, v1, v2] 25))) := Bx9.new _ _ _ _
  have HS : Hid (∀ w, Below W.heap.size W w → Calls Try.prog 8 #[.agg #[.int .i64 s, v1, v2]] w fun e w' => e = .returned (.tuple #[.slice none 0 0, .int .i64 900]) ∧ Hid (Below w.heap.size w w')) := KN
  subst e1 e2
  clear KN
  go_enter Try.func3, Try.ntmps3
  go_wp2_with (first
    | (go_at_call 7; refine (awake9_any _).mono ?_; rintro e wa ⟨rfl, ba⟩; have XA : Hid (Bx9 _ _ _ _ wa) := HX1.out.any ba.out; obtain ⟨-, z1, c0, c1, c2⟩ := XA.out)
    | (go_at_call 8; refine (HS.out _ XA.out.1).mono ?_; rintro e wb ⟨rfl, bb⟩; have XB : Hid (Bx9 _ _ _ _ wb) := XA.out.any bb.out; clear z1 c0 c1 c2)
    | (go_at_call 9; refine (num_any _ _).mono ?_; rintro e wn ⟨rfl, rfl⟩))
  go_ret
  exact ⟨rfl, XB.out.1⟩
def hldR (M : Nat → Bool) (a : Nat) (r : Ru) : Bool := decide (r.head.toNat = a) && holB M r
theorem takeAny {α : Type} {p : α → Bool} {l : List α} {k : Nat} {a : α} (h : l[k]? = some a) : (l.take (k + 1)).any p = ((l.take k).any p || p a) := by
  rw [List.take_add_one, h]
  simp
set_option maxHeartbeats 8000000 in
set_option maxRecDepth 100000 in
theorem emptysHold_ok (W : World) (s : Int) (v1 v2 : Value) (n : Nat) (L : List Ru) {F : Nat → Prop} (hn : n ≤ 64) (hL : IsRus W F v2 L) (hl : L.length ≤ 256) (hr : ∀ r, r ∈ L → rulIn n r) (k1 : Option Addr × Nat) (e1 : v1 = .slice k1.1 n k1.2)
    (KN : ∀ w, Below W.heap.size W w → Calls Try.prog 8 #[.agg #[.int .i64 s, v1, v2]] w fun e w' => ∃ b M, e = .returned (.tuple #[.slice (some ⟨b, 0, none⟩) n n, .int .i64 0]) ∧ w.heap.size ≤ b ∧ Hid (Stb L M) ∧ Hid (BlAt w' b n M) ∧ Hid (Below w.heap.size w w'))
    (KM : ∀ w, Below W.heap.size W w → Calls Try.prog 10 #[.agg #[.int .i64 s, v1, v2]] w fun e w' => e = .returned (.bool true) ∧ Hid (Below w.heap.size w w')) :
    Calls Try.prog 3 #[.agg #[.int .i64 s, v1, v2]] W fun e W' => e = .returned (.bool true) ∧ Below W.heap.size W W' := by
  have HX1 : Hid (Bx9 W s v1 v2 (W.alloc (.cells #[.int .i64 s, v1, v2] 25))) := Bx9.new _ _ _ _
  have HN : Hid (∀ w, Below W.heap.size W w → Calls Try.prog 8 #[.agg #[.int .i64 s, v1, v2]] w fun e w' => ∃ b M, e = .returned (.tuple #[.slice (some ⟨b, 0, none⟩) n n, .int .i64 0]) ∧ w.heap.size ≤ b ∧ Hid (Stb L M) ∧ Hid (BlAt w' b n M) ∧ Hid (Below w.heap.size w w')) := KN
  have HM : Hid (∀ w, Below W.heap.size W w → Calls Try.prog 10 #[.agg #[.int .i64 s, v1, v2]] w fun e w' => e = .returned (.bool true) ∧ Hid (Below w.heap.size w w')) := KM
  have HL : Hid (IsRus W F v2 L) := hL
  have HR : Hid (∀ r, r ∈ L → rulIn n r) := hr
  obtain ⟨p2, q2, e2, -⟩ := IsRus.lng hL
  obtain ⟨m, hm⟩ : ∃ m, m = L.length := ⟨_, rfl⟩
  have HML : Hid (m = L.length) := hm
  rw [← hm] at e2 hl
  subst e1 e2
  clear KN KM hL hr hm
  go_enter Try.func3, Try.ntmps3
  go_upto_region 8 with (first
    | (go_at_call 7; refine (awake9_any _).mono ?_; rintro e wa ⟨rfl, ba⟩; have XA : Hid (Bx9 _ _ _ _ wa) := HX1.out.any ba.out; obtain ⟨-, z1, c0, c1, c2⟩ := XA.out)
    | (go_at_call 8; refine (HN.out _ XA.out.1).mono ?_; rintro e wb ⟨b, M, rfl, hbb, HST, HZB, bb⟩; have XB : Hid (Bx9 _ _ _ _ wb) := XA.out.any bb.out; clear z1 c0 c1 c2; obtain ⟨-, z1, c0, c1, c2⟩ := XB.out)
    | (go_at_call 10; refine (HM.out _ XB.out.1).mono ?_; rintro e wc ⟨rfl, bc⟩; have XC : Hid (Bx9 _ _ _ _ wc) := XB.out.any bc.out; clear z1 c0 c1 c2)
    | (go_at_call 9; refine (num_any _ _).mono ?_; rintro e wn ⟨rfl, rfl⟩))
  have HZC : Hid (BlAt wc b n M) := HZB.out.keep bc.out
  have HLC : Hid (IsRus wc F (.slice p2 m q2) L) := HL.out.any XC.out.1
  have HSP : Hid (∀ a, M a = L.any (hldR M a)) := fun a => HST.out.supp a
  clear HN HM HST HZB bb hbb HL XB XA HX1 ba bc
  go_wp2
  go_loopw [5] (fun x wr => ∃ a : Nat, a ≤ n ∧ x = .int .i64 a ∧ Hid (Below wc.heap.size wc wr)) (fun x _ => n - (intOf x).toNat)
  case atStart => exact ⟨0, Nat.zero_le _, rfl, Below.refl _ _⟩
  case round =>
    obtain ⟨a, ha, rfl, HB⟩ := hrel
    have XR : Hid (Bx9 _ _ _ _ wr) := XC.out.any HB.out
    obtain ⟨-, z1, c0, c1, c2⟩ := XR.out
    by_cases hlt : a < n
    · go_wp2
      clear z1 c0 c1 c2 XR
      go_loopw [6, 7] (fun y x wr => ∃ i : Nat, i ≤ m ∧ x = .int .i64 i ∧ y = .bool ((L.take i).any (hldR M a)) ∧ Hid (Below wc.heap.size wc wr)) (fun _ x _ => m - (intOf x).toNat)
      case atStart => exact ⟨0, Nat.zero_le _, rfl, rfl, HB⟩
      case round =>
        obtain ⟨i, hi, rfl, rfl, HB⟩ := hrel
        have XR : Hid (Bx9 _ _ _ _ wr) := XC.out.any HB.out
        obtain ⟨-, z1, c0, c1, c2⟩ := XR.out
        by_cases hlti : i < m
        · obtain ⟨t, ht⟩ : ∃ t, L[i]? = some t := ⟨_, List.getElem?_eq_getElem (by rw [← HML.out]; exact hlti)⟩
          obtain ⟨g1, o1, u1, hp, a0, a1, hcn⟩ := (HLC.out.any HB.out).row ht
          subst hp
          obtain ⟨hhd, hcm⟩ := HR.out t (List.mem_of_getElem? ht)
          have hta := takeAny (p := hldR M a) ht
          obtain ⟨S, hS⟩ : ∃ S, S = (L.take i).any (hldR M a) := ⟨_, rfl⟩
          rw [← hS] at hta ⊢
          obtain ⟨hd, cs⟩ := t
          simp only at a0 a1 hcn hhd hcm
          obtain ⟨x, rfl⟩ : ∃ x : Nat, hd = (x : Int) := ⟨hd.toNat, by omega⟩
          obtain ⟨q, cq, hu1, hcl⟩ := IsCns.lng hcn
          have hcl9 : cs.length ≤ 9223372036854775807 := by unfold maxLen at hcl; omega
          have HB2 : Hid (Below wc.heap.size wc (wr.alloc (.cells #[.int .i64 (x : Int), u1] 35))) := bel_one HB.out HB.out.size _
          by_cases hxa : x = a
          · subst hxa
            have HTA : Hid ((L.take (i + 1)).any (hldR M x) = (S || holB M ⟨(x : Int), cs⟩)) := by
              show _ = _
              rw [hta]; unfold hldR; simp
            obtain ⟨X, hX⟩ : ∃ X, X = wr.alloc (.cells #[.int .i64 (x : Int), u1] 35) := ⟨_, rfl⟩
            have hXb : Below wr.heap.size wr X := by rw [hX]; exact bel1 _ _
            have x0 : X.cell? ⟨wr.heap.size, 0, none⟩ = some (.int .i64 (x : Int)) := by rw [hX]; exact World.cell?_alloc_at _ _ _ _ rfl
            have x1 : X.cell? ⟨wr.heap.size, 1, none⟩ = some u1 := by rw [hX]; exact World.cell?_alloc_at _ _ _ _ rfl
            have HCN : Hid (IsCns X F u1 cs) := IsCns.any hcn hXb
            rw [← hX] at HB2
            have HZX : Hid (BlAt X b n M) := HZC.out.keep HB2.out
            have HCM : Hid (∀ c, c ∈ cs → conIn n c) := hcm
            have HHB : Hid (holB M ⟨(x : Int), cs⟩ = cs.all (conB M)) := rfl
            obtain ⟨nb, hnb⟩ : ∃ nb, nb = wr.heap.size := ⟨_, rfl⟩
            subst hu1
            clear ht hta hS hcn hhd hcm hXb hcl
            go_upto_region 17 with fail
            rw [← hX]
            rw [← hnb] at x0 x1 ⊢
            clear hX hnb a0 a1 z1 c0 c1 c2 XR HB
            go_wp2
            go_loopw [9, 10] (fun y x wq => ∃ j : Nat, j ≤ cs.length ∧ x = .int .i64 j ∧ y = .bool ((cs.take j).all (conB M)) ∧ Hid (wq = X)) (fun _ x _ => cs.length - (intOf x).toNat)
            case atStart => exact ⟨0, Nat.zero_le _, rfl, rfl, rfl⟩
            case round =>
              obtain ⟨j, hj, rfl, rfl, HWX⟩ := hrel
              obtain rfl : wr = X := HWX.out
              clear HWX
              by_cases hltj : j < cs.length
              · obtain ⟨c, hc⟩ : ∃ c, cs[j]? = some c := ⟨_, List.getElem?_eq_getElem hltj⟩
                obtain ⟨g3, o3, u3, hp3, b0, b1, hsy⟩ := HCN.out.row hc
                subst hp3
                have hcm := HCM.out c (List.mem_of_getElem? hc)
                have htj := takeAll (p := conB M) hc
                obtain ⟨H, hH⟩ : ∃ H, H = (cs.take j).all (conB M) := ⟨_, rfl⟩
                rw [← hH] at htj ⊢
                obtain ⟨ng, sq⟩ := c
                simp only at b0 b1 hsy
                obtain ⟨q4, c4, rfl⟩ := hsy.slc
                have HSY : Hid (IsSys wr F (.slice q4 sq.length c4) sq) := hsy
                have HSM : Hid (∀ t, t ∈ sq → symIn n t) := hcm
                have HTJ : Hid ((cs.take (j + 1)).all (conB M) = (H && !(empB M sq == ng))) := htj
                have hsl : sq.length ≤ 9223372036854775807 := by obtain ⟨_, _, _, h, _⟩ := hsy; have := h.1; unfold maxLen at this; omega
                clear hc htj hH hsy hcm
                go_wp2
                obtain ⟨Y, hY⟩ : ∃ Y, Y = wr := ⟨_, rfl⟩
                subst hY
                go_loopw [11, 12] (fun y x wq => ∃ k : Nat, k ≤ sq.length ∧ x = .int .i64 k ∧ y = .bool ((sq.take k).all (symB M)) ∧ Hid (wq = Y)) (fun _ x _ => sq.length - (intOf x).toNat)
                case atStart => exact ⟨0, Nat.zero_le _, rfl, rfl, rfl⟩
                case round =>
                  obtain ⟨k, hk, rfl, rfl, HWY⟩ := hrel
                  obtain rfl : wr = Y := HWY.out
                  clear HWY
                  by_cases hltk : k < sq.length
                  · obtain ⟨t, ht⟩ : ∃ t, sq[k]? = some t := ⟨_, List.getElem?_eq_getElem hltk⟩
                    obtain ⟨g5, o5, hp5, hg5, d0, d1, d2⟩ := HSY.out.cel ht
                    subst hp5
                    have hsi := HSM.out t (List.mem_of_getElem? ht)
                    have htk := takeAll (p := symB M) ht
                    obtain ⟨A, hA⟩ : ∃ A, A = (sq.take k).all (symB M) := ⟨_, rfl⟩
                    rw [← hA] at htk ⊢
                    obtain ⟨nm, lo, up⟩ := t
                    unfold symIn at hsi
                    simp only at d0 d1 d2 hsi
                    cases A with
                    | false =>
                      have HTK : Hid ((sq.take (k + 1)).all (symB M) = false) := by show _ = _; rw [htk]; rfl
                      clear ht htk hA hsi
                      go_wp2
                      go_roundw
                      case rel => exact ⟨k + 1, by omega, by go_num, by rw [HTK.out], by trivial⟩
                      case measure => simp [intOf]; omega
                    | true =>
                      by_cases hn1 : nm = -1
                      · have HTK : Hid ((sq.take (k + 1)).all (symB M) = false) := by show _ = _; rw [htk]; unfold symB; simp [hn1]
                        subst hn1
                        clear ht htk hA hsi
                        go_wp2
                        go_roundw
                        case rel => exact ⟨k + 1, by omega, by go_num, by rw [HTK.out], by trivial⟩
                        case measure => simp [intOf]; omega
                      · obtain ⟨y, rfl⟩ : ∃ y : Nat, nm = (y : Int) := ⟨nm.toNat, by have := hsi.resolve_left hn1; omega⟩
                        have hy : y < n := by have := hsi.resolve_left hn1; omega
                        have HTK : Hid ((sq.take (k + 1)).all (symB M) = M y) := by show _ = _; rw [htk]; unfold symB; simp [hn1]
                        have cz := HZX.out.cell hy
                        have n1 : (0 : Int) ≤ (y : Int) := by omega
                        obtain ⟨My, hMy⟩ : ∃ My, My = M y := ⟨_, rfl⟩
                        rw [← hMy] at cz HTK
                        clear ht htk hA hsi hMy hn1
                        go_wp2
                        go_roundw
                        case rel => exact ⟨k + 1, by omega, by go_num, by rw [HTK.out], by trivial⟩
                        case measure => simp [intOf]; omega
                  · obtain rfl : k = sq.length := by omega
                    rw [List.take_length]
                    obtain ⟨e0, he0⟩ : ∃ e0, e0 = sq.all (symB M) := ⟨_, rfl⟩
                    have he1 : empB M sq = e0 := he0.symm
                    rw [he1] at HTJ
                    rw [← he0]
                    clear he0 he1
                    cases H with
                    | false =>
                      have HTN : Hid ((cs.take (j + 1)).all (conB M) = false) := by show _ = _; rw [HTJ.out]; rfl
                      go_wp2
                      go_roundw
                      case rel => exact ⟨j + 1, by omega, by go_num, by rw [HTN.out], by trivial⟩
                      case measure => simp [intOf]; omega
                    | true =>
                      cases e0 <;> cases ng
                      · have HTN : Hid ((cs.take (j + 1)).all (conB M) = false) := by show _ = _; rw [HTJ.out]; rfl
                        go_wp2
                        go_roundw
                        case rel => exact ⟨j + 1, by omega, by go_num, by rw [HTN.out], by trivial⟩
                        case measure => simp [intOf]; omega
                      · have HTN : Hid ((cs.take (j + 1)).all (conB M) = true) := by show _ = _; rw [HTJ.out]; rfl
                        go_wp2
                        go_roundw
                        case rel => exact ⟨j + 1, by omega, by go_num, by rw [HTN.out], by trivial⟩
                        case measure => simp [intOf]; omega
                      · have HTN : Hid ((cs.take (j + 1)).all (conB M) = true) := by show _ = _; rw [HTJ.out]; rfl
                        go_wp2
                        go_roundw
                        case rel => exact ⟨j + 1, by omega, by go_num, by rw [HTN.out], by trivial⟩
                        case measure => simp [intOf]; omega
                      · have HTN : Hid ((cs.take (j + 1)).all (conB M) = false) := by show _ = _; rw [HTJ.out]; rfl
                        go_wp2
                        go_roundw
                        case rel => exact ⟨j + 1, by omega, by go_num, by rw [HTN.out], by trivial⟩
                        case measure => simp [intOf]; omega
              · obtain rfl : j = cs.length := by omega
                rw [List.take_length]
                obtain ⟨R, hR⟩ : ∃ R, R = cs.all (conB M) := ⟨_, rfl⟩
                rw [HHB.out, ← hR] at HTA
                rw [← hR]
                clear hR
                cases S with
                | false =>
                  have HT2 : Hid ((L.take (i + 1)).any (hldR M x) = R) := by show _ = _; rw [HTA.out]; rfl
                  go_wp2
                  go_roundw
                  case rel => exact ⟨i + 1, by omega, by go_num, by rw [HT2.out], HB2⟩
                  case measure => simp [intOf]; omega
                | true =>
                  have HT2 : Hid ((L.take (i + 1)).any (hldR M x) = true) := by show _ = _; rw [HTA.out]; rfl
                  go_wp2
                  go_roundw
                  case rel => exact ⟨i + 1, by omega, by go_num, by rw [HT2.out], HB2⟩
                  case measure => simp [intOf]; omega
          · have HTA : Hid ((L.take (i + 1)).any (hldR M a) = S) := by
              show _ = _
              rw [hta]; unfold hldR; simp [hxa]
            have n1 : ((x : Int) == (a : Int)) = false := by rw [beq_eq_false_iff_ne]; omega
            have n2 : ¬ (x : Int) = (a : Int) := by omega
            subst hu1
            clear ht hta hS hcn hhd hcm
            go_wp2
            go_roundw
            case rel => exact ⟨i + 1, by omega, by go_num, by rw [HTA.out], HB2⟩
            case measure => simp [intOf]; omega
        · obtain rfl : i = m := by omega
          have htl : (L.take i).any (hldR M a) = M a := by rw [HML.out, List.take_length]; exact (HSP.out a).symm
          rw [htl]
          have cz := (HZC.out.keep HB.out).cell hlt
          clear htl
          cases hMa : M a with
          | false =>
            rw [hMa] at cz
            clear hMa
            go_wp2
            go_roundw
            case rel => exact ⟨a + 1, by omega, by go_num, HB⟩
            case measure => simp [intOf]; omega
          | true =>
            rw [hMa] at cz
            clear hMa
            go_wp2
            go_roundw
            case rel => exact ⟨a + 1, by omega, by go_num, HB⟩
            case measure => simp [intOf]; omega
    · obtain rfl : a = n := by omega
      go_wp2
      go_ret
      exact ⟨rfl, XR.out.1⟩
theorem may_rules {g : Gr} (hM : mayG g = true) : g.rules.length ≤ 256 := by
  unfold mayG mayRules at hM
  simp only [Bool.and_eq_true, decide_eq_true_eq] at hM
  exact hM.2.2.2.2.1
end Go.Proofs.Ytkihbgikdbaelaa
