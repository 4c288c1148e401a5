/- ShowBack: what is shown is read back: the walk. -/
import Derived.Test.YtkkfacbbelochaaShowBackC
namespace Go.Proofs.Ytkkfacbbelochaa
set_option linter.unusedVariables false
open Go.ChangeShapes Go.WideShapes Go.ChangeAt Go.RowKit

theorem bel_go {W w3 w4 : World} (h : Below W.heap.size W w3) (k : Below w3.heap.size w3 w4) : Below W.heap.size W w4 := h.trans (k.mono h.size)
theorem bel_step {W w3 w4 : World} {o : Obj} (h : Below W.heap.size W w3) (k : Below (w3.alloc o).heap.size (w3.alloc o) w4) : Below W.heap.size W w4 := bel_go h ((bel1 w3 o).trans (k.mono (le_alloc _ _)))
/-- A box of three cells. -/
def Bx3 (n : Nat) (w : World) (a b c : Value) : Prop := n < w.heap.size ∧ w.cell? ⟨n, 0, none⟩ = some a ∧ w.cell? ⟨n, 1, none⟩ = some b ∧ w.cell? ⟨n, 2, none⟩ = some c
theorem Bx3.go {n : Nat} {w w' : World} {a b c : Value} (h : Bx3 n w a b c) (k : Below w.heap.size w w') : Bx3 n w' a b c := by
  obtain ⟨h0, h1, h2, h3⟩ := h
  exact ⟨Nat.lt_of_lt_of_le h0 k.size, (k.cell (p := ⟨n, 0, none⟩) h0).trans h1, (k.cell (p := ⟨n, 1, none⟩) h0).trans h2, (k.cell (p := ⟨n, 2, none⟩) h0).trans h3⟩
theorem Bx3.new {w w1 : World} {a b c : Value} {t : TypeId} (hb : Below (w.alloc (.cells #[a, b, c] t)).heap.size (w.alloc (.cells #[a, b, c] t)) w1) : Bx3 w.heap.size w1 a b c :=
  Bx3.go ⟨by simp, World.cell?_alloc_at _ _ _ _ rfl, World.cell?_alloc_at _ _ _ _ rfl, World.cell?_alloc_at _ _ _ _ rfl⟩ hb
theorem Bx3.step {n : Nat} {w w' : World} {a b c : Value} {o : Obj} (h : Bx3 n w a b c) (k : Below (w.alloc o).heap.size (w.alloc o) w') : Bx3 n w' a b c := h.go ((bel1 w o).trans (k.mono (le_alloc _ _)))

set_option maxHeartbeats 8000000 in
set_option maxRecDepth 100000 in
theorem showBack_walk (W : World) (g : Gr) (a1 a2 : Value) (ga : GrIs W Any a1 a2 g) (gn : ∀ s, s ∈ g.names → s.size ≤ maxLen ∧ s.size ≤ reachBytes) (gs : ∀ r, r ∈ g.rules → ∀ c, c ∈ r.conj → c.seq.length * 24 ≤ reachBytes) (w0 : (Lit.int .i64 g.start).wf = true) (s : ByteArray) (hs : s.size ≤ 140737488351232) :
    Calls Try.prog 3 #[.agg #[.int .i64 g.start, a1, a2], .string s] W fun e W' => e = .returned (.bool true) ∧ Below W.heap.size W W' := by
  have KA : Hid (After s) := after s (by unfold maxLen; omega)
  obtain ⟨b, t, k, KG, KM, KS, GO, HK⟩ := before W g a1 a2 ga gn gs
  obtain ⟨p1, n1, c1, hv1⟩ : ∃ p n c, a1 = .slice p n c := by obtain ⟨p, c, e, _⟩ := ga.1; exact ⟨_, _, _, e⟩
  obtain ⟨p2, c2, hv2⟩ := ga.2.slc
  generalize g.rules.length = n2 at hv2
  subst hv1 hv2
  have HKG := hid_mk KG
  have HKM := hid_mk KM
  have HKS := hid_mk KS
  have HGO := hid_mk GO
  have HHK := hid_mk HK
  clear KG KM KS GO HK gn gs w0 ga hs
  go_enter Try.func3, Try.ntmps3
  go_upto_region 4 with (first
    | (go_at_call 4; refine (awake5_any _).mono ?_; rintro e wa ⟨rfl, ba⟩; have HB0 : Hid (Bx3 W.heap.size wa _ _ _) := Bx3.new ba; have HA0 : Hid (Below W.heap.size W wa) := (bel1 W _).trans (ba.mono (le_alloc _ _)); obtain ⟨z0, x0, x1, x2⟩ := HB0.out; clear ba z0)
    | (go_at_call 5; refine (HKG.out _ HA0.out).mono ?_; rintro e wb ⟨rfl, bb⟩; have HA1 : Hid (Below W.heap.size W wb) := bel_go HA0.out bb.out; have HB1 : Hid (Bx3 W.heap.size wb _ _ _) := HB0.out.go bb.out; clear x0 x1 x2; obtain ⟨z0, x0, x1, x2⟩ := HB1.out; clear bb z0 HB0 HA0))
  go_cut [39] from 27 (fun x wc => x = .bool false ∧ Hid (Below W.heap.size W wc) ∧ Hid (Bx3 W.heap.size wc (.int .i64 g.start) (.slice p1 n1 c1) (.slice p2 n2 c2)))
  case first =>
    have HA2 : Hid (Below W.heap.size W wb.drew) := HA1.out.drew
    rcases HHK.out with ⟨rfl, rfl, hk⟩ | ⟨rfl, rfl⟩
    all_goals
      go_region_with (first
        | (go_at_call 6; refine (num_any _ _).mono ?_; rintro e wn ⟨rfl, rfl⟩)
        | (go_at_call 7; first
          | ((with_reducible refine (HKM.out _ HA2.out).mono ?_); rintro e wm ⟨rfl, bm⟩; have HA3 : Hid (Below W.heap.size W wm) := bel_go HA2.out bm.out; have HB3 : Hid (Bx3 W.heap.size wm _ _ _) := HB1.out.go (show Below wb.heap.size wb wm from ((Below.refl _ _).drew).trans bm.out); clear bm)
          | ((with_reducible refine (HKM.out _ HA1.out).mono ?_); rintro e wm ⟨rfl, bm⟩; have HA3 : Hid (Below W.heap.size W wm) := bel_go HA1.out bm.out; have HB3 : Hid (Bx3 W.heap.size wm _ _ _) := HB1.out.go bm.out; clear bm)))
      all_goals
        go_wp2_with fail
        go_meet
        case rel => exact ⟨rfl, HA3, HB3⟩
  case rest =>
    obtain ⟨rfl, HA, HB⟩ := hcut
    obtain ⟨X, hX⟩ : ∃ X, X = wc := ⟨_, rfl⟩
    subst hX
    go_upto_if 42 with (go_at_call 6; refine (num_any _ _).mono ?_; rintro e wn ⟨rfl, rfl⟩)
    go_cut [] from 5 (fun wc => Hid (Below W.heap.size W wc))
    case first =>
      rcases HHK.out with ⟨rfl, rfl, r, KP, KB⟩ | ⟨rfl, rfl⟩
      · have HKP := hid_mk KP
        have HKB := hid_mk KB
        clear KP KB HKG HKM HHK
        go_wp2_with (first
          | (go_at_call 8; refine (HKP.out _).mono ?_; rintro e w3 ⟨q1, m1, d1, q2, m2, d2, rfl, HR3, b3⟩; have HA3 : Hid (Below W.heap.size W w3) := bel_go HA.out b3.out; have HB3 : Hid (Bx3 W.heap.size w3 _ _ _) := HB.out.go b3.out; clear b3)
          | (go_at_call 9; refine (HKB.out _ _ _ ?_).mono ?_; exact HR3.out.any (bel1 _ _); rintro e w4 ⟨q3, m3, d3, q4, m4, d4, rfl, HG4, b4⟩; have HA4 : Hid (Below W.heap.size W w4) := bel_step HA3.out b4.out; have HB4 : Hid (Bx3 W.heap.size w4 _ _ _) := HB3.out.step b4.out; obtain ⟨z0, x0, x1, x2⟩ := HB4.out; have z1 : W.heap.size ≠ w4.heap.size := Nat.ne_of_lt z0; have z2 : w4.heap.size ≠ W.heap.size := Nat.ne_of_gt z0; clear b4)
          | (go_at_call 6; refine (num_any _ _).mono ?_; rintro e wn ⟨rfl, rfl⟩)
          | (go_at_call 10; refine (HKS.out _ _ _ _ _ ?_ ?_).mono ?_; exact HG4.out.any (bel1 _ _); exact HGO.out.any (bel_go HA4.out (bel1 _ _)); rintro e w5 ⟨rfl, b5⟩; have HA5 : Hid (Below W.heap.size W w5) := bel_step HA4.out b5.out; clear b5))
        go_meet
        case rel => exact HA5
      · go_wp2_with fail
        go_meet
        case rel => exact HA
    case rest =>
      have HA6 : Hid (Below W.heap.size W wc) := hcut
      clear hcut HA HB HHK HKG HKM HKS HGO
      obtain ⟨Y, hY⟩ : ∃ Y, Y = wc := ⟨_, rfl⟩
      subst hY
      rcases KA.out with ⟨n, j, hj, KE⟩ | ⟨r, KR, K3⟩
      · have HKE := hid_mk KE
        clear KE KA
        go_wp2_with (first
          | (go_at_call 8; refine (HKE.out _).mono ?_; rintro e w3 ⟨q1, m1, d1, q2, m2, d2, rfl, b3⟩; have HA7 : Hid (Below W.heap.size W w3) := bel_go HA6.out b3.out; clear b3)
          | (go_at_call 6; refine (num_any _ _).mono ?_; rintro e wn ⟨rfl, rfl⟩))
        go_ret
        exact ⟨rfl, bel_go HA7.out (bel1 _ _)⟩
      · have HKR := hid_mk KR
        clear KR KA
        rcases K3 with ⟨n, j, hj, KE⟩ | ⟨h, KB, KS, u, r2, KH, KU, KV⟩
        · have HKE := hid_mk KE
          clear KE
          go_wp2_with (first
            | (go_at_call 8; refine (HKR.out _).mono ?_; rintro e w3 ⟨q1, m1, d1, q2, m2, d2, rfl, HR3, b3⟩; have HA7 : Hid (Below W.heap.size W w3) := bel_go HA6.out b3.out; clear b3)
            | (go_at_call 9; refine (HKE.out _ _ _ ?_).mono ?_; exact HR3.out.any (bel1 _ _); rintro e w4 ⟨rfl, b4⟩; have HA8 : Hid (Below W.heap.size W w4) := bel_step HA7.out b4.out; clear b4)
            | (go_at_call 6; refine (num_any _ _).mono ?_; rintro e wn ⟨rfl, rfl⟩))
          go_ret
          exact ⟨rfl, bel_go HA8.out (bel1 _ _)⟩
        · have HKB := hid_mk KB
          have HKS := hid_mk KS
          have HKH := hid_mk KH
          have HKU := hid_mk KU
          have HKV := hid_mk KV
          clear KB KS KH KU KV
          go_upto_if 86 with (first
            | (go_at_call 8; refine (HKR.out _).mono ?_; rintro e w3 ⟨q1, m1, d1, q2, m2, d2, rfl, HR3, b3⟩; have HA7 : Hid (Below W.heap.size W w3) := bel_go HA6.out b3.out; clear b3)
            | (go_at_call 9; refine (HKB.out _ _ _ ?_).mono ?_; exact HR3.out.any (bel1 _ _); rintro e w4 ⟨q3, m3, d3, q4, m4, d4, rfl, HG4, b4⟩; have HA8 : Hid (Below W.heap.size W w4) := bel_step HA7.out b4.out; clear b4)
            | (go_at_call 6; refine (num_any _ _).mono ?_; rintro e wn ⟨rfl, rfl⟩))
          go_wp2_with (first
            | (go_at_call 5; refine (HKH.out _ _ _ ?_).mono ?_; exact HG4.out.any (bel1 _ _); rintro e w5 ⟨rfl, b5⟩; have HA9 : Hid (Below W.heap.size W w5) := bel_step HA8.out b5.out; have HG5 : Hid (GrOk w5 _ _ h) := HG4.out.any ((bel1 _ _).trans (b5.out.mono (le_alloc _ _))); have HX5 : Hid (Bx3 w4.heap.size w5 _ _ _) := Bx3.new b5.out; clear b5)
            | (go_at_call 8; refine (HKU.out _).mono ?_; rintro e w6 ⟨q5, m5, d5, q6, m6, d6, rfl, HR6, b6⟩; have HA10 : Hid (Below W.heap.size W w6) := bel_go HA9.out b6.out; have HG6 : Hid (GrOk w6 _ _ h) := HG5.out.any b6.out; have HX6 : Hid (Bx3 w4.heap.size w6 _ _ _) := HX5.out.go b6.out; clear b6)
            | (go_at_call 9; refine (HKV.out _ _ _ ?_).mono ?_; exact HR6.out.any (bel1 _ _); rintro e w7 ⟨q7, m7, d7, q8, m8, d8, rfl, HG7, b7⟩; have HA11 : Hid (Below W.heap.size W w7) := bel_step HA10.out b7.out; have HG8 : Hid (GrOk w7 _ _ h) := HG6.out.any ((bel1 _ _).trans (b7.out.mono (le_alloc _ _))); have HX7 : Hid (Bx3 w4.heap.size w7 _ _ _) := HX6.out.step b7.out; obtain ⟨z0, x0, x1, x2⟩ := HX7.out; have z1 : w4.heap.size ≠ w7.heap.size := Nat.ne_of_lt z0; have z2 : w7.heap.size ≠ w4.heap.size := Nat.ne_of_gt z0; clear b7)
            | (go_at_call 6; refine (num_any _ _).mono ?_; rintro e wn ⟨rfl, rfl⟩)
            | (go_at_call 10; refine (HKS.out _ _ _ _ _ ?_ ?_).mono ?_; exact HG7.out.any (bel1 _ _); exact HG8.out.any (bel1 _ _); rintro e w8 ⟨rfl, b8⟩; have HA12 : Hid (Below W.heap.size W w8) := bel_step HA11.out b8.out; clear b8))
          go_ret
          exact ⟨rfl, HA12.out⟩
end Go.Proofs.Ytkkfacbbelochaa
