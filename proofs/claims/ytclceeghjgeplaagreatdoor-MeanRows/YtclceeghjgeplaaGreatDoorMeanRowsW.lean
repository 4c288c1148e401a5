/- MeanRows, walked. -/
import Derived.Test.YtclceeghjgeplaaGreatDoorMlX
namespace Go.Proofs.YtclceeghjgeplaaGreatDoor
set_option linter.unusedVariables false
set_option linter.unusedSimpArgs false
open Go.ChangeShapes Go.WideShapes Go.ChangeAt Go.RowKit Go.Maps

theorem tmod_lt {z : Int} {n : Nat} (hn : 0 < n) : ∃ k : Nat, k < n ∧ Int.tmod (IntKind.u64.wrap z) (n : Int) = (k : Int) := by
  have hp : 0 ≤ IntKind.u64.wrap z := by rw [IntKind.wrap_u64]; omega
  have h1 := Int.tmod_nonneg (n : Int) hp
  have h2 : Int.tmod (IntKind.u64.wrap z) (n : Int) < (n : Int) := Int.tmod_lt_of_pos _ (by omega)
  exact ⟨(Int.tmod (IntKind.u64.wrap z) (n : Int)).toNat, by omega, by omega⟩
set_option maxHeartbeats 4000000 in
set_option maxRecDepth 100000 in
theorem meanRows_no (W : World) (s : Int) (v1 v2 : Value) (T : ByteArray) (p q : Int) (k1 k2 : Option Addr × Nat × Nat) (e1 : v1 = .slice k1.1 k1.2.1 k1.2.2) (e2 : v2 = .slice k2.1 k2.2.1 k2.2.2)
    (KA : ∀ w, Below W.heap.size W w → Calls Tryz.prog 13 #[] w fun e w' => e = .returned (.bool true) ∧ Hid (Below w.heap.size w w'))
    (KN : ∀ w, Below W.heap.size W w → Calls Tryz.prog 14 #[.agg #[.int .i64 s, v1, v2], .string T] w fun e w' => e = .returned (.tuple #[.pointer none, .int .i64 1100]) ∧ Hid (Below w.heap.size w w')) :
    Calls Tryz.prog 8 #[.agg #[.int .i64 s, v1, v2], .string T, .int .i64 p, .int .i64 q] W fun e W' => e = .returned (.bool true) ∧ Below W.heap.size W W' := by
  have HX1 : Hid (BxM W s v1 v2 (W.alloc (.cells #[.int .i64 s, v1, v2] 25))) := BxM.new _ _ _ _
  have HA : Hid (∀ w, Below W.heap.size W w → Calls Tryz.prog 13 #[] w fun e w' => e = .returned (.bool true) ∧ Hid (Below w.heap.size w w')) := KA
  have HS : Hid (∀ w, Below W.heap.size W w → Calls Tryz.prog 14 #[.agg #[.int .i64 s, v1, v2], .string T] w fun e w' => e = .returned (.tuple #[.pointer none, .int .i64 1100]) ∧ Hid (Below w.heap.size w w')) := KN
  subst e1 e2
  clear KN KA
  go_enter Tryz.func8, Tryz.ntmps8
  go_wp2_with (first
    | (go_at_call 13; refine (HA.out _ HX1.out.1).mono ?_; rintro e wa ⟨rfl, ba⟩; have XA : Hid (BxM _ _ _ _ wa) := HX1.out.any ba.out; obtain ⟨-, z1, c0, c1, c2⟩ := XA.out)
    | (go_at_call 14; refine (HS.out _ XA.out.1).mono ?_; rintro e wb ⟨rfl, bb⟩; have XB : Hid (BxM _ _ _ _ wb) := XA.out.any bb.out; clear z1 c0 c1 c2)
    | (go_at_call 15; refine (num_any _ _).mono ?_; rintro e wn ⟨rfl, rfl⟩))
  go_ret
  exact ⟨rfl, XB.out.1⟩
set_option maxHeartbeats 8000000 in
set_option maxRecDepth 100000 in
theorem meanRows_ok (W : World) (g : Gr) (v1 v2 : Value) (T : ByteArray) (p q : Int) {F : Nat → Prop} (hg : GrIs W F v1 v2 g) (hM : mayG g = true) {f : Nat → Nat} (hf : Str g.rules f)
    (KA : ∀ w, Below W.heap.size W w → Calls Tryz.prog 13 #[] w fun e w' => e = .returned (.bool true) ∧ Hid (Below w.heap.size w w'))
    (KN : ∀ w, Below W.heap.size W w → Calls Tryz.prog 14 #[.agg #[.int .i64 g.start, v1, v2], .string T] w fun e w' => ∃ tb, e = .returned (.tuple #[.pointer (some ⟨tb, 0, none⟩), .int .i64 0]) ∧ Hid (TmIs g T tb w') ∧ Hid (Below w.heap.size w w'))
    (KU : ∀ (w : World) (u1 u2 : Value) (x y : Nat), Below W.heap.size W w → GrIs w Any u1 u2 (extG g (rowC x y)) → Calls Tryz.prog 14 #[.agg #[.int .i64 g.start, u1, u2], .string T] w fun e w' => ∃ pt z, e = .returned (.tuple #[.pointer pt, .int .i64 z]) ∧ Hid ((z = 1100 ∧ pt = none) ∨ ∃ ub, z = 0 ∧ pt = some ⟨ub, 0, none⟩ ∧ TmIs (extG g (rowC x y)) T ub w') ∧ Hid (Below w.heap.size w w')) :
    Calls Tryz.prog 8 #[.agg #[.int .i64 g.start, v1, v2], .string T, .int .i64 p, .int .i64 q] W fun e W' => e = .returned (.bool true) ∧ Below W.heap.size W W' := by
  obtain ⟨st, hst⟩ : ∃ st, st = g.start := ⟨_, rfl⟩
  have HX1 : Hid (BxM W st v1 v2 (W.alloc (.cells #[.int .i64 st, v1, v2] 25))) := BxM.new _ _ _ _
  have HA : Hid (∀ w, Below W.heap.size W w → Calls Tryz.prog 13 #[] w fun e w' => e = .returned (.bool true) ∧ Hid (Below w.heap.size w w')) := KA
  have HS : Hid (∀ w, Below W.heap.size W w → Calls Tryz.prog 14 #[.agg #[.int .i64 st, v1, v2], .string T] w fun e w' => ∃ tb, e = .returned (.tuple #[.pointer (some ⟨tb, 0, none⟩), .int .i64 0]) ∧ Hid (TmIs g T tb w') ∧ Hid (Below w.heap.size w w')) := by rw [hst]; exact KN
  have HU : Hid (∀ (w : World) (u1 u2 : Value) (x y : Nat), Below W.heap.size W w → GrIs w Any u1 u2 (extG g (rowC x y)) → Calls Tryz.prog 14 #[.agg #[.int .i64 st, u1, u2], .string T] w fun e w' => ∃ pt z, e = .returned (.tuple #[.pointer pt, .int .i64 z]) ∧ Hid ((z = 1100 ∧ pt = none) ∨ ∃ ub, z = 0 ∧ pt = some ⟨ub, 0, none⟩ ∧ TmIs (extG g (rowC x y)) T ub w') ∧ Hid (Below w.heap.size w w')) := by rw [hst]; exact KU
  have KO : Hid (∀ (A w : World) (cv : Value) (x y : Nat) (Fc : Nat → Prop), Below W.heap.size W w → Below A.heap.size A w → IsCns w Fc cv (rowC x y) → (∀ b, Fc b → A.heap.size ≤ b ∧ b < w.heap.size) → Calls Tryz.prog 23 #[cv, .agg #[.int .i64 st, v1, v2]] w fun e w' => ∃ u1 u2, e = .returned (.agg #[.int .i64 st, u1, u2]) ∧ Hid (GrIs w' Any u1 u2 (extG g (rowC x y))) ∧ Hid (Below w.heap.size w w')) := fun A w cv x y Fc hb hA hc hFc => by rw [hst]; exact one_any g v1 v2 cv (rowC x y) A w (hg.any hb) hA hc hFc hM
  rw [← hst]
  have HSTR : Hid (Str g.rules f) := hf
  have HMY : Hid (mayG g = true) := hM
  obtain ⟨p1, q1, e1, -⟩ := hg.1
  obtain ⟨p2, q2, e2⟩ := lngR hg.2
  obtain ⟨N, hN⟩ : ∃ N, N = g.names.length := ⟨_, rfl⟩
  have HN : Hid (N = g.names.length) := hN
  have hN0 : 0 < N := by rw [hN]; exact mayG_pos hM
  have hN64 : N ≤ 64 := by rw [hN]; exact mayG_names hM
  obtain ⟨lr, hlr⟩ : ∃ lr, lr = g.rules.length := ⟨_, rfl⟩
  have hlr256 : lr ≤ 256 := by rw [hlr]; exact (mayG_plIn hM).1
  rw [← hN] at e1
  rw [← hlr] at e2
  subst e1 e2
  clear KA KN KU hg hst hN hlr hf hM
  go_enter Tryz.func8, Tryz.ntmps8
  go_upto_region 6 with (first
    | (go_at_call 13; refine (HA.out _ HX1.out.1).mono ?_; rintro e wa ⟨rfl, ba⟩; have XA : Hid (BxM _ _ _ _ wa) := HX1.out.any ba.out; obtain ⟨-, z1, c0, c1, c2⟩ := XA.out)
    | (go_at_call 14; refine (HS.out _ XA.out.1).mono ?_; rintro e wb ⟨tb, rfl, HT, bb⟩; have XB : Hid (BxM _ _ _ _ wb) := XA.out.any bb.out; clear z1 c0 c1 c2)
    | (go_at_call 15; refine (num_any _ _).mono ?_; rintro e wn ⟨rfl, rfl⟩))
  obtain ⟨-, z1, c0, c1, c2⟩ := XB.out
  have HE : Hid (Below W.heap.size W wb) := XB.out.1
  clear HA HS HX1 XA ba bb
  by_cases hbig : 64 ≤ N ∨ 256 ≤ lr ∨ 10 < T.size
  · clear HU KO HT HSTR HMY
    by_cases h1 : 64 ≤ N
    · have d1 : decide ((N : Int) ≥ 64) = true := decide_eq_true (by omega)
      have d1' : (64 : Int) ≤ (N : Int) := by omega
      go_wp2
      go_ret
      exact ⟨rfl, HE.out⟩
    · have d1 : decide ((N : Int) ≥ 64) = false := decide_eq_false (by omega)
      have d1' : ¬ (64 : Int) ≤ (N : Int) := by omega
      by_cases h2 : 256 ≤ lr
      · have d2 : decide ((lr : Int) ≥ 256) = true := decide_eq_true (by omega)
        have d2' : (256 : Int) ≤ (lr : Int) := by omega
        go_wp2
        go_ret
        exact ⟨rfl, HE.out⟩
      · have d2 : decide ((lr : Int) ≥ 256) = false := decide_eq_false (by omega)
        have d2' : ¬ (256 : Int) ≤ (lr : Int) := by omega
        have d3 : decide ((T.size : Int) > 10) = true := decide_eq_true (by omega)
        have d3' : (10 : Int) < (T.size : Int) := by omega
        go_wp2
        go_ret
        exact ⟨rfl, HE.out⟩
  · have d1 : decide ((N : Int) ≥ 64) = false := decide_eq_false (by omega)
    have d1' : ¬ (64 : Int) ≤ (N : Int) := by omega
    have d2 : decide ((lr : Int) ≥ 256) = false := decide_eq_false (by omega)
    have d2' : ¬ (256 : Int) ≤ (lr : Int) := by omega
    have d3 : decide ((T.size : Int) > 10) = false := decide_eq_false (by omega)
    have d3' : ¬ (10 : Int) < (T.size : Int) := by omega
    have hT10 : T.size ≤ 10 := by omega
    obtain ⟨x, hx, hxm⟩ := tmod_lt (z := p) hN0
    obtain ⟨y, hy, hym⟩ := tmod_lt (z := q) hN0
    have hxw : wrap64 (x : Int) = (x : Int) := by unfold wrap64; omega
    have hyw : wrap64 (y : Int) = (y : Int) := by unfold wrap64; omega
    have hNu : IntKind.u64.wrap (N : Int) = (N : Int) := by rw [IntKind.wrap_u64]; omega
    have n2 : ¬ N = 0 := by omega
    have n1 : ((N : Int) == 0) = false := by rw [beq_eq_false_iff_ne]; omega
    clear hbig
    go_upto_region 8 with fail
    clear d1 d1' d2 d2' d3 d3'
    have HC5 : Hid (∀ w', Below wb.heap.size wb w' → w'.cell? ⟨W.heap.size, 1, none⟩ = some (.slice p1 N q1)) := fun w' hb => (hb.cell (p := ⟨W.heap.size, 1, none⟩) z1).trans c1
    clear c0 c1 c2
    go_region_held3 (fun w' => Below wb.heap.size wb w' ∧ w'.cell? ⟨W.heap.size, 1, none⟩ = some (.slice p1 N q1))
      ((refine (fun hb => ⟨hb, HC5.out _ hb⟩ : Below wb.heap.size wb _ → _) ?_; repeat' (first | with_reducible assumption | with_reducible exact Below.refl _ _ | with_reducible apply Below.drew)))
      (fail)
    obtain ⟨w5, hw5⟩ : ∃ w5, w5 = wb.drew := ⟨_, rfl⟩
    have HBC : Hid (Below wb.heap.size wb w5) := by show Below _ _ _; rw [hw5]; exact (Below.refl _ _).drew
    rw [← hw5]
    (try simp only [hxw, hyw])
    clear hw5 HC5
    have X5 : Hid (BxM _ _ _ _ w5) := XB.out.any HBC.out
    clear z1 hxm hym hxw hyw hNu n1 n2
    obtain ⟨-, z1, c0, c1, c2⟩ := X5.out
    obtain ⟨Y, hY⟩ : ∃ Y, Y = (w5.alloc (.cells #[.int .i64 (x : Int), .int .i64 0, .int .i64 0, .int .i64 (y : Int), .int .i64 0, .int .i64 0] 44)).alloc (.cells #[.bool false, .slice (some ⟨w5.heap.size, 0, none⟩) 2 2] 48) := ⟨_, rfl⟩
    have bY : Below w5.heap.size w5 Y := by rw [hY]; exact (bel1 _ _).alloc (by simp) _
    have sY : Y.heap.size = w5.heap.size + 1 + 1 := by rw [hY]; simp
    have hs0 : Y.heap[w5.heap.size]? = some (.cells #[.int .i64 (x : Int), .int .i64 0, .int .i64 0, .int .i64 (y : Int), .int .i64 0, .int .i64 0] 44) := by
      rw [hY]
      exact (heap_alloc_old _ (by simp)).trans (heap_alloc_new _ _)
    have hc0 : Y.heap[w5.heap.size + 1]? = some (.cells #[.bool false, .slice (some ⟨w5.heap.size, 0, none⟩) 2 2] 48) := by
      rw [hY]
      have h9 := heap_alloc_new (w5.alloc (.cells #[.int .i64 (x : Int), .int .i64 0, .int .i64 0, .int .i64 (y : Int), .int .i64 0, .int .i64 0] 44)) (.cells #[.bool false, .slice (some ⟨w5.heap.size, 0, none⟩) 2 2] 48)
      rw [show (w5.alloc (.cells #[.int .i64 (x : Int), .int .i64 0, .int .i64 0, .int .i64 (y : Int), .int .i64 0, .int .i64 0] 44)).heap.size = w5.heap.size + 1 by simp] at h9
      exact h9
    have hcn : IsCns Y (fun b => w5.heap.size ≤ b ∧ b < Y.heap.size) (.slice (some ⟨w5.heap.size + 1, 0, none⟩) 1 1) (rowC x y) := by
      have i2 : IsSys Y (fun b => w5.heap.size ≤ b ∧ b < Y.heap.size) (.slice (some ⟨w5.heap.size, 0, none⟩) 2 2) [⟨(x : Int), 0, 0⟩, ⟨(y : Int), 0, 0⟩] := reads_atM (reads_laid hs0 le22 rfl) ⟨Nat.le_refl _, by omega⟩
      have r2 : Reads Y (fun b => w5.heap.size ≤ b ∧ b < Y.heap.size) (.slice (some ⟨w5.heap.size + 1, 0, none⟩) 1 1) 1 [.bool false, .slice (some ⟨w5.heap.size, 0, none⟩) 2 2] := reads_atM (reads_laid hc0 le11 rfl) ⟨Nat.le_succ _, by omega⟩
      exact ⟨[_], r2, (CnsIn.nil _ _).snoc (c := ⟨false, [⟨(x : Int), 0, 0⟩, ⟨(y : Int), 0, 0⟩]⟩) i2⟩
    have XY : Hid (BxM _ _ _ _ Y) := X5.out.any bY
    have KO2 : Hid (Calls Tryz.prog 23 #[.slice (some ⟨w5.heap.size + 1, 0, none⟩) 1 1, .agg #[.int .i64 st, .slice p1 N q1, .slice p2 lr q2]] Y fun e w' => ∃ u1 u2, e = .returned (.agg #[.int .i64 st, u1, u2]) ∧ Hid (GrIs w' Any u1 u2 (extG g (rowC x y))) ∧ Hid (Below Y.heap.size Y w')) := KO.out w5 Y _ x y _ XY.out.1 bY hcn (fun b hb => hb)
    have cY0 := (bY.cell (p := ⟨W.heap.size, 0, none⟩) z1).trans c0
    have cY1 := (bY.cell (p := ⟨W.heap.size, 1, none⟩) z1).trans c1
    have cY2 := (bY.cell (p := ⟨W.heap.size, 2, none⟩) z1).trans c2
    have HYB : Hid (Below w5.heap.size w5 Y) := bY
    clear hs0 hc0 hcn sY KO bY
    have XY9 : Hid (Below W.heap.size W Y) := XY.out.1
    rw [hY] at cY0 cY1 cY2
    go_upto_region 10 with (first
      | (go_at_call 23; rw [← hY]; refine KO2.out.mono ?_; rintro e w6 ⟨u1, u2, rfl, G6, B6⟩; have X6 : Hid (Below W.heap.size W w6) := XY9.out.trans (B6.out.mono XY9.out.size); obtain ⟨pu1, cu1, eu1, -⟩ := G6.out.1; obtain ⟨pu2, cu2, eu2⟩ := lngR G6.out.2; subst eu1 eu2)
      | (go_at_call 14; refine (HU.out _ _ _ x y X6.out G6.out).mono ?_; rintro e w7 ⟨pt, z, rfl, H7, B7⟩))
    have HB7 : Hid (Below w5.heap.size w5 w7) := (HYB.out.trans (B6.out.mono HYB.out.size)).trans (B7.out.mono (by have := HYB.out.size; have := B6.out.size; omega))
    have X7 : Hid (BxM _ _ _ _ w7) := X5.out.any HB7.out
    have HE7 : Hid (Below W.heap.size W w7) := X7.out.1
    have cc1 : w7.cell? ⟨W.heap.size, 1, none⟩ = some (.slice p1 N q1) := X7.out.2.2.2.1
    clear cY0 cY1 cY2 KO2 c0 c1 c2 z1 hY XY XY9 HU G6 HYB
    rcases H7.out with ⟨rfl, rfl⟩ | ⟨ub, rfl, rfl, hU⟩
    · clear H7 HT
      go_wp2_with (go_at_call 15; refine (num_any _ _).mono ?_; rintro e wn ⟨rfl, rfl⟩)
      go_ret
      exact ⟨rfl, HE7.out⟩
    · obtain ⟨M, n, hTb⟩ := HT.out.tbM
      obtain ⟨M2, n2, hUb⟩ := hU.tbM
      have HTB : Hid (TbM g T M n tb w7) := hTb.any (HBC.out.trans (HB7.out.mono HBC.out.size))
      have HUB : Hid (TbM (extG g (rowC x y)) T M2 n2 ub w7) := hUb
      obtain ⟨e1, e2⟩ := tb_ext HMY.out hTb hUb HSTR.out
      have HE1 : Hid (∀ a i j, a < N → M2 a i j = M a i j) := fun a i j ha => e1 a i j (by rw [← HN.out]; exact ha)
      obtain ⟨P, hP⟩ : ∃ P : Nat → Nat → Nat → Bool, P = fun i j k => decide (i ≤ k) && (M x i k && M y k j) := ⟨_, rfl⟩
      have HE2 : Hid (∀ i j, i ≤ j → j ≤ T.size → M2 N i j = (List.range (j + 1)).any (P i j)) := fun i j hi hj => by
        have h9 := e2 i j hi hj
        rw [holB3_row] at h9
        rw [HN.out, h9, hP]
        congr 1
        funext k
        rw [HE1.out x i k hx, HE1.out y k j hy]
      have HP0 : Hid (∀ i j, (List.range i).any (P i j) = false) := fun i j => by
        rw [List.any_eq_false]
        intro k hk
        have := List.mem_range.1 hk
        rw [hP]
        simp only [decide_eq_false (show ¬ i ≤ k by omega), Bool.false_and]
        simp
      have HPS : Hid (∀ i j k, i ≤ k → (List.range (k + 1)).any (P i j) = ((List.range k).any (P i j) || (M x i k && M y k j))) := fun i j k hk => by
        rw [List.range_succ, List.any_append, hP]
        simp [hk]
      have KH1 : Hid (∀ (a i j : Nat), a < N → i ≤ j → j ≤ T.size → Calls Tryz.prog 16 #[.pointer (some ⟨tb, 0, none⟩), .int .i64 (a : Int), .int .i64 (i : Int), .int .i64 (j : Int)] w7 fun e w'' => e = .returned (.bool (M a i j)) ∧ w7 = w'') := fun a i j ha hi hj => has_tb w7 HTB.out (by rw [← HN.out]; exact ha) hi hj
      have KH2 : Hid (∀ (i j : Nat), i ≤ j → j ≤ T.size → Calls Tryz.prog 16 #[.pointer (some ⟨ub, 0, none⟩), .int .i64 (N : Int), .int .i64 (i : Int), .int .i64 (j : Int)] w7 fun e w'' => e = .returned (.bool ((List.range (j + 1)).any (P i j))) ∧ w7 = w'') := fun i j hi hj => by
        have := has_tb w7 HUB.out (x := N) (by show N < (g.names ++ [n1w]).length; rw [List.length_append, ← HN.out]; simp) hi hj
        rw [HE2.out i j hi hj] at this
        exact this
      have KH3 : Hid (∀ (i j : Nat), i ≤ j → j ≤ T.size → Calls Tryz.prog 16 #[.pointer (some ⟨ub, 0, none⟩), .int .i64 (x : Int), .int .i64 (i : Int), .int .i64 (j : Int)] w7 fun e w'' => e = .returned (.bool (M x i j)) ∧ w7 = w'') := fun i j hi hj => by
        have := has_tb w7 HUB.out (x := x) (by show x < (g.names ++ [n1w]).length; rw [List.length_append, ← HN.out]; simp; omega) hi hj
        rw [HE1.out x i j hx] at this
        exact this
      obtain ⟨t, ht⟩ : ∃ t, t = T.size := ⟨_, rfl⟩
      have HTS : Hid (t = T.size) := ht
      have ht10 : t ≤ 10 := by omega
      rw [← ht] at KH1 KH2 KH3
      clear HT hTb HTB HUB hU hUb H7 HE1 HE2 e1 e2 hP ht HSTR HMY B6 B7 X6 X7 X5 HB7 HBC XB HE
      go_upto_region 12 with (go_at_call 15; refine (num_any _ _).mono ?_; rintro e wn ⟨rfl, rfl⟩)
      go_wp2
      go_loopw [15] (fun x' wr => ∃ i : Nat, i ≤ t + 1 ∧ x' = .int .i64 (i : Int) ∧ Hid (wr = w7)) (fun x' _ => t + 1 - (intOf x').toNat)
      case atStart => exact ⟨0, Nat.zero_le _, rfl, rfl⟩
      case round =>
        obtain ⟨i, hi, rfl, HWX⟩ := hrel
        obtain rfl : wr = w7 := HWX.out
        clear HWX
        by_cases hlt : i ≤ t
        · have e1 : decide ((i : Int) ≤ (T.size : Int)) = true := decide_eq_true (by have := HTS.out; omega)
          have e1' : (i : Int) ≤ (T.size : Int) := by have := HTS.out; omega
          go_wp2
          clear e1 e1'
          obtain ⟨wq, hwq⟩ : ∃ wq, wq = wr := ⟨_, rfl⟩
          subst hwq
          go_loopw [16] (fun x' wr => ∃ j : Nat, i ≤ j ∧ j ≤ t + 1 ∧ x' = .int .i64 (j : Int) ∧ Hid (wr = wq)) (fun x' _ => t + 1 - (intOf x').toNat)
          case atStart => exact ⟨i, Nat.le_refl _, hi, rfl, rfl⟩
          case round =>
            obtain ⟨j, hij, hj, rfl, HWX⟩ := hrel
            obtain rfl : wr = wq := HWX.out
            clear HWX
            by_cases hltj : j ≤ t
            · have e1 : decide ((j : Int) ≤ (T.size : Int)) = true := decide_eq_true (by have := HTS.out; omega)
              have e1' : (j : Int) ≤ (T.size : Int) := by have := HTS.out; omega
              have HZ : Hid ((List.range i).any (P i j) = false) := HP0.out i j
              go_wp2
              clear e1 e1'
              obtain ⟨wq, hwq⟩ : ∃ wq, wq = wr := ⟨_, rfl⟩
              subst hwq
              go_loopw [17, 18] (fun y' x' wr => ∃ k : Nat, i ≤ k ∧ k ≤ j + 1 ∧ x' = .int .i64 (k : Int) ∧ y' = .bool ((List.range k).any (P i j)) ∧ Hid (wr = wq)) (fun _ x' _ => j + 1 - (intOf x').toNat)
              case atStart => exact ⟨i, Nat.le_refl _, by omega, rfl, by rw [HZ.out], rfl⟩
              case round =>
                obtain ⟨k, hk1, hk2, rfl, rfl, HWX⟩ := hrel
                obtain rfl : wr = wq := HWX.out
                clear HWX
                by_cases hkj : k ≤ j
                · have hps := HPS.out i j k hk1
                  have H1 : Hid (Calls Tryz.prog 16 #[.pointer (some ⟨tb, 0, none⟩), .int .i64 (x : Int), .int .i64 (i : Int), .int .i64 (k : Int)] wr fun e w'' => e = .returned (.bool (M x i k)) ∧ wr = w'') := KH1.out x i k hx hk1 (by omega)
                  have H2 : Hid (Calls Tryz.prog 16 #[.pointer (some ⟨tb, 0, none⟩), .int .i64 (y : Int), .int .i64 (k : Int), .int .i64 (j : Int)] wr fun e w'' => e = .returned (.bool (M y k j)) ∧ wr = w'') := KH1.out y k j hy hkj hltj
                  obtain ⟨A, hA⟩ : ∃ A, A = (List.range k).any (P i j) := ⟨_, rfl⟩
                  obtain ⟨m1, hm1⟩ : ∃ m1, m1 = M x i k := ⟨_, rfl⟩
                  obtain ⟨m2, hm2⟩ : ∃ m2, m2 = M y k j := ⟨_, rfl⟩
                  rw [← hA, ← hm1, ← hm2] at hps
                  rw [← hA]
                  rw [← hm1] at H1
                  rw [← hm2] at H2
                  have HPK : Hid ((List.range (k + 1)).any (P i j) = (A || (m1 && m2))) := hps
                  clear hps hA hm1 hm2
                  cases A with
                  | true =>
                    go_wp2
                    go_roundw
                    case rel => exact ⟨k + 1, by omega, by omega, by go_num, by rw [HPK.out]; rfl, by trivial⟩
                    case measure => simp [intOf]; omega
                  | false =>
                    cases m1 with
                    | false =>
                      go_wp2_with (go_at_call 16; refine H1.out.mono ?_; rintro e wn ⟨rfl, rfl⟩)
                      go_roundw
                      case rel => exact ⟨k + 1, by omega, by omega, by go_num, by rw [HPK.out]; rfl, by trivial⟩
                      case measure => simp [intOf]; omega
                    | true =>
                      go_wp2_with (go_at_call 16; first | (have hh := F1; clear hh; refine H2.out.mono ?_; rintro e wn ⟨rfl, rfl⟩) | (refine H1.out.mono ?_; rintro e wn ⟨rfl, rfl⟩; have F1 : True := trivial))
                      go_roundw
                      case rel => exact ⟨k + 1, by omega, by omega, by go_num, by rw [HPK.out]; rfl, by trivial⟩
                      case measure => simp [intOf]; omega
                · obtain rfl : k = j + 1 := by omega
                  have H1 : Hid (Calls Tryz.prog 16 #[.pointer (some ⟨ub, 0, none⟩), .int .i64 (N : Int), .int .i64 (i : Int), .int .i64 (j : Int)] wr fun e w'' => e = .returned (.bool ((List.range (j + 1)).any (P i j))) ∧ wr = w'') := KH2.out i j hij hltj
                  have H2 : Hid (Calls Tryz.prog 16 #[.pointer (some ⟨ub, 0, none⟩), .int .i64 (x : Int), .int .i64 (i : Int), .int .i64 (j : Int)] wr fun e w'' => e = .returned (.bool (M x i j)) ∧ wr = w'') := KH3.out i j hij hltj
                  have H3 : Hid (Calls Tryz.prog 16 #[.pointer (some ⟨tb, 0, none⟩), .int .i64 (x : Int), .int .i64 (i : Int), .int .i64 (j : Int)] wr fun e w'' => e = .returned (.bool (M x i j)) ∧ wr = w'') := KH1.out x i j hx hij hltj
                  obtain ⟨A, hA⟩ : ∃ A, A = (List.range (j + 1)).any (P i j) := ⟨_, rfl⟩
                  obtain ⟨m1, hm1⟩ : ∃ m1, m1 = M x i j := ⟨_, rfl⟩
                  rw [← hA] at H1 ⊢
                  rw [← hm1] at H2 H3
                  have bq : (!(A == A)) = false := by cases A <;> rfl
                  have bq2 : (A != A) = false := by cases A <;> rfl
                  have br : (!(m1 == m1)) = false := by cases m1 <;> rfl
                  have br2 : (m1 != m1) = false := by cases m1 <;> rfl
                  have n9 : ¬ (((j + 1 : Nat) : Int) ≤ (j : Int)) := by omega
                  have d9 : decide (((j + 1 : Nat) : Int) ≤ (j : Int)) = false := decide_eq_false n9
                  clear hA hm1
                  go_wp2_with (go_at_call 16; first | (have hh := F2; clear hh; refine H3.out.mono ?_; rintro e wn ⟨rfl, rfl⟩) | (have hh := F1; clear hh; refine H2.out.mono ?_; rintro e wn ⟨rfl, rfl⟩; have F2 : True := trivial) | (refine H1.out.mono ?_; rintro e wn ⟨rfl, rfl⟩; have F1 : True := trivial))
                  go_roundw
                  case rel => exact ⟨j + 1, by omega, by omega, by go_num, by trivial⟩
                  case measure => simp [intOf]; omega
            · obtain rfl : j = t + 1 := by omega
              have e1 : decide (((t + 1 : Nat) : Int) ≤ (T.size : Int)) = false := decide_eq_false (by have := HTS.out; omega)
              have e1' : ¬ ((t + 1 : Nat) : Int) ≤ (T.size : Int) := by have := HTS.out; omega
              go_wp2
              go_roundw
              case rel => exact ⟨i + 1, by omega, by go_num, by trivial⟩
              case measure => simp [intOf]; omega
        · obtain rfl : i = t + 1 := by omega
          have e1 : decide (((t + 1 : Nat) : Int) ≤ (T.size : Int)) = false := decide_eq_false (by have := HTS.out; omega)
          have e1' : ¬ ((t + 1 : Nat) : Int) ≤ (T.size : Int) := by have := HTS.out; omega
          go_wp2
          go_ret
          exact ⟨rfl, HE7.out⟩
end Go.Proofs.YtclceeghjgeplaaGreatDoor
