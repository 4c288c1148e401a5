/- Emptys: who has the empty text is, for any grammar, what the document says, and the grammar stays as it is: at every argument, with no condition. -/
import Derived.Test.YtejhdhlpdcfedaaGreatTabY
import Derived.Test.YtejhdhlpdcfedaaGreatCopyGrW
import Derived.Test.YtejhdhlpdcfedaaGreatGramSame
import Derived.Test.YtejhdhlpdcfedaaGreatGramOpen
import Derived.Test.YtejhdhlpdcfedaaGreatLawOpen
/- Emptys, walked. -/
namespace Go.Proofs.YtejhdhlpdcfedaaGreat
set_option linter.unusedVariables false
open Go.ChangeShapes Go.WideShapes Go.ChangeAt Go.RowKit

theorem box3E {w w1 : World} {a b c : Value} {t : TypeId} (hb : Below (w.alloc (.cells #[a, b, c] t)).heap.size (w.alloc (.cells #[a, b, c] t)) w1) : w1.cell? ⟨w.heap.size, 0, none⟩ = some a ∧ w1.cell? ⟨w.heap.size, 1, none⟩ = some b ∧ w1.cell? ⟨w.heap.size, 2, none⟩ = some c ∧ w.heap.size < w1.heap.size ∧ Below w.heap.size w w1 := by
  have hz := hb.size
  simp at hz
  exact ⟨(hb.cell (p := ⟨_, _, none⟩) (by simp)).trans (World.cell?_alloc_at _ _ _ _ rfl), (hb.cell (p := ⟨_, _, none⟩) (by simp)).trans (World.cell?_alloc_at _ _ _ _ rfl), (hb.cell (p := ⟨_, _, none⟩) (by simp)).trans (World.cell?_alloc_at _ _ _ _ rfl), by omega, (bel1 w _).trans (hb.mono (bel1 w _).size)⟩
theorem bls_nilE (w : World) (F : Nat → Prop) : IsBls w F (.slice none 0 0) [] := ⟨none, 0, rfl, ⟨Nat.zero_le _, Nat.zero_le _⟩, fun h => absurd h (Nat.lt_irrefl _)⟩
/-- Both answers are one and the same row. -/
theorem nulls_both (g : Gr) (hn : ∀ s, s ∈ g.names → s.size ≤ maxLen) (hS : Short g.rules) : ∃ (L : List Bool) (E : Int), L.length ≤ 100000000 ∧
    (∀ (u1 u2 : Value) (F : Nat → Prop) w2, GrIs w2 F u1 u2 g → Calls Tryz.prog 5 #[.agg #[.int .i64 g.start, u1, u2]] w2 fun e w' => ∃ p c, e = .returned (.tuple #[.slice p L.length c, .int .i64 E]) ∧ Hid (IsBls w' (fun _ => True) (.slice p L.length c) L) ∧ Hid (Below w2.heap.size w2 w')) ∧
    (∀ (u1 u2 : Value) (F : Nat → Prop) w2, GrIs w2 F u1 u2 g → Calls Tryz.prog 6 #[.agg #[.int .i64 g.start, u1, u2]] w2 fun e w' => ∃ p c, e = .returned (.tuple #[.slice p L.length c, .int .i64 E]) ∧ Hid (IsBls w' (fun _ => True) (.slice p L.length c) L) ∧ Hid (Below w2.heap.size w2 w')) := by
  by_cases hM : mayG g = true ∧ (edgesT g).find? (badE g.names.length (edgesT g)) = none
  · have hme := mayE_edges hM.1
    have hcl := clean_of (mayE_all hme).2.2 hM.2
    have hf : Str g.rules (levT g.names.length (edgesT g)) := str_of (lev_sol (mayE_all hme).2.2 hcl)
    have hn64 := mayG_names hM.1
    obtain ⟨M0, hM0⟩ : ∃ M0 : Nat → Bool, ∀ M, Stb g.rules M → M = M0 := by
      by_cases h : ∃ M, Stb g.rules M
      · obtain ⟨M0, h0⟩ := h
        exact ⟨M0, fun M h1 => stb_uniq hf h1 h0⟩
      · exact ⟨fun _ => false, fun M h1 => absurd ⟨M, h1⟩ h⟩
    refine ⟨bolL g.names.length M0, 0, by rw [bolL_length]; omega, fun u1 u2 F w2 hg => ?_, fun u1 u2 F w2 hg => ?_⟩
    · rw [bolL_length]
      refine (nulls_ok g u1 u2 w2 hg hn hS hM.1 hM.2).mono fun e w' ⟨b, M, h1, _, h3, h4, h5⟩ => ⟨_, _, h1, ?_, h5⟩
      rw [← hM0 M h3.out]
      exact h4.out.bls trivial (by unfold maxLen; omega)
    · rw [bolL_length]
      refine (refNulls_ok g u1 u2 w2 hg hn hM.1 hM.2).mono fun e w' ⟨p, c, M, h1, h3, h4, h5⟩ => ⟨p, c, h1, ?_, h5⟩
      rw [← hM0 M h3.out]
      exact Reads.low h4.out (fun _ _ _ => trivial)
  · have hN : mayG g = false ∨ ∃ t, (edgesT g).find? (badE g.names.length (edgesT g)) = some t := by
      cases hm : mayG g with
      | false => exact Or.inl rfl
      | true =>
        right
        cases hf : (edgesT g).find? (badE g.names.length (edgesT g)) with
        | none => exact absurd ⟨hm, hf⟩ hM
        | some t => exact ⟨t, rfl⟩
    refine ⟨[], 900, by simp, fun u1 u2 F w2 hg => ?_, fun u1 u2 F w2 hg => ?_⟩
    · exact (nulls_no g u1 u2 w2 hg hn hS hN).mono fun e w' ⟨h1, h2⟩ => ⟨none, 0, h1, bls_nilE _ _, h2⟩
    · exact (refNulls_no g u1 u2 w2 hg hn hN).mono fun e w' ⟨h1, h2⟩ => ⟨none, 0, h1, bls_nilE _ _, h2⟩
set_option maxHeartbeats 4000000 in
set_option maxRecDepth 100000 in
theorem emptys_walk (W : World) (g : Gr) (v1 v2 : Value) (ga : GrIs W Any v1 v2 g) (gn : ∀ s, s ∈ g.names → s.size ≤ maxLen ∧ s.size ≤ reachBytes) (gz : g.names.length * 16 ≤ reachBytes ∧ g.rules.length * 32 ≤ reachBytes ∧ ∀ r, r ∈ g.rules → r.conj.length * 32 ≤ reachBytes ∧ ∀ c, c ∈ r.conj → c.seq.length * 24 ≤ reachBytes) (w0 : (Lit.int .i64 g.start).wf = true) :
    Calls Tryz.prog 3 #[.agg #[.int .i64 g.start, v1, v2]] W fun e W' => e = .returned (.bool true) ∧ Below W.heap.size W W' := by
  have gz' : GSz reachBytes g := gz
  have hS : Short g.rules := fun r hr c hc => by have := (gz'.2.2 r hr).2 c hc; unfold reachBytes at this; omega
  have hn0 : ∀ s, s ∈ g.names → s.size ≤ maxLen := fun s h => (gn s h).1
  have KC : Hid (∀ w2, Below W.heap.size W w2 → Calls Tryz.prog 4 #[.agg #[.int .i64 g.start, v1, v2]] w2 fun e w' => ∃ u1 u2, e = .returned (.agg #[.int .i64 g.start, u1, u2]) ∧ Hid (GrIs w' (fun i => w2.heap.size ≤ i) u1 u2 g) ∧ Hid (Below w2.heap.size w2 w')) := fun w2 hb => copyGr_any g v1 v2 w2 (ga.any hb) gz'
  obtain ⟨L, E, hL9, kN, kR⟩ := nulls_both g hn0 hS
  have HL9 : Hid (L.length ≤ 100000000) := hL9
  obtain ⟨M, hM⟩ : ∃ M, M = L.length := ⟨_, rfl⟩
  rw [← hM] at kN kR
  have KN : Hid (∀ (u1 u2 : Value) (F : Nat → Prop) w2, GrIs w2 F u1 u2 g → Calls Tryz.prog 5 #[.agg #[.int .i64 g.start, u1, u2]] w2 fun e w' => ∃ p c, e = .returned (.tuple #[.slice p M c, .int .i64 E]) ∧ Hid (IsBls w' (fun _ => True) (.slice p M c) L) ∧ Hid (Below w2.heap.size w2 w')) := kN
  have KR : Hid (∀ w2, Below W.heap.size W w2 → Calls Tryz.prog 6 #[.agg #[.int .i64 g.start, v1, v2]] w2 fun e w' => ∃ p c, e = .returned (.tuple #[.slice p M c, .int .i64 E]) ∧ Hid (IsBls w' (fun _ => True) (.slice p M c) L) ∧ Hid (Below w2.heap.size w2 w')) := fun w2 hb => kR v1 v2 Any w2 (ga.any hb)
  obtain ⟨p1, c1, l1, hv1⟩ : ∃ p n c, v1 = .slice p n c := by obtain ⟨p, c, e, _⟩ := ga.1; exact ⟨_, _, _, e⟩
  obtain ⟨p2, c2, hv2⟩ := ga.2.slc
  subst hv1 hv2
  have HGA : Hid (GrIs W Any (.slice p1 c1 l1) (.slice p2 g.rules.length c2) g) := ga
  obtain ⟨n, hn⟩ : ∃ n, n = g.rules.length := ⟨_, rfl⟩
  rw [← hn] at KC KR HGA ⊢
  have KSG : Hid (∀ (a1 a2 b1 b2 : Value) (w2 : World) (Fa Fb : Nat → Prop), GrIs w2 Fa a1 a2 g → GrIs w2 Fb b1 b2 g → Calls Tryz.prog 9 #[.agg #[.int .i64 g.start, a1, a2], .agg #[.int .i64 g.start, b1, b2]] w2 fun e w' => e = .returned (.bool true) ∧ Hid (Below w2.heap.size w2 w')) := fun a1 a2 b1 b2 w2 Fa Fb h1 h2 => sameGram_yes g a1 a2 b1 b2 w2 h1 h2
  clear ga gn gz gz' w0 hn hS hn0 hM kN kR hL9
  go_enter Tryz.func3, Tryz.ntmps3
  go_wp2_with (first
    | (go_at_call 4; refine (KC.out _ (bel1 _ _)).mono ?_; rintro e wa ⟨u1, u2, rfl, gx, ba⟩; obtain ⟨x0, x1, x2, xs, hbw⟩ := box3E ba.out; have HA : Hid (Below W.heap.size W wa) := hbw; obtain ⟨q1, d1, m1, hu1⟩ : ∃ p n c, u1 = .slice p n c := (by obtain ⟨p, c, e, _⟩ := gx.out.1; exact ⟨_, _, _, e⟩); obtain ⟨q2, d2, hu2⟩ := gx.out.2.slc; subst hu1 hu2; clear ba hbw)
    | (go_at_call 5; refine (KN.out _ _ _ _ (gx.out.any (bel1 _ _))).mono ?_; rintro e wb ⟨pa, ca, rfl, ia, bb⟩; obtain ⟨y0, y1, y2, ys, hbw⟩ := box3E bb.out; have HB : Hid (Below W.heap.size W wb) := HA.out.trans (hbw.mono HA.out.size); have HAB : Hid (Below wa.heap.size wa wb) := hbw; have z0 := (hbw.cell (p := ⟨W.heap.size, 0, none⟩) xs).trans x0; have z1 := (hbw.cell (p := ⟨W.heap.size, 1, none⟩) xs).trans x1; have z2 := (hbw.cell (p := ⟨W.heap.size, 2, none⟩) xs).trans x2; have zs : W.heap.size < wb.heap.size := Nat.lt_trans xs ys; clear x0 x1 x2 bb hbw)
    | (go_at_call 6; refine (KR.out _ HB.out).mono ?_; rintro e wc ⟨pb, cb, rfl, ib, bc⟩; have HC : Hid (Below W.heap.size W wc) := HB.out.trans (bc.out.mono HB.out.size); have HBC : Hid (Below wb.heap.size wb wc) := bc.out)
    | (go_at_call 7; refine (sameBls_yes _ _ L _ (ia.out.any bc.out) ib.out HL9.out).mono ?_; rintro e wd ⟨rfl, bd⟩; have HD : Hid (Below W.heap.size W wd) := HC.out.trans (bd.out.mono HC.out.size); have HBD : Hid (Below wb.heap.size wb wd) := HBC.out.trans (bd.out.mono HBC.out.size); have a0 := (HBD.out.cell (p := ⟨W.heap.size, 0, none⟩) zs).trans z0; have a1 := (HBD.out.cell (p := ⟨W.heap.size, 1, none⟩) zs).trans z1; have a2 := (HBD.out.cell (p := ⟨W.heap.size, 2, none⟩) zs).trans z2; have b0 := (HBD.out.cell (p := ⟨wa.heap.size, 0, none⟩) ys).trans y0; have b1 := (HBD.out.cell (p := ⟨wa.heap.size, 1, none⟩) ys).trans y1; have b2 := (HBD.out.cell (p := ⟨wa.heap.size, 2, none⟩) ys).trans y2; clear z0 z1 z2 y0 y1 y2 bc bd)
    | (go_at_call 8; refine (num_any _ _).mono ?_; rintro e wn ⟨rfl, rfl⟩)
    | (go_at_call 9; refine (KSG.out _ _ _ _ _ _ _ (gx.out.any (HAB.out.trans (HBD.out.mono HAB.out.size))) (HGA.out.any HD.out)).mono ?_; rintro e we ⟨rfl, be⟩; have HE : Hid (Below W.heap.size W we) := HD.out.trans (be.out.mono HD.out.size); clear a0 a1 a2 b0 b1 b2 be)
    | (go_at_call 10; refine (awake9_any _).mono ?_; rintro e wi ⟨rfl, bi⟩))
  go_ret
  exact ⟨rfl, HE.out.trans (bi.out.mono HE.out.size)⟩
end Go.Proofs.YtejhdhlpdcfedaaGreat
namespace Go.Proofs.YtejhdhlpdcfedaaGreat
set_option linter.unusedVariables false
open Go.ChangeShapes Go.WideShapes Go.ChangeAt Go.RowKit


set_option linter.unusedVariables false
theorem emptys_own : ownKnob Tryz.prog.godebug = none := by kernel_rfl
set_option maxRecDepth 100000 in
theorem emptys_lifted (os : Os) (started : os.Started) (H : Type) (enc : TypeId × Value → H) :
    ReturnsInHanded {} Tryz.checked os 3 .any (Rows.emptysSpec.pre6 enc Tryz.prog Tryz.f3 Rows.emptysRow.domain false) (Rows.emptysSpec.post enc Tryz.prog Tryz.f3 false true false false) := by
  refine returnsInHanded_of_change_sized (C := Tryz.checked) emptys_own started (by kernel_rfl) Tryz.func3
    (ChangeSpec.witness6 (enc := enc) (C := Tryz.checked) false ⟨#[], #[.agg #[.int .i64 0, .slice none 0 0, .slice none 0 0]], []⟩ 8 (by kernel_rfl) (by kernel_rfl) (by kernel_rfl) (by kernel_rfl)) ?_
  intro W base args ds gs before hval0 hW hcnd hsz0 _
  have hsz : (DataW.weightsEach Tryz.prog (Tryz.f3.params.toList ++ Rows.emptysSpec.plain.varTypes Tryz.prog) (ds ++ gs)).all (· ≤ reachBytes) = true := hsz0
  have hval : ∀ (j : Nat) t v, Tryz.f3.params[j]? = some t → args[j]? = some v → Value.okWide Tryz.prog W .any base t v := hval0
  have hW' := hW
  obtain ⟨p, q, hA0, hV, rfl, hfz, hnd⟩ := hW
  have hA : DataW.TrodAll enc Tryz.prog W 0 (fun _ => true) true Tryz.f3.params.toList args.toList ds p := hA0
  rw [Tryz.params3] at hA hval hsz
  obtain ⟨v0, vs0, d0, ds0, p0, q0, hargs, rfl, rfl, h0, r0⟩ := trodAll_cons hA
  obtain ⟨rfl, rfl, rfl⟩ := trodAll_nil r0
  obtain rfl : args = #[v0] := by cases args; simp_all
  obtain ⟨rfl, rfl⟩ := trodVars_none hV
  clear hA0 hval0 hsz0
  have k0 := h0
  have lt0 : ∀ x ∈ p0, x.block < W.heap.size := fun x hx => by have := hW'.lt x (by simp [hx]); simpa using this
  obtain ⟨cs0, rfl, op0⟩ := open_agg (j := 0) Tryz.structGr (hval 0 25 v0 rfl rfl) h0 (fun b o hm => hfz b o (by simp [hm])) hsz rfl rfl
  obtain ⟨g0, ga0, gb0, rfl, gi0, gn0, gs0, w0⟩ := op_gramZ op0
  refine (emptys_walk W g0 ga0 gb0 gi0 gn0 gs0 w0).mono fun e W' ⟨he, bel⟩ => ?_
  subst he
  exact ⟨_, rfl, _, _, _, [], _, [], hW', trodAll_mk1 (shut_bool Tryz.underlying4 _), (trodAll_cons_mk (Below.trod Tryz.laidOutB (by kernel_rfl) (of_decide_eq_true (by kernel_rfl)) k0 bel lt0) trodAll_mk0), rfl, bel.frame _, fun h => by cases h⟩

set_option maxHeartbeats 8000000 in
theorem emptys_closed : joinedFacts Tryz.checked.prog 3 Tryz.f3 Rows.emptysSpec Rows.emptysRow = true := by
  unfold joinedFacts
  iterate 31 (refine and_ok ?_ ?_)
  all_goals first | (with_reducible exact enter_ok) | (rw [lifts_no]; rfl) | (rw [make_cut]; rfl) | as_aux_lemma => kernel_rfl
theorem emptys_holds : Rows.EmptysSaid :=
  OpenClaim.holds_of_wide 3 Tryz.f3 rfl rfl rfl rfl rfl rfl rfl ⟨rfl, rfl, rfl, rfl, rfl⟩ rfl rfl rfl rfl rfl (by kernel_rfl) Tryz.func3 emptys_closed
    (of_decide_eq_true (by kernel_rfl)) (by unfold Func.isWrapper; first | (rw [if_pos (by decide +kernel)]; kernel_rfl) | (rw [if_neg (by decide +kernel)]; exact ⟨rfl, rfl⟩))
    (fun os started H enc _ => emptys_lifted os started H enc)
#print axioms emptys_holds
end Go.Proofs.YtejhdhlpdcfedaaGreat
