/- Parses: any text's declarations, each error's place, and that what is answered is new each time: at every argument that memory holds, with no other condition. -/
import Derived.Test.YtdlpmefdeeokhaaParH
import Derived.Test.YtdlpmefdeeokhaaParS
import Derived.Test.YtdlpmefdeeokhaaSpoilP
import Derived.Test.YtdlpmefdeeokhaaNoteAwake
import Derived.Test.YtdlpmefdeeokhaaLawOpen
namespace Go.Proofs.Ytdlpmefdeeokhaa
set_option linter.unusedVariables false
set_option linter.unusedSimpArgs false
open Go.ChangeShapes Go.WideShapes Go.ChangeAt Go.RowKit

/-- What a call of either Parse leaves. -/
def PaE (r : Rw) (pl er : Int) (w : World) (e : Ending) (w' : World) : Prop := ∃ p1 n1 c1 p2 n2 c2, ∃ F : Nat → Prop, e = .returned (.tuple #[.agg #[.slice p1 n1 c1, .slice p2 n2 c2], .int .i64 pl, .int .i64 er]) ∧ Hid (∀ b, F b → w.heap.size ≤ b ∧ b < w'.heap.size) ∧ Hid (RawIs w' F (.slice p1 n1 c1) (.slice p2 n2 c2) r) ∧ Hid (Below w.heap.size w w')
theorem paE_of {r : Pres} {w : World} {e : Ending} {w' : World} (h : ParseEnd w r e w') : PaE (prAns r).1 ((prAns r).2.1 : Int) ((prAns r).2.2 : Int) w e w' := by
  obtain ⟨v1, v2, F, h1, h2, h3, h4⟩ := h
  obtain ⟨p1, c1, e1, -⟩ := readsP_slc h3.1
  obtain ⟨vs, h5, -⟩ := id h3.2
  obtain ⟨p2, c2, e2, -⟩ := readsP_slc h5
  subst e1 e2
  exact ⟨_, _, _, _, _, _, F, h1, h2, h3, h4⟩
theorem RawIs.off {F G : Nat → Prop} {w w' : World} {v1 v2 : Value} {r : Rw} (h : RawIs w F v1 v2 r) (hs : Sp G w w') (hF : ∀ b, F b → b < w.heap.size ∧ ¬ G b) : RawIs w' F v1 v2 r :=
  have st : Stay F w w' := ⟨hs.size, fun b hb => hs.block b (hF b hb).1 (hF b hb).2⟩
  ⟨h.1.keep st (fun _ h => h), h.2.keep st (fun _ h => h)⟩
set_option maxHeartbeats 8000000 in
set_option maxRecDepth 100000 in
theorem parses_walk (w : World) (s : ByteArray) (hs : s.size ≤ 140737488351232) :
    Calls Try.prog 3 #[.string s] w fun e w' => e = .returned (.bool true) ∧ Below w.heap.size w w' := by
  have hm : s.size ≤ maxLen := by unfold maxLen; omega
  have P1 := fun w => (parse_any s w hm).mono fun e w' h => paE_of h
  have P2 := fun w => (rparse_any s w hm).mono fun e w' h => paE_of h
  have hst := starts_size s
  generalize (prAns (parseT s)).1 = r at P1 P2 hst
  generalize ((prAns (parseT s)).2.1 : Int) = pl at P1 P2
  generalize ((prAns (parseT s)).2.2 : Int) = er at P1 P2
  have HST := hid_ofP hst
  have Q1 := hid_ofP P1
  have Q2 := hid_ofP P2
  clear hst P1 P2 hm
  have T0 : Hid True := trivial
  go_enter Try.func3, Try.ntmps3
  go_upto_region 3 with (first
    | (go_at_call 4; refine (Q1.out _).mono ?_; rintro e w1 ⟨a1, a2, a3, a4, a5, a6, FA, rfl, hFA, RA, b1⟩)
    | (go_at_call 5; refine (Q2.out _).mono ?_; rintro e w2 ⟨d1, d2, d3, d4, d5, d6, FB, rfl, hFB, RB, b2⟩))
  have hb1 := b1.out.size
  have hb2 := b2.out.size
  have hw1 : (w1.alloc (.cells #[.slice a1 a2 a3, .slice a4 a5 a6] 25)).heap.size = w1.heap.size + 1 := by simp
  have HA1 := bel1 w1 (.cells #[.slice a1 a2 a3, .slice a4 a5 a6] 25)
  have HA2 : Below w1.heap.size w1 w2 := HA1.trans (b2.out.mono (by omega))
  have HA3 := bel1 w2 (.cells #[.slice d1 d2 d3, .slice d4 d5 d6] 25)
  have HA4 : Below w1.heap.size w1 (w2.alloc (.cells #[.slice d1 d2 d3, .slice d4 d5 d6] 25)) := HA2.trans (HA3.mono (by omega))
  have aX : (w2.alloc (.cells #[.slice d1 d2 d3, .slice d4 d5 d6] 25)).heap[w1.heap.size]? = some (.cells #[.slice a1 a2 a3, .slice a4 a5 a6] 25) := (HA3.block _ (by omega)).trans ((b2.out.block _ (by omega)).trans (heap_alloc_new w1 _))
  have bX : (w2.alloc (.cells #[.slice d1 d2 d3, .slice d4 d5 d6] 25)).heap[w2.heap.size]? = some (.cells #[.slice d1 d2 d3, .slice d4 d5 d6] 25) := heap_alloc_new w2 _
  have RAX : RawIs (w2.alloc (.cells #[.slice d1 d2 d3, .slice d4 d5 d6] 25)) FA (.slice a1 a2 a3) (.slice a4 a5 a6) r := RA.out.anyP HA4
  have RBX : RawIs (w2.alloc (.cells #[.slice d1 d2 d3, .slice d4 d5 d6] 25)) FB (.slice d1 d2 d3) (.slice d4 d5 d6) r := RB.out.anyP HA3
  have HBX : Hid (Below w.heap.size w (w2.alloc (.cells #[.slice d1 d2 d3, .slice d4 d5 d6] 25))) := b1.out.trans (HA4.mono hb1)
  have HFX : Hid (∀ b, FB b → w1.heap.size < b ∧ b < (w2.alloc (.cells #[.slice d1 d2 d3, .slice d4 d5 d6] 25)).heap.size) := fun b hb => by have := hFB.out b hb; simp; omega
  have hab : w1.heap.size < w2.heap.size := by omega
  obtain ⟨X, hX⟩ : ∃ X, X = w2.alloc (.cells #[.slice d1 d2 d3, .slice d4 d5 d6] 25) := ⟨_, rfl⟩
  rw [← hX] at aX bX RAX RBX HBX HFX ⊢
  obtain ⟨ab, hab1⟩ : ∃ x, x = w1.heap.size := ⟨_, rfl⟩
  obtain ⟨bb, hbb1⟩ : ∃ x, x = w2.heap.size := ⟨_, rfl⟩
  rw [← hab1] at aX HFX ⊢
  rw [← hbb1] at bX ⊢
  have HAB : Hid (ab < bb ∧ ∀ b, FA b → w.heap.size ≤ b ∧ b < ab) := ⟨by omega, fun b hb => by rw [hab1]; exact hFA.out b hb⟩
  have c0 : X.cell? ⟨ab, 0, none⟩ = some (.slice a1 a2 a3) := cellP aX 0
  have c1 : X.cell? ⟨ab, 1, none⟩ = some (.slice a4 a5 a6) := cellP aX 1
  have c2 : X.cell? ⟨bb, 0, none⟩ = some (.slice d1 d2 d3) := cellP bX 0
  have c3 : X.cell? ⟨bb, 1, none⟩ = some (.slice d4 d5 d6) := cellP bX 1
  have HaX := hid_ofP aX
  have HbX := hid_ofP bX
  have HRA := hid_ofP RAX
  have HRB := hid_ofP RBX
  clear hX hab1 hbb1 hb1 hb2 hw1 HA1 HA2 HA3 HA4 aX bX RAX RBX hab hFA hFB RA RB b1 b2
  have KS := sameRaw_yes r _ _ _ _ X HRA.out.1 HRA.out.2 HRB.out.1 HRB.out.2
  have T1 : Hid True := trivial
  go_upto_region 5 with (first
    | (go_at_call 6; refine KS.mono ?_; rintro e w3 ⟨rfl, b3⟩; have B3 := hid_ofP b3; have c0' : w3.cell? ⟨ab, 0, none⟩ = some (.slice a1 a2 a3) := (b3.cell (p := ⟨ab, 0, none⟩) (blkP_lt HaX.out)).trans c0; have c1' : w3.cell? ⟨ab, 1, none⟩ = some (.slice a4 a5 a6) := (b3.cell (p := ⟨ab, 1, none⟩) (blkP_lt HaX.out)).trans c1; clear b3 c0 c1 c2 c3)
    | (go_at_call 7; refine (num_any _ _).mono ?_; rintro e wn ⟨rfl, rfl⟩))
  have HRA3 := hid_ofP (HRA.out.anyP B3.out)
  have HRB3 := hid_ofP (HRB.out.anyP B3.out)
  have KP := spoilRaw_any r _ _ w3 HRA3.out HST.out
  clear KS HRA HRB
  go_upto_region 6 with (go_at_call 8; refine KP.mono ?_; rintro e w4 ⟨rfl, S4⟩)
  have hX3 := B3.out.size
  have hbl := blkP_lt HbX.out
  have HRB4 : Hid (RawIs w4 FB (.slice d1 d2 d3) (.slice d4 d5 d6) r) := HRB3.out.off S4.out (fun b hb => ⟨by have := (HFX.out b hb).2; omega, fun hf => by have := (HAB.out.2 b hf).2; have := (HFX.out b hb).1; omega⟩)
  have hB4 : w4.heap[bb]? = some (.cells #[.slice d1 d2 d3, .slice d4 d5 d6] 25) := (S4.out.block bb (by omega) (fun hf => by have := (HAB.out.2 bb hf).2; have := HAB.out.1; omega)).trans ((B3.out.block bb hbl).trans HbX.out)
  have HB4 := hid_ofP hB4
  have HW4 : Hid (Below w.heap.size w w4) := by
    have h3 := HBX.out.trans (B3.out.mono HBX.out.size)
    exact ⟨S4.out.os.trans h3.os, S4.out.tape.trans h3.tape, S4.out.output.trans h3.output, Nat.le_trans h3.size S4.out.size, fun i hi => (S4.out.block i (Nat.lt_of_lt_of_le hi h3.size) (fun hf => by have := (HAB.out.2 i hf).1; omega)).trans (h3.block i hi)⟩
  clear KP HRA3 HRB3 hX3 hbl hB4 c0' c1' S4
  go_upto_region 7 with (go_at_call 4; refine (Q1.out _).mono ?_; rintro e w5 ⟨g1, g2, g3, g4, g5, g6, FC, rfl, hFC, RC, b5⟩)
  have HY := bel1 w5 (.cells #[.slice g1 g2 g3, .slice g4 g5 g6] 25)
  have hb5 := b5.out.size
  have HWY : Hid (Below w.heap.size w (w5.alloc (.cells #[.slice g1 g2 g3, .slice g4 g5 g6] 25))) := (HW4.out.trans (b5.out.mono HW4.out.size)).trans (HY.mono (Nat.le_trans HW4.out.size hb5))
  have KS2 := sameRaw_yes r _ _ _ _ (w5.alloc (.cells #[.slice g1 g2 g3, .slice g4 g5 g6] 25)) (RC.out.anyP HY).1 (RC.out.anyP HY).2 ((HRB4.out.anyP b5.out).anyP HY).1 ((HRB4.out.anyP b5.out).anyP HY).2
  have hbY := (HY.block bb (Nat.lt_of_lt_of_le (blkP_lt HB4.out) hb5)).trans ((b5.out.block bb (blkP_lt HB4.out)).trans HB4.out)
  have c2 : (w5.alloc (.cells #[.slice g1 g2 g3, .slice g4 g5 g6] 25)).cell? ⟨bb, 0, none⟩ = some (.slice d1 d2 d3) := cellP hbY 0
  have c3 : (w5.alloc (.cells #[.slice g1 g2 g3, .slice g4 g5 g6] 25)).cell? ⟨bb, 1, none⟩ = some (.slice d4 d5 d6) := cellP hbY 1
  have hbl5 : bb < w5.heap.size := Nat.lt_of_lt_of_le (blkP_lt HB4.out) hb5
  have c4 : w5.cell? ⟨bb, 0, none⟩ = some (.slice d1 d2 d3) := (World.cell?_alloc_past _ _ _ hbl5).symm.trans c2
  have c5 : w5.cell? ⟨bb, 1, none⟩ = some (.slice d4 d5 d6) := (World.cell?_alloc_past _ _ _ hbl5).symm.trans c3
  clear HY hbY c2 c3
  go_wp2_with (first
    | (go_at_call 6; refine KS2.mono ?_; rintro e w6 ⟨rfl, b6⟩; have B6 : Hid (Below w.heap.size w w6) := HWY.out.trans (b6.mono HWY.out.size); clear b6)
    | (go_at_call 9; refine (awake3_any _).mono ?_; rintro e w7 ⟨rfl, b7⟩; have B7 : Hid (Below w.heap.size w w7) := B6.out.trans (b7.mono B6.out.size); clear b7))
  go_ret
  exact ⟨rfl, B7.out⟩

set_option linter.unusedVariables false
theorem parses_own : ownKnob Try.prog.godebug = none := by kernel_rfl
set_option maxRecDepth 100000 in
theorem parses_lifted (os : Os) (started : os.Started) (H : Type) (enc : TypeId × Value → H) :
    ReturnsInHanded {} Try.checked os 3 .any (Rows.parsesSpec.pre6 enc Try.prog Try.f3 Rows.parsesRow.domain false) (Rows.parsesSpec.post enc Try.prog Try.f3 false true false false) := by
  refine returnsInHanded_of_change_sized (C := Try.checked) parses_own started (by kernel_rfl) Try.func3
    (ChangeSpec.witness6 (enc := enc) (C := Try.checked) false ⟨#[], #[.string ⟨#[]⟩], []⟩ 8 (by kernel_rfl) (by kernel_rfl) (by kernel_rfl) (by kernel_rfl)) ?_
  intro W base args ds gs before hval0 hW hcnd hsz0 _
  have hsz : (DataW.weightsEach Try.prog (Try.f3.params.toList ++ Rows.parsesSpec.plain.varTypes Try.prog) (ds ++ gs)).all (· ≤ reachBytes) = true := hsz0
  have hval : ∀ (j : Nat) t v, Try.f3.params[j]? = some t → args[j]? = some v → Value.okWide Try.prog W .any base t v := hval0
  have hW' := hW
  obtain ⟨p, q, hA0, hV, rfl, hfz, hnd⟩ := hW
  have hA : DataW.TrodAll enc Try.prog W 0 (fun _ => true) true Try.f3.params.toList args.toList ds p := hA0
  rw [Try.params3] at hA hval hsz
  obtain ⟨v0, vs0, d0, ds0, p0, q0, hargs, rfl, rfl, h0, r0⟩ := trodAll_cons hA
  obtain ⟨rfl, rfl, rfl⟩ := trodAll_nil r0
  obtain rfl : args = #[v0] := by cases args; simp_all
  obtain ⟨rfl, rfl⟩ := trodVars_none hV
  clear hA0 hval0 hsz0
  have k0 := h0
  have lt0 : ∀ x ∈ p0, x.block < W.heap.size := fun x hx => by have := hW'.lt x (by simp [hx]); simpa using this
  obtain ⟨a0, rfl, rfl, rfl, -⟩ := ChangeMaps.open_string Try.underlying9 (hval 0 9 v0 rfl rfl) h0
  have w0 := str_reach hsz (j := 0) (t := 9) (s := a0) rfl rfl
  refine (parses_walk W a0 w0).mono fun e W' ⟨he, bel⟩ => ?_
  subst he
  exact ⟨_, rfl, _, _, _, [], _, [], hW', trodAll_mk1 (shut_bool Try.underlying4 _), (trodAll_cons_mk (Below.trod Try.laidOutB (by kernel_rfl) (of_decide_eq_true (by kernel_rfl)) k0 bel lt0) trodAll_mk0), rfl, bel.frame _, fun h => by cases h⟩

set_option maxHeartbeats 8000000 in
theorem parses_closed : joinedFacts Try.checked.prog 3 Try.f3 Rows.parsesSpec Rows.parsesRow = true := by
  unfold joinedFacts
  iterate 31 (refine and_ok ?_ ?_)
  all_goals first | (with_reducible exact enter_ok) | (rw [lifts_no]; rfl) | (rw [make_cut]; rfl) | as_aux_lemma => kernel_rfl
theorem parses_holds : Rows.ParsesSaid :=
  OpenClaim.holds_of_wide 3 Try.f3 rfl rfl rfl rfl rfl rfl rfl ⟨rfl, rfl, rfl, rfl, rfl⟩ rfl rfl rfl rfl rfl (by kernel_rfl) Try.func3 parses_closed
    (of_decide_eq_true (by kernel_rfl)) (by unfold Func.isWrapper; first | (rw [if_pos (by decide +kernel)]; kernel_rfl) | (rw [if_neg (by decide +kernel)]; exact ⟨rfl, rfl⟩))
    (fun os started H enc _ => parses_lifted os started H enc)
#print axioms parses_holds
end Go.Proofs.Ytdlpmefdeeokhaa
