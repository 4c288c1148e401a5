/- MeanSigns: a name whose rule is another one, its negation, or both, has what that one has, all else, nothing; of a negation alone the rank is one, of another one it is above that one's: at every argument, with no condition but the library's table as the program lays it. -/
import Derived.Test.YtfjejnkjlnkkhaaGreatDoorMeanSignsW
import Derived.Test.YtfjejnkjlnkkhaaGreatDoorMzF
import Derived.Test.YtfjejnkjlnkkhaaGreatDoorMlX
import Derived.Test.YtfjejnkjlnkkhaaGreatDoorMaw
import Derived.Test.YtfjejnkjlnkkhaaGreatDoorTied
import Derived.Test.YtfjejnkjlnkkhaaGreatDoorGs
import Derived.Test.YtfjejnkjlnkkhaaGreatDoorCards
import Derived.Test.YtfjejnkjlnkkhaaGreatDoorTie
import Derived.SevenTiedAt
namespace Go.Proofs.YtfjejnkjlnkkhaaGreatDoor
set_option linter.unusedVariables false
open Go.ChangeShapes Go.WideShapes Go.ChangeAt Go.RowKit

/-- A grammar and a text that have a table. -/
def OkT (g : Gr) (T : ByteArray) : Prop := mayG g = true ∧ (edgesT g).find? (badE g.names.length (edgesT g)) = none ∧ T.size ≤ 32
def RsT (g : Gr) (T : ByteArray) (cs : List Cn) (pt : Option Addr) (z : Int) (w : World) : Prop := (z = 1100 ∧ pt = none ∧ ¬ OkT (extG g cs) T) ∨ ∃ ub, z = 0 ∧ pt = some ⟨ub, 0, none⟩ ∧ TmIs (extG g cs) T ub w ∧ OkT (extG g cs) T
theorem new_twoS (g : Gr) (T : ByteArray) (cs : List Cn) (u1 u2 : Value) (w : World) {F : Nat → Prop} (hg : GrIs w F u1 u2 (extG g cs)) (hn : ∀ s, s ∈ (extG g cs).names → s.size ≤ maxLen) (hS : Short (extG g cs).rules) (hG : TabG w) :
    Calls Tryz.prog 14 #[.agg #[.int .i64 g.start, u1, u2], .string T] w fun e w' => ∃ pt z, e = .returned (.tuple #[.pointer pt, .int .i64 z]) ∧ Hid (RsT g T cs pt z w') ∧ Hid (Below w.heap.size w w') := by
  by_cases hM : OkT (extG g cs) T
  · exact (new_any (extG g cs) T u1 u2 w hg hn hS hM.1 hM.2.1 hM.2.2 hG).mono fun e w' ⟨tb, h1, h2, h3⟩ => ⟨_, _, h1, Or.inr ⟨tb, rfl, rfl, h2.out, hM⟩, h3⟩
  · exact (new_all (extG g cs) T u1 u2 w hg hn hS hM).mono fun e w' ⟨h1, h2⟩ => ⟨_, _, h1, Or.inl ⟨rfl, rfl, hM⟩, h2⟩
theorem ok_less {g : Gr} {T : ByteArray} {k : Nat} {b : Bool} (h : OkT (extG g (sgB k)) T) : OkT (extG g [⟨b, [⟨(k : Int), 0, 0⟩]⟩]) T := by
  have h1 : mayG (extG g [⟨b, [⟨(k : Int), 0, 0⟩]⟩]) = true := may_less h.1
  refine ⟨h1, ?_, h.2.2⟩
  have c1 := clean_of (mayE_all (mayE_edges h.1)).2.2 h.2.1
  exact not_bad (mayE_all (mayE_edges h1)).2.2 (clean_less (fun e he => edges_less e he) c1)
section
variable {g : Gr} {T : ByteArray} {M M2 : SpM} {n n2 tb tb2 : Nat} {w w2 : World} {cs : List Cn}
theorem ext_mean (hM : mayG g = true) (h : TbM g T M n tb w) (h2 : TbM (extG g cs) T M2 n2 tb2 w2) {f : Nat → Nat} (hf : Str g.rules f) : ∀ x i j, x ≠ g.names.length → M2 x i j = M x i j := fun x i j hx => by
  have hs : Stb3 (btsW T) T.size (g.rules ++ [⟨(g.names.length : Int), cs⟩]) M2 := h2.stb
  have e := stb3_uniq hf h.stb (stb_ext hs (m := g.names.length) (by simp) (frM_may hM))
  rw [e]
  unfold dropM
  rw [if_neg hx]
end
theorem signs_end {g : Gr} {T : ByteArray} (hM : OkT g T) {k tb : Nat} {w1 w2 : World} {pa pb pc : Option Addr} {za zb zc : Int} (hk : k < g.names.length) (ht : TmIs g T tb w1) (hb : Below w1.heap.size w1 w2) (ra : RsT g T (sgP k) pa za w2) (rb : RsT g T (sgN k) pb zb w2) (rc : RsT g T (sgB k) pc zc w2) :
    (zc = 1100 ∧ (za = 0 ∨ za = 1100) ∧ (zb = 0 ∨ zb = 1100)) ∨ (za = 0 ∧ zb = 0 ∧ zc = 0 ∧ ∃ ua ub uc, pa = some ⟨ua, 0, none⟩ ∧ pb = some ⟨ub, 0, none⟩ ∧ pc = some ⟨uc, 0, none⟩ ∧ ∃ M Q R, SgOk g.names.length T.size k tb ua ub uc w2 M Q R) := by
  rcases rc with ⟨h1, -, -⟩ | ⟨uc, c1, c2, c3, c4⟩
  · refine Or.inl ⟨h1, ?_, ?_⟩
    · rcases ra with ⟨h, -⟩ | ⟨_, h, -⟩
      · exact Or.inr h
      · exact Or.inl h
    · rcases rb with ⟨h, -⟩ | ⟨_, h, -⟩
      · exact Or.inr h
      · exact Or.inl h
  · rcases ra with ⟨-, -, h⟩ | ⟨ua, a1, a2, a3, a4⟩
    · exact absurd (ok_less c4) h
    rcases rb with ⟨-, -, h⟩ | ⟨ub, b1, b2, b3, b4⟩
    · exact absurd (ok_less c4) h
    refine Or.inr ⟨a1, b1, c1, ua, ub, uc, a2, b2, c2, ?_⟩
    obtain ⟨M, n, hT⟩ := ht.tbM
    obtain ⟨Ma, na, hA⟩ := a3.tbM
    obtain ⟨Mb, nb, hB⟩ := b3.tbM
    obtain ⟨Mc, nc, hC⟩ := c3.tbM
    have hT2 := hT.any hb
    have hf := (grOk_of hM.1 hM.2.1).1.st
    have hN : ∀ cs, g.names.length < (extG g cs).names.length := fun cs => by show g.names.length < (g.names ++ [n1w]).length; rw [List.length_append]; simp
    have eA := (tb_ext hM.1 hT hA hf).2
    have eB := (tb_ext hM.1 hT hB hf).2
    have eC := (tb_ext hM.1 hT hC hf).2
    have xA := ext_mean hM.1 hT hA hf
    have xB := ext_mean hM.1 hT hB hf
    refine ⟨fun i j => M k i j, fun i j => rnkN (btsW T) g.rules M n k i j, fun i j => rnkN (btsW T) (extG g (sgP k)).rules Ma na g.names.length i j, fun i j hi hj => ?_⟩
    have vA : Ma g.names.length i j = M k i j := by rw [eA i j hi hj, hol_pos hi, xA k i j (by omega)]
    have vB : Mb g.names.length i j = !M k i j := by rw [eB i j hi hj, hol_neg hi, xB k i j (by omega)]
    have vC : Mc g.names.length i j = false := by rw [eC i j hi hj, hol_bot hi]
    refine ⟨has_tb w2 hT2 hk hi hj, ?_, ?_, ?_, fun h0 => ?_, rank_tb w2 hT2 hk hi hj, rank_tb w2 hA (hN _) hi hj, fun h1 => ?_⟩
    · have := has_tb w2 hA (hN _) hi hj
      rw [vA] at this
      exact this
    · have := has_tb w2 hB (hN _) hi hj
      rw [vB] at this
      exact this
    · have := has_tb w2 hC (hN _) hi hj
      rw [vC] at this
      exact this
    · have h0' : M k i j = false := h0
      have h2 : Mb g.names.length i j = true := by rw [vB, h0']; rfl
      have := rank_tb w2 hB (hN _) hi hj
      have h3 : rnkN (btsW T) (extG g (sgN k)).rules Mb nb g.names.length i j = 1 := rank_neg (k := k) ((hB.full.nm g.names.length i j (hN _) hi hj).trans h2) h2 hi (by rw [xB k i j (by omega)]; exact h0)
      rw [h3] at this
      exact this
    · have h2 : Ma g.names.length i j = true := by rw [vA]; exact h1
      exact rank_pos (k := k) (frM_may hM.1) (by omega) xA ((hA.full.nm g.names.length i j (hN _) hi hj).trans h2)
theorem meanSigns_walk (W : World) (hG : TabG W) (g : Gr) (v1 v2 : Value) (hg : GrIs W Any v1 v2 g) (gn : ∀ s, s ∈ g.names → s.size ≤ maxLen ∧ s.size ≤ reachBytes) (gs : ∀ r, r ∈ g.rules → ∀ c, c ∈ r.conj → c.seq.length * 24 ≤ reachBytes) (hw : (Lit.int .i64 g.start).wf = true) (T : ByteArray) (hT : T.size ≤ 140737488351232) (p : Int) (hp : (Lit.int .i64 p).wf = true) :
    Calls Tryz.prog 7 #[.agg #[.int .i64 g.start, v1, v2], .string T, .int .i64 p] W fun e W' => e = .returned (.bool true) ∧ Below W.heap.size W W' := by
  have hS : Short g.rules := fun r hr c hc => by have := gs r hr c hc; unfold reachBytes at this; omega
  have hn : ∀ s, s ∈ g.names → s.size ≤ maxLen := fun s h => (gn s h).1
  obtain ⟨p1, l1, hv1⟩ : ∃ p c, v1 = .slice p g.names.length c := by obtain ⟨p, c, e, _⟩ := hg.1; exact ⟨_, _, e⟩
  obtain ⟨p2, c2, hv2⟩ := lngR hg.2
  have KA : ∀ w, Below W.heap.size W w → Calls Tryz.prog 13 #[] w fun e w' => e = .returned (.bool true) ∧ Hid (Below w.heap.size w w') := fun w hb => awake11_any w ((Kg.ofB hb).tab hG)
  by_cases hM : OkT g T
  · refine meanSigns_ok W g.start v1 v2 T p g.names.length g.rules.length ⟨p1, l1⟩ ⟨p2, c2⟩ hv1 hv2 (mayG_pos hM.1) (mayG_names hM.1) (mayG_plIn hM.1).1 (fun tb w => TmIs g T tb w) (fun w k cs u1 u2 => GrIs w Any u1 u2 (extG g cs)) (fun k cs pt z w => RsT g T cs pt z w) KA (fun w hb => new_any g T v1 v2 w (hg.any hb) hn hS hM.1 hM.2.1 hM.2.2 ((Kg.ofB hb).tab hG)) (fun A w cv k cs Fc hb hA hc hFc => ?_) (fun w u1 u2 k cs hb hcs h2 => ?_) (fun k cs pt z w w' h hb => ?_) (fun k tb w1 w2 pa za pb zb pc zc hk ht hb h10 ra rb rc => signs_end hM hk ht hb ra rb rc)
    · refine (one_any g v1 v2 cv cs A w (hg.any hb) hA hc hFc hM.1).mono fun e w' ⟨u1, u2, h1, h2, h3⟩ => ?_
      obtain ⟨a1, c1, e1, -⟩ := h2.out.1
      obtain ⟨a2, c2, e2⟩ := lngR h2.out.2
      subst e1 e2
      exact ⟨_, _, _, _, _, _, h1, h2, h3⟩
    · refine new_twoS g T cs u1 u2 w h2 (fun s hs => ?_) (fun r hr c hc => ?_) ((Kg.ofB hb).tab hG)
      · rcases List.mem_append.1 hs with h | h
        · exact hn s h
        · rw [List.mem_singleton.1 h]; decide
      · rcases List.mem_append.1 hr with h | h
        · exact hS r h c hc
        · rw [List.mem_singleton.1 h] at hc
          have h1 : c.seq.length = 1 := by
            rcases hcs with rfl | rfl | rfl
            · rw [List.mem_singleton.1 hc]; rfl
            · rw [List.mem_singleton.1 hc]; rfl
            · unfold sgB at hc
              simp only [List.mem_cons, List.not_mem_nil, or_false] at hc
              rcases hc with rfl | rfl <;> rfl
          omega
    · rcases h with h | ⟨ub, h1, h2, ⟨T', t, K, hb', rb, mb, h3⟩, h4⟩
      · exact Or.inl h
      · exact Or.inr ⟨ub, h1, h2, ⟨T', t, K, hb', rb, mb, h3.any hb⟩, h4⟩
  · exact meanSigns_no W g.start v1 v2 T p ⟨p1, g.names.length, l1⟩ ⟨p2, g.rules.length, c2⟩ hv1 hv2 KA (fun w hb => new_all g T v1 v2 w (hg.any hb) hn hS hM)

set_option linter.unusedVariables false
theorem meanSigns_own : ownKnob Tryz.prog.godebug = none := by kernel_rfl
set_option maxRecDepth 100000 in
theorem meanSigns_lifted (os : Os) (started : os.Started) (H : Type) (enc : TypeId × Value → H) :
    ReturnsInHanded {} Tryz.checked os 7 .any (fun w args => (Rows.meanSignsSpec.pre enc Tryz.prog Tryz.f7 Rows.meanSignsRow.domain false w args ∧ laidMetH Tryz.prog laidT w) ∧ sizedMet enc Tryz.prog Tryz.f7 (OpenSpec.ofChange Rows.meanSignsSpec) false w args) (Rows.meanSignsSpec.post enc Tryz.prog Tryz.f7 false true false false) := by
  refine returnsInHanded_of_change_and (C := Tryz.checked) (X := fun w _ => laidMetH Tryz.prog laidT w) (fun _ _ _ hh h => h.of_heap hh) meanSigns_own started (by kernel_rfl) Tryz.func7
    (ChangeSpec.witness_shaped (enc := enc) (C := Tryz.checked) (os := os) (X := fun w _ => laidMetH Tryz.prog laidT w) false (World.doorLaid Tryz.prog 400 os) #[.agg #[.int .i64 0, .slice none 0 0, .slice none 0 0], .string ⟨#[]⟩, .int .i64 0] 8 rfl (World.shaped_of_RefB (by kernel_rfl) (by kernel_rfl)) (by kernel_rfl) (by kernel_rfl) (by kernel_rfl) (door_met os _)) ?_
  intro W base args ds gs before hval0 hW hcnd hsz0 hL _
  have hsz : (DataW.weightsEach Tryz.prog (Tryz.f7.params.toList ++ Rows.meanSignsSpec.plain.varTypes Tryz.prog) (ds ++ gs)).all (· ≤ reachBytes) = true := hsz0
  have hval : ∀ (j : Nat) t v, Tryz.f7.params[j]? = some t → args[j]? = some v → Value.okWide Tryz.prog W .any base t v := hval0
  have hW' := hW
  obtain ⟨p, q, hA0, hV, rfl, hfz, hnd⟩ := hW
  have hA : DataW.TrodAll enc Tryz.prog W 0 (fun _ => true) true Tryz.f7.params.toList args.toList ds p := hA0
  rw [Tryz.params7] at hA hval hsz
  obtain ⟨v0, vs0, d0, ds0, p0, q0, hargs, rfl, rfl, h0, r0⟩ := trodAll_cons hA
  obtain ⟨v1, vs1, d1, ds1, p1, q1, rfl, rfl, rfl, h1, r1⟩ := trodAll_cons r0
  obtain ⟨v2, vs2, d2, ds2, p2, q2, rfl, rfl, rfl, h2, r2⟩ := trodAll_cons r1
  obtain ⟨rfl, rfl, rfl⟩ := trodAll_nil r2
  obtain rfl : args = #[v0, v1, v2] := by cases args; simp_all
  obtain ⟨rfl, rfl⟩ := trodVars_none hV
  clear hA0 hval0 hsz0
  have k0 := h0
  have lt0 : ∀ x ∈ p0, x.block < W.heap.size := fun x hx => by have := hW'.lt x (by simp [hx]); simpa using this
  have k1 := h1
  have lt1 : ∀ x ∈ p1, x.block < W.heap.size := fun x hx => by have := hW'.lt x (by simp [hx]); simpa using this
  have k2 := h2
  have lt2 : ∀ x ∈ p2, x.block < W.heap.size := fun x hx => by have := hW'.lt x (by simp [hx]); simpa using this
  obtain ⟨cs0, rfl, op0⟩ := open_agg (j := 0) Tryz.structGr (hval 0 25 v0 rfl rfl) h0 (fun b o hm => hfz b o (by simp [hm])) hsz rfl rfl
  obtain ⟨g0, ga0, gb0, rfl, gi0, gn0, gs0, w0⟩ := op_gram op0
  obtain ⟨a1, rfl, rfl, rfl, -⟩ := ChangeMaps.open_string Tryz.underlying9 (hval 1 9 v1 rfl rfl) h1
  have w1 := str_reach hsz (j := 1) (t := 9) (s := a1) rfl rfl
  obtain ⟨a2, rfl, rfl, rfl, w2⟩ := open_int Tryz.underlying3 (hval 2 3 v2 rfl rfl) h2
  refine (meanSigns_walk W (tab_of_laid hL) g0 ga0 gb0 gi0 gn0 gs0 w0 a1 w1 a2 w2).mono fun e W' ⟨he, bel⟩ => ?_
  subst he
  exact ⟨_, rfl, _, _, _, [], _, [], hW', trodAll_mk1 (shut_bool Tryz.underlying4 _), (trodAll_cons_mk (Below.trod Tryz.laidOutB (by kernel_rfl) (of_decide_eq_true (by kernel_rfl)) k0 bel lt0) (trodAll_cons_mk (Below.trod Tryz.laidOutB (by kernel_rfl) (of_decide_eq_true (by kernel_rfl)) k1 bel lt1) (trodAll_cons_mk (Below.trod Tryz.laidOutB (by kernel_rfl) (of_decide_eq_true (by kernel_rfl)) k2 bel lt2) trodAll_mk0))), rfl, bel.frame _, fun h => by cases h⟩

set_option maxHeartbeats 8000000 in
theorem meanSigns_closed : joinedFacts Tryz.checked.prog 7 Tryz.f7 Rows.meanSignsSpec Rows.meanSignsRow = true := by
  unfold joinedFacts
  iterate 31 (refine and_ok ?_ ?_)
  all_goals first | (with_reducible exact enter_ok) | (rw [lifts_no]; rfl) | (rw [make_cut]; rfl) | as_aux_lemma => kernel_rfl
theorem meanSigns_holds : Rows.MeanSignsSaid :=
  OpenClaim.holds_of_wide 7 Tryz.f7 rfl rfl rfl rfl rfl rfl rfl ⟨rfl, rfl, rfl, rfl, rfl⟩ rfl rfl rfl rfl rfl (by kernel_rfl) Tryz.func7 meanSigns_closed
    (of_decide_eq_true (by kernel_rfl)) (by unfold Func.isWrapper; first | (rw [if_pos (by decide +kernel)]; kernel_rfl) | (rw [if_neg (by decide +kernel)]; exact ⟨rfl, rfl⟩))
    (fun os started H enc _ => meanSigns_lifted os started H enc)
theorem meanSigns_card : Rows.MeanSignsCardSaid :=
  Claim7.holds_tied_plain_at .later [] [.data] true (true, "7b1a2502c7865af0658e6db8bd214c7ea0c6b20b20381b08a6ff544a4d37f9f1") true
    meanSigns_holds (fun _ h => by cases h) (by kernel_rfl) (fun _ h => by cases h) meanSigns_row_tie rfl ⟨rfl, rfl⟩ (by kernel_rfl) rfl
    (fun f fn hf hfn => by
      obtain rfl : f = 7 := Option.some.inj ((show Tryz.prog.funcNamed "temple/templelaw11.MeanSigns" = some 7 by kernel_rfl).symm.trans hf) |>.symm
      obtain rfl : fn = Tryz.f7 := (Option.some.inj (Tryz.func7.symm.trans hfn)).symm
      exact ⟨by kernel_rfl, fun j t ht => by
        rw [Tryz.params7] at ht
        have hm : t ∈ [25, 9, 3] := by simpa using Array.mem_of_getElem? ht
        have hall : ([25, 9, 3].all fun u => !Tryz.prog.wantsStandIn u) = true := by kernel_rfl
        exact (show Tryz.prog.wantsStandIn t = false by simpa using List.all_eq_true.1 hall t hm)⟩)
    (by kernel_rfl)
#print axioms meanSigns_card
end Go.Proofs.YtfjejnkjlnkkhaaGreatDoor
