/- BinSizes: a conjunct of k symbols makes k - 2 names, each with one rule of two symbols; shorter ones stay as they are: at every argument, with no condition but the library's tables as the program lays them and a row that a machine can hold. -/
import Derived.Test.YtgpklcpmabafmaaDoorBinSizesT
import Derived.Test.YtgpklcpmabafmaaDoorBinManyV
import Derived.Test.YtgpklcpmabafmaaDoorTiedB
import Derived.Test.YtgpklcpmabafmaaDoorGramOpen
import Derived.Test.YtgpklcpmabafmaaDoorLawOpen
import Derived.Test.YtgpklcpmabafmaaDoorCards
import Derived.Test.YtgpklcpmabafmaaDoorTie
import Derived.SevenTiedAt
/- BinSizes: what its callees answer. -/
namespace Go.Proofs.YtgpklcpmabafmaaDoor
set_option linter.unusedVariables false
set_option linter.unusedSimpArgs false
open Go.ChangeShapes Go.WideShapes Go.ChangeAt Go.RowKit

def t7Z (zs : List Int) (i : Nat) : Nat := match zs[i]? with
  | some z => (bits .and .i64 z 7).toNat
  | none => 0
theorem t7Z_le (zs : List Int) (i : Nat) : t7Z zs i ≤ 7 := by
  unfold t7Z
  split
  · rename_i z _
    obtain ⟨n, hn, e⟩ := and7V z
    rw [e]; omega
  · omega
theorem binSizes_walk (W : World) (_ : TabG W) (v : Value) (zs : List Int) (row : IRow W v zs) (_ : ∀ z ∈ zs, (Lit.int .i64 z).wf = true) (hz : zs.length * 8 ≤ 140737488351232) (a : Int) (_ : (Lit.int .i64 a).wf = true) :
    Calls Tryd.prog 3 #[v, .int .i64 a] W fun e W' => e = .returned (.bool true) ∧ Below W.heap.size W W' := by
  obtain ⟨pv, cv, hv⟩ : ∃ p c, v = .slice p zs.length c := by obtain ⟨p, c, e, _⟩ := row; exact ⟨p, c, e⟩
  subst hv
  obtain ⟨m, hm⟩ : ∃ m, m = min zs.length 8 := ⟨_, rfl⟩
  obtain ⟨K, hKe⟩ : ∃ K, K = t7Z zs := ⟨_, rfl⟩
  have hK : ∀ i, K i ≤ 7 := fun i => by rw [hKe]; exact t7Z_le zs i
  obtain ⟨N, hNe⟩ : ∃ N : Nat → Bool, ∀ i, (bits .and .i64 (a / 2 ^ i) 1 == 1) = N i := ⟨fun i => (bits .and .i64 (a / 2 ^ i) 1 == 1), fun _ => rfl⟩
  have hmo := moreZ_le K hK m
  obtain ⟨R, hR⟩ : ∃ R, R = moreZ K m := ⟨_, rfl⟩
  have hRR : (rowsR (gZ K N m).rules).length = R := by rw [hR]; exact rows_Z K N m
  obtain ⟨l, hl⟩ : ∃ l, l = (List.range R).map nmS := ⟨_, rfl⟩
  have hll : l.length = R := by rw [hl]; simp
  have hcl : ∀ q, q ∈ (gZ K N m).rules → q.conj.length ≤ 1 := fun q hq => by
    have h1 : q ∈ rusZ K N m := hq
    unfold rusZ at h1
    obtain ⟨i, _, rfl⟩ := List.mem_map.1 h1
    exact Nat.le_refl _
  refine binSizes_core W pv zs.length cv a K hK N hz (fun i hi w' hb => ?_) hNe m hm (biG (gZ K N m) l) rfl l rfl (by rw [hll, hR]) (fun i hi => ?_) ?_ (fun i hi => ?_) (fun i hi => ?_) awake14_any num_any (fun h0 v1 v2 w hg => ?_)
  · obtain ⟨p, c, e, _, h⟩ := row.keep hb
    injection e with e1
    subst e1
    obtain ⟨z, hz⟩ : ∃ z, zs[i]? = some z := ⟨_, List.getElem?_eq_getElem hi⟩
    obtain ⟨g, o, e2, hg, h2⟩ := h i z hz
    refine ⟨g, o, z, e2, h2, hg, ?_⟩
    obtain ⟨n, _, e3⟩ := and7V z
    have e4 : t7Z zs i = (bits .and .i64 z 7).toNat := by unfold t7Z; rw [hz]
    rw [hKe, e4, e3]; rfl
  · rw [← hR] at hi
    rw [hl, List.getElem?_map, List.getElem?_range hi, nmQ_eq (by omega)]
    rfl
  · show (cutR _ 0 (rusZ K N m) ++ restR _ 0 (rowsR (rusZ K N m))).length = _
    rw [List.length_append, cutR_len, restR_len, rusZ_len, rows_Z]
  · have hlen : (cutR 1 0 (rusZ K N m)).length = m := by rw [cutR_len, rusZ_len]
    have hi2 : i < (rowsR (rusZ K N m)).length := by rw [rows_Z]; exact hi
    obtain ⟨r, hr⟩ : ∃ r, (rowsR (rusZ K N m))[i]? = some r := ⟨_, List.getElem?_eq_getElem hi2⟩
    refine ⟨pairT r ((1 + (0 + i) + 1 : Nat) : Int), ?_, pairT_two (rowsR_two _ r (List.mem_of_getElem? hr)) _⟩
    show (cutR 1 0 (rusZ K N m) ++ restR 1 0 (rowsR (rusZ K N m)))[m + i]? = _
    rw [List.getElem?_append_right (by omega), hlen, show m + i - m = i by omega, restR_at 1 _ 0 i r hr]
    rw [show ((1 + (0 + i) : Nat) : Int) = 1 + (i : Int) by omega]
  · obtain ⟨z, hz⟩ := cutR_at 1 (rusZ K N m) 0 i 0 (N i) (sqZ i (K i)) (rusZ_at hi)
    have hlen : (cutR 1 0 (rusZ K N m)).length = m := by rw [cutR_len, rusZ_len]
    refine ⟨pairT (sqZ i (K i)) ((1 + z : Nat) : Int), ?_, ?_, fun h3 => ?_, fun h3 => ?_⟩
    · show (cutR 1 0 (rusZ K N m) ++ restR 1 0 (rowsR (rusZ K N m)))[i]? = _
      rw [List.getElem?_append_left (by omega), hz]
    · by_cases hc : K i ≤ 2
      · rw [pairT_short (by rw [sqZ_len]; exact hc), sqZ_len]; omega
      · rw [pairT_two (by rw [sqZ_len]; omega)]; omega
    · rw [pairT_short (by rw [sqZ_len]; omega)]
    · cases hs : sqZ i (K i) with
      | nil => have := sqZ_len i (K i); rw [hs] at this; simp at this; omega
      | cons s t =>
        have hlen2 : 2 < (s :: t).length := by rw [← hs, sqZ_len]; exact h3
        exact ⟨s, ⟨((1 + z : Nat) : Int), 0, 0⟩, pairT_long hlen2, rfl, by show (1 : Int) ≤ ((1 + z : Nat) : Int); omega⟩
  · have hM := may_Z K hK N m h0 (by omega)
    have hX : mayG (biG (gZ K N m) l) = true := by
      refine bin_mayZ hM ?_ (by rw [hRR, hll]) (by rw [hRR]; show (rusZ K N m).length + R ≤ 256; rw [rusZ_len]; omega) ?_
      · refine mayNames_appY (ns := [⟨#[83]⟩]) (by kernel_rfl) (fun s hs => ?_) ?_ (fun s hs h => ?_) (by rw [hll]; show 1 + R ≤ 64; omega)
        · rw [hl] at hs
          obtain ⟨k, hk, rfl⟩ := List.mem_map.1 hs
          exact nm_namesY k (by have := List.mem_range.1 hk; omega)
        · rw [hl]
          have hmn : ∀ n, n ≤ 100 → ((List.range n).map nmS).Nodup := fun n => by
            induction n with
            | zero => intro _; exact List.nodup_nil
            | succ n ih =>
              intro hn
              rw [List.range_succ, List.map_append]
              refine List.nodup_append.2 ⟨ih (by omega), by simp, fun x hx y hy e => ?_⟩
              obtain ⟨k, hk, rfl⟩ := List.mem_map.1 hx
              have hk2 := List.mem_range.1 hk
              have hy2 : y = nmS n := by simpa using hy
              rw [hy2] at e
              have := nmS_inj (by omega) (by omega) e
              omega
          exact hmn R (by omega)
        · rw [hl] at hs
          obtain ⟨k, hk, rfl⟩ := List.mem_map.1 hs
          exact nmS_S k (List.mem_singleton.1 h)
      · rw [hRR]
        have h1 := syms_cutRY (gZ K N m).names.length (gZ K N m).rules 0 hcl
        have h2 : (gZ K N m).rules.length = m := rusZ_len K N m
        omega
    refine (bin_at (gZ K N m) l (r := R) hRR hM (by show 1 + R ≤ 99; omega) hll (fun k hk h => ?_) v1 v2 w hg (fun s hs => by have e : s = ⟨#[83]⟩ := List.mem_singleton.1 hs; subst e; decide)).mono ?_
    · have e := fresh_allY (ns := (gZ K N m).names) S_not k (by omega)
      rw [e] at h ⊢
      simp at h
      rw [h, hl]
    · rintro e w' ⟨z, st, p1, n1, c1, p2, n2, c2, rfl, hc, hb⟩
      rcases hc.out with ⟨rfl, rfl, -, rfl, rfl, h4⟩ | ⟨-, h3, -⟩
      · have e1 : (gZ K N m).names.length + R = 1 + moreZ K m := by rw [hR]; rfl
        have e2 : (gZ K N m).rules.length + R = m + moreZ K m := by rw [hR]; show (rusZ K N m).length + _ = _; rw [rusZ_len]
        rw [e1, e2] at h4
        rw [e1, e2]
        exact ⟨p1, c1, p2, c2, rfl, h4, hb⟩
      · rw [hX] at h3; cases h3
end Go.Proofs.YtgpklcpmabafmaaDoor
/- BinSizes: the frame. -/
namespace Go.Proofs.YtgpklcpmabafmaaDoor
set_option linter.unusedVariables false
open Go.ChangeShapes Go.WideShapes Go.ChangeAt Go.RowKit


set_option linter.unusedVariables false
theorem binSizes_own : ownKnob Tryd.prog.godebug = none := by kernel_rfl
set_option maxRecDepth 100000 in
theorem binSizes_lifted (os : Os) (started : os.Started) (H : Type) (enc : TypeId × Value → H) :
    ReturnsInHanded {} Tryd.checked os 3 .any (fun w args => (Rows.binSizesSpec.pre enc Tryd.prog Tryd.f3 Rows.binSizesRow.domain false w args ∧ laidMetH Tryd.prog laidT w) ∧ sizedMet enc Tryd.prog Tryd.f3 (OpenSpec.ofChange Rows.binSizesSpec) false w args) (Rows.binSizesSpec.post enc Tryd.prog Tryd.f3 false true false false) := by
  refine returnsInHanded_of_change_and (C := Tryd.checked) (X := fun w _ => laidMetH Tryd.prog laidT w) (fun _ _ _ hh h => h.of_heap hh) binSizes_own started (by kernel_rfl) Tryd.func3
    (ChangeSpec.witness_shaped (enc := enc) (C := Tryd.checked) (os := os) (X := fun w _ => laidMetH Tryd.prog laidT w) false (World.doorLaid Tryd.prog 400 os) #[.slice none 0 0, .int .i64 0] 8 rfl (World.shaped_of_RefB (by kernel_rfl) (by kernel_rfl)) (by kernel_rfl) (by kernel_rfl) (by kernel_rfl) (door_met os _)) ?_
  intro W base args ds gs before hval0 hW hcnd hsz0 hL _
  have hsz : (DataW.weightsEach Tryd.prog (Tryd.f3.params.toList ++ Rows.binSizesSpec.plain.varTypes Tryd.prog) (ds ++ gs)).all (· ≤ reachBytes) = true := hsz0
  have hval : ∀ (j : Nat) t v, Tryd.f3.params[j]? = some t → args[j]? = some v → Value.okWide Tryd.prog W .any base t v := hval0
  have hW' := hW
  obtain ⟨p, q, hA0, hV, rfl, hfz, hnd⟩ := hW
  have hA : DataW.TrodAll enc Tryd.prog W 0 (fun _ => true) true Tryd.f3.params.toList args.toList ds p := hA0
  rw [Tryd.params3] at hA hval hsz
  obtain ⟨v0, vs0, d0, ds0, p0, q0, hargs, rfl, rfl, h0, r0⟩ := trodAll_cons hA
  obtain ⟨v1, vs1, d1, ds1, p1, q1, rfl, rfl, rfl, h1, r1⟩ := trodAll_cons r0
  obtain ⟨rfl, rfl, rfl⟩ := trodAll_nil r1
  obtain rfl : args = #[v0, v1] := by cases args; simp_all
  obtain ⟨rfl, rfl⟩ := trodVars_none hV
  clear hA0 hval0 hsz0
  have k0 := h0
  have lt0 : ∀ x ∈ p0, x.block < W.heap.size := fun x hx => by have := hW'.lt x (by simp [hx]); simpa using this
  have k1 := h1
  have lt1 : ∀ x ∈ p1, x.block < W.heap.size := fun x hx => by have := hW'.lt x (by simp [hx]); simpa using this
  obtain ⟨zs0, row0, w0, hd0⟩ := open_irow Tryd.underlying22 (hval 0 22 v0 rfl rfl) h0
  have z0 := irow_reach hsz (j := 0) (t := 22) rfl rfl Tryd.underlying22 hd0
  obtain ⟨a1, rfl, rfl, rfl, w1⟩ := open_int Tryd.underlying3 (hval 1 3 v1 rfl rfl) h1
  refine (binSizes_walk W (tab_of_laid hL) v0 zs0 row0 w0 z0 a1 w1).mono fun e W' ⟨he, bel⟩ => ?_
  subst he
  exact ⟨_, rfl, _, _, _, [], _, [], hW', trodAll_mk1 (shut_bool Tryd.underlying4 _), (trodAll_cons_mk (Below.trod Tryd.laidOutB (by kernel_rfl) (of_decide_eq_true (by kernel_rfl)) k0 bel lt0) (trodAll_cons_mk (Below.trod Tryd.laidOutB (by kernel_rfl) (of_decide_eq_true (by kernel_rfl)) k1 bel lt1) trodAll_mk0)), rfl, bel.frame _, fun h => by cases h⟩

set_option maxHeartbeats 8000000 in
theorem binSizes_closed : joinedFacts Tryd.checked.prog 3 Tryd.f3 Rows.binSizesSpec Rows.binSizesRow = true := by
  unfold joinedFacts
  iterate 31 (refine and_ok ?_ ?_)
  all_goals first | (with_reducible exact enter_ok) | (rw [lifts_no]; rfl) | (rw [make_cut]; rfl) | as_aux_lemma => kernel_rfl
theorem binSizes_holds : Rows.BinSizesSaid :=
  OpenClaim.holds_of_wide 3 Tryd.f3 rfl rfl rfl rfl rfl rfl rfl ⟨rfl, rfl, rfl, rfl, rfl⟩ rfl rfl rfl rfl rfl (by kernel_rfl) Tryd.func3 binSizes_closed
    (of_decide_eq_true (by kernel_rfl)) (by unfold Func.isWrapper; first | (rw [if_pos (by decide +kernel)]; kernel_rfl) | (rw [if_neg (by decide +kernel)]; exact ⟨rfl, rfl⟩))
    (fun os started H enc _ => binSizes_lifted os started H enc)
theorem binSizes_card : Rows.BinSizesCardSaid :=
  Claim7.holds_tied_plain_at .later [] [.data, .data, .data] true (true, "5fce7ed0c7b9bbb116dd67317282d3a94ceff9013056f5850eb3486cfe634742") true
    binSizes_holds (fun _ h => by cases h) (by kernel_rfl) (fun _ h => by cases h) binSizes_row_tie rfl ⟨rfl, rfl⟩ (by kernel_rfl) rfl
    (fun f fn hf hfn => by
      obtain rfl : f = 3 := Option.some.inj ((show Tryd.prog.funcNamed "temple/templelaw14.BinSizes" = some 3 by kernel_rfl).symm.trans hf) |>.symm
      obtain rfl : fn = Tryd.f3 := (Option.some.inj (Tryd.func3.symm.trans hfn)).symm
      exact ⟨by kernel_rfl, fun j t ht => by
        rw [Tryd.params3] at ht
        have hm : t ∈ [22, 3] := by simpa using Array.mem_of_getElem? ht
        have hall : ([22, 3].all fun u => !Tryd.prog.wantsStandIn u) = true := by kernel_rfl
        exact (show Tryd.prog.wantsStandIn t = false by simpa using List.all_eq_true.1 hall t hm)⟩)
    (by kernel_rfl)
#print axioms binSizes_card
end Go.Proofs.YtgpklcpmabafmaaDoor
