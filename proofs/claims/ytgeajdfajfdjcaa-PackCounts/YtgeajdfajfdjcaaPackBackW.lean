/- PackBack: walked over its callees. -/
import Derived.Test.YtgeajdfajfdjcaaPkA
import Derived.Test.YtgeajdfajfdjcaaPkF
namespace Go.Proofs.Ytgeajdfajfdjcaa
set_option linter.unusedVariables false
set_option linter.unusedSimpArgs false
open Go.ChangeShapes Go.WideShapes Go.ChangeAt Go.RowKit

theorem pow256_le {k : Nat} (hk : k ≤ 4) : (256 : Int) ^ k ≤ 4294967296 := by
  match k, hk with
  | 0, _ => decide
  | 1, _ => decide
  | 2, _ => decide
  | 3, _ => decide
  | 4, _ => decide
theorem fit_wf {k : Nat} {z : Int} (hk : k ≤ 4) (h : fitZ k z = true) : wfz z := by
  unfold fitZ at h
  simp only [Bool.and_eq_true, decide_eq_true_eq] at h
  have := pow256_le hk
  exact ⟨by omega, by omega⟩
theorem fit_len {k n : Nat} (hk : k ≤ 4) (h : fitZ k (n : Int) = true) : n ≤ 1152921504606846976 := by
  have := (fit_wf hk h).2
  unfold fitZ at h
  simp only [Bool.and_eq_true, decide_eq_true_eq] at h
  have := pow256_le hk
  omega
theorem ok_wfP {p : Pk} (h : pkOk p = true) : wfP p := by
  unfold pkOk at h
  simp only [Bool.and_eq_true] at h
  exact ⟨fit_wf (by decide) h.1.1.1, fit_wf (by decide) h.1.1.2, fun z hz => fit_wf (by decide) (List.all_eq_true.1 h.2 z hz), fit_len (by decide) h.1.2⟩
theorem ok_wfN {n : Nd} (h : ndOk n = true) : wfN n := by
  unfold ndOk hdOk at h
  simp only [Bool.and_eq_true] at h
  obtain ⟨⟨⟨⟨⟨⟨⟨⟨⟨h0, h1⟩, h2⟩, h3⟩, h4⟩, h5⟩, h6⟩, h7⟩, h8⟩, h9⟩ := h
  exact ⟨⟨fit_wf (k := 1) (by decide) (isNd_kind h0), fit_wf (by decide) h1, fit_wf (by decide) h2, fit_wf (by decide) h3, fit_wf (by decide) h4, fit_wf (by decide) h5, fit_wf (by decide) h6, fit_wf (by decide) h7⟩, fun p hp => ok_wfP (List.all_eq_true.1 h9 p hp), fit_len (by decide) h8⟩
theorem ok_wfC {c : Ct} (h : ctOk c = true) : wfC c := by
  unfold ctOk at h
  simp only [Bool.and_eq_true] at h
  exact ⟨fit_wf (by decide) h.1.1, fun n hn => ok_wfN (List.all_eq_true.1 h.2 n hn), fit_len (by decide) h.1.2⟩
theorem wfC_sizes {c : Ct} (h : wfC c) : ∀ x ∈ c.nodes, (x.picks.length : Int) ≤ 1152921504606846976 ∧ ∀ p ∈ x.picks, (p.kids.length : Int) ≤ 1152921504606846976 := fun x hx => by
  have h := h.2.1 x hx
  exact ⟨by have := h.2.2; omega, fun p hp => by have := (h.2.1 p hp).2.2.2; omega⟩
theorem put_ok {c : Ct} (h : (putT c).2 = 0) : ctOk c = true ∧ c.nodes.length ≤ 65536 ∧ (ctB c).length ≤ 1048576 ∧ putT c = (ctB c, 0) := by
  unfold putT at h
  split at h
  · rename_i h1
    split at h
    · exact absurd h (by decide)
    · rename_i h2
      refine ⟨h1, by omega, by omega, ?_⟩
      unfold putT; rw [h1, if_pos rfl, if_neg h2]
  · exact absurd h (by decide)
theorem put_of {c : Ct} (h1 : ctOk c = true) (h2 : c.nodes.length ≤ 65536) (h3 : (ctB c).length ≤ 1048576) : putT c = (ctB c, 0) := by
  unfold putT; rw [h1, if_pos rfl, if_neg (by omega)]
theorem get_of {c : Ct} (h1 : ctOk c = true) (h2 : c.nodes.length ≤ 65536) (h3 : (ctB c).length ≤ 1048576) : getT (ctB c) = (c, 0) := by
  unfold getT; rw [if_neg (by omega), ctR_there c h1 h2]
theorem get_ok {l : List UInt8} (h : (getT l).2 = 0) : ctOk (getT l).1 = true ∧ (getT l).1.nodes.length ≤ 65536 ∧ l = ctB (getT l).1 ∧ l.length ≤ 1048576 := by
  unfold getT at h ⊢
  split at h
  · exact absurd h (by decide)
  · rename_i h1
    rw [if_neg h1]
    cases hc : ctR l with
    | none => rw [hc] at h; exact absurd h (by decide)
    | some c =>
      obtain ⟨a, b, d⟩ := ctR_back hc
      exact ⟨a, b, d, by omega⟩
theorem get_bad {l : List UInt8} (h : (getT l).2 ≠ 0) : (getT l).1.nodes = [] := by
  unfold getT at h ⊢
  split
  · rfl
  · rename_i h1
    rw [if_neg h1] at h
    cases hc : ctR l with
    | none => rfl
    | some c => rw [hc] at h; exact absurd rfl h
theorem get_none {l : List UInt8} (h : ctR l = none) (hl : l.length ≤ 1048576) : getT l = (⟨0, []⟩, 1800) := by
  unfold getT; rw [if_neg (by omega), h]
/-- Get, its answer given outright. -/
theorem get_at (W : World) {l : List UInt8} {d : Ct} {x : Int} (h : getT l = (d, x)) : Calls Try.prog 12 #[.string ⟨l.toArray⟩] W fun e w' => ∃ pv cv, e = .returned (.tuple #[.agg #[.int .i64 d.root, .slice pv d.nodes.length cv], .int .i64 x]) ∧ Hid (IsNds w' Any (.slice pv d.nodes.length cv) d.nodes) ∧ Hid (Below W.heap.size W w') := by
  refine (get_any W l).mono ?_
  rintro e w' ⟨h1, pv, cv, h2, h3⟩
  rw [h] at h2 h3
  exact ⟨pv, cv, h2, h3.out.low (fun _ _ _ => trivial), h1⟩
set_option maxHeartbeats 16000000 in
set_option maxRecDepth 100000 in
theorem packBack_walk (W : World) (c : Ct) (v : Value) (ci : IsNds W Any v c.nodes) (cw : wfC c) (s : ByteArray) (hs : s.size ≤ 140737488351232) (cut : Int) (wf : (Lit.int .i64 cut).wf = true) :
    Calls Try.prog 4 #[.agg #[.int .i64 c.root, v], .string s, .int .i64 cut] W fun e w' => e = .returned (.bool true) ∧ Below W.heap.size W w' := by
  obtain ⟨l, hl⟩ : ∃ l : List UInt8, s = ⟨l.toArray⟩ := ⟨s.data.toList, by simp⟩
  obtain ⟨pv, cv, rfl⟩ := ci.slc
  obtain ⟨hc1, hc2⟩ := wfz_of wf
  have CI : Hid (IsNds W Any (.slice pv c.nodes.length cv) c.nodes) := ci
  obtain ⟨d, x, hg⟩ : ∃ d x, getT l = (d, x) := ⟨_, _, rfl⟩
  have KG : Hid (∀ wq, Calls Try.prog 12 #[.string s] wq fun e w' => ∃ pv cv, e = .returned (.tuple #[.agg #[.int .i64 d.root, .slice pv d.nodes.length cv], .int .i64 x]) ∧ Hid (IsNds w' Any (.slice pv d.nodes.length cv) d.nodes) ∧ Hid (Below wq.heap.size wq w')) := fun wq => by
    rw [hl]; exact get_at wq hg
  have HD : Hid (x = 0 → putT d = (l, 0) ∧ wfC d) := fun h0 => by
    have h1 := get_ok (l := l) (by rw [hg]; exact h0)
    rw [hg] at h1
    obtain ⟨g1, g2, g3, g4⟩ := h1
    have h3 := put_of g1 g2 (by rw [← g3]; exact g4)
    rw [← g3] at h3
    exact ⟨h3, ok_wfC g1⟩
  have HE : Hid (x ≠ 0 → d.nodes = []) := fun h0 => by
    have h1 := get_bad (l := l) (by rw [hg]; exact h0)
    rw [hg] at h1; exact h1
  have KP2 : Hid (x = 0 → ∀ w' pv cv, IsNds w' Any (.slice pv d.nodes.length cv) d.nodes → Calls Try.prog 10 #[.agg #[.int .i64 d.root, .slice pv d.nodes.length cv]] w' fun e w'' => e = .returned (.tuple #[.string s, .int .i64 0]) ∧ Hid (Below w'.heap.size w' w'')) := fun h0 w' pv cv hn => by
    have h1 := put_any d _ w' hn (HD.out h0).2
    rw [(HD.out h0).1] at h1
    rw [hl]; exact h1
  have KN := num18_any
  obtain ⟨t, E, hp⟩ : ∃ t E, putT c = (t, E) := ⟨_, _, rfl⟩
  obtain ⟨T, hT⟩ : ∃ T : ByteArray, T = ⟨t.toArray⟩ := ⟨_, rfl⟩
  obtain ⟨X, hX⟩ : ∃ X, X = W.alloc (.cells #[.int .i64 c.root, .slice pv c.nodes.length cv] 24) := ⟨_, rfl⟩
  have HX : Hid (Below W.heap.size W X) := by rw [hX]; exact bel1 _ _
  have HXC : Hid (X.heap[W.heap.size]? = some (.cells #[.int .i64 c.root, .slice pv c.nodes.length cv] 24)) := by
    show X.heap[W.heap.size]? = _
    rw [hX]; exact heap_alloc_new _ _
  have HXB : Hid (∀ w', Below X.heap.size X w' → Below W.heap.size W w' ∧ w'.heap[W.heap.size]? = some (.cells #[.int .i64 c.root, .slice pv c.nodes.length cv] 24)) := fun w' hb => ⟨HX.out.trans (hb.mono HX.out.size), (hb.block _ (heap_lt HXC.out)).trans HXC.out⟩
  have KA : Hid (∀ w', w' = X → Calls Try.prog 17 #[] w' fun e w'' => e = .returned (.bool true) ∧ Hid (Below X.heap.size X w'') ∧ w''.cell? ⟨W.heap.size, 0, none⟩ = some (.int .i64 c.root) ∧ w''.cell? ⟨W.heap.size, 1, none⟩ = some (.slice pv c.nodes.length cv)) := fun w' e0 => by
    subst e0
    refine (awake18_any w').mono ?_
    rintro e w'' ⟨h1, h2⟩
    have h3 := (HXB.out w'' h2.out).2
    exact ⟨h1, h2, Lib.cell_of_heap h3 0, Lib.cell_of_heap h3 1⟩
  have KP : Hid (∀ w1, Below X.heap.size X w1 → Calls Try.prog 10 #[.agg #[.int .i64 c.root, .slice pv c.nodes.length cv]] w1 fun e w2 => e = .returned (.tuple #[.string T, .int .i64 E]) ∧ Hid (Below X.heap.size X w2)) := fun w1 hb => by
    have h := put_any c _ w1 (CI.out.any (HXB.out w1 hb).1) cw
    rw [hp] at h
    rw [hT]
    refine h.mono ?_
    rintro e w2 ⟨h1, h2⟩
    exact ⟨h1, hb.trans (h2.out.mono hb.size)⟩
  have HWC : Hid (wfC c) := cw
  have HHG : Hid (getT l = (d, x)) := hg
  have HSL : Hid (s = ⟨l.toArray⟩) := hl
  have HPC : Hid (putT c = (t, E)) := hp
  have HTT : Hid (T = ⟨t.toArray⟩) := hT
  clear hl hg hp hT wf ci cw
  go_enter Try.func4, Try.ntmps4
  go_upto_region 1 with fail
  rw [← hX]
  clear hX
  go_upto_region 3 with (go_at_call 17; refine (KA.out _ rfl).mono ?_; rintro e w1 ⟨rfl, B1, c0, c1⟩)
  go_upto_region 4 with (go_at_call 10; refine (KP.out w1 B1.out).mono ?_; rintro e w2 ⟨rfl, B2⟩)
  by_cases hE : E = 0
  · subst hE
    have hpk := put_ok (c := c) (by rw [HPC.out])
    have HOK : Hid (ctOk c = true ∧ c.nodes.length ≤ 65536 ∧ (ctB c).length ≤ 1048576) := ⟨hpk.1, hpk.2.1, hpk.2.2.1⟩
    have htc : t = ctB c := by
      have := HPC.out.symm.trans hpk.2.2.2
      exact (Prod.mk.inj this).1
    have HTC : Hid (T = ⟨(ctB c).toArray⟩) := by rw [← htc]; exact HTT
    obtain ⟨n0, hn0⟩ : ∃ n0, n0 = (ctB c).length := ⟨_, rfl⟩
    have hn1 : 0 < n0 := by rw [hn0]; unfold ctB; simp
    have hn2 : n0 ≤ 1048576 := by rw [hn0]; exact hpk.2.2.1
    have hTs : T.size = n0 := by rw [HTC.out, hn0]; simp [ByteArray.size]
    have HN0 : Hid (n0 = (ctB c).length) := hn0
    have hTe : T.toList.isEmpty = false := by
      rw [Bool.eq_false_iff]
      intro h
      have h2 : T.toList = [] := by simpa using h
      have h3 := (toList_nil_iff_emptyBytes T).1 h2
      rw [h3] at hTs
      simp [ByteArray.size] at hTs
      omega
    clear hpk htc hn0
    have hTsI : ((T.size : Nat) : Int) = (n0 : Int) := by omega
    have K1 : Hid (∀ wq, Calls Try.prog 12 #[.string T] wq fun e w' => ∃ pv cv, e = .returned (.tuple #[.agg #[.int .i64 c.root, .slice pv c.nodes.length cv], .int .i64 0]) ∧ Hid (IsNds w' Any (.slice pv c.nodes.length cv) c.nodes) ∧ Hid (Below wq.heap.size wq w')) := fun wq => by
      rw [HTC.out]; exact get_at wq (get_of HOK.out.1 HOK.out.2.1 HOK.out.2.2)
    go_upto_region 7 with (go_at_call 14; refine (KN _ _).mono ?_; rintro e wn ⟨rfl, rfl⟩)
    go_upto_region 8 with (go_at_call 12; refine (K1.out _).mono ?_; rintro e w3 ⟨pv3, cv3, rfl, N3, B3⟩)
    obtain ⟨uc, huc, hu0, hu1⟩ : ∃ uc, IntKind.u64.wrap cut = uc ∧ 0 ≤ uc ∧ uc ≤ 18446744073709551615 := ⟨_, rfl, by rw [IntKind.wrap_u64]; omega, by rw [IntKind.wrap_u64]; omega⟩
    have hnI1 : (0 : Int) < (n0 : Int) := by omega
    have hnI2 : (n0 : Int) ≤ 1048576 := by omega
    have hnI3 : ¬ (n0 : Int) = 0 := by omega
    have hnw : IntKind.u64.wrap (n0 : Int) = (n0 : Int) := IntWalk.u64_in _ (by omega)
    obtain ⟨kk, hkk, hk0, hk1⟩ : ∃ kk : Nat, uc.tmod (n0 : Int) = (kk : Int) ∧ kk < n0 ∧ (kk : Int) ≤ 1048576 := by
      have e : uc.tmod (n0 : Int) = uc % (n0 : Int) := Int.tmod_eq_emod_of_nonneg hu0
      have h1 := Int.emod_nonneg uc hnI3
      have h2 := Int.emod_lt_of_pos uc hnI1
      exact ⟨(uc % (n0 : Int)).toNat, by rw [e]; omega, by omega, by omega⟩
    have hkk2 : uc % (n0 : Int) = (kk : Int) := by rw [← hkk]; exact (Int.tmod_eq_emod_of_nonneg hu0).symm
    have hk2 : (kk : Int) < (n0 : Int) := by omega
    have hk3 : (kk : Int) ≤ (n0 : Int) := by omega
    have K2 : Hid (∀ wq, Calls Try.prog 12 #[.string (T.extract 0 kk)] wq fun e w' => ∃ pv cv, e = .returned (.tuple #[.agg #[.int .i64 0, .slice pv 0 cv], .int .i64 1800]) ∧ Hid (Below wq.heap.size wq w')) := fun wq => by
      rw [HTC.out, ext_front]
      refine (get_at wq (get_none (ctR_cut c kk HOK.out.1 HOK.out.2.1 (by rw [← HN0.out]; exact hk0)) (by rw [List.length_take]; have := HOK.out.2.2; omega))).mono ?_
      rintro e w' ⟨pv, cv, h1, _, h3⟩
      exact ⟨pv, cv, h1, h3⟩
    obtain ⟨x3, K3⟩ : ∃ x3 : Int, Hid ((n0 < 1048576 → x3 = 1800) ∧ ∀ wq, Calls Try.prog 12 #[.string (T ++ ⟨#[97]⟩)] wq fun e w' => ∃ pv cv, e = .returned (.tuple #[.agg #[.int .i64 0, .slice pv 0 cv], .int .i64 x3]) ∧ Hid (Below wq.heap.size wq w')) := by
      have hap : T ++ (⟨#[97]⟩ : ByteArray) = ⟨(ctB c ++ [97]).toArray⟩ := by
        rw [HTC.out]
        apply ByteArray.ext
        simp [ByteArray.data_append]
      by_cases hlt : n0 < 1048576
      · refine ⟨1800, fun _ => rfl, fun wq => ?_⟩
        rw [hap]
        refine (get_at wq (get_none (ctR_more c 97 [] HOK.out.1 HOK.out.2.1) (by rw [List.length_append, ← HN0.out]; simp; omega))).mono ?_
        rintro e w' ⟨pv, cv, h1, _, h3⟩
        exact ⟨pv, cv, h1, h3⟩
      · refine ⟨1801, fun h => absurd h hlt, fun wq => ?_⟩
        rw [hap]
        have hg : getT (ctB c ++ [97]) = (⟨0, []⟩, 1801) := by
          unfold getT; rw [if_pos (by rw [List.length_append, ← HN0.out]; simp; omega)]
        refine (get_at wq hg).mono ?_
        rintro e w' ⟨pv, cv, h1, _, h3⟩
        exact ⟨pv, cv, h1, h3⟩
    clear hk0
    have HK4 : Hid (∀ w', Below W.heap.size W w' → ∀ pv' cv', IsNds w' Any (.slice pv' c.nodes.length cv') c.nodes → Calls Try.prog 15 #[.agg #[.int .i64 c.root, .slice pv c.nodes.length cv], .agg #[.int .i64 c.root, .slice pv' c.nodes.length cv']] w' fun e w'' => e = .returned (.bool true) ∧ Hid (Below w'.heap.size w' w'')) := fun w' hb pv' cv' hn => sameCt_yes c _ _ w' (CI.out.any hb) hn (by have := HWC.out.2.2; omega) (wfC_sizes HWC.out)
    have HX3 : Hid (Below X.heap.size X w3) := B2.out.trans (B3.out.mono B2.out.size)
    go_upto_region 9 with (go_at_call 12; refine (K2.out _).mono ?_; rintro e w4 ⟨pv4, cv4, rfl, B4⟩)
    go_upto_region 10 with (go_at_call 12; refine (K3.out.2 _).mono ?_; rintro e w5 ⟨pv5, cv5, rfl, B5⟩)
    have BD := aw_chain B4.out B5.out
    have BX5 : Hid (Below X.heap.size X w5) := HX3.out.trans (BD.out.1.mono HX3.out.size)
    have y0 : w5.cell? ⟨w3.heap.size, 0, none⟩ = some (.int .i64 c.root) := Lib.cell_of_heap BD.out.2 0
    have y1 : w5.cell? ⟨w3.heap.size, 1, none⟩ = some (.slice pv3 c.nodes.length cv3) := Lib.cell_of_heap BD.out.2 1
    have x0 : w5.cell? ⟨W.heap.size, 0, none⟩ = some (.int .i64 c.root) := Lib.cell_of_heap (HXB.out _ BX5.out).2 0
    have x1 : w5.cell? ⟨W.heap.size, 1, none⟩ = some (.slice pv c.nodes.length cv) := Lib.cell_of_heap (HXB.out _ BX5.out).2 1
    have z0 := cell_lt y0
    have z1 := cell_lt x0
    have HB5 : Hid (Below W.heap.size W w5) := (HXB.out _ BX5.out).1
    have HN5 : Hid (IsNds w5 Any (.slice pv3 c.nodes.length cv3) c.nodes) := N3.out.any BD.out.1
    clear B4 B5 BX5 BD HX3 B3 B2 B1 N3 K1 K2 c0 c1 huc hkk hkk2 hTe hnI1 hnI2 hnI3 hnw hu0 hu1 hk1 hk2 hk3 hTs hc1 hc2
    by_cases hlt : n0 < 1048576
    · have hltI : (n0 : Int) < 1048576 := by omega
      have hx3 := K3.out.1 hlt
      subst hx3
      clear hlt hn2 hn1 hs
      go_upto_region 12 with (first
        | (go_at_call 14; refine (KN _ _).mono ?_; rintro e wn ⟨rfl, rfl⟩)
        | (go_at_call 15; refine (HK4.out _ (HB5.out.trans ((bel1 _ _).mono HB5.out.size)) pv3 cv3 (HN5.out.any (bel1 _ _))).mono ?_; rintro e w6 ⟨rfl, B6⟩; have HB6 : Hid (Below W.heap.size W w6) := HB5.out.trans (((bel1 _ _).trans (B6.out.mono (bel1 _ _).size)).mono HB5.out.size)))
      clear hltI hTsI
      by_cases hx : x = 0
      · have KP3 : Hid (∀ w' pv cv, IsNds w' Any (.slice pv d.nodes.length cv) d.nodes → Calls Try.prog 10 #[.agg #[.int .i64 d.root, .slice pv d.nodes.length cv]] w' fun e w'' => e = .returned (.tuple #[.string s, .int .i64 0]) ∧ Hid (Below w'.heap.size w' w'')) := KP2.out hx
        clear KP2 HD HE
        subst hx
        go_wp2_with (first
          | (go_at_call 12; refine (KG.out _).mono ?_; rintro e w5 ⟨pv7, cv7, rfl, N5, B5⟩)
          | (go_at_call 10; refine (KP3.out _ pv7 cv7 (N5.out.any (bel1 _ _))).mono ?_; rintro e w6 ⟨rfl, B6⟩)
          | (go_at_call 14; refine (KN _ _).mono ?_; rintro e wn ⟨rfl, rfl⟩))
        go_ret
        have b5 := HB6.out.trans (B5.out.mono HB6.out.size)
        exact ⟨rfl, b5.trans (((bel1 _ _).trans (B6.out.mono (bel1 _ _).size)).mono b5.size)⟩
      · have hd0 : Hid (d.nodes = []) := HE.out hx
        clear KP2 HD HE
        go_wp2_with (first
          | (go_at_call 12; refine (KG.out _).mono ?_; rintro e w5 ⟨pv7, cv7, rfl, N5, B5⟩)
          | (go_at_call 14; refine (KN _ _).mono ?_; rintro e wn ⟨rfl, rfl⟩))
        go_ret
        have b5 := HB6.out.trans (B5.out.mono HB6.out.size)
        exact ⟨by rw [hd0.out]; rfl, b5.trans ((bel1 _ _).mono b5.size)⟩
    · have hltI : decide ((n0 : Int) < 1048576) = false := decide_eq_false (by omega)
      clear hlt hn2 hn1 hs
      go_upto_region 12 with (first
        | (go_at_call 14; refine (KN _ _).mono ?_; rintro e wn ⟨rfl, rfl⟩)
        | (go_at_call 15; refine (HK4.out _ (HB5.out.trans ((bel1 _ _).mono HB5.out.size)) pv3 cv3 (HN5.out.any (bel1 _ _))).mono ?_; rintro e w6 ⟨rfl, B6⟩; have HB6 : Hid (Below W.heap.size W w6) := HB5.out.trans (((bel1 _ _).trans (B6.out.mono (bel1 _ _).size)).mono HB5.out.size)))
      clear hltI hTsI
      by_cases hx : x = 0
      · have KP3 : Hid (∀ w' pv cv, IsNds w' Any (.slice pv d.nodes.length cv) d.nodes → Calls Try.prog 10 #[.agg #[.int .i64 d.root, .slice pv d.nodes.length cv]] w' fun e w'' => e = .returned (.tuple #[.string s, .int .i64 0]) ∧ Hid (Below w'.heap.size w' w'')) := KP2.out hx
        clear KP2 HD HE
        subst hx
        go_wp2_with (first
          | (go_at_call 12; refine (KG.out _).mono ?_; rintro e w5 ⟨pv7, cv7, rfl, N5, B5⟩)
          | (go_at_call 10; refine (KP3.out _ pv7 cv7 (N5.out.any (bel1 _ _))).mono ?_; rintro e w6 ⟨rfl, B6⟩)
          | (go_at_call 14; refine (KN _ _).mono ?_; rintro e wn ⟨rfl, rfl⟩))
        go_ret
        have b5 := HB6.out.trans (B5.out.mono HB6.out.size)
        exact ⟨rfl, b5.trans (((bel1 _ _).trans (B6.out.mono (bel1 _ _).size)).mono b5.size)⟩
      · have hd0 : Hid (d.nodes = []) := HE.out hx
        clear KP2 HD HE
        go_wp2_with (first
          | (go_at_call 12; refine (KG.out _).mono ?_; rintro e w5 ⟨pv7, cv7, rfl, N5, B5⟩)
          | (go_at_call 14; refine (KN _ _).mono ?_; rintro e wn ⟨rfl, rfl⟩))
        go_ret
        have b5 := HB6.out.trans (B5.out.mono HB6.out.size)
        exact ⟨by rw [hd0.out]; rfl, b5.trans ((bel1 _ _).mono b5.size)⟩
  · --SA
    go_upto_region 12 with (go_at_call 14; refine (KN _ _).mono ?_; rintro e wn ⟨rfl, rfl⟩)
    by_cases hx : x = 0
    · have KP3 : Hid (∀ w' pv cv, IsNds w' Any (.slice pv d.nodes.length cv) d.nodes → Calls Try.prog 10 #[.agg #[.int .i64 d.root, .slice pv d.nodes.length cv]] w' fun e w'' => e = .returned (.tuple #[.string s, .int .i64 0]) ∧ Hid (Below w'.heap.size w' w'')) := KP2.out hx
      clear KP2 HD HE
      subst hx
      go_wp2_with (first
        | (go_at_call 12; refine (KG.out _).mono ?_; rintro e w5 ⟨pv5, cv5, rfl, N5, B5⟩)
        | (go_at_call 10; refine (KP3.out _ pv5 cv5 (N5.out.any (bel1 _ _))).mono ?_; rintro e w6 ⟨rfl, B6⟩)
        | (go_at_call 14; refine (KN _ _).mono ?_; rintro e wn ⟨rfl, rfl⟩))
      go_ret
      have b5 := (HXB.out _ B2.out).1.trans (B5.out.mono (HXB.out _ B2.out).1.size)
      exact ⟨rfl, b5.trans (((bel1 _ _).trans (B6.out.mono (bel1 _ _).size)).mono b5.size)⟩
    · have hd0 : Hid (d.nodes = []) := HE.out hx
      clear KP2 HD HE
      go_wp2_with (first
        | (go_at_call 12; refine (KG.out _).mono ?_; rintro e w5 ⟨pv5, cv5, rfl, N5, B5⟩)
        | (go_at_call 14; refine (KN _ _).mono ?_; rintro e wn ⟨rfl, rfl⟩))
      go_ret
      have b5 := (HXB.out _ B2.out).1.trans (B5.out.mono (HXB.out _ B2.out).1.size)
      exact ⟨by rw [hd0.out]; rfl, b5.trans ((bel1 _ _).mono b5.size)⟩
end Go.Proofs.Ytgeajdfajfdjcaa
