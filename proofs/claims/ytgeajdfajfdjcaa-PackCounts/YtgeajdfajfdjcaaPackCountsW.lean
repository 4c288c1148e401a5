/- PackCounts: walked over its callees. -/
import Derived.Test.YtgeajdfajfdjcaaPcB
namespace Go.Proofs.Ytgeajdfajfdjcaa
set_option linter.unusedVariables false
set_option linter.unusedSimpArgs false
open Go.ChangeShapes Go.WideShapes Go.ChangeAt Go.RowKit

theorem and63_ex (x : Int) : ∃ kk : Int, bits .and .i64 x 63 = kk ∧ 0 ≤ kk ∧ kk ≤ 63 := by
  have h : (BitVec.ofInt 64 x &&& BitVec.ofInt 64 (63 : Int)).toNat ≤ 63 := by
    rw [BitVec.toNat_and]
    refine Nat.le_trans Nat.and_le_right ?_
    decide
  refine ⟨_, rfl, ?_⟩
  show 0 ≤ IntKind.i64.wrap ((BitVec.ofInt 64 x &&& BitVec.ofInt 64 (63 : Int)).toNat : Int) ∧ IntKind.i64.wrap ((BitVec.ofInt 64 x &&& BitVec.ofInt 64 (63 : Int)).toNat : Int) ≤ 63
  generalize (BitVec.ofInt 64 x &&& BitVec.ofInt 64 (63 : Int)).toNat = n at h
  rw [IntKind.wrap_i64]; omega
theorem bel_after {w v w7 : World} (h : Below w.heap.size w v) (h2 : Below v.heap.size v w7) : Below w.heap.size w w7 := h.trans (h2.mono h.size)
theorem al_keep {v w7 : World} {a : Nat} {x y : Value} {t : TypeId} (h : Below v.heap.size v w7) (hv : v.heap[a]? = some (.cells #[x, y] t)) : w7.cell? ⟨a, 0, none⟩ = some x ∧ w7.cell? ⟨a, 1, none⟩ = some y ∧ w7.frozen? ⟨a, 0, none⟩ = false ∧ w7.frozen? ⟨a, 1, none⟩ = false ∧ Hid (w7.heap[a]? = some (.cells #[x, y] t)) ∧ a < w7.heap.size := by
  have h1 : w7.heap[a]? = some (.cells #[x, y] t) := (h.block a (heap_lt hv)).trans hv
  exact ⟨Lib.cell_of_heap h1 0, Lib.cell_of_heap h1 1, by simp [World.frozen?, h1], by simp [World.frozen?, h1], h1, heap_lt h1⟩
theorem bel_alloc {W w' : World} {o : Obj} (h : Below W.heap.size W w') : Below W.heap.size W (w'.alloc o) := h.alloc h.size o
theorem bel_set {W w' : World} {n i : Nat} (h : Below W.heap.size W w') (hn : W.heap.size ≤ n) (v : Value) : Below W.heap.size W (w'.setCell ⟨n, i, none⟩ v) := h.setCell (p := ⟨n, i, none⟩) hn v
set_option maxHeartbeats 16000000 in
set_option maxRecDepth 100000 in
theorem packCounts_walk (W : World) (c : Ct) (v : Value) (ci : IsNds W Any v c.nodes) (cw : wfC c) (by_ : Int) (wf : (Lit.int .i64 by_).wf = true) :
    Calls Try.prog 7 #[.agg #[.int .i64 c.root, v], .int .i64 by_] W fun e w' => e = .returned (.bool true) ∧ Below W.heap.size W w' := by
  obtain ⟨pv, cv, rfl⟩ := ci.slc
  have CI : Hid (IsNds W Any (.slice pv c.nodes.length cv) c.nodes) := ci
  have KN := num18_any
  obtain ⟨t, E, hp⟩ : ∃ t E, putT c = (t, E) := ⟨_, _, rfl⟩
  obtain ⟨T, hT⟩ : ∃ T : ByteArray, T = ⟨t.toArray⟩ := ⟨_, rfl⟩
  obtain ⟨X, hX⟩ : ∃ X, X = W.alloc (.cells #[.int .i64 c.root, .slice pv c.nodes.length cv] 24) := ⟨_, rfl⟩
  have HX : Hid (Below W.heap.size W X) := by rw [hX]; exact bel1 _ _
  have HXC : Hid (X.heap[W.heap.size]? = some (.cells #[.int .i64 c.root, .slice pv c.nodes.length cv] 24)) := by
    show X.heap[W.heap.size]? = _
    rw [hX]; exact heap_alloc_new _ _
  have HXB : Hid (∀ w', Below X.heap.size X w' → Below W.heap.size W w' ∧ w'.heap[W.heap.size]? = some (.cells #[.int .i64 c.root, .slice pv c.nodes.length cv] 24)) := fun w' hb => ⟨HX.out.trans (hb.mono HX.out.size), (hb.block _ (heap_lt HXC.out)).trans HXC.out⟩
  have KA : Hid (∀ w', w' = X → Calls Try.prog 17 #[] w' fun e w'' => e = .returned (.bool true) ∧ Hid (Below X.heap.size X w'') ∧ w''.cell? ⟨W.heap.size, 0, none⟩ = some (.int .i64 c.root) ∧ w''.cell? ⟨W.heap.size, 1, none⟩ = some (.slice pv c.nodes.length cv)) := fun w' e0 => by
    subst e0
    refine (awake18_any w').mono ?_
    rintro e w'' ⟨h1, h2⟩
    have h3 := (HXB.out w'' h2.out).2
    exact ⟨h1, h2, Lib.cell_of_heap h3 0, Lib.cell_of_heap h3 1⟩
  have KP : Hid (∀ w1, Below X.heap.size X w1 → Calls Try.prog 10 #[.agg #[.int .i64 c.root, .slice pv c.nodes.length cv]] w1 fun e w2 => e = .returned (.tuple #[.string T, .int .i64 E]) ∧ Hid (Below X.heap.size X w2) ∧ w2.cell? ⟨W.heap.size, 1, none⟩ = some (.slice pv c.nodes.length cv)) := fun w1 hb => by
    have h := put_any c _ w1 (CI.out.any (HXB.out w1 hb).1) cw
    rw [hp] at h
    rw [hT]
    refine h.mono ?_
    rintro e w2 ⟨h1, h2⟩
    have h3 := hb.trans (h2.out.mono hb.size)
    exact ⟨h1, h3, Lib.cell_of_heap (HXB.out w2 h3).2 1⟩
  have HPC : Hid (putT c = (t, E)) := hp
  have HTT : Hid (T = ⟨t.toArray⟩) := hT
  obtain ⟨hb1, hb2⟩ := wfz_of wf
  clear hp hT wf ci cw
  go_enter Try.func7, Try.ntmps7
  go_upto_region 1 with fail
  rw [← hX]
  clear hX
  go_upto_region 3 with (go_at_call 17; refine (KA.out _ rfl).mono ?_; rintro e w1 ⟨rfl, B1, c0, c1⟩)
  go_upto_region 4 with (go_at_call 10; refine (KP.out w1 B1.out).mono ?_; rintro e w2 ⟨rfl, B2, c2⟩)
  by_cases hE : E = 0
  · subst hE
    have hpk := put_ok (c := c) (by rw [HPC.out])
    have HOK : Hid (ctOk c = true ∧ c.nodes.length ≤ 65536 ∧ (ctB c).length ≤ 1048576) := ⟨hpk.1, hpk.2.1, hpk.2.2.1⟩
    have htc : t = ctB c := by
      have := HPC.out.symm.trans hpk.2.2.2
      exact (Prod.mk.inj this).1
    have HTC : Hid (T = ⟨(ctB c).toArray⟩) := by rw [← htc]; exact HTT
    obtain ⟨n0, hn0⟩ : ∃ n0, n0 = (ctB c).length := ⟨_, rfl⟩
    have hn1 : 10 ≤ n0 := by rw [hn0]; unfold ctB; simp [beZ_len]; omega
    have hn2 : n0 ≤ 1048576 := by rw [hn0]; exact hpk.2.2.1
    have hTs : T.size = n0 := by rw [HTC.out, hn0]; simp [ByteArray.size]
    have HN0 : Hid (n0 = (ctB c).length ∧ 10 ≤ n0 ∧ n0 ≤ 1048576) := ⟨hn0, hn1, hn2⟩
    have hTsI : ((T.size : Nat) : Int) = (n0 : Int) := by omega
    have hnI : ¬ (n0 : Int) < 10 := by omega
    have hmI : (c.nodes.length : Int) ≤ 65536 := by have := hpk.2.1; omega
    have hm0 : (0 : Int) ≤ (c.nodes.length : Int) := by omega
    clear hpk htc hn0 hn1 hn2 hTs
    obtain ⟨kk, hkk, hk0, hk1⟩ : ∃ kk : Int, bits .and .i64 by_ 63 = kk ∧ 0 ≤ kk ∧ kk ≤ 63 := and63_ex by_
    have hmk : IntKind.i64.wrap ((c.nodes.length : Int) + (1 + kk)) = (c.nodes.length : Int) + (1 + kk) := IntWalk.i64_in _ (by omega)
    have hk2 : IntKind.i64.wrap (1 + kk) = 1 + kk := IntWalk.i64_in _ (by omega)
    go_upto_region 8 with (go_at_call 14; refine (KN _ _).mono ?_; rintro e wn ⟨rfl, rfl⟩)
    have KB : Hid (∀ w', Below wn.heap.size wn w' → Calls Try.prog 19 #[.int .i64 ((c.nodes.length : Int) + (1 + kk))] w' fun e w'' => e = .returned (.string ⟨(beZ 4 ((c.nodes.length : Int) + (1 + kk))).toArray⟩) ∧ Hid (Below wn.heap.size wn w'')) := fun w' hb => by
      refine (be18_any _ (by omega) (by omega) w').mono ?_
      rintro e w'' ⟨h1, h2⟩
      exact ⟨h1, hb.trans (h2.out.mono hb.size)⟩
    obtain ⟨BE, hBE⟩ : ∃ BE : ByteArray, (⟨(beZ 4 ((c.nodes.length : Int) + (1 + kk))).toArray⟩ : ByteArray) = BE := ⟨_, rfl⟩
    rw [hBE] at KB
    have hBs : BE.size = 4 := by rw [← hBE]; simp [ByteArray.size, beZ_len]
    have h6 : (T.extract 0 6).size = 6 := by rw [HTC.out, ext_front]; simp [ByteArray.size]; have := HN0.out; omega
    have h10 : (T.extract 10 n0).size ≤ 1048576 := by rw [HTC.out, HN0.out.1, ext_back]; simp [ByteArray.size]; have := HN0.out; omega
    have hab : (T.extract 0 6 ++ BE).size = 10 := by rw [ByteArray.size_append, h6, hBs]
    obtain ⟨k10, hk10⟩ : ∃ k10, (T.extract 10 n0).size = k10 := ⟨_, rfl⟩
    rw [hk10] at h10
    have hz1 : ¬ 9223372036854775807 < (T.extract 0 6).size + BE.size := by rw [h6, hBs]; omega
    have hz2 : ¬ 9223372036854775807 < (T.extract 0 6 ++ BE).size + (T.extract 10 n0).size := by rw [hab, hk10]; omega
    have hz3 : ¬ 9223372036854775807 < 10 + k10 := by omega
    have hz4 : ¬ 9223372036854775807 < 6 + 4 + k10 := by omega
    have hz5 : ¬ ((9223372036854775807 : Int) < (10 : Int) + (k10 : Int)) := by omega
    have hz6 : ¬ ((9223372036854775807 : Int) < (6 : Int) + 4 + (k10 : Int)) := by omega
    have hz7 : ¬ ((9223372036854775807 : Int) < (((T.extract 0 6 ++ BE).size : Nat) : Int) + (((T.extract 10 n0).size : Nat) : Int)) := by rw [hab, hk10]; omega
    have hz8 : ¬ ((9223372036854775807 : Int) < (((T.extract 0 6).size : Nat) : Int) + ((BE.size : Nat) : Int)) := by rw [h6, hBs]; omega
    have HSZ : Hid (T.size = (ctB c).length) := (show T.size = n0 by omega).trans HN0.out.1
    have hk10b : (T.extract 10 T.size).size = k10 := by rw [show T.size = n0 by omega]; exact hk10
    have h10I : (10 : Int) ≤ (n0 : Int) := by have := HN0.out; omega
    have h6I : (6 : Int) ≤ (n0 : Int) := by omega
    go_region_held3 (fun w' => Below wn.heap.size wn w')
      ((repeat' (first | with_reducible assumption | with_reducible exact Below.refl _ _ | with_reducible apply Below.drew)))
      ((go_at_call 19; refine (KB.out _ ((Below.refl _ _).drew)).mono ?_; rintro e w3 ⟨rfl, B3⟩; have b3 : Below wn.heap.size wn w3 := B3.out))
    have hS1 : T.extract 0 6 ++ BE ++ T.extract 10 T.size = ⟨(ctB' c ((c.nodes.length : Int) + (1 + kk))).toArray⟩ := by
      rw [HSZ.out, HTC.out, ext_front, ext_back, ctB_front, ctB_back, ← hBE]
      apply ByteArray.ext
      simp [ByteArray.data_append, ctB']
    obtain ⟨S1, hS1e⟩ : ∃ S1, T.extract 0 6 ++ BE ++ T.extract 10 T.size = S1 := ⟨_, rfl⟩
    have K1 : Hid (∀ wq, Calls Try.prog 12 #[.string S1] wq fun e w' => ∃ pv cv, e = .returned (.tuple #[.agg #[.int .i64 0, .slice pv 0 cv], .int .i64 1800]) ∧ Hid (Below wq.heap.size wq w')) := fun wq => by
      rw [← hS1e, hS1, show (c.nodes.length : Int) + (1 + kk) = ((c.nodes.length + (kk.toNat + 1) : Nat) : Int) by omega]
      refine (get_at wq (get_none (count_more HOK.out.1 HOK.out.2.1 kk.toNat (by omega)) (by rw [ctB'_len]; exact HOK.out.2.2))).mono ?_
      rintro e w' ⟨pv, cv, h1, _, h3⟩
      exact ⟨pv, cv, h1, h3⟩
    rw [hS1e]
    obtain ⟨k2, hk2s⟩ : ∃ k2, (T.extract 2 T.size).size = k2 := ⟨_, rfl⟩
    have hk2n : k2 ≤ 1048576 := by rw [← hk2s, HSZ.out, HTC.out, ext_back]; simp [ByteArray.size]; have := HOK.out.2.2; omega
    have hy1 : ¬ 9223372036854775807 < 2 + k2 := by omega
    have hy2 : ¬ ((9223372036854775807 : Int) < (2 : Int) + (k2 : Int)) := by omega
    have h2I : (2 : Int) ≤ (n0 : Int) := by omega
    have K2 : Hid (∀ wq, Calls Try.prog 12 #[.string ((⟨#[88, 88]⟩ : ByteArray) ++ T.extract 2 T.size)] wq fun e w' => ∃ pv cv, e = .returned (.tuple #[.agg #[.int .i64 0, .slice pv 0 cv], .int .i64 1800]) ∧ Hid (Below wq.heap.size wq w')) := fun wq => by
      have hap : (⟨#[88, 88]⟩ : ByteArray) ++ T.extract 2 T.size = ⟨(88 :: 88 :: (ctB c).drop 2).toArray⟩ := by
        rw [HSZ.out, HTC.out, ext_back]
        apply ByteArray.ext
        simp [ByteArray.data_append]
      rw [hap]
      refine (get_at wq (get_none (xx_none _) (by have := HOK.out.2.2; have := HN0.out; simp; omega))).mono ?_
      rintro e w' ⟨pv, cv, h1, _, h3⟩
      exact ⟨pv, cv, h1, h3⟩
    go_upto_region 10 with (go_at_call 12; refine (K1.out _).mono ?_; rintro e w4 ⟨pv4, cv4, rfl, B4⟩)
    go_upto_region 11 with (go_at_call 12; refine (K2.out _).mono ?_; rintro e w5 ⟨pv5, cv5, rfl, B5⟩)
    obtain ⟨w6, hw6⟩ : ∃ w6, w6 = w5.alloc (Obj.cells #[Value.int IntKind.i64 0, Value.slice pv5 0 cv5] 24) := ⟨_, rfl⟩
    have HB6 : Hid (Below X.heap.size X w6) := by
      have h3 := B2.out.trans (B3.out.mono B2.out.size)
      have h4 := h3.trans (B4.out.mono h3.size)
      have h4q := h4.trans ((bel1 w4 (Obj.cells #[Value.int IntKind.i64 0, Value.slice pv4 0 cv4] 24)).mono h4.size)
      have h5 := h4q.trans (B5.out.mono h4q.size)
      rw [hw6]
      exact h5.trans ((bel1 w5 _).mono h5.size)
    rw [← hw6]
    clear hw6
    go_upto_region 13 with (go_at_call 14; refine (KN _ _).mono ?_; rintro e wn2 ⟨rfl, rfl⟩)
    by_cases hm : (c.nodes.length : Int) = 0
    · go_wp2
      go_ret
      exact ⟨rfl, (HXB.out _ HB6.out).1⟩
    · have hne : Hid (c.nodes ≠ []) := fun h => hm (by rw [h]; rfl)
      obtain ⟨ml, hml, hml0, hml1, hml2⟩ : ∃ ml : Int, (c.nodes.length : Int) - 1 = ml ∧ 0 ≤ ml ∧ ml ≤ 65536 ∧ ml = ((c.nodes.length - 1 : Nat) : Int) := ⟨_, rfl, by omega, by omega, by omega⟩
      have hms : IntKind.i64.wrap ((c.nodes.length : Int) - 1) = ml := by rw [hml]; exact IntWalk.i64_in _ (by omega)
      have hms2 : IntKind.i64.wrap ml = ml := IntWalk.i64_in _ (by omega)
      have HML : Hid (ml = ((c.nodes.length - 1 : Nat) : Int)) := hml2
      clear hml2
      have KB2 : Hid (∀ w', Calls Try.prog 19 #[.int .i64 ml] w' fun e w'' => e = .returned (.string ⟨(beZ 4 ml).toArray⟩) ∧ Hid (Below w'.heap.size w' w'')) := fun w' => be18_any _ (by omega) (by omega) w'
      obtain ⟨BF, hBF⟩ : ∃ BF : ByteArray, (⟨(beZ 4 ml).toArray⟩ : ByteArray) = BF := ⟨_, rfl⟩
      rw [hBF] at KB2
      have hBs2 : BF.size = 4 := by rw [← hBF]; simp [ByteArray.size, beZ_len]
      have hab2 : (T.extract 0 6 ++ BF).size = 10 := by rw [ByteArray.size_append, h6, hBs2]
      have K3 : Hid (∀ w', Calls Try.prog 12 #[.string (T.extract 0 6 ++ BF ++ T.extract 10 T.size)] w' fun e w'' => ∃ pv cv, e = .returned (.tuple #[.agg #[.int .i64 0, .slice pv 0 cv], .int .i64 1800]) ∧ Hid (Below w'.heap.size w' w'')) := fun w' => by
        have hS3 : T.extract 0 6 ++ BF ++ T.extract 10 T.size = ⟨(ctB' c ml).toArray⟩ := by
          rw [HSZ.out, HTC.out, ext_front, ext_back, ctB_front, ctB_back, ← hBF]
          apply ByteArray.ext
          simp [ByteArray.data_append, ctB']
        rw [hS3, HML.out]
        refine (get_at w' (get_none (count_less HOK.out.1 HOK.out.2.1 hne.out) (by rw [ctB'_len]; exact HOK.out.2.2))).mono ?_
        rintro e w'' ⟨pv, cv, h1, _, h3⟩
        exact ⟨pv, cv, h1, h3⟩
      go_upto_region 15 with fail
      go_region_held3 (fun w' => Below wn2.heap.size wn2 w')
        (((repeat' (first | with_reducible assumption | with_reducible exact Below.refl _ _ | with_reducible apply Below.drew | with_reducible apply bel_alloc | with_reducible refine bel_set ?_ ?_ _)); all_goals omega))
        (first
          | (go_at_call 19; refine (KB2.out _).mono ?_; rintro e w7 ⟨rfl, B7⟩; obtain ⟨q0, q1, l0, l1, H7, s7⟩ := al_keep (a := wn2.heap.size) B7.out (heap_alloc_new _ _); have b7 : Below wn2.heap.size wn2 w7 := bel_after (by repeat' (first | with_reducible assumption | with_reducible exact Below.refl _ _ | with_reducible apply Below.drew | with_reducible apply bel_alloc)) B7.out)
          | (go_at_call 19; refine (KB2.out _).mono ?_; rintro e w7 ⟨rfl, B7⟩; have b7 : Below wn2.heap.size wn2 w7 := bel_after (by repeat' (first | with_reducible assumption | with_reducible exact Below.refl _ _ | with_reducible apply Below.drew | with_reducible apply bel_alloc)) B7.out; have s7 := b7.size)
          | (have hh := q1; clear hh; go_at_call 12; refine (K3.out _).mono ?_; rintro e w8 ⟨pv8, cv8, rfl, B8⟩; obtain ⟨r0, r1, m0, m1, H8, s8⟩ := al_keep (a := wn2.heap.size) B8.out H7.out; have b8 : Below wn2.heap.size wn2 w8 := bel_after (by repeat' (first | with_reducible assumption | with_reducible exact Below.refl _ _ | with_reducible apply Below.drew | with_reducible apply bel_alloc)) B8.out)
          | (go_at_call 12; refine (K3.out _).mono ?_; rintro e w8 ⟨pv8, cv8, rfl, B8⟩; obtain ⟨r0, r1, m0, m1, H8, s8⟩ := al_keep (a := w7.heap.size) B8.out (heap_alloc_new _ _); have b8 : Below wn2.heap.size wn2 w8 := bel_after (by repeat' (first | with_reducible assumption | with_reducible exact Below.refl _ _ | with_reducible apply Below.drew | with_reducible apply bel_alloc)) B8.out)
          | (go_at_call 12; refine (K3.out _).mono ?_; rintro e w8 ⟨pv8, cv8, rfl, B8⟩; have b8 : Below wn2.heap.size wn2 w8 := bel_after (by repeat' (first | with_reducible assumption | with_reducible exact Below.refl _ _ | with_reducible apply Below.drew | with_reducible apply bel_alloc)) B8.out; have s8 := b8.size))
      all_goals
        go_wp2_with (go_at_call 14; refine (KN _ _).mono ?_; rintro e wn3 ⟨rfl, rfl⟩)
        go_ret
        exact ⟨rfl, (HXB.out _ (HB6.out.trans (Below.mono (by assumption) HB6.out.size))).1⟩
  · go_wp2_with (go_at_call 14; refine (KN _ _).mono ?_; rintro e wn ⟨rfl, rfl⟩)
    go_ret
    exact ⟨by first | rfl | simp [hE], (HXB.out _ B2.out).1⟩
end Go.Proofs.Ytgeajdfajfdjcaa
