/- Edges of the program against its plain function. -/
import Derived.Test.YtkihbgikdbaelaaDepRow
import Derived.Test.YtkihbgikdbaelaaDepCmp
import Derived.Test.YtkihbgikdbaelaaGramMayG
namespace Go.Proofs.Ytkihbgikdbaelaa
set_option linter.unusedVariables false
open Go.ChangeShapes Go.WideShapes Go.ChangeAt Go.RowKit Go.Maps Go.Sort

theorem IsRus.row {w : World} {F : Nat → Prop} {p : Option Addr} {n c : Nat} {l : List Ru} (h : IsRus w F (.slice p n c) l) {k : Nat} {r : Ru} (hk : l[k]? = some r) : ∃ g o u, p = some ⟨g, o, none⟩ ∧ w.cell? ⟨g, o + k * 2, none⟩ = some (.int .i64 r.head) ∧ w.cell? ⟨g, o + k * 2 + 1, none⟩ = some u ∧ IsCns w F u r.conj := by
  obtain ⟨vs, ⟨p2, c2, e2, _, hc⟩, hl, hi⟩ := h
  injection e2 with e3
  subst e3
  have hlt := (List.getElem?_eq_some_iff.1 hk).1
  obtain ⟨g, o, e, _, _, cc, _⟩ := hc (by omega)
  obtain ⟨u, hu⟩ : ∃ u, vs[k]? = some u := ⟨_, List.getElem?_eq_getElem (by omega)⟩
  obtain ⟨a0, a1⟩ := rusV_at l vs k r u hk hu
  exact ⟨g, o, u, e, cc _ _ a0, by rw [Nat.add_assoc]; exact cc _ _ a1, hi k r u hk hu⟩
theorem IsCns.row {w : World} {F : Nat → Prop} {p : Option Addr} {n c : Nat} {l : List Cn} (h : IsCns w F (.slice p n c) l) {k : Nat} {r : Cn} (hk : l[k]? = some r) : ∃ g o u, p = some ⟨g, o, none⟩ ∧ w.cell? ⟨g, o + k * 2, none⟩ = some (.bool r.neg) ∧ w.cell? ⟨g, o + k * 2 + 1, none⟩ = some u ∧ IsSys w F u r.seq := by
  obtain ⟨vs, ⟨p2, c2, e2, _, hc⟩, hl, hi⟩ := h
  injection e2 with e3
  subst e3
  have hlt := (List.getElem?_eq_some_iff.1 hk).1
  obtain ⟨g, o, e, _, _, cc, _⟩ := hc (by omega)
  obtain ⟨u, hu⟩ : ∃ u, vs[k]? = some u := ⟨_, List.getElem?_eq_getElem (by omega)⟩
  obtain ⟨a0, a1⟩ := cnsV_at l vs k r u hk hu
  exact ⟨g, o, u, e, cc _ _ a0, by rw [Nat.add_assoc]; exact cc _ _ a1, hi k r u hk hu⟩
theorem IsSys.slc {w : World} {F : Nat → Prop} {v : Value} {l : List Sy} (h : IsSys w F v l) : ∃ p c, v = .slice p l.length c := by
  obtain ⟨p, c, e, _⟩ := h
  exact ⟨p, c, e⟩
theorem cnsE_snoc {hd : Int} {l : List Cn} {k : Nat} {c : Cn} (h : l[k]? = some c) : cnsE hd (l.take (k + 1)) = cnsE hd (l.take k) ++ seqE hd c.neg c.seq := by
  rw [take_snoc h, cnsE_append]; simp [cnsE]
theorem allE_snoc {l : List Ru} {k : Nat} {r : Ru} (h : l[k]? = some r) : allE (l.take (k + 1)) = allE (l.take k) ++ cnsE r.head r.conj := by
  rw [take_snoc h, allE_append]; simp [allE]
/-- What is known of a grammar that may be: its rows in any later world. -/
def Gk (w : World) (F : Nat → Prop) (v2 : Value) (g : Gr) : Prop := IsRus w F v2 g.rules ∧ mayG g = true
theorem small_wf {a : Int} (h0 : -1 ≤ a) (h1 : a ≤ 64) : (Lit.int .i64 a).wf = true := WalkArith.wf_i64 (by omega)
theorem allE_pre {g : Gr} (h : mayG g = true) (k : Nat) : (allE (g.rules.take k)).length ≤ 1024 := by
  have h1 := allE_len h
  have h2 : allE g.rules = allE (g.rules.take k) ++ allE (g.rules.drop k) := by rw [← allE_append, List.take_append_drop]
  rw [h2, List.length_append] at h1; omega
theorem mayG_seq {g : Gr} (h : mayG g = true) : ∀ r, r ∈ g.rules → ∀ c, c ∈ r.conj → c.seq.length ≤ 64 := by
  unfold mayG mayRules at h
  simp only [Bool.and_eq_true] at h
  intro r hr c hc
  have := mayRs_row _ _ _ h.2.2.2.2.2 r hr c hc
  unfold mayRow at this
  simp only [Bool.and_eq_true, decide_eq_true_eq] at this
  exact this.1
theorem mayRs_conj (k : Nat) : ∀ (l : List Ru) (n : Nat), mayRs k n l = true → ∀ r, r ∈ l → r.conj.length ≤ 8
  | [], _, _, r, hr => by simp at hr
  | a :: l, n, e, r, hr => by
    unfold mayRs at e
    split at e
    · rename_i hc
      split at e
      · cases e
      · rename_i m hm
        rcases List.mem_cons.1 hr with rfl | hr
        · exact hc.2
        · exact mayRs_conj k l m e r hr
    · cases e
theorem mayG_conj {g : Gr} (h : mayG g = true) : ∀ r, r ∈ g.rules → r.conj.length ≤ 8 := by
  unfold mayG mayRules at h
  simp only [Bool.and_eq_true] at h
  exact mayRs_conj _ _ _ h.2.2.2.2.2
theorem Es.new (w : World) : Es w.heap.size (w.heap.size + 1) w.heap.size [] ((w.alloc (.map #[] 0)).alloc (.cells #[.slice none 0 0, .map (some w.heap.size)] 73)) := by
  refine ⟨Nat.le_succ _, Nat.le_refl _, fun e he => by simp at he, (EdMap.new w).keep ?_, .slice none 0 0, ?_, World.ownsRow_nil _ _ _ _⟩
  · exact (bel1 _ _).block _ (by simp)
  · have := heap_alloc_new (w.alloc (.map #[] 0)) (.cells #[.slice none 0 0, .map (some w.heap.size)] 73)
    simpa using this
theorem Reads.low {w : World} {F F' : Nat → Prop} {v : Value} {n : Nat} {cs : List Value} (h : Reads w F v n cs) (hm : ∀ b, F b → b < w.heap.size → F' b) : Reads w F' v n cs := by
  obtain ⟨p, c, e, hn, hc⟩ := h
  exact ⟨p, c, e, hn, fun h0 => by obtain ⟨g, o, e1, e2, e3, e4⟩ := hc h0; exact ⟨g, o, e1, hm g e2 e3, e3, e4⟩⟩
theorem sort_nil : sortE [] = [] := by simp [sortE]
theorem IsCns.low {w : World} {F F' : Nat → Prop} {v : Value} {l : List Cn} (h : IsCns w F v l) (hm : ∀ b, F b → b < w.heap.size → F' b) : IsCns w F' v l := by
  obtain ⟨vs, h1, h2, h3⟩ := h
  exact ⟨vs, Reads.low h1 hm, h2, fun k c u e1 e2 => Reads.low (h3 k c u e1 e2) hm⟩
theorem IsRus.low {w : World} {F F' : Nat → Prop} {v : Value} {l : List Ru} (h : IsRus w F v l) (hm : ∀ b, F b → b < w.heap.size → F' b) : IsRus w F' v l := by
  obtain ⟨vs, h1, h2, h3⟩ := h
  exact ⟨vs, Reads.low h1 hm, h2, fun k c u e1 e2 => (h3 k c u e1 e2).low hm⟩
theorem sorted_eds {l : List Ed} {w' : World} {g c : Nat} {F : Nat → Prop} (hH : HoldsK edV 3 w' g 0 (sortE l).toArray) (hg : g < w'.heap.size) (hF : F g) (hm : l.length ≤ c) (hl : l.length ≤ 100000) : IsEds w' F (.slice (some ⟨g, 0, none⟩) l.length c) (sortE l) := by
  have hle : (sortE l).length = l.length := (sort_perm l).length_eq
  obtain ⟨h1, h2⟩ := eds_holds hH
  refine ⟨some ⟨g, 0, none⟩, c, by rw [hle], ⟨by rw [hle]; unfold maxLen; omega, by rw [hle]; exact hm⟩, fun _ => ⟨g, 0, rfl, hF, hg, h1, h2⟩⟩
theorem row_holds {w : World} {g : Nat} {cur : Array Value} {t : TypeId} {l : List Ed} (hg : w.heap[g]? = some (.cells cur t (0, 0))) (ht : cur.toList.take (l.length * 3) = edsV l) : HoldsK edV 3 w g 0 l.toArray := by
  refine holds_eds (fun j c hc => ?_) (fun j _ => ?_)
  · rw [← ht, List.getElem?_take] at hc
    split at hc
    · rw [Lib.cell_of_heap hg]; simpa using hc
    · cases hc
  · unfold World.frozen?; simp [hg]
set_option maxHeartbeats 4000000 in
set_option maxRecDepth 100000 in
theorem edges_no (g : Gr) (v1 v2 : Value) (w : World) {F : Nat → Prop} (hg : GrIs w F v1 v2 g) (hn : ∀ s, s ∈ g.names → s.size ≤ maxLen) (hS : Short g.rules) (hM : mayG g = false) :
    Calls Try.prog 21 #[.agg #[.int .i64 g.start, v1, v2]] w fun e w' => e = .returned (.tuple #[.slice none 0 0, .int .i64 600]) ∧ Hid (Below w.heap.size w w') := by
  have K1 : ∀ o, Calls Try.prog 29 #[.agg #[.int .i64 g.start, v1, v2]] (w.alloc o) fun e w' => e = .returned (.bool false) ∧ Below (w.alloc o).heap.size (w.alloc o) w' := fun o => by
    have := may_any g v1 v2 (w.alloc o) (hg.any (bel1 w o)) hn hS
    rwa [hM] at this
  obtain ⟨p1, c1, l1, hv1⟩ : ∃ p n c, v1 = .slice p n c := by obtain ⟨p, c, e, _⟩ := hg.1; exact ⟨_, _, _, e⟩
  obtain ⟨p2, c2, hv2⟩ := hg.2.slc
  subst hv1 hv2
  clear hg hn hS hM
  go_enter Try.func21, Try.ntmps21
  go_wp2_with (go_at_call 29; refine (K1 _).mono ?_; rintro e w1 ⟨rfl, b1⟩; have H1 : Hid (Below w.heap.size w w1) := (bel1 w _).trans (b1.mono (bel1 w _).size); clear b1)
  go_ret2
  exact ⟨rfl, H1⟩
set_option maxHeartbeats 8000000 in
set_option maxRecDepth 100000 in
theorem edges_ok (g : Gr) (v1 v2 : Value) (w : World) {F : Nat → Prop} (hg : GrIs w F v1 v2 g) (hn : ∀ s, s ∈ g.names → s.size ≤ maxLen) (hS : Short g.rules) (hM : mayG g = true) :
    Calls Try.prog 21 #[.agg #[.int .i64 g.start, v1, v2]] w fun e w' => ∃ v, e = .returned (.tuple #[v, .int .i64 0]) ∧ Hid (IsEds w' (fun i => w.heap.size ≤ i) v (edgesT g)) ∧ Hid (Below w.heap.size w w') := by
  have K1 : ∀ o, Calls Try.prog 29 #[.agg #[.int .i64 g.start, v1, v2]] (w.alloc o) fun e w' => e = .returned (.bool true) ∧ Below (w.alloc o).heap.size (w.alloc o) w' := fun o => by
    have := may_any g v1 v2 (w.alloc o) (hg.any (bel1 w o)) hn hS
    rwa [hM] at this
  obtain ⟨p1, c1, l1, hv1⟩ : ∃ p n c, v1 = .slice p n c := by obtain ⟨p, c, e, _⟩ := hg.1; exact ⟨_, _, _, e⟩
  obtain ⟨p2, c2, hv2⟩ := hg.2.slc
  subst hv1 hv2
  have HG : Hid (IsRus w (fun i => i < w.heap.size) (.slice p2 g.rules.length c2) g.rules) := IsRus.low hg.2 (fun _ _ h => h)
  have HM : Hid (mayG g = true) := hM
  obtain ⟨n, hnn⟩ : ∃ n, n = g.rules.length := ⟨_, rfl⟩
  have hn6 : n ≤ 256 := by
    unfold mayG mayRules at hM
    simp only [Bool.and_eq_true, decide_eq_true_eq] at hM
    rw [hnn]; exact hM.2.2.2.2.1
  have HN : Hid (n = g.rules.length) := hnn
  rw [← hnn] at HG K1 ⊢
  clear hg hn hS hM hnn
  have hmm := @run_makeMap Try.prog
  go_enter Try.func21, Try.ntmps21
  go_wp2_with (go_at_call 29; refine (K1 _).mono ?_; rintro e w1 ⟨rfl, b1⟩; have H1 : Hid (Below w.heap.size w w1) := (bel1 w _).trans (b1.mono (bel1 w _).size); have q2 : w1.cell? ⟨w.heap.size, 2, none⟩ = some (.slice p2 n c2) := (b1.cell (p := ⟨_, _, none⟩) (by simp)).trans (World.cell?_alloc_at _ _ _ _ rfl); have q2s : w.heap.size < w1.heap.size := (by have := b1.size; simp at this; omega); clear b1)
  go_loopw [17] (fun i wr => ∃ k : Nat, k ≤ n ∧ i = .int .i64 k ∧ Hid (Es w1.heap.size (w1.heap.size + 1) w1.heap.size (addAll [] (allE (g.rules.take k))) wr) ∧ Hid (Below w1.heap.size w1 wr)) (fun i _ => n - (intOf i).toNat)
  case atStart => exact ⟨0, Nat.zero_le _, rfl, Es.new w1, (bel1 w1 _).alloc (by simp) _⟩
  case round =>
    obtain ⟨k, hk, rfl, HEr, HBr⟩ := hrel
    obtain ⟨V, hV⟩ : ∃ V, V = wr := ⟨_, rfl⟩
    subst hV
    have HBw : Hid (Below w.heap.size w V) := H1.out.trans (HBr.out.mono H1.out.size)
    by_cases hlt : k < n
    · obtain ⟨r, ht⟩ : ∃ r, g.rules[k]? = some r := ⟨_, List.getElem?_eq_getElem (by rw [← HN.out]; exact hlt)⟩
      have hrm : r ∈ g.rules := List.mem_of_getElem? ht
      obtain ⟨g1, o1, u, hp, a0, a1, icn⟩ := (HG.out.any HBw.out).row ht
      subst hp
      obtain ⟨p3, c3, hu⟩ := icn.slc
      subst hu
      have HIC : Hid (IsCns V (fun i => i < w.heap.size) (.slice p3 r.conj.length c3) r.conj) := icn
      obtain ⟨m, hmn⟩ : ∃ m, m = r.conj.length := ⟨_, rfl⟩
      have HMN : Hid (m = r.conj.length) := hmn
      have hm8 : m ≤ 8 := by rw [hmn]; exact mayG_conj HM.out r hrm
      have HH : Hid ((Lit.int .i64 r.head).wf = true) := by
        have h1 := mayG_head HM.out r hrm
        have h2 := mayG_names HM.out
        exact small_wf (by omega) (by omega)
      obtain ⟨l0, hl0⟩ : ∃ l0, l0 = addAll [] (allE (g.rules.take k)) := ⟨_, rfl⟩
      have HL0 : Hid (l0 = addAll [] (allE (g.rules.take k))) := hl0
      have HL1 : Hid (addAll l0 (cnsE r.head r.conj) = addAll [] (allE (g.rules.take (k + 1)))) := by show _ = _; rw [hl0, ← addAll_append, ← allE_snoc ht]
      rw [← hl0] at HEr
      rw [← hmn] at a1 HIC
      clear icn hl0 hmn
      have HLEN : Hid (∀ q, (addAll l0 (cnsE r.head (r.conj.take q))).length + 64 ≤ 100000) := fun q => by
        have h1 := addAll_len (cnsE r.head (r.conj.take q)) l0
        have h2 := addAll_len (allE (g.rules.take k)) []
        rw [← HL0.out] at h2
        have h3 := allE_pre HM.out (k + 1)
        rw [allE_snoc ht, List.length_append] at h3
        have h4 : (cnsE r.head r.conj).length = (cnsE r.head (r.conj.take q)).length + (cnsE r.head (r.conj.drop q)).length := by rw [← List.length_append, ← cnsE_append, List.take_append_drop]
        simp only [List.length_nil] at h2
        omega
      have HSQ : Hid (∀ c, c ∈ r.conj → c.seq.length ≤ 64 ∧ ∀ s, s ∈ c.seq → (Lit.int .i64 s.name).wf = true) := fun c hc => by
        refine ⟨mayG_seq HM.out r hrm c hc, fun s hs => ?_⟩
        have h1 := mayG_sym HM.out r hrm c hc s hs
        have h2 := mayG_names HM.out
        exact small_wf (by omega) (by omega)
      go_wp2
      go_loopw [24] (fun i wr => ∃ q : Nat, q ≤ m ∧ i = .int .i64 q ∧ Hid (Es w1.heap.size (w1.heap.size + 1) w1.heap.size (addAll l0 (cnsE r.head (r.conj.take q))) wr) ∧ Hid (Below w1.heap.size w1 wr) ∧ Hid (OffE (w1.heap.size + 1) w1.heap.size (fun i => i = V.heap.size) wr) ∧ V.heap.size < wr.heap.size ∧ wr.cell? ⟨V.heap.size, 0, none⟩ = some (.int .i64 r.head)) (fun i _ => m - (intOf i).toNat)
      case atStart =>
        refine ⟨0, Nat.zero_le _, rfl, HEr.out.keep (bel1 _ _), HBr.out.alloc HBr.out.size _, OffE.fresh HEr.out (bel1 _ _) (fun i e => ?_), by simp, World.cell?_alloc_at _ _ _ _ rfl⟩
        rw [e]; simp
      case round =>
        obtain ⟨q, hq, rfl, HEq, HBq, HOq, hzq, hcq⟩ := hrel
        by_cases hlq : q < m
        · obtain ⟨c, hcc⟩ : ∃ c, r.conj[q]? = some c := ⟨_, List.getElem?_eq_getElem (by rw [← HMN.out]; exact hlq)⟩
          have HBv : Hid (Below w.heap.size w wr) := H1.out.trans (HBq.out.mono H1.out.size)
          have hzw := H1.out.size
          have icn9 : IsCns wr (fun i => i < w.heap.size) (.slice p3 m c3) r.conj := HIC.out.keep ⟨Nat.le_of_lt hzq, fun i hi => (HBq.out.block i (Nat.lt_of_lt_of_le hi hzw)).trans (HBr.out.block i (Nat.lt_of_lt_of_le hi hzw)).symm⟩ (fun _ x => x)
          obtain ⟨g2, o2, u2, hp2, d0, d1, isy⟩ := icn9.row hcc
          subst hp2
          obtain ⟨p4, c4, hu2⟩ := isy.slc
          subst hu2
          have KA : Hid (∀ o, Calls Try.prog 30 #[.pointer (some ⟨w1.heap.size + 1, 0, none⟩), .int .i64 r.head, .agg #[.bool c.neg, .slice p4 c.seq.length c4]] (wr.alloc o) fun x w' => x = .returned (.tuple #[]) ∧ Hid (Es w1.heap.size (w1.heap.size + 1) w1.heap.size (addAll l0 (cnsE r.head (r.conj.take (q + 1)))) w') ∧ Hid (Below w1.heap.size w1 w') ∧ Hid (OffE (w1.heap.size + 1) w1.heap.size (fun i => i = V.heap.size) w') ∧ V.heap.size < w'.heap.size ∧ w'.cell? ⟨V.heap.size, 0, none⟩ = some (.int .i64 r.head)) := fun o =>
            (addRow_any r.head c (.slice p4 c.seq.length c4) (HEq.out.keep (bel1 wr o)) (isy.any (bel1 wr o)) (OffE.old (HEq.out.keep (bel1 wr o)) (fun i hi => Nat.lt_of_lt_of_le hi hzw)) HH.out (HSQ.out c (List.mem_of_getElem? hcc)).2 (by have := HLEN.out q; have := (HSQ.out c (List.mem_of_getElem? hcc)).1; omega)).mono fun x w' ⟨h1, h2, h3⟩ => by
              have of1 := OffE.bel HEq.out HOq.out (bel1 wr o)
              have hz : V.heap.size < (wr.alloc o).heap.size := by simp; omega
              refine ⟨h1, ?_, (HBq.out.alloc HBq.out.size o).trans (Es.below (HEq.out.keep (bel1 wr o)) h3.out), of1.next h3.out, Nat.lt_of_lt_of_le hz h3.out.size, ?_⟩
              · show Es _ _ _ _ _
                rw [cnsE_snoc hcc, addAll_append]; exact h2.out
              · have hb := h3.out.block V.heap.size hz (of1 _ rfl).2.1 (of1 _ rfl).2.2.1 (of1 _ rfl).2.2.2
                have hc : w'.cell? ⟨V.heap.size, 0, none⟩ = (wr.alloc o).cell? ⟨V.heap.size, 0, none⟩ := by unfold World.cell?; rw [hb]
                rw [hc, World.cell?_alloc_past _ _ _ hzq]; exact hcq
          clear icn9 isy
          go_wp2_with (go_at_call 30; refine (KA.out _).mono ?_; rintro e w2 ⟨rfl, e2, k2, o2, n2, c2⟩)
          go_roundw
          case rel => exact ⟨q + 1, by omega, by go_num, e2, k2, o2, n2, c2⟩
          case measure => simp [intOf]; omega
        · obtain rfl : q = m := by omega
          go_wp2
          go_roundw
          case rel => exact ⟨k + 1, by omega, by go_num, by show Es _ _ _ _ _; have e9 := HEq.out; rw [HMN.out, List.take_length, HL1.out] at e9; exact e9, HBq⟩
          case measure => simp [intOf]; omega
    · obtain rfl : k = n := by omega
      obtain ⟨l, hl⟩ : ∃ l, l = addAll [] (allE g.rules) := ⟨_, rfl⟩
      rw [show addAll [] (allE (g.rules.take k)) = l by rw [hl, HN.out, List.take_length]] at HEr
      have HT : Hid (edgesT g = sortE l) := by show _ = _; rw [hl]; rfl
      have hll : l.length ≤ 100000 := by
        have h1 := allE_len HM.out
        have h2 := addAll_len (allE g.rules) []
        rw [← hl] at h2
        simp only [List.length_nil] at h2
        omega
      obtain ⟨_, _, _, _, v, hbb, hrow⟩ := HEr.out
      have c0 : V.cell? ⟨w1.heap.size + 1, 0, none⟩ = some v := by rw [Lib.cell_of_heap hbb]; rfl
      have hblt := HEr.out.lt
      have hzw := H1.out.size
      rcases id hrow.2 with ⟨hv, hl0⟩ | ⟨g5, cap, cur, hv, hbg, hg5, hnc, hcm, hcs, htk⟩
      · subst hv
        have hle : l = [] := List.length_eq_zero_iff.1 hl0
        clear hrow hbb hl
        go_wp2_with (go_at_call 31; refine (sort_none _ _ _ _).mono ?_; rintro e w2 ⟨rfl, rfl⟩)
        go_ret2
        exact ⟨.slice none 0 0, rfl, by show IsEds _ _ _ _; rw [HT.out, hle, sort_nil]; exact eds_nil _ _, HBw⟩
      · subst hv
        have hgb : g5 ≠ w1.heap.size + 1 := fun e => own_ne hrow hbb (by decide) (by rw [← e]; rfl)
        have hg5l : g5 < V.heap.size := heapE_lt hg5
        have KS : Calls Try.prog 31 #[.slice (some ⟨g5, 0, none⟩) l.length cap, .func (.func 32) #[] #[]] V fun e w' => e = .returned (.tuple #[]) ∧ Hid (IsEds w' (fun i => w.heap.size ≤ i) (.slice (some ⟨g5, 0, none⟩) l.length cap) (edgesT g)) ∧ Hid (Below w.heap.size w w') ∧ w'.cell? ⟨w1.heap.size + 1, 0, none⟩ = some (.slice (some ⟨g5, 0, none⟩) l.length cap) :=
          (sort_some l g5 0 cap V (row_holds hg5 htk) hg5l hll).mono fun e w' ⟨h1, h2, h3, h4, h5⟩ => by
            refine ⟨h1, ?_, HBw.out.trans (h5 _ (Nat.le_trans hzw hbg)), ?_⟩
            · show IsEds _ _ _ _
              rw [HT.out]
              exact sorted_eds h2 (Nat.lt_of_lt_of_le hg5l h3) (Nat.le_trans hzw hbg) hnc hll
            · have hb := h4 _ hblt (Ne.symm hgb)
              have hc : w'.cell? ⟨w1.heap.size + 1, 0, none⟩ = V.cell? ⟨w1.heap.size + 1, 0, none⟩ := by unfold World.cell?; rw [hb]
              rw [hc]; exact c0
        clear hrow hbb hl hg5 htk
        go_wp2_with (go_at_call 31; refine KS.mono ?_; rintro e w2 ⟨rfl, i2, b2, q9⟩)
        go_ret2
        exact ⟨_, rfl, i2, b2⟩
end Go.Proofs.Ytkihbgikdbaelaa
