/- DependsRules, walked. -/
import Derived.Test.YtaofocfiipemaaaDepStd
import Derived.Deep.CutRange
namespace Go.Proofs.Ytaofocfiipemaaa
set_option linter.unusedVariables false
open Go.ChangeShapes Go.WideShapes Go.ChangeAt Go.RowKit

theorem hidE_mk {p : Prop} (h : p) : Hid p := h
theorem belE_set {W w' : World} {b j : Nat} (h : Below W.heap.size W w') (hb : W.heap.size ≤ b) (v : Value) : Below W.heap.size W (w'.setCell ⟨b, j, none⟩ v) := h.trans ⟨rfl, rfl, rfl, by simp [World.setCell], fun i hi => Below.heap_setCell _ _ _ _ (by simp; omega)⟩
/-- Edges at a grammar that is an argument, whether it may be or not. -/
theorem edges_arg (g : Gr) (v1 v2 : Value) (w : World) {F : Nat → Prop} (hg : GrIs w F v1 v2 g) (hn : ∀ s, s ∈ g.names → s.size ≤ maxLen ∧ s.size ≤ reachBytes) (hs : ∀ r, r ∈ g.rules → ∀ c, c ∈ r.conj → c.seq.length * 24 ≤ reachBytes) :
    Calls Try.prog 15 #[.agg #[.int .i64 g.start, v1, v2]] w fun e w' => ∃ v, e = .returned (.tuple #[v, .int .i64 (if mayG g then 0 else 600)]) ∧ Hid (IsEds w' (fun i => w.heap.size ≤ i) v (if mayG g then edgesT g else [])) ∧ Hid (Below w.heap.size w w') := by
  have hS : Short g.rules := fun r hr c hc => by have := hs r hr c hc; unfold reachBytes at this; omega
  cases hM : mayG g with
  | true => exact edges_ok g v1 v2 w hg (fun s h => (hn s h).1) hS hM
  | false => exact (edges_no g v1 v2 w hg (fun s h => (hn s h).1) hS hM).mono fun e w' ⟨h1, h2⟩ => ⟨_, h1, eds_nil _ _, h2⟩
theorem two_new (V : World) (a b : Array Value) (t : TypeId) : (∀ j, ((V.alloc (.cells a t)).alloc (.cells b t)).drew.cell? ⟨V.heap.size, j, none⟩ = a[j]?) ∧ (∀ j, ((V.alloc (.cells a t)).alloc (.cells b t)).drew.cell? ⟨V.heap.size + 1, j, none⟩ = b[j]?) ∧ Below V.heap.size V ((V.alloc (.cells a t)).alloc (.cells b t)).drew := by
  refine ⟨fun j => ?_, fun j => ?_, ((bel1 V _).alloc (by simp) _).drew⟩
  · show ((V.alloc (.cells a t)).alloc (.cells b t)).cell? ⟨V.heap.size, j, none⟩ = _
    rw [World.cell?_alloc_past _ _ _ (by simp)]; exact World.cell?_alloc_at _ _ _ _ rfl
  · exact World.cell?_alloc_at _ _ _ _ (by simp)
theorem cellE_lt {w : World} {b j : Nat} {v : Value} (h : w.cell? ⟨b, j, none⟩ = some v) : b < w.heap.size := by
  by_cases hh : b < w.heap.size
  · exact hh
  · unfold World.cell? at h
    rw [Array.getElem?_eq_none (by simpa using hh)] at h; cases h
theorem edgesT_len {g : Gr} (h : mayG g = true) : (edgesT g).length ≤ 1024 := by
  have h1 := allE_len h
  have h2 := addAll_len (allE g.rules) []
  have h3 := (sort_perm (addAll [] (allE g.rules))).length_eq
  unfold edgesT
  simp only [List.length_nil] at h2
  omega
set_option maxHeartbeats 16000000 in
set_option maxRecDepth 100000 in
theorem dependsRules_walk (W : World) (g : Gr) (v1 v2 : Value) (ga : GrIs W Any v1 v2 g) (gn : ∀ s, s ∈ g.names → s.size ≤ maxLen ∧ s.size ≤ reachBytes) (gs : ∀ r, r ∈ g.rules → ∀ c, c ∈ r.conj → c.seq.length * 24 ≤ reachBytes) (w0 : (Lit.int .i64 g.start).wf = true) :
    Calls Try.prog 4 #[.agg #[.int .i64 g.start, v1, v2]] W fun e W' => e = .returned (.bool true) ∧ Below W.heap.size W W' := by
  have KE : Hid (∀ w2, Below W.heap.size W w2 → Calls Try.prog 15 #[.agg #[.int .i64 g.start, v1, v2]] w2 fun e w' => ∃ v, e = .returned (.tuple #[v, .int .i64 (if mayG g then 0 else 600)]) ∧ Hid (IsEds w' (fun i => w2.heap.size ≤ i) v (if mayG g then edgesT g else [])) ∧ Hid (Below w2.heap.size w2 w')) := fun w2 hb => edges_arg g v1 v2 w2 (ga.any hb) gn gs
  obtain ⟨p1, c1, l1, hv1⟩ : ∃ p n c, v1 = .slice p n c := by obtain ⟨p, c, e, _⟩ := ga.1; exact ⟨_, _, _, e⟩
  obtain ⟨p2, c2, hv2⟩ := ga.2.slc
  subst hv1 hv2
  have HGA : Hid (GrIs W Any (.slice p1 c1 l1) (.slice p2 g.rules.length c2) g) := ga
  obtain ⟨n, hnn⟩ : ∃ n, n = g.rules.length := ⟨_, rfl⟩
  have HN : Hid (n = g.rules.length) := hnn
  rw [← hnn] at HGA KE ⊢
  clear gn gs w0 ga hnn
  go_enter Try.func4, Try.ntmps4
  cases hM : mayG g with
  | false =>
    rw [hM] at KE
    simp only [Bool.false_eq_true, if_false] at KE
    go_wp2_with (first
      | (go_at_call 21; refine (awake6_any _).mono ?_; rintro e wa ⟨rfl, ba⟩; have HA : Hid (Below W.heap.size W wa) := (bel1 W _).trans (ba.mono (bel1 W _).size); have q0 : wa.cell? ⟨W.heap.size, 0, none⟩ = some (.int .i64 g.start) := (ba.cell (p := ⟨_, _, none⟩) (by simp)).trans (World.cell?_alloc_at _ _ _ _ rfl); have q1 : wa.cell? ⟨W.heap.size, 1, none⟩ = some (.slice p1 c1 l1) := (ba.cell (p := ⟨_, _, none⟩) (by simp)).trans (World.cell?_alloc_at _ _ _ _ rfl); have q2 : wa.cell? ⟨W.heap.size, 2, none⟩ = some (.slice p2 n c2) := (ba.cell (p := ⟨_, _, none⟩) (by simp)).trans (World.cell?_alloc_at _ _ _ _ rfl); clear ba)
      | (go_at_call 15; refine (KE.out _ HA.out).mono ?_; rintro e wb ⟨ve, rfl, ie, bb⟩; have HB : Hid (Below W.heap.size W wb) := HA.out.trans (bb.out.mono HA.out.size); obtain ⟨pe, ce, hve⟩ := ie.out.slc; subst hve)
      | (go_at_call 18; refine (num_any _ _).mono ?_; rintro e wn ⟨rfl, rfl⟩))
    go_ret
    exact ⟨rfl, HB.out⟩
  | true =>
    rw [hM] at KE
    simp only [if_true] at KE
    have HL : Hid ((edgesT g).length ≤ 1024) := edgesT_len hM
    have HRI : Hid ((edgesT g).Pairwise fun x y => ltE x y = true) := edgesT_rise g
    have HME : Hid (∀ x, x ∈ edgesT g ↔ x ∈ allE g.rules) := mem_edgesT g
    have HM : Hid (mayG g = true) := hM
    clear hM
    generalize edgesT g = L at KE HL HRI HME
    obtain ⟨m, hmm⟩ : ∃ m, m = L.length := ⟨_, rfl⟩
    have HMM : Hid (m = L.length) := hmm
    have hm4 : m ≤ 1024 := by rw [hmm]; exact HL.out
    clear hmm
    go_wp2_with (first
      | (go_at_call 21; refine (awake6_any _).mono ?_; rintro e wa ⟨rfl, ba⟩; have HA : Hid (Below W.heap.size W wa) := (bel1 W _).trans (ba.mono (bel1 W _).size); have hza : W.heap.size < wa.heap.size := (by have := ba.size; simp at this; omega); have q0 : wa.cell? ⟨W.heap.size, 0, none⟩ = some (.int .i64 g.start) := (ba.cell (p := ⟨_, _, none⟩) (by simp)).trans (World.cell?_alloc_at _ _ _ _ rfl); have q1 : wa.cell? ⟨W.heap.size, 1, none⟩ = some (.slice p1 c1 l1) := (ba.cell (p := ⟨_, _, none⟩) (by simp)).trans (World.cell?_alloc_at _ _ _ _ rfl); have q2 : wa.cell? ⟨W.heap.size, 2, none⟩ = some (.slice p2 n c2) := (ba.cell (p := ⟨_, _, none⟩) (by simp)).trans (World.cell?_alloc_at _ _ _ _ rfl); clear ba)
      | (go_at_call 15; refine (KE.out _ HA.out).mono ?_; rintro e wb ⟨ve, rfl, ie, bb⟩; have HB : Hid (Below W.heap.size W wb) := HA.out.trans (bb.out.mono HA.out.size); obtain ⟨pe, ce, hve⟩ := ie.out.slc; rw [← HMM.out] at hve; subst hve)
      | (go_at_call 18; refine (num_any _ _).mono ?_; rintro e wn ⟨rfl, rfl⟩))
    have HQ : Hid (∀ w', Below wb.heap.size wb w' → w'.cell? ⟨W.heap.size, 0, none⟩ = some (.int .i64 g.start) ∧ w'.cell? ⟨W.heap.size, 1, none⟩ = some (.slice p1 c1 l1) ∧ w'.cell? ⟨W.heap.size, 2, none⟩ = some (.slice p2 n c2)) := fun w' hb => by
      have hzb := bb.out.size
      exact ⟨((hb.cell (p := ⟨_, _, none⟩) (by simp; omega)).trans (bb.out.cell (p := ⟨_, _, none⟩) (by simpa using hza))).trans q0, ((hb.cell (p := ⟨_, _, none⟩) (by simp; omega)).trans (bb.out.cell (p := ⟨_, _, none⟩) (by simpa using hza))).trans q1, ((hb.cell (p := ⟨_, _, none⟩) (by simp; omega)).trans (bb.out.cell (p := ⟨_, _, none⟩) (by simpa using hza))).trans q2⟩
    clear q0 q1 q2 bb KE
    go_loopw [5] (fun i wr => ∃ k : Nat, (k + 1 ≤ m ∨ k = 0) ∧ i = .int .i64 ((k : Int) + 1) ∧ Hid (Below wb.heap.size wb wr)) (fun i _ => m + 1 - (intOf i).toNat)
    case atStart => exact ⟨0, Or.inr rfl, rfl, Below.refl _ _⟩
    case round =>
      obtain ⟨k, hk, rfl, HBr⟩ := hrel
      obtain ⟨V, hV⟩ : ∃ V, V = wr := ⟨_, rfl⟩
      subst hV
      by_cases hlt : k + 1 < m
      · obtain ⟨x, hx⟩ : ∃ x, L[k]? = some x := ⟨_, List.getElem?_eq_getElem (by rw [← HMM.out]; omega)⟩
        obtain ⟨y, hy⟩ : ∃ y, L[k + 1]? = some y := ⟨_, List.getElem?_eq_getElem (by rw [← HMM.out]; omega)⟩
        have hxy : ltE x y = true := by
          obtain ⟨h1, e1⟩ := List.getElem?_eq_some_iff.1 hx
          obtain ⟨h2, e2⟩ := List.getElem?_eq_some_iff.1 hy
          rw [← e1, ← e2]
          exact List.pairwise_iff_getElem.1 HRI.out _ _ h1 h2 (by omega)
        obtain ⟨x0, x1, x2⟩ := x
        obtain ⟨y0, y1, y2⟩ := y
        have HSS : Hid (∀ w', Below V.heap.size V w' → ∃ gg oo, pe = some ⟨gg, oo, none⟩ ∧ w'.cell? ⟨gg, oo + k * 3, none⟩ = some (.int .i64 x0) ∧ w'.cell? ⟨gg, oo + k * 3 + 1, none⟩ = some (.int .i64 x1) ∧ w'.cell? ⟨gg, oo + k * 3 + 2, none⟩ = some (.bool x2) ∧ w'.cell? ⟨gg, oo + (k + 1) * 3, none⟩ = some (.int .i64 y0) ∧ w'.cell? ⟨gg, oo + (k + 1) * 3 + 1, none⟩ = some (.int .i64 y1) ∧ w'.cell? ⟨gg, oo + (k + 1) * 3 + 2, none⟩ = some (.bool y2)) := fun w' hb => by
          have i2 := (ie.out.any HBr.out).any hb
          obtain ⟨gg, oo, e1, _, a0, a1, a2⟩ := i2.at hx
          obtain ⟨g3, o3, e2, _, b0, b1, b2⟩ := i2.at hy
          rw [e1] at e2
          injection e2 with e2
          injection e2 with e3 e4
          subst e3 e4
          exact ⟨gg, oo, e1, a0, a1, a2, b0, b1, b2⟩
        obtain ⟨gg, oo, hpe, a0, a1, a2, b0, b1, b2⟩ := HSS.out _ (Below.refl _ _)
        subst hpe
        have HS2 : Hid (∀ w', Below V.heap.size V w' → Below V.heap.size V w' ∧ w'.cell? ⟨gg, oo + k * 3, none⟩ = some (.int .i64 x0) ∧ w'.cell? ⟨gg, oo + k * 3 + 1, none⟩ = some (.int .i64 x1) ∧ w'.cell? ⟨gg, oo + k * 3 + 2, none⟩ = some (.bool x2) ∧ w'.cell? ⟨gg, oo + (k + 1) * 3, none⟩ = some (.int .i64 y0) ∧ w'.cell? ⟨gg, oo + (k + 1) * 3 + 1, none⟩ = some (.int .i64 y1) ∧ w'.cell? ⟨gg, oo + (k + 1) * 3 + 2, none⟩ = some (.bool y2)) := fun w' hb => by
          obtain ⟨g3, o3, e2, c0, c1, c2, d0, d1, d2⟩ := HSS.out _ hb
          injection e2 with e2
          injection e2 with e3 e4
          subst e3 e4
          exact ⟨hb, c0, c1, c2, d0, d1, d2⟩
        clear HSS
        have hk1 : (0 : Int) ≤ (k : Int) := by omega
        have hk2 : (k : Int) < (m : Int) := by omega
        have hk3 : (0 : Int) ≤ (k : Int) + 1 := by omega
        have hk4 : (k : Int) + 1 < (m : Int) := by omega
        have hw1 : IntKind.i64.wrap (k : Int) = (k : Int) := by simp [IntKind.wrap, IntKind.bits, IntKind.signed]; omega
        go_wp2
        go_cut [6, 7] from 27 to 76 (fun p q wc => ∃ n6 n7, p = .pointer (some ⟨n6, 0, none⟩) ∧ q = .pointer (some ⟨n7, 0, none⟩) ∧ Hid (Below V.heap.size V wc) ∧ wc.cell? ⟨n6, 0, none⟩ = some (.int .i64 x0) ∧ wc.cell? ⟨n6, 1, none⟩ = some (.int .i64 x1) ∧ wc.cell? ⟨n6, 2, none⟩ = some (.bool x2) ∧ wc.cell? ⟨n7, 0, none⟩ = some (.int .i64 y0) ∧ wc.cell? ⟨n7, 1, none⟩ = some (.int .i64 y1) ∧ wc.cell? ⟨n7, 2, none⟩ = some (.bool y2))
        case first =>
          go_region_held3 (fun w' => Below V.heap.size V w' ∧ w'.cell? ⟨gg, oo + k * 3, none⟩ = some (.int .i64 x0) ∧ w'.cell? ⟨gg, oo + k * 3 + 1, none⟩ = some (.int .i64 x1) ∧ w'.cell? ⟨gg, oo + k * 3 + 2, none⟩ = some (.bool x2) ∧ w'.cell? ⟨gg, oo + (k + 1) * 3, none⟩ = some (.int .i64 y0) ∧ w'.cell? ⟨gg, oo + (k + 1) * 3 + 1, none⟩ = some (.int .i64 y1) ∧ w'.cell? ⟨gg, oo + (k + 1) * 3 + 2, none⟩ = some (.bool y2))
            ((refine HS2.out _ ?_; (repeat' (first | with_reducible assumption | with_reducible exact Below.refl _ _ | with_reducible apply Below.drew | with_reducible apply belE_alloc | with_reducible refine belE_set ?_ ?_ _)); all_goals (first | omega | (simp; done))))
            (fail)
          all_goals
            go_wp2
            go_meet
          all_goals
            case rel =>
              first
              | exact ⟨_, _, rfl, rfl, (two_new V _ _ _).2.2, (two_new V _ _ _).1 0, (two_new V _ _ _).1 1, (two_new V _ _ _).1 2, (two_new V _ _ _).2.1 0, (two_new V _ _ _).2.1 1, (two_new V _ _ _).2.1 2⟩
              | exact ⟨_, _, rfl, rfl, (two_new V _ _ _).2.2, (two_new V _ _ _).2.1 0, (two_new V _ _ _).2.1 1, (two_new V _ _ _).2.1 2, (two_new V _ _ _).1 0, (two_new V _ _ _).1 1, (two_new V _ _ _).1 2⟩
        case rest =>
          obtain ⟨n6, n7, rfl, rfl, HBc, s0, s1, s2, t0, t1, t2⟩ := hcut
          have HBd : Hid (Below wb.heap.size wb wc) := HBr.out.trans (HBc.out.mono HBr.out.size)
          rw [ltE_iff] at hxy
          simp only at hxy
          clear a0 a1 a2 b0 b1 b2 hx hy hk1 hk2 hk3 hk4 hw1 HS2
          rcases hxy with h | ⟨h, h2⟩
          · have f1 : ¬ (x0 > y0) := by omega
            have f2 : (x0 == y0) = false := by simp; omega
            clear h
            go_wp2
            go_roundw
            case rel => exact ⟨k + 1, Or.inl (by omega), by go_num, HBd⟩
            case measure => simp [intOf]; omega
          · subst h
            rcases h2 with h2 | ⟨h2, h3⟩
            · have f1 : ¬ (x1 > y1) := by omega
              have f2 : (x1 == y1) = false := by simp; omega
              clear h2
              go_wp2
              go_roundw
              case rel => exact ⟨k + 1, Or.inl (by omega), by go_num, HBd⟩
              case measure => simp [intOf]; omega
            · subst h2
              have e2 : x2 = false ∧ y2 = true := by cases x2 <;> cases y2 <;> simp [numB] at h3 ⊢
              obtain ⟨rfl, rfl⟩ := e2
              clear h3
              go_wp2
              go_roundw
              case rel => exact ⟨k + 1, Or.inl (by omega), by go_num, HBd⟩
              case measure => simp [intOf]; omega
      · have hge : ¬ ((k : Int) + 1 < (m : Int)) := by omega
        go_wp2
        go_loopw [8, 9] (fun c i wr => ∃ q : Nat, q ≤ m ∧ c = .int .i64 q ∧ i = .int .i64 q ∧ Hid (Below wb.heap.size wb wr)) (fun _ i _ => m - (intOf i).toNat)
        case atStart => exact ⟨0, Nat.zero_le _, rfl, rfl, HBr⟩
        case round =>
          obtain ⟨q, hq, rfl, rfl, HBq⟩ := hrel
          obtain ⟨U, hU⟩ : ∃ U, U = wr := ⟨_, rfl⟩
          subst hU
          by_cases hlq : q < m
          · obtain ⟨x, hx⟩ : ∃ x, L[q]? = some x := ⟨_, List.getElem?_eq_getElem (by rw [← HMM.out]; exact hlq)⟩
            have hxm : x ∈ allE g.rules := (HME.out x).1 (List.mem_of_getElem? hx)
            have KST : Hid (∀ w2, Below U.heap.size U w2 → Calls Try.prog 22 #[.agg #[.int .i64 g.start, .slice p1 c1 l1, .slice p2 n c2], .agg #[.int .i64 x.1, .int .i64 x.2.1, .bool x.2.2]] w2 fun e w' => e = .returned (.bool true) ∧ Hid (Below w2.heap.size w2 w')) := fun w2 hb => by
              have h9 := stands_yes g (.slice p1 c1 l1) (.slice p2 g.rules.length c2) x w2 (F := Any) ?_ HM.out hxm
              · rw [← HN.out] at h9; exact h9
              · have h8 := ((HGA.out.any HB.out).any HBq.out).any hb
                rw [HN.out] at h8; exact h8
            obtain ⟨gg, oo, hpe, hgg, a0, a1, a2⟩ := (ie.out.any HBq.out).at hx
            subst hpe
            obtain ⟨x0, x1, x2⟩ := x
            simp only at a0 a1 a2 KST
            have HS3 : Hid (∀ w', Below U.heap.size U w' → Below U.heap.size U w' ∧ w'.cell? ⟨W.heap.size, 0, none⟩ = some (.int .i64 g.start) ∧ w'.cell? ⟨W.heap.size, 1, none⟩ = some (.slice p1 c1 l1) ∧ w'.cell? ⟨W.heap.size, 2, none⟩ = some (.slice p2 n c2) ∧ w'.cell? ⟨gg, oo + q * 3, none⟩ = some (.int .i64 x0) ∧ w'.cell? ⟨gg, oo + q * 3 + 1, none⟩ = some (.int .i64 x1) ∧ w'.cell? ⟨gg, oo + q * 3 + 2, none⟩ = some (.bool x2)) := fun w' hb => by
              obtain ⟨y0, y1, y2⟩ := HQ.out _ (HBq.out.trans (hb.mono HBq.out.size))
              exact ⟨hb, y0, y1, y2, (hb.cell (p := ⟨_, _, none⟩) hgg).trans a0, (hb.cell (p := ⟨_, _, none⟩) hgg).trans a1, (hb.cell (p := ⟨_, _, none⟩) hgg).trans a2⟩
            clear hx hxm hgg a0 a1 a2
            go_wp2
            go_region_held3 (fun w' => Below U.heap.size U w' ∧ w'.cell? ⟨W.heap.size, 0, none⟩ = some (.int .i64 g.start) ∧ w'.cell? ⟨W.heap.size, 1, none⟩ = some (.slice p1 c1 l1) ∧ w'.cell? ⟨W.heap.size, 2, none⟩ = some (.slice p2 n c2) ∧ w'.cell? ⟨gg, oo + q * 3, none⟩ = some (.int .i64 x0) ∧ w'.cell? ⟨gg, oo + q * 3 + 1, none⟩ = some (.int .i64 x1) ∧ w'.cell? ⟨gg, oo + q * 3 + 2, none⟩ = some (.bool x2))
              ((refine HS3.out _ ?_; (repeat' (first | with_reducible assumption | with_reducible exact Below.refl _ _ | with_reducible apply Below.drew))))
              ((go_at_call 22; refine (KST.out _ (by repeat' (first | exact Below.refl _ _ | apply Below.drew))).mono ?_; rintro e w3 ⟨rfl, b3⟩; have b4 : Below U.heap.size U w3 := Below.trans (b := U.drew) (Below.refl _ _).drew b3.out))
            go_wp2
            go_roundw
            case rel => exact ⟨q + 1, by omega, by go_num, by go_num, HBq.out.trans (b4.mono HBq.out.size)⟩
            case measure => simp [intOf]; omega
          · obtain rfl : q = m := by omega
            have hn6 : n ≤ 256 := by
              have h := HM.out
              unfold mayG mayRules at h
              simp only [Bool.and_eq_true, decide_eq_true_eq] at h
              rw [HN.out]; exact h.2.2.2.2.1
            go_wp2
            go_loopw [10] (fun i wr => ∃ a : Nat, a ≤ n ∧ i = .int .i64 a ∧ Hid (Below wb.heap.size wb wr)) (fun i _ => n - (intOf i).toNat)
            case atStart => exact ⟨0, Nat.zero_le _, rfl, HBq⟩
            case round =>
              obtain ⟨a, ha, rfl, HBa⟩ := hrel
              obtain ⟨X, hX⟩ : ∃ X, X = wr := ⟨_, rfl⟩
              subst hX
              obtain ⟨-, -, y2⟩ := HQ.out _ HBa.out
              by_cases hla : a < n
              · obtain ⟨r, ht⟩ : ∃ r, g.rules[a]? = some r := ⟨_, List.getElem?_eq_getElem (by rw [← HN.out]; exact hla)⟩
                have hrm : r ∈ g.rules := List.mem_of_getElem? ht
                obtain ⟨b, hbn⟩ : ∃ b, b = r.conj.length := ⟨_, rfl⟩
                have HBN : Hid (b = r.conj.length) := hbn
                have hb8 : b ≤ 8 := by rw [hbn]; exact mayG_conj HM.out r hrm
                have HSL : Hid (∀ c, c ∈ r.conj → c.seq.length ≤ 64) := mayG_seq HM.out r hrm
                have HSY : Hid (∀ c, c ∈ r.conj → ∀ s, s ∈ c.seq → s.name = -1 ∨ 0 ≤ s.name ∧ (r.head, s.name, c.neg) ∈ L) := fun c hc s hs => by
                  rcases mayG_sym HM.out r hrm c hc s hs with h | h
                  · exact Or.inl h
                  · refine Or.inr ⟨h.1, (HME.out _).2 ?_⟩
                    rw [mem_allE]
                    refine ⟨r, hrm, ?_⟩
                    rw [mem_cnsE]
                    refine ⟨c, hc, ?_⟩
                    rw [mem_seqE]
                    exact ⟨rfl, rfl, s, hs, by omega, rfl⟩
                clear hbn
                go_wp2
                go_loopw [11] (fun i wr => ∃ d : Nat, d ≤ b ∧ i = .int .i64 d ∧ Hid (Below wb.heap.size wb wr)) (fun i _ => b - (intOf i).toNat)
                case atStart => exact ⟨0, Nat.zero_le _, rfl, HBa⟩
                case round =>
                  obtain ⟨d, hd, rfl, HBd⟩ := hrel
                  obtain ⟨Y, hY⟩ : ∃ Y, Y = wr := ⟨_, rfl⟩
                  subst hY
                  clear y2
                  obtain ⟨-, -, y2⟩ := HQ.out _ HBd.out
                  obtain ⟨g1, o1, u, hp, a0, a1, icn⟩ := ((HGA.out.2.any HB.out).any HBd.out).row ht
                  subst hp
                  obtain ⟨p3, c3, hu⟩ := icn.slc
                  rw [← HBN.out] at hu
                  subst hu
                  by_cases hld : d < b
                  · obtain ⟨c, hcc⟩ : ∃ c, r.conj[d]? = some c := ⟨_, List.getElem?_eq_getElem (by rw [← HBN.out]; exact hld)⟩
                    have hcm : c ∈ r.conj := List.mem_of_getElem? hcc
                    obtain ⟨g2, o2, u2, hp2, d0, d1, isy⟩ := icn.row hcc
                    subst hp2
                    obtain ⟨p4, c4, hu2⟩ := isy.slc
                    subst hu2
                    obtain ⟨t, htn⟩ : ∃ t, t = c.seq.length := ⟨_, rfl⟩
                    have HTN : Hid (t = c.seq.length) := htn
                    have ht64 : t ≤ 64 := by rw [htn]; exact HSL.out c hcm
                    have HIS : Hid (IsSys Y Any (.slice p4 t c4) c.seq) := by rw [htn]; exact isy
                    have HHD : Hid (∀ w', Below Y.heap.size Y w' → w'.cell? ⟨W.heap.size, 2, none⟩ = some (.slice (some ⟨g1, o1, none⟩) n c2) ∧ w'.cell? ⟨g1, o1 + a * 2, none⟩ = some (.int .i64 r.head)) := fun w' hb => by
                      refine ⟨(HQ.out _ (HBd.out.trans (hb.mono HBd.out.size))).2.2, (hb.cell (p := ⟨_, _, none⟩) (cellE_lt a0)).trans a0⟩
                    rw [← htn] at d1
                    obtain ⟨n3, hn3⟩ : ∃ n3, n3 = Y.heap.size := ⟨_, rfl⟩
                    have HN3 : Hid (n3 = Y.heap.size) := hn3
                    clear isy htn icn
                    go_wp2
                    rw [← hn3]
                    clear hn3
                    go_loopw [13] (fun i wr => ∃ e : Nat, e ≤ t ∧ i = .int .i64 e ∧ Hid (Below Y.heap.size Y wr) ∧ n3 < wr.heap.size ∧ wr.cell? ⟨n3, 0, none⟩ = some (.bool c.neg) ∧ wr.cell? ⟨n3, 1, none⟩ = some (.slice p4 t c4)) (fun i _ => t - (intOf i).toNat)
                    case atStart => exact ⟨0, Nat.zero_le _, rfl, bel1 _ _, by rw [HN3.out]; simp, by rw [HN3.out]; exact World.cell?_alloc_at _ _ _ _ rfl, by rw [HN3.out]; exact World.cell?_alloc_at _ _ _ _ rfl⟩
                    case round =>
                      obtain ⟨e, he, rfl, HBe, hz3, z0, z1⟩ := hrel
                      obtain ⟨Z, hZ⟩ : ∃ Z, Z = wr := ⟨_, rfl⟩
                      subst hZ
                      have HBz : Hid (Below wb.heap.size wb Z) := HBd.out.trans (HBe.out.mono HBd.out.size)
                      by_cases hle : e < t
                      · obtain ⟨s, hs⟩ : ∃ s, c.seq[e]? = some s := ⟨_, List.getElem?_eq_getElem (by rw [← HTN.out]; exact hle)⟩
                        obtain ⟨g5, o5, hp5, hg5, b0, -, -⟩ := (HIS.out.any HBe.out).at hs
                        subst hp5
                        clear y2 a0 a1 d0 d1
                        obtain ⟨y2, a0⟩ := HHD.out _ HBe.out
                        rcases HSY.out c hcm s (List.mem_of_getElem? hs) with hneg | ⟨hpos, hin⟩
                        · rw [hneg] at b0
                          clear hneg hs
                          go_wp2
                          go_quiet (fail)
                          go_wp2
                          go_roundw
                          case rel => exact ⟨e + 1, by omega, by go_num, ⟨HBe.out.os, HBe.out.tape, HBe.out.output, HBe.out.size, HBe.out.block⟩, hz3, z0, z1⟩
                          case measure => simp [intOf]; omega
                        · have f1 : s.name ≥ 0 := hpos
                          have KH : Hid (∀ w2, Below Z.heap.size Z w2 → Calls Try.prog 23 #[.slice pe q ce, .agg #[.int .i64 r.head, .int .i64 s.name, .bool c.neg]] w2 fun e w' => e = .returned (.bool true) ∧ Hid (Below w2.heap.size w2 w')) := fun w2 hb => by
                            have h9 := has_any (.slice pe q ce) L (r.head, s.name, c.neg) w2 ((ie.out.any HBz.out).any hb) (by have := HL.out; omega)
                            rw [decide_eq_true hin] at h9; exact h9
                          have HS5 : Hid (∀ w', Below Z.heap.size Z w' → Below Z.heap.size Z w' ∧ w'.cell? ⟨W.heap.size, 2, none⟩ = some (.slice (some ⟨g1, o1, none⟩) n c2) ∧ w'.cell? ⟨g1, o1 + a * 2, none⟩ = some (.int .i64 r.head) ∧ w'.cell? ⟨n3, 0, none⟩ = some (.bool c.neg) ∧ w'.cell? ⟨n3, 1, none⟩ = some (.slice (some ⟨g5, o5, none⟩) t c4) ∧ w'.cell? ⟨g5, o5 + e * 3, none⟩ = some (.int .i64 s.name)) := fun w' hb => by
                            obtain ⟨h1, h2⟩ := HHD.out _ (HBe.out.trans (hb.mono HBe.out.size))
                            exact ⟨hb, h1, h2, (hb.cell (p := ⟨_, _, none⟩) hz3).trans z0, (hb.cell (p := ⟨_, _, none⟩) hz3).trans z1, (hb.cell (p := ⟨_, _, none⟩) hg5).trans b0⟩
                          clear hs hin y2 a0 b0 hpos
                          go_wp2
                          go_region_held3 (fun w' => Below Z.heap.size Z w' ∧ w'.cell? ⟨W.heap.size, 2, none⟩ = some (.slice (some ⟨g1, o1, none⟩) n c2) ∧ w'.cell? ⟨g1, o1 + a * 2, none⟩ = some (.int .i64 r.head) ∧ w'.cell? ⟨n3, 0, none⟩ = some (.bool c.neg) ∧ w'.cell? ⟨n3, 1, none⟩ = some (.slice (some ⟨g5, o5, none⟩) t c4) ∧ w'.cell? ⟨g5, o5 + e * 3, none⟩ = some (.int .i64 s.name))
                            ((refine HS5.out _ ?_; (repeat' (first | with_reducible assumption | with_reducible exact Below.refl _ _ | with_reducible apply Below.drew))))
                            ((go_at_call 23; refine (KH.out _ (by repeat' (first | exact Below.refl _ _ | apply Below.drew))).mono ?_; rintro e9 w3 ⟨rfl, b3⟩; have b4 : Below Z.heap.size Z w3 := Below.trans (b := Z.drew) (Below.refl _ _).drew b3.out))
                          go_wp2
                          go_roundw
                          case rel => exact ⟨e + 1, by omega, by go_num, HBe.out.trans (b4.mono HBe.out.size), Nat.lt_of_lt_of_le hz3 b4.size, (b4.cell (p := ⟨_, _, none⟩) hz3).trans z0, (b4.cell (p := ⟨_, _, none⟩) hz3).trans z1⟩
                          case measure => simp [intOf]; omega
                      · obtain rfl : e = t := by omega
                        go_wp2
                        go_roundw
                        case rel => exact ⟨d + 1, by omega, by go_num, HBz⟩
                        case measure => simp [intOf]; omega
                  · obtain rfl : d = b := by omega
                    go_wp2
                    go_roundw
                    case rel => exact ⟨a + 1, by omega, by go_num, HBd⟩
                    case measure => simp [intOf]; omega
              · obtain rfl : a = n := by omega
                go_wp2
                go_ret
                exact ⟨by simp [go_sem], HB.out.trans (HBa.out.mono HB.out.size)⟩
end Go.Proofs.Ytaofocfiipemaaa
