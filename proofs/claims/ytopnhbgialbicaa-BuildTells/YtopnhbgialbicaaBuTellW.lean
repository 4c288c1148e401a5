/- BuildTells, walked. -/
import Derived.Test.YtopnhbgialbicaaTellT
import Derived.Test.YtopnhbgialbicaaGramMem
import Derived.Test.YtopnhbgialbicaaGramAid
import Derived.Test.YtopnhbgialbicaaLexSame
import Derived.Deep.RegionHeld3
import Derived.BigRegion
import Derived.Deep.CutRange
import Derived.PlainAid
namespace Go.Proofs.Ytopnhbgialbicaa
set_option linter.unusedVariables false
set_option linter.unusedSimpArgs false
open Go.ChangeShapes Go.WideShapes Go.ChangeAt Go.RowKit

theorem hid_ofK {p : Prop} (h : p) : Hid p := h
/-- What Build has told: a grammar that may be, or whose fault it is. -/
def TellQ (r : Rw) (g : Gr) (n : ByteArray) (k : Nat) : Prop :=
  (k = 0 ∧ n = ⟨#[]⟩ ∧ r.starts.length = 1 ∧ g.names.length = r.defs.length ∧ ∃ i : Nat, g.start = (i : Int) ∧ ∃ s, g.names[i]? = some s ∧ r.starts[0]? = some s) ∨
  (k = 401 ∧ 1 < cntT n (namesT r.defs)) ∨ (k = 400 ∧ r.starts.length ≠ 1 ∧ n = ⟨#[]⟩) ∨ (k = 402 ∧ cntT n (namesT r.defs) = 0) ∨ (k = 403 ∧ cntT n (namesT r.defs) = 1) ∨ (k = 404 ∧ n = ⟨#[]⟩)
/-- The call's variables: the declarations in block rb, the grammar in block gb. -/
structure Tw (W : World) (r : Rw) (v1 v2 : Value) (rb gb : Nat) (g : Gr) (a b : Value) (V : World) : Prop where
  x0 : V.cell? ⟨rb, 0, none⟩ = some v1
  x1 : V.cell? ⟨rb, 1, none⟩ = some v2
  xl : rb < V.heap.size
  ts : IsTexts V Any v1 r.starts
  ds : IsDefs V Any v2 r.defs
  g0 : V.cell? ⟨gb, 0, none⟩ = some (.int .i64 g.start)
  g1 : V.cell? ⟨gb, 1, none⟩ = some a
  g2 : V.cell? ⟨gb, 2, none⟩ = some b
  gl : gb < V.heap.size
  gr : GrIs V Any a b g
  bl : Below W.heap.size W V
section
variable {W V V' : World} {r : Rw} {v1 v2 a b : Value} {rb gb : Nat} {g : Gr}
theorem Tw.keep (h : Tw W r v1 v2 rb gb g a b V) (hb : Below V.heap.size V V') : Tw W r v1 v2 rb gb g a b V' :=
  ⟨(hb.cell (p := ⟨rb, 0, none⟩) h.xl).trans h.x0, (hb.cell (p := ⟨rb, 1, none⟩) h.xl).trans h.x1, Nat.lt_of_lt_of_le h.xl hb.size, h.ts.any hb, h.ds.any hb, (hb.cell (p := ⟨gb, 0, none⟩) h.gl).trans h.g0, (hb.cell (p := ⟨gb, 1, none⟩) h.gl).trans h.g1, (hb.cell (p := ⟨gb, 2, none⟩) h.gl).trans h.g2, Nat.lt_of_lt_of_le h.gl hb.size, h.gr.any hb, h.bl.trans (hb.mono h.bl.size)⟩
theorem defs_name {p : Option Addr} {n c : Nat} {l : List Df} (h : IsDefs V Any (.slice p n c) l) {i : Nat} (hi : i < l.length) : n = l.length ∧ ∃ gg o s, p = some ⟨gg, o, none⟩ ∧ V.cell? ⟨gg, o + i * 2, none⟩ = some (.string s) ∧ (namesT l)[i]? = some s := by
  obtain ⟨vs, ⟨p', c', e, hm, hx⟩, hv, _⟩ := h
  injection e with e1 e2 e3
  subst e1 e2 e3
  refine ⟨rfl, ?_⟩
  obtain ⟨gg, o, hp, _, _, hc, _⟩ := hx (by omega)
  obtain ⟨d, hd⟩ : ∃ d, l[i]? = some d := ⟨_, List.getElem?_eq_getElem hi⟩
  obtain ⟨u, hu⟩ : ∃ u, vs[i]? = some u := ⟨_, List.getElem?_eq_getElem (by omega)⟩
  exact ⟨gg, o, d.name, hp, hc _ _ (dfsV_at l vs i d u hd hu).1, by unfold namesT; rw [List.getElem?_map, hd]; rfl⟩
theorem texts_at {p : Option Addr} {n c : Nat} {l : List ByteArray} (h : IsTexts V Any (.slice p n c) l) {i : Nat} {s : ByteArray} (hi : l[i]? = some s) : ∃ gg o, p = some ⟨gg, o, none⟩ ∧ V.cell? ⟨gg, o + i, none⟩ = some (.string s) := by
  have hl := (List.getElem?_eq_some_iff.1 hi).1
  obtain ⟨p', c', e, hm, hx⟩ := h
  injection e with e1 e2 e3
  subst e1 e2 e3
  obtain ⟨gg, o, hp, _, _, hc, _⟩ := hx (by omega)
  exact ⟨gg, o, hp, hc _ _ (by unfold txV; rw [List.getElem?_map, hi]; rfl)⟩
theorem texts_cell {gg o n c : Nat} {l : List ByteArray} (h : IsTexts V Any (.slice (some ⟨gg, o, none⟩) n c) l) {i : Nat} {s : ByteArray} (hi : l[i]? = some s) : V.cell? ⟨gg, o + i, none⟩ = some (.string s) := by
  obtain ⟨g2, o2, e, hc⟩ := texts_at h hi
  injection e with e
  injection e with e1 e2
  subst e1 e2
  exact hc
end
set_option maxHeartbeats 40000000 in
set_option maxRecDepth 100000 in
theorem buildTells_core (W : World) (r : Rw) (p1 : Option Addr) (c1 : Nat) (p2 : Option Addr) (c2 : Nat) (h1 : IsTexts W Any (.slice p1 r.starts.length c1) r.starts) (h2 : IsDefs W Any (.slice p2 r.defs.length c2) r.defs) (hl : r.defs.length ≤ 4294967296)
    (KA0 : ∀ w, Calls Try.prog 4 #[] w fun e w' => e = .returned (.bool true) ∧ Hid (Below w.heap.size w w'))
    (KN0 : ∀ (k : Int) (w : World), Calls Try.prog 6 #[.int .i64 k] w fun e w' => e = .returned (.int .i64 k) ∧ w' = w)
    (KB0 : ∀ (V : World), IsTexts V Any (.slice p1 r.starts.length c1) r.starts → IsDefs V Any (.slice p2 r.defs.length c2) r.defs → Calls Try.prog 5 #[.agg #[.slice p1 r.starts.length c1, .slice p2 r.defs.length c2]] V fun e w' => ∃ (g : Gr) (q1 : Option Addr) (d1 : Nat) (q2 : Option Addr) (d2 : Nat) (n : ByteArray) (k : Nat), e = .returned (.tuple #[.agg #[.int .i64 g.start, .slice q1 g.names.length d1, .slice q2 g.rules.length d2], .string n, .int .i64 (k : Int)]) ∧ Hid (TellQ r g n k) ∧ Hid (GrIs w' Any (.slice q1 g.names.length d1) (.slice q2 g.rules.length d2) g) ∧ Hid (Below V.heap.size V w') ∧
      Hid (k = 0 → (∀ (V' : World) (a b : Value), GrIs V' Any a b g → Calls Try.prog 7 #[.agg #[.int .i64 g.start, a, b]] V' fun e w'' => e = .returned (.bool true) ∧ Hid (Below V'.heap.size V' w'')) ∧ (∀ (V' : World) (a b : Value), GrIs V' Any a b g → Calls Try.prog 8 #[.agg #[.int .i64 g.start, a, b]] V' fun e w'' => e = .returned (.bool true) ∧ Hid (Below V'.heap.size V' w'')))) :
    Calls Try.prog 3 #[.agg #[.slice p1 r.starts.length c1, .slice p2 r.defs.length c2]] W fun e W' => e = .returned (.bool true) ∧ Below W.heap.size W W' := by
  have KA := hid_ofK KA0
  have KN := hid_ofK KN0
  have KB := hid_ofK KB0
  have H1 := hid_ofK h1
  have H2 := hid_ofK h2
  clear KA0 KN0 KB0 h1 h2
  go_enter Try.func3, Try.ntmps3
  go_upto_region 5 with (first
    | (go_at_call 4; refine (KA.out _).mono ?_; rintro e w1 ⟨rfl, b1⟩
       have x0 : w1.cell? ⟨W.heap.size, 0, none⟩ = some (.slice p1 r.starts.length c1) := (b1.out.cell (p := ⟨W.heap.size, 0, none⟩) (by simp)).trans (World.cell?_alloc_at _ _ _ _ rfl)
       have x1 : w1.cell? ⟨W.heap.size, 1, none⟩ = some (.slice p2 r.defs.length c2) := (b1.out.cell (p := ⟨W.heap.size, 1, none⟩) (by simp)).trans (World.cell?_alloc_at _ _ _ _ rfl)
       have HB1 : Hid (Below W.heap.size W w1) := (bel1 W _).trans (b1.out.mono (le_alloc _ _))
       have hl1 : Hid (W.heap.size < w1.heap.size) := by have := b1.out.size; simp at this; show _ < _; omega)
    | (go_at_call 5; refine (KB.out _ (H1.out.any HB1.out) (H2.out.any HB1.out)).mono ?_; rintro e w2 ⟨g, q1, d1, q2, d2, n, k, rfl, HQ, HG, b2, HM⟩
       have y0 : w2.cell? ⟨W.heap.size, 0, none⟩ = some (.slice p1 r.starts.length c1) := (b2.out.cell (p := ⟨W.heap.size, 0, none⟩) hl1.out).trans x0
       have y1 : w2.cell? ⟨W.heap.size, 1, none⟩ = some (.slice p2 r.defs.length c2) := (b2.out.cell (p := ⟨W.heap.size, 1, none⟩) hl1.out).trans x1
       have HB2 : Hid (Below W.heap.size W w2) := HB1.out.trans (b2.out.mono HB1.out.size)
       have hl2 : Hid (W.heap.size < w2.heap.size) := Nat.lt_of_lt_of_le hl1.out b2.out.size))
  obtain ⟨rb, hrb⟩ : ∃ x, x = W.heap.size := ⟨_, rfl⟩
  obtain ⟨gb, hgb⟩ : ∃ x, x = w2.heap.size := ⟨_, rfl⟩
  have HT0 : Hid (Tw W r (.slice p1 r.starts.length c1) (.slice p2 r.defs.length c2) rb gb g (.slice q1 g.names.length d1) (.slice q2 g.rules.length d2) (w2.alloc (.cells #[.int .i64 g.start, .slice q1 g.names.length d1, .slice q2 g.rules.length d2] 29))) := by
    have hb := bel1 w2 (.cells #[.int .i64 g.start, .slice q1 g.names.length d1, .slice q2 g.rules.length d2] 29)
    rw [hrb, hgb]
    exact ⟨(hb.cell (p := ⟨W.heap.size, 0, none⟩) hl2.out).trans y0, (hb.cell (p := ⟨W.heap.size, 1, none⟩) hl2.out).trans y1, Nat.lt_of_lt_of_le hl2.out hb.size, (H1.out.any HB2.out).any hb, (H2.out.any HB2.out).any hb, World.cell?_alloc_at _ _ _ _ rfl, World.cell?_alloc_at _ _ _ _ rfl, World.cell?_alloc_at _ _ _ _ rfl, by simp, HG.out.any hb, HB2.out.trans (hb.mono HB2.out.size)⟩
  obtain ⟨X, hX⟩ : ∃ x, x = w2.alloc (.cells #[.int .i64 g.start, .slice q1 g.names.length d1, .slice q2 g.rules.length d2] 29) := ⟨_, rfl⟩
  rw [← hX] at HT0 ⊢
  rw [← hgb, ← hrb]
  clear hX hgb hrb y0 y1 HB2 hl2 x0 x1 HB1 hl1 HG b1 b2
  go_wp2
  go_loopw [6, 7] (fun xk xi wr => ∃ (i : Nat), i ≤ r.defs.length ∧ xi = .int .i64 (i : Int) ∧ xk = .int .i64 ((cntT n ((namesT r.defs).take i) : Nat) : Int) ∧ Hid (Tw W r (.slice p1 r.starts.length c1) (.slice p2 r.defs.length c2) rb gb g (.slice q1 g.names.length d1) (.slice q2 g.rules.length d2) wr)) (fun _ x _ => r.defs.length - (intOf x).toNat)
  case atStart => exact ⟨0, Nat.zero_le _, rfl, rfl, HT0⟩
  case round =>
    clear HT0
    obtain ⟨i, hi, rfl, rfl, HT⟩ := hrel
    obtain ⟨V, hV⟩ : ∃ x, x = wr := ⟨_, rfl⟩
    subst hV
    have x1 := HT.out.x1
    by_cases hlt : i < r.defs.length
    · --SA
      have hltI : (i : Int) < (r.defs.length : Int) := by omega
      obtain ⟨_, gg, o, s, hp2, hc, hs⟩ := defs_name HT.out.ds hlt
      have HC1 := hid_ofK (cntT_take n (namesT r.defs) i s hs)
      have HCL := hid_ofK (cntT_le n ((namesT r.defs).take i))
      have hcl : cntT n ((namesT r.defs).take i) ≤ i := by have := HCL.out; rw [List.length_take] at this; omega
      subst hp2
      by_cases he : s = n
      · have hd : (s.toList == n.toList) = true := by rw [he, beq_iff_eq]
        have HC2 : Hid (cntT n ((namesT r.defs).take (i + 1)) = cntT n ((namesT r.defs).take i) + 1) := by show _ = _; rw [HC1.out, if_pos he]
        obtain ⟨m, hm⟩ : ∃ m, m = cntT n ((namesT r.defs).take i) := ⟨_, rfl⟩
        rw [← hm] at HC2 hcl ⊢
        clear HC1 HCL hm
        go_wp2
        go_roundw
        case rel => exact ⟨i + 1, by omega, by go_num, by rw [HC2.out]; go_num, HT⟩
        case measure => simp [intOf]; omega
      · have hd : (s.toList == n.toList) = false := by rw [beq_eq_false_iff_ne]; exact fun h => he (ba_inj h)
        have HC2 : Hid (cntT n ((namesT r.defs).take (i + 1)) = cntT n ((namesT r.defs).take i)) := by show _ = _; rw [HC1.out, if_neg he]; rfl
        obtain ⟨m, hm⟩ : ∃ m, m = cntT n ((namesT r.defs).take i) := ⟨_, rfl⟩
        rw [← hm] at HC2 hcl ⊢
        clear HC1 HCL hm
        go_wp2
        go_roundw
        case rel => exact ⟨i + 1, by omega, by go_num, by rw [HC2.out], HT⟩
        case measure => simp [intOf]; omega
    · --SB
      have hltI : ¬ (i : Int) < (r.defs.length : Int) := by omega
      have hie : i = r.defs.length := by omega
      have e : (namesT r.defs).take i = namesT r.defs := List.take_of_length_le (by rw [hie]; unfold namesT; rw [List.length_map]; omega)
      rw [e]
      obtain ⟨m, hm⟩ : ∃ m, m = cntT n (namesT r.defs) := ⟨_, rfl⟩
      have HQ2 := HQ.out
      unfold TellQ at HQ2
      rw [← hm] at HQ2 ⊢
      clear e hm
      rcases HQ2 with ⟨rfl, rfl, h1, h2, st, h3, s, h4, h5⟩ | ⟨rfl, h1⟩ | ⟨rfl, h1, rfl⟩ | ⟨rfl, h1⟩ | ⟨rfl, h1⟩ | ⟨rfl, rfl⟩
      · --SC
        obtain ⟨KM1, KM2⟩ := HM.out rfl
        rw [h3] at KM1 KM2
        have KM1 := hid_ofK KM1
        have KM2 := hid_ofK KM2
        obtain ⟨ga, oa, hq1, hca⟩ := texts_at HT.out.gr.1 h4
        obtain ⟨gc, oc, hp1, hcc⟩ := texts_at HT.out.ts h5
        subst hq1 hp1
        have H4 := hid_ofK h4
        have H5 := hid_ofK h5
        have hst : st < g.names.length := (List.getElem?_eq_some_iff.1 h4).1
        have hstI : (st : Int) < (g.names.length : Int) := by omega
        have hstI2 : (st : Int) < (r.defs.length : Int) := by omega
        have hst0 : (0 : Int) ≤ (st : Int) := by omega
        have h1I : (r.starts.length : Int) = 1 := by omega
        have h2I : (g.names.length : Int) = (r.defs.length : Int) := by omega
        have HS : Hid (∀ w', Below V.heap.size V w' → Below V.heap.size V w' ∧ w'.cell? ⟨rb, 0, none⟩ = some (.slice (some ⟨gc, oc, none⟩) r.starts.length c1) ∧ w'.cell? ⟨rb, 1, none⟩ = some (.slice p2 r.defs.length c2) ∧ w'.cell? ⟨gb, 0, none⟩ = some (.int .i64 (st : Int)) ∧ w'.cell? ⟨gb, 1, none⟩ = some (.slice (some ⟨ga, oa, none⟩) g.names.length d1) ∧ w'.cell? ⟨gb, 2, none⟩ = some (.slice q2 g.rules.length d2) ∧ w'.cell? ⟨ga, oa + st, none⟩ = some (.string s) ∧ w'.cell? ⟨gc, oc, none⟩ = some (.string s)) := fun w' hb => by
          have T := HT.out.keep hb
          have t0 := T.g0
          rw [h3] at t0
          have nc := texts_cell T.ts h5
          rw [Nat.add_zero] at nc
          exact ⟨hb, T.x0, T.x1, t0, T.g1, T.g2, texts_cell T.gr.1 h4, nc⟩
        have HGR := hid_ofK HT.out.gr
        have HBV := hid_ofK HT.out.bl
        clear h4 h5 hca hcc HM h3 HT KB KA H4 H5 HQ h1 h2
        go_wp2_with (go_at_call 6; refine (KN.out _ _).mono ?_; rintro e wn ⟨rfl, rfl⟩)
        obtain ⟨V, hV⟩ : ∃ x, x = wn := ⟨_, rfl⟩
        subst hV
        go_region_held3 (fun w' => Below V.heap.size V w' ∧ w'.cell? ⟨rb, 0, none⟩ = some (.slice (some ⟨gc, oc, none⟩) r.starts.length c1) ∧ w'.cell? ⟨rb, 1, none⟩ = some (.slice p2 r.defs.length c2) ∧ w'.cell? ⟨gb, 0, none⟩ = some (.int .i64 (st : Int)) ∧ w'.cell? ⟨gb, 1, none⟩ = some (.slice (some ⟨ga, oa, none⟩) g.names.length d1) ∧ w'.cell? ⟨gb, 2, none⟩ = some (.slice q2 g.rules.length d2) ∧ w'.cell? ⟨ga, oa + st, none⟩ = some (.string s) ∧ w'.cell? ⟨gc, oc, none⟩ = some (.string s))
          ((refine HS.out _ ?_; (repeat' (first | with_reducible assumption | with_reducible exact Below.refl _ _ | with_reducible apply Below.drew))))
          (first
            | (go_at_call 7; refine (KM1.out _ _ _ (HGR.out.any (by repeat' (first | exact Below.refl _ _ | apply Below.drew)))).mono ?_; rintro e w3 ⟨rfl, b3⟩; have b4 : Below V.heap.size V w3 := Below.trans (b := V.drew) (Below.refl _ _).drew b3.out)
            | (go_at_call 8; refine (KM2.out _ _ _ (HGR.out.any b4)).mono ?_; rintro e w4 ⟨rfl, b5⟩; have b6 : Below V.heap.size V w4 := Below.trans (b := w3) b4 (b5.out.mono b4.size)))
        go_wp2
        go_ret
        exact ⟨rfl, HBV.out.trans (b6.mono HBV.out.size)⟩
      · have h1I : (1 : Int) < (m : Int) := by omega
        go_wp2_with (go_at_call 6; refine (KN.out _ _).mono ?_; rintro e wn ⟨rfl, rfl⟩)
        go_ret
        exact ⟨rfl, HT.out.bl⟩
      · have h1I : ¬ (r.starts.length : Int) = 1 := by omega
        have x0 := HT.out.x0
        go_wp2_with (go_at_call 6; refine (KN.out _ _).mono ?_; rintro e wn ⟨rfl, rfl⟩)
        go_ret
        refine ⟨?_, HT.out.bl⟩
        first | rfl | (simp [h1I]; done) | (simp; omega)
      · subst h1
        go_wp2_with (go_at_call 6; refine (KN.out _ _).mono ?_; rintro e wn ⟨rfl, rfl⟩)
        go_ret
        exact ⟨rfl, HT.out.bl⟩
      · subst h1
        go_wp2_with (go_at_call 6; refine (KN.out _ _).mono ?_; rintro e wn ⟨rfl, rfl⟩)
        go_ret
        exact ⟨rfl, HT.out.bl⟩
      · go_wp2_with (go_at_call 6; refine (KN.out _ _).mono ?_; rintro e wn ⟨rfl, rfl⟩)
        go_ret
        exact ⟨rfl, HT.out.bl⟩
end Go.Proofs.Ytopnhbgialbicaa
