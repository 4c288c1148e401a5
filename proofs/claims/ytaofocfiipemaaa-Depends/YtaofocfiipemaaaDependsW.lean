import Derived.Test.YtaofocfiipemaaaDepStd
import Derived.Test.YtaofocfiipemaaaCopyGrW
import Derived.Test.YtaofocfiipemaaaRefEdg
import Derived.Test.YtaofocfiipemaaaGramSame
/- SpoilEdges of templelaw0: writes over a row of edges, and over nothing else. -/
namespace Go.Proofs.Ytaofocfiipemaaa
set_option linter.unusedVariables false
open Go.ChangeShapes Go.WideShapes Go.ChangeAt Go.RowKit

/-- From w to w' blocks of F alone were written to. -/
structure Spoils (F : Nat → Prop) (w w' : World) : Prop where
  os : w'.os = w.os
  tape : w'.tape = w.tape
  output : w'.output = w.output
  size : w.heap.size ≤ w'.heap.size
  block : ∀ i, i < w.heap.size → ¬ F i → w'.heap[i]? = w.heap[i]?
set_option maxHeartbeats 4000000 in
set_option maxRecDepth 100000 in
theorem spoilEds_any (v : Value) (l : List Ed) (w : World) {F : Nat → Prop} (h : IsEds w F v l) : Calls Try.prog 20 #[v] w fun e w' => e = .returned (.tuple #[]) ∧ Hid (Spoils F w w') := by
  obtain ⟨p, cp, hv, hm, hc⟩ := h
  subst hv
  have hm2 := hm.1
  unfold maxLen at hm2
  obtain ⟨n, hn⟩ : ∃ n, n = l.length := ⟨_, rfl⟩
  have HC : Hid (0 < n → ∃ g o, p = some ⟨g, o, none⟩ ∧ F g ∧ ∀ j, j < n → ∃ z, w.cell? ⟨g, o + j * 3, none⟩ = some (.int .i64 z) ∧ w.frozen? ⟨g, o + j * 3, none⟩ = false) := fun h0 => by
    obtain ⟨g, o, e, hF, _, cc, ff⟩ := hc (by omega)
    refine ⟨g, o, e, hF, fun j hj => ?_⟩
    obtain ⟨x, hx⟩ : ∃ x, l[j]? = some x := ⟨_, List.getElem?_eq_getElem (by omega)⟩
    exact ⟨_, cc _ _ (edsV_at l j x hx).1, ff _ (by rw [edsV_length]; omega)⟩
  rw [← hn] at hm2 ⊢
  clear hc hm hn
  go_enter Try.func20, Try.ntmps20
  go_wp2
  go_loopw [2] (fun i wr => ∃ k : Nat, k ≤ n ∧ i = .int .i64 k ∧ Hid (Spoils F w wr) ∧ Hid (0 < n → ∃ g o, p = some ⟨g, o, none⟩ ∧ F g ∧ ∀ j, k ≤ j → j < n → ∃ z, wr.cell? ⟨g, o + j * 3, none⟩ = some (.int .i64 z) ∧ wr.frozen? ⟨g, o + j * 3, none⟩ = false)) (fun i _ => n - (intOf i).toNat)
  case atStart => exact ⟨0, Nat.zero_le _, rfl, ⟨rfl, rfl, rfl, Nat.le_refl _, fun _ _ _ => rfl⟩, fun h0 => by obtain ⟨g, o, e, hF, hh⟩ := HC.out h0; exact ⟨g, o, e, hF, fun j _ hj => hh j hj⟩⟩
  case round =>
    obtain ⟨k, hk, rfl, HS, HK⟩ := hrel
    by_cases hlt : k < n
    · obtain ⟨g, o, hp, hF, hh⟩ := HK.out (by omega)
      subst hp
      obtain ⟨z, c0, f0⟩ := hh k (Nat.le_refl _) hlt
      have HH : Hid (F g ∧ ∀ j, k ≤ j → j < n → ∃ z, wr.cell? ⟨g, o + j * 3, none⟩ = some (.int .i64 z) ∧ wr.frozen? ⟨g, o + j * 3, none⟩ = false) := ⟨hF, hh⟩
      clear hF hh
      go_wp2
      go_roundw
      case rel =>
        refine ⟨k + 1, by omega, by go_num, ⟨HS.out.os, HS.out.tape, HS.out.output, by have := HS.out.size; simpa [World.setCell] using this, fun i hi hn => ?_⟩, fun _ => ⟨g, o, rfl, HH.out.1, fun j hj hjn => ?_⟩⟩
        · exact (Below.heap_setCell _ _ _ _ (fun e => hn (by rw [e]; exact HH.out.1))).trans (HS.out.block i hi hn)
        · obtain ⟨z2, c2, f2⟩ := HH.out.2 j (by omega) hjn
          refine ⟨z2, ?_, ?_⟩
          · rw [World.cell?_setCell_other _ _ _ _ (fun e => by injection e with _ e2; omega)]; exact c2
          · rw [World.frozen?_setCell]; exact f2
      case measure => simp [intOf]; omega
    · obtain rfl : k = n := by omega
      go_wp2
      go_end0
      exact ⟨rfl, HS⟩
end Go.Proofs.Ytaofocfiipemaaa
/- Depends, walked. -/
namespace Go.Proofs.Ytaofocfiipemaaa
set_option linter.unusedVariables false
open Go.ChangeShapes Go.WideShapes Go.ChangeAt Go.RowKit

theorem hidD_mk {p : Prop} (h : p) : Hid p := h
theorem box3_at {w w1 : World} {a b c : Value} {t : TypeId} (hb : Below (w.alloc (.cells #[a, b, c] t)).heap.size (w.alloc (.cells #[a, b, c] t)) w1) : w1.cell? ⟨w.heap.size, 0, none⟩ = some a ∧ w1.cell? ⟨w.heap.size, 1, none⟩ = some b ∧ w1.cell? ⟨w.heap.size, 2, none⟩ = some c ∧ w.heap.size < w1.heap.size ∧ Below w.heap.size w w1 := by
  have hz := hb.size
  simp at hz
  exact ⟨(hb.cell (p := ⟨_, _, none⟩) (by simp)).trans (World.cell?_alloc_at _ _ _ _ rfl), (hb.cell (p := ⟨_, _, none⟩) (by simp)).trans (World.cell?_alloc_at _ _ _ _ rfl), (hb.cell (p := ⟨_, _, none⟩) (by simp)).trans (World.cell?_alloc_at _ _ _ _ rfl), by omega, (bel1 w _).trans (hb.mono (bel1 w _).size)⟩
theorem edges_argZ (g : Gr) (v1 v2 : Value) (w : World) {F : Nat → Prop} (hg : GrIs w F v1 v2 g) (hn : ∀ s, s ∈ g.names → s.size ≤ maxLen ∧ s.size ≤ reachBytes) (hz : GSz reachBytes g) :
    Calls Try.prog 15 #[.agg #[.int .i64 g.start, v1, v2]] w fun e w' => ∃ v, e = .returned (.tuple #[v, .int .i64 (if mayG g then 0 else 600)]) ∧ Hid (IsEds w' (fun i => w.heap.size ≤ i ∧ i < w'.heap.size) v (if mayG g then edgesT g else [])) ∧ Hid (Below w.heap.size w w') := by
  have hS : Short g.rules := fun r hr c hc => by have := (hz.2.2 r hr).2 c hc; unfold reachBytes at this; omega
  cases hM : mayG g with
  | true => exact (edges_ok g v1 v2 w hg (fun s h => (hn s h).1) hS hM).mono fun e w' ⟨v, h1, h2, h3⟩ => ⟨v, h1, Reads.low h2.out (fun b e1 e2 => ⟨e1, e2⟩), h3⟩
  | false => exact (edges_no g v1 v2 w hg (fun s h => (hn s h).1) hS hM).mono fun e w' ⟨h1, h2⟩ => ⟨_, h1, eds_nil _ _, h2⟩
theorem refEdges_arg (g : Gr) (v1 v2 : Value) (w : World) {F : Nat → Prop} (hg : GrIs w F v1 v2 g) (hn : ∀ s, s ∈ g.names → s.size ≤ maxLen ∧ s.size ≤ reachBytes) :
    Calls Try.prog 16 #[.agg #[.int .i64 g.start, v1, v2]] w fun e w' => ∃ v, e = .returned (.tuple #[v, .int .i64 (if mayG g then 0 else 600)]) ∧ Hid (IsEds w' (fun i => w.heap.size ≤ i) v (if mayG g then edgesT g else [])) ∧ Hid (Below w.heap.size w w') := by
  cases hM : mayG g with
  | true => exact refEdges_ok g v1 v2 w hg (fun s h => (hn s h).1) hM
  | false => exact (refEdges_no g v1 v2 w hg (fun s h => (hn s h).1) hM).mono fun e w' ⟨h1, h2⟩ => ⟨_, h1, eds_nil _ _, h2⟩
theorem edgesX_len (g : Gr) : (if mayG g then edgesT g else []).length ≤ 100000000 := by
  cases hM : mayG g with
  | false => simp
  | true =>
    have h1 := allE_len hM
    have h2 := addAll_len (allE g.rules) []
    have h3 := (sort_perm (addAll [] (allE g.rules))).length_eq
    simp only [if_true]
    unfold edgesT
    simp only [List.length_nil] at h2
    omega
theorem spoil_parts {w wa wb we wf : World} {n : Nat} {L : List Ed} {vb u1 u2 : Value} {g : Gr} {Fx : Nat → Prop} (hW : w.heap.size < wa.heap.size) (hn : n = wa.heap.size + 1) (hb : n ≤ wb.heap.size) (HE : Below w.heap.size w we) (hbe : wb.heap.size ≤ we.heap.size) (sp : Spoils (fun i => n ≤ i ∧ i < wb.heap.size) we wf)
    (gx : GrIs we Fx u1 u2 g) (hFx : ∀ i, Fx i → i < wa.heap.size) (ib : IsEds we (fun i => wb.heap.size ≤ i) vb L) :
    Below w.heap.size w wf ∧ GrIs wf Fx u1 u2 g ∧ IsEds wf (fun i => wb.heap.size ≤ i) vb L ∧ ∀ j, wf.cell? ⟨wa.heap.size, j, none⟩ = we.cell? ⟨wa.heap.size, j, none⟩ := by
  have hz := HE.size
  have st : Stay Fx we wf := ⟨sp.size, fun i hi => sp.block i (by have := hFx i hi; omega) (fun h => by have := hFx i hi; omega)⟩
  refine ⟨HE.trans ⟨sp.os, sp.tape, sp.output, sp.size, fun i hi => sp.block i (by omega) (fun h => by omega)⟩, ⟨Reads.keep gx.1 st (fun _ h => h), gx.2.keep st (fun _ h => h)⟩, ?_, fun j => ?_⟩
  · have i2 : IsEds we (fun i => wb.heap.size ≤ i ∧ i < we.heap.size) vb L := Reads.low ib (fun b h1 h2 => ⟨h1, h2⟩)
    have st2 : Stay (fun i => wb.heap.size ≤ i ∧ i < we.heap.size) we wf := ⟨sp.size, fun i hi => sp.block i hi.2 (fun h => by omega)⟩
    exact Reads.keep i2 st2 (fun _ h => h.1)
  · unfold World.cell?
    rw [sp.block wa.heap.size (by omega) (fun h => by omega)]
set_option maxHeartbeats 16000000 in
set_option maxRecDepth 100000 in
theorem depends_walk (W : World) (g : Gr) (v1 v2 : Value) (ga : GrIs W Any v1 v2 g) (gn : ∀ s, s ∈ g.names → s.size ≤ maxLen ∧ s.size ≤ reachBytes) (gz : g.names.length * 16 ≤ reachBytes ∧ g.rules.length * 32 ≤ reachBytes ∧ ∀ r, r ∈ g.rules → r.conj.length * 32 ≤ reachBytes ∧ ∀ c, c ∈ r.conj → c.seq.length * 24 ≤ reachBytes) (w0 : (Lit.int .i64 g.start).wf = true) :
    Calls Try.prog 3 #[.agg #[.int .i64 g.start, v1, v2]] W fun e W' => e = .returned (.bool true) ∧ Below W.heap.size W W' := by
  have gz' : GSz reachBytes g := gz
  have KC : Hid (∀ w2, Below W.heap.size W w2 → Calls Try.prog 14 #[.agg #[.int .i64 g.start, v1, v2]] w2 fun e w' => ∃ u1 u2, e = .returned (.agg #[.int .i64 g.start, u1, u2]) ∧ Hid (GrIs w' (fun i => w2.heap.size ≤ i ∧ i < w'.heap.size) u1 u2 g) ∧ Hid (Below w2.heap.size w2 w')) := fun w2 hb => (copyGr_any g v1 v2 w2 (ga.any hb) gz').mono fun e w' ⟨u1, u2, h1, h2, h3⟩ => ⟨u1, u2, h1, ⟨Reads.low h2.out.1 (fun b e1 e2 => ⟨e1, e2⟩), IsRus.low h2.out.2 (fun b e1 e2 => ⟨e1, e2⟩)⟩, h3⟩
  obtain ⟨L, hL⟩ : ∃ L, L = (if mayG g then edgesT g else []) := ⟨_, rfl⟩
  obtain ⟨E, hE⟩ : ∃ E : Int, E = (if mayG g then 0 else 600) := ⟨_, rfl⟩
  have KE : Hid (∀ (u1 u2 : Value) (F : Nat → Prop) w2, GrIs w2 F u1 u2 g → Calls Try.prog 15 #[.agg #[.int .i64 g.start, u1, u2]] w2 fun e w' => ∃ v, e = .returned (.tuple #[v, .int .i64 E]) ∧ Hid (IsEds w' (fun i => w2.heap.size ≤ i ∧ i < w'.heap.size) v L) ∧ Hid (Below w2.heap.size w2 w')) := fun u1 u2 F w2 hg => by rw [hL, hE]; exact edges_argZ g u1 u2 w2 hg gn gz'
  have KR : Hid (∀ w2, Below W.heap.size W w2 → Calls Try.prog 16 #[.agg #[.int .i64 g.start, v1, v2]] w2 fun e w' => ∃ v, e = .returned (.tuple #[v, .int .i64 E]) ∧ Hid (IsEds w' (fun i => w2.heap.size ≤ i) v L) ∧ Hid (Below w2.heap.size w2 w')) := fun w2 hb => by rw [hL, hE]; exact refEdges_arg g v1 v2 w2 (ga.any hb) gn
  have hLl : L.length ≤ 100000000 := by rw [hL]; exact edgesX_len g
  obtain ⟨p1, c1, l1, hv1⟩ : ∃ p n c, v1 = .slice p n c := by obtain ⟨p, c, e, _⟩ := ga.1; exact ⟨_, _, _, e⟩
  obtain ⟨p2, c2, hv2⟩ := ga.2.slc
  subst hv1 hv2
  have HGA : Hid (GrIs W Any (.slice p1 c1 l1) (.slice p2 g.rules.length c2) g) := ga
  have HLL : Hid (L.length ≤ 100000000) := hLl
  obtain ⟨n, hn⟩ : ∃ n, n = g.rules.length := ⟨_, rfl⟩
  rw [← hn] at KC KR HGA ⊢
  have KSG : Hid (∀ (a1 a2 b1 b2 : Value) (w2 : World) (Fa Fb : Nat → Prop), GrIs w2 Fa a1 a2 g → GrIs w2 Fb b1 b2 g → Calls Try.prog 19 #[.agg #[.int .i64 g.start, a1, a2], .agg #[.int .i64 g.start, b1, b2]] w2 fun e w' => e = .returned (.bool true) ∧ Hid (Below w2.heap.size w2 w')) := fun a1 a2 b1 b2 w2 Fa Fb h1 h2 => sameGram_yes g a1 a2 b1 b2 w2 h1 h2
  clear ga gn gz gz' w0 hL hE hLl hn
  go_enter Try.func3, Try.ntmps3
  go_wp2_with (first
    | (go_at_call 14; refine (KC.out _ (bel1 _ _)).mono ?_; rintro e wa ⟨u1, u2, rfl, gx, ba⟩; obtain ⟨x0, x1, x2, xs, hbw⟩ := box3_at ba.out; have HA : Hid (Below W.heap.size W wa) := hbw; obtain ⟨q1, d1, m1, hu1⟩ : ∃ p n c, u1 = .slice p n c := (by obtain ⟨p, c, e, _⟩ := gx.out.1; exact ⟨_, _, _, e⟩); obtain ⟨q2, d2, hu2⟩ := gx.out.2.slc; subst hu1 hu2; clear ba hbw)
    | (go_at_call 15; first
      | (have hh := HF; clear hh; refine (KE.out _ _ _ _ GX2.out).mono ?_; rintro e wg ⟨vc, rfl, ic, bg⟩; have HG : Hid (Below W.heap.size W wg) := HF.out.trans (bg.out.mono HF.out.size); have IB2 : Hid (IsEds wg _ vb L) := IBf.out.any bg.out; clear bg)
      | (refine (KE.out _ _ _ _ (gx.out.any (bel1 _ _))).mono ?_; rintro e wb ⟨va, rfl, ia, bb⟩; obtain ⟨y0, y1, y2, ys, hbw⟩ := box3_at bb.out; have HB : Hid (Below W.heap.size W wb) := HA.out.trans (hbw.mono HA.out.size); have HAB : Hid (Below wa.heap.size wa wb) := hbw; have z0 := (hbw.cell (p := ⟨W.heap.size, 0, none⟩) xs).trans x0; have z1 := (hbw.cell (p := ⟨W.heap.size, 1, none⟩) xs).trans x1; have z2 := (hbw.cell (p := ⟨W.heap.size, 2, none⟩) xs).trans x2; have zs : W.heap.size < wb.heap.size := Nat.lt_trans xs ys; have hXb : Hid (wa.heap.size + 1 ≤ wb.heap.size) := ys; have YY : Hid (wb.cell? ⟨wa.heap.size, 0, none⟩ = _ ∧ wb.cell? ⟨wa.heap.size, 1, none⟩ = _ ∧ wb.cell? ⟨wa.heap.size, 2, none⟩ = _) := ⟨y0, y1, y2⟩; clear x0 x1 x2 bb hbw))
    | (go_at_call 16; refine (KR.out _ HB.out).mono ?_; rintro e wc ⟨vb, rfl, ib, bc⟩; have HC : Hid (Below W.heap.size W wc) := HB.out.trans (bc.out.mono HB.out.size); have HBC : Hid (Below wb.heap.size wb wc) := bc.out)
    | (go_at_call 17; first
      | (have hh := HG; clear hh; refine (sameEds_yes _ _ L _ ic.out IB2.out HLL.out).mono ?_; rintro e wh ⟨rfl, bh⟩; have HH : Hid (Below W.heap.size W wh) := HG.out.trans (bh.out.mono HG.out.size))
      | (refine (sameEds_yes _ _ L _ (ia.out.any bc.out) ib.out HLL.out).mono ?_; rintro e wd ⟨rfl, bd⟩; have HD : Hid (Below W.heap.size W wd) := HC.out.trans (bd.out.mono HC.out.size); have HBD : Hid (Below wb.heap.size wb wd) := HBC.out.trans (bd.out.mono HBC.out.size); have IBd : Hid (IsEds wd _ vb L) := ib.out.any bd.out; have a0 := (HBD.out.cell (p := ⟨W.heap.size, 0, none⟩) zs).trans z0; have a1 := (HBD.out.cell (p := ⟨W.heap.size, 1, none⟩) zs).trans z1; have a2 := (HBD.out.cell (p := ⟨W.heap.size, 2, none⟩) zs).trans z2; have b0 := (HBD.out.cell (p := ⟨wa.heap.size, 0, none⟩) ys).trans y0; have b1 := (HBD.out.cell (p := ⟨wa.heap.size, 1, none⟩) ys).trans y1; have b2 := (HBD.out.cell (p := ⟨wa.heap.size, 2, none⟩) ys).trans y2; clear z0 z1 z2 y0 y1 y2 bc bd))
    | (go_at_call 18; refine (num_any _ _).mono ?_; rintro e wn ⟨rfl, rfl⟩)
    | (go_at_call 19; refine (KSG.out _ _ _ _ _ _ _ (gx.out.any (HAB.out.trans (HBD.out.mono HAB.out.size))) (HGA.out.any HD.out)).mono ?_; rintro e we ⟨rfl, be⟩; have HE : Hid (Below W.heap.size W we) := HD.out.trans (be.out.mono HD.out.size); have HBE : Hid (Below wb.heap.size wb we) := HBD.out.trans (be.out.mono HBD.out.size); have IBe : Hid (IsEds we _ vb L) := IBd.out.any be.out; have e0 := (HBE.out.cell (p := ⟨wa.heap.size, 0, none⟩) ys).trans YY.out.1; have e1 := (HBE.out.cell (p := ⟨wa.heap.size, 1, none⟩) ys).trans YY.out.2.1; have e2 := (HBE.out.cell (p := ⟨wa.heap.size, 2, none⟩) ys).trans YY.out.2.2; clear a0 a1 a2 b0 b1 b2 be)
    | (go_at_call 20; refine (spoilEds_any _ L _ (ia.out.any HBE.out)).mono ?_; rintro e wf ⟨rfl, sp⟩; obtain ⟨hf1, hf2, hf3, hf4⟩ := spoil_parts (n := (wa.alloc _).heap.size) xs (by simp) (by simpa using hXb.out) HE.out HBE.out.size sp.out (gx.out.any (HAB.out.trans (HBE.out.mono HAB.out.size))) (fun i h => h.2) IBe.out; have HF : Hid (Below W.heap.size W wf) := hf1; have GX2 : Hid (GrIs wf _ _ _ g) := hf2; have IBf : Hid (IsEds wf _ vb L) := hf3; have k0 := (hf4 0).trans e0; have k1 := (hf4 1).trans e1; have k2 := (hf4 2).trans e2; clear hf1 hf2 hf3 hf4 sp)
    | (go_at_call 21; refine (awake6_any _).mono ?_; rintro e wi ⟨rfl, bi⟩))
  go_ret
  exact ⟨rfl, HH.out.trans (bi.mono HH.out.size)⟩
end Go.Proofs.Ytaofocfiipemaaa
