/- Rests, walked. -/
import Derived.Test.YtdhjegajbhlmbaaSeqA
namespace Go.Proofs.Ytdhjegajbhlmbaa
set_option linter.unusedVariables false
open Go.ChangeShapes Go.WideShapes Go.ChangeAt Go.RowKit

theorem box3P {w w1 : World} {a b c : Value} {t : TypeId} (hb : Below (w.alloc (.cells #[a, b, c] t)).heap.size (w.alloc (.cells #[a, b, c] t)) w1) : w1.cell? ⟨w.heap.size, 0, none⟩ = some a ∧ w1.cell? ⟨w.heap.size, 1, none⟩ = some b ∧ w1.cell? ⟨w.heap.size, 2, none⟩ = some c ∧ w.heap.size < w1.heap.size ∧ Below w.heap.size w w1 := by
  have hz := hb.size
  simp at hz
  exact ⟨(hb.cell (p := ⟨_, _, none⟩) (by simp)).trans (World.cell?_alloc_at _ _ _ _ rfl), (hb.cell (p := ⟨_, _, none⟩) (by simp)).trans (World.cell?_alloc_at _ _ _ _ rfl), (hb.cell (p := ⟨_, _, none⟩) (by simp)).trans (World.cell?_alloc_at _ _ _ _ rfl), by omega, (bel1 w _).trans (hb.mono (bel1 w _).size)⟩
theorem spoil_partsP {w wa wb we wf : World} {n : Nat} {L : List Plc} {vb u1 u2 : Value} {g : Gr} {Fx : Nat → Prop} (hW : w.heap.size < wa.heap.size) (hn : n = wa.heap.size + 1) (hb : n ≤ wb.heap.size) (HE : Below w.heap.size w we) (hbe : wb.heap.size ≤ we.heap.size) (sp : SpoilsP (fun i => n ≤ i ∧ i < wb.heap.size) we wf)
    (gx : GrIs we Fx u1 u2 g) (hFx : ∀ i, Fx i → i < wa.heap.size) (ib : IsPls we (fun i => wb.heap.size ≤ i) vb L) :
    Below w.heap.size w wf ∧ GrIs wf Fx u1 u2 g ∧ IsPls wf (fun i => wb.heap.size ≤ i) vb L ∧ ∀ j, wf.cell? ⟨wa.heap.size, j, none⟩ = we.cell? ⟨wa.heap.size, j, none⟩ := by
  have hz := HE.size
  have st : Stay Fx we wf := ⟨sp.size, fun i hi => sp.block i (by have := hFx i hi; omega) (fun h => by have := hFx i hi; omega)⟩
  refine ⟨HE.trans ⟨sp.os, sp.tape, sp.output, sp.size, fun i hi => sp.block i (by omega) (fun h => by omega)⟩, ⟨Reads.keep gx.1 st (fun _ h => h), gx.2.keep st (fun _ h => h)⟩, ?_, fun j => ?_⟩
  · have i2 : IsPls we (fun i => wb.heap.size ≤ i ∧ i < we.heap.size) vb L := Reads.low ib (fun b h1 h2 => ⟨h1, h2⟩)
    have st2 : Stay (fun i => wb.heap.size ≤ i ∧ i < we.heap.size) we wf := ⟨sp.size, fun i hi => sp.block i hi.2 (fun h => by omega)⟩
    exact Reads.keep i2 st2 (fun _ h => h.1)
  · unfold World.cell?
    rw [sp.block wa.heap.size (by omega) (fun h => by omega)]
set_option maxHeartbeats 16000000 in
set_option maxRecDepth 100000 in
theorem rests_walk (W : World) (g : Gr) (v1 v2 : Value) (ga : GrIs W Any v1 v2 g) (gn : ∀ s, s ∈ g.names → s.size ≤ maxLen ∧ s.size ≤ reachBytes) (gz : g.names.length * 16 ≤ reachBytes ∧ g.rules.length * 32 ≤ reachBytes ∧ ∀ r, r ∈ g.rules → r.conj.length * 32 ≤ reachBytes ∧ ∀ c, c ∈ r.conj → c.seq.length * 24 ≤ reachBytes) (w0 : (Lit.int .i64 g.start).wf = true) :
    Calls Try.prog 3 #[.agg #[.int .i64 g.start, v1, v2]] W fun e W' => e = .returned (.bool true) ∧ Below W.heap.size W W' := by
  have gz' : GSz reachBytes g := gz
  have hS : Short g.rules := fun r hr c hc => by have := (gz'.2.2 r hr).2 c hc; unfold reachBytes at this; omega
  have hn0 : ∀ s, s ∈ g.names → s.size ≤ maxLen := fun s h => (gn s h).1
  have KC : Hid (∀ w2, Below W.heap.size W w2 → Calls Try.prog 5 #[.agg #[.int .i64 g.start, v1, v2]] w2 fun e w' => ∃ u1 u2, e = .returned (.agg #[.int .i64 g.start, u1, u2]) ∧ Hid (GrIs w' (fun i => w2.heap.size ≤ i ∧ i < w'.heap.size) u1 u2 g) ∧ Hid (Below w2.heap.size w2 w')) := fun w2 hb => (copyGr_any g v1 v2 w2 (ga.any hb) gz').mono fun e w' ⟨u1, u2, h1, h2, h3⟩ => ⟨u1, u2, h1, ⟨Reads.low h2.out.1 (fun b e1 e2 => ⟨e1, e2⟩), IsRus.low h2.out.2 (fun b e1 e2 => ⟨e1, e2⟩)⟩, h3⟩
  obtain ⟨L, hL⟩ : ∃ L, L = plL g := ⟨_, rfl⟩
  obtain ⟨E, hE⟩ : ∃ E : Int, E = plE g := ⟨_, rfl⟩
  have KE : Hid (∀ (u1 u2 : Value) (F : Nat → Prop) w2, GrIs w2 F u1 u2 g → Calls Try.prog 6 #[.agg #[.int .i64 g.start, u1, u2]] w2 fun e w' => ∃ p c, e = .returned (.tuple #[.slice p L.length c, .int .i64 E]) ∧ Hid (IsPls w' (fun i => w2.heap.size ≤ i ∧ i < w'.heap.size) (.slice p L.length c) L) ∧ Hid (Below w2.heap.size w2 w')) := fun u1 u2 F w2 hg => by rw [hL, hE]; exact places_arg g u1 u2 w2 hg hn0 hS
  have KK : Hid (∀ (u1 u2 : Value) (F : Nat → Prop) w2, GrIs w2 F u1 u2 g → Calls Try.prog 10 #[.agg #[.int .i64 g.start, u1, u2]] w2 fun e w' => e = .returned (.int .i64 (L.length : Int)) ∧ Hid (Below w2.heap.size w2 w')) := fun u1 u2 F w2 hg => by rw [hL]; exact count_arg g u1 u2 w2 hg hn0 hS
  have KR : Hid (∀ w2, Below W.heap.size W w2 → Calls Try.prog 7 #[.agg #[.int .i64 g.start, v1, v2]] w2 fun e w' => ∃ p c, e = .returned (.tuple #[.slice p L.length c, .int .i64 E]) ∧ Hid (IsPls w' (fun i => w2.heap.size ≤ i) (.slice p L.length c) L) ∧ Hid (Below w2.heap.size w2 w')) := fun w2 hb => by rw [hL, hE]; exact refPlaces_arg g v1 v2 w2 (ga.any hb) hn0
  obtain ⟨p1, c1, l1, hv1⟩ : ∃ p n c, v1 = .slice p n c := by obtain ⟨p, c, e, _⟩ := ga.1; exact ⟨_, _, _, e⟩
  obtain ⟨p2, c2, hv2⟩ := lngR ga.2
  subst hv1 hv2
  have HGA : Hid (GrIs W Any (.slice p1 c1 l1) (.slice p2 g.rules.length c2) g) := ga
  obtain ⟨n, hn⟩ : ∃ n, n = g.rules.length := ⟨_, rfl⟩
  rw [← hn] at KC KR HGA ⊢
  have KSG : Hid (∀ (a1 a2 b1 b2 : Value) (w2 : World) (Fa Fb : Nat → Prop), GrIs w2 Fa a1 a2 g → GrIs w2 Fb b1 b2 g → Calls Try.prog 11 #[.agg #[.int .i64 g.start, a1, a2], .agg #[.int .i64 g.start, b1, b2]] w2 fun e w' => e = .returned (.bool true) ∧ Hid (Below w2.heap.size w2 w')) := fun a1 a2 b1 b2 w2 Fa Fb h1 h2 => sameGram_yes g a1 a2 b1 b2 w2 h1 h2
  obtain ⟨M, hM⟩ : ∃ M, M = L.length := ⟨_, rfl⟩
  rw [← hM] at KE KK KR
  clear ga gn gz gz' w0 hL hE hn hS hn0 hM
  go_enter Try.func3, Try.ntmps3
  go_wp2_with (first
    | (go_at_call 5; refine (KC.out _ (bel1 _ _)).mono ?_; rintro e wa ⟨u1, u2, rfl, gx, ba⟩; obtain ⟨x0, x1, x2, xs, hbw⟩ := box3P ba.out; have HA : Hid (Below W.heap.size W wa) := hbw; obtain ⟨q1, d1, m1, hu1⟩ : ∃ p n c, u1 = .slice p n c := (by obtain ⟨p, c, e, _⟩ := gx.out.1; exact ⟨_, _, _, e⟩); obtain ⟨q2, d2, hu2⟩ := lngR gx.out.2; subst hu1 hu2; clear ba hbw)
    | (go_at_call 6; first
      | (have hh := HF; clear hh; refine (KE.out _ _ _ _ GX2.out).mono ?_; rintro e wg ⟨pc, cc, rfl, ic, bg⟩; have HG : Hid (Below W.heap.size W wg) := HF.out.trans (bg.out.mono HF.out.size); have IB2 : Hid (IsPls wg _ _ L) := IBf.out.any bg.out; clear bg)
      | (refine (KE.out _ _ _ _ (gx.out.any (bel1 _ _))).mono ?_; rintro e wb ⟨pa, ca, rfl, ia, bb⟩; obtain ⟨y0, y1, y2, ys, hbw⟩ := box3P bb.out; have HB : Hid (Below W.heap.size W wb) := HA.out.trans (hbw.mono HA.out.size); have HAB : Hid (Below wa.heap.size wa wb) := hbw; have z0 := (hbw.cell (p := ⟨W.heap.size, 0, none⟩) xs).trans x0; have z1 := (hbw.cell (p := ⟨W.heap.size, 1, none⟩) xs).trans x1; have z2 := (hbw.cell (p := ⟨W.heap.size, 2, none⟩) xs).trans x2; have zs : W.heap.size < wb.heap.size := Nat.lt_trans xs ys; have hXb : Hid (wa.heap.size + 1 ≤ wb.heap.size) := ys; have YY : Hid (wb.cell? ⟨wa.heap.size, 0, none⟩ = _ ∧ wb.cell? ⟨wa.heap.size, 1, none⟩ = _ ∧ wb.cell? ⟨wa.heap.size, 2, none⟩ = _) := ⟨y0, y1, y2⟩; clear x0 x1 x2 bb hbw))
    | (go_at_call 7; refine (KR.out _ HB.out).mono ?_; rintro e wc ⟨pb, cb, rfl, ib, bc⟩; have HC : Hid (Below W.heap.size W wc) := HB.out.trans (bc.out.mono HB.out.size); have HBC : Hid (Below wb.heap.size wb wc) := bc.out)
    | (go_at_call 8; first
      | (have hh := HG; clear hh; refine (samePls_yes _ _ L _ ic.out IB2.out).mono ?_; rintro e wh ⟨rfl, bh⟩; have HH : Hid (Below W.heap.size W wh) := HG.out.trans (bh.out.mono HG.out.size))
      | (refine (samePls_yes _ _ L _ (ia.out.any bc.out) ib.out).mono ?_; rintro e wd ⟨rfl, bd⟩; have HD : Hid (Below W.heap.size W wd) := HC.out.trans (bd.out.mono HC.out.size); have HBD : Hid (Below wb.heap.size wb wd) := HBC.out.trans (bd.out.mono HBC.out.size); have IBd : Hid (IsPls wd _ _ L) := ib.out.any bd.out; have b0 := (HBD.out.cell (p := ⟨wa.heap.size, 0, none⟩) ys).trans y0; have b1 := (HBD.out.cell (p := ⟨wa.heap.size, 1, none⟩) ys).trans y1; have b2 := (HBD.out.cell (p := ⟨wa.heap.size, 2, none⟩) ys).trans y2; clear y0 y1 y2 bc bd))
    | (go_at_call 9; refine (num_any _ _).mono ?_; rintro e wn ⟨rfl, rfl⟩)
    | (go_at_call 10; refine (KK.out _ _ _ _ (gx.out.any (HAB.out.trans (HBD.out.mono HAB.out.size)))).mono ?_; rintro e wk ⟨rfl, bk⟩; have HK : Hid (Below W.heap.size W wk) := HD.out.trans (bk.out.mono HD.out.size); have HBK : Hid (Below wb.heap.size wb wk) := HBD.out.trans (bk.out.mono HBD.out.size); have IBk : Hid (IsPls wk _ _ L) := IBd.out.any bk.out; clear b0 b1 b2; have a0 := (HBK.out.cell (p := ⟨W.heap.size, 0, none⟩) zs).trans z0; have a1 := (HBK.out.cell (p := ⟨W.heap.size, 1, none⟩) zs).trans z1; have a2 := (HBK.out.cell (p := ⟨W.heap.size, 2, none⟩) zs).trans z2; have b0 := (HBK.out.cell (p := ⟨wa.heap.size, 0, none⟩) ys).trans YY.out.1; have b1 := (HBK.out.cell (p := ⟨wa.heap.size, 1, none⟩) ys).trans YY.out.2.1; have b2 := (HBK.out.cell (p := ⟨wa.heap.size, 2, none⟩) ys).trans YY.out.2.2; clear z0 z1 z2 bk)
    | (go_at_call 11; refine (KSG.out _ _ _ _ _ _ _ (gx.out.any (HAB.out.trans (HBK.out.mono HAB.out.size))) (HGA.out.any HK.out)).mono ?_; rintro e we ⟨rfl, be⟩; have HE : Hid (Below W.heap.size W we) := HK.out.trans (be.out.mono HK.out.size); have HBE : Hid (Below wb.heap.size wb we) := HBK.out.trans (be.out.mono HBK.out.size); have IBe : Hid (IsPls we _ _ L) := IBk.out.any be.out; have e0 := (HBE.out.cell (p := ⟨wa.heap.size, 0, none⟩) ys).trans YY.out.1; have e1 := (HBE.out.cell (p := ⟨wa.heap.size, 1, none⟩) ys).trans YY.out.2.1; have e2 := (HBE.out.cell (p := ⟨wa.heap.size, 2, none⟩) ys).trans YY.out.2.2; clear a0 a1 a2 b0 b1 b2 be)
    | (go_at_call 12; refine (spoilPls_any _ L _ (ia.out.any HBE.out)).mono ?_; rintro e wf ⟨rfl, sp⟩; obtain ⟨hf1, hf2, hf3, hf4⟩ := spoil_partsP (n := (wa.alloc _).heap.size) xs (by simp) (by simpa using hXb.out) HE.out HBE.out.size sp.out (gx.out.any (HAB.out.trans (HBE.out.mono HAB.out.size))) (fun i h => h.2) IBe.out; have HF : Hid (Below W.heap.size W wf) := hf1; have GX2 : Hid (GrIs wf _ _ _ g) := hf2; have IBf : Hid (IsPls wf _ _ L) := hf3; have k0 := (hf4 0).trans e0; have k1 := (hf4 1).trans e1; have k2 := (hf4 2).trans e2; clear hf1 hf2 hf3 hf4 sp)
    | (go_at_call 13; refine (awake10_any _).mono ?_; rintro e wi ⟨rfl, bi⟩))
  go_ret
  exact ⟨rfl, HH.out.trans (bi.out.mono HH.out.size)⟩
end Go.Proofs.Ytdhjegajbhlmbaa
