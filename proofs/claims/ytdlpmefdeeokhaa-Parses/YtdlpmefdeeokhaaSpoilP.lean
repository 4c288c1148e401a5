/- SpoilRaw of templelaw0: writes over what was declared, and over nothing else. -/
import Derived.Test.YtdlpmefdeeokhaaSpoilG
import Derived.Test.YtdlpmefdeeokhaaNoteParse
import Derived.Test.YtdlpmefdeeokhaaNoteSame
namespace Go.Proofs.Ytdlpmefdeeokhaa
set_option linter.unusedVariables false
set_option linter.unusedSimpArgs false
open Go.ChangeShapes Go.WideShapes Go.ChangeAt Go.RowKit

set_option maxHeartbeats 2000000 in
set_option maxRecDepth 100000 in
theorem spoilIts_any (p : Option Addr) (n cp : Nat) (w : World) {F : Nat → Prop} (hn : n ≤ 9223372036854775807) (h : 0 < n → ∃ g o, p = some ⟨g, o, none⟩ ∧ F g ∧ ∀ j, j < n → ∃ z, w.cell? ⟨g, o + j * 4, none⟩ = some (.int .i64 z) ∧ w.frozen? ⟨g, o + j * 4, none⟩ = false) : Calls Try.prog 17 #[.slice p n cp] w fun e w' => e = .returned (.tuple #[]) ∧ Hid (Sp F w w') := by
  have HC : Hid (0 < n → ∃ g o, p = some ⟨g, o, none⟩ ∧ F g ∧ ∀ j, j < n → ∃ z, w.cell? ⟨g, o + j * 4, none⟩ = some (.int .i64 z) ∧ w.frozen? ⟨g, o + j * 4, none⟩ = false) := h
  clear h
  go_enter Try.func17, Try.ntmps17
  go_wp2
  go_loopw [2] (fun i wr => ∃ k : Nat, k ≤ n ∧ i = .int .i64 k ∧ Hid (Sp F w wr) ∧ Hid (0 < n → ∃ g o, p = some ⟨g, o, none⟩ ∧ F g ∧ ∀ j, k ≤ j → j < n → ∃ z, wr.cell? ⟨g, o + j * 4, none⟩ = some (.int .i64 z) ∧ wr.frozen? ⟨g, o + j * 4, none⟩ = false)) (fun i _ => n - (intOf i).toNat)
  case atStart => exact ⟨0, Nat.zero_le _, rfl, Sp.refl _ _, fun h0 => by obtain ⟨g, o, e, hF, hh⟩ := HC.out h0; exact ⟨g, o, e, hF, fun j _ hj => hh j hj⟩⟩
  case round =>
    obtain ⟨k, hk, rfl, HS, HK⟩ := hrel
    by_cases hlt : k < n
    · obtain ⟨g, o, hp, hF, hh⟩ := HK.out (by omega)
      subst hp
      obtain ⟨z, c0, f0⟩ := hh k (Nat.le_refl _) hlt
      have HH : Hid (F g ∧ ∀ j, k ≤ j → j < n → ∃ z, wr.cell? ⟨g, o + j * 4, none⟩ = some (.int .i64 z) ∧ wr.frozen? ⟨g, o + j * 4, none⟩ = false) := ⟨hF, hh⟩
      have HST : Hid (∀ z2, Sp F w (wr.setCell ⟨g, o + k * 4, none⟩ (.int .i64 z2))) := fun z2 => HS.out.trans (Sp.set hF c0 (Or.inr (Or.inl ⟨_, _, rfl, rfl⟩)))
      clear hF hh
      go_wp2
      go_roundw
      case rel =>
        refine ⟨k + 1, by omega, by go_num, HST.out _, fun _ => ⟨g, o, rfl, HH.out.1, fun j hj hjn => ?_⟩⟩
        obtain ⟨z2, c2, f2⟩ := HH.out.2 j (by omega) hjn
        refine ⟨z2, ?_, ?_⟩
        · rw [World.cell?_setCell_other _ _ _ _ (fun e => by injection e with _ e2; omega)]; exact c2
        · rw [World.frozen?_setCell]; exact f2
      case measure => simp [intOf]; omega
    · obtain rfl : k = n := by omega
      go_wp2
      go_end0
      exact ⟨rfl, HS⟩
theorem readsP {w : World} {F : Nat → Prop} {p : Option Addr} {n c : Nat} {cs : List Value} (h : Reads w F (.slice p n c) n cs) (h0 : 0 < n) : ∃ g o, p = some ⟨g, o, none⟩ ∧ F g ∧ g < w.heap.size ∧ (∀ j x, cs[j]? = some x → w.cell? ⟨g, o + j, none⟩ = some x) ∧ ∀ j, j < cs.length → w.frozen? ⟨g, o + j, none⟩ = false := by
  obtain ⟨p2, c2, e2, _, hc⟩ := h
  injection e2 with e3
  subst e3
  exact hc h0
theorem readsP_slc {w : World} {F : Nat → Prop} {v : Value} {n : Nat} {cs : List Value} (h : Reads w F v n cs) : ∃ p c, v = .slice p n c ∧ n ≤ maxLen := by
  obtain ⟨p, c, e, hm, _⟩ := h
  exact ⟨p, c, e, hm.1⟩
theorem readsP_low {w : World} {F G : Nat → Prop} {v : Value} {n : Nat} {cs : List Value} (h : Reads w F v n cs) (hG : ∀ b, F b → b < w.heap.size → G b) : Reads w G v n cs := by
  obtain ⟨p, c, e, hm, hc⟩ := h
  refine ⟨p, c, e, hm, fun h0 => ?_⟩
  obtain ⟨g, o, e1, hF, hg, h2⟩ := hc h0
  exact ⟨g, o, e1, hG g hF hg, hg, h2⟩
theorem rawP_low {w : World} {F G : Nat → Prop} {v1 v2 : Value} {r : Rw} (h : RawIs w F v1 v2 r) (hG : ∀ b, F b → b < w.heap.size → G b) : RawIs w G v1 v2 r := by
  refine ⟨readsP_low h.1 hG, ?_⟩
  obtain ⟨vs, h1, h2, h3⟩ := h.2
  refine ⟨vs, readsP_low h1 hG, h2, fun k d u e1 e2 => ?_⟩
  obtain ⟨ws, k1, k2, k3⟩ := h3 k d u e1 e2
  refine ⟨ws, readsP_low k1 hG, k2, fun j a x e3 e4 => ?_⟩
  obtain ⟨ys, l1, l2, l3⟩ := k3 j a x e3 e4
  exact ⟨ys, readsP_low l1 hG, l2, fun m c y e5 e6 => readsP_low (l3 m c y e5 e6) hG⟩
theorem RawIs.anyP {w w' : World} {F : Nat → Prop} {v1 v2 : Value} {r : Rw} (h : RawIs w F v1 v2 r) (hb : Below w.heap.size w w') : RawIs w' F v1 v2 r := ⟨h.1.any hb, h.2.any hb⟩
set_option maxHeartbeats 4000000 in
set_option maxRecDepth 100000 in
theorem spoilRaw_any (r : Rw) (v1 v2 : Value) (w : World) {F : Nat → Prop} (hr : RawIs w F v1 v2 r) (hs : ∀ s, s ∈ r.starts → s.size ≤ 9000000000000000000) :
    Calls Try.prog 8 #[.agg #[v1, v2]] w fun e w' => e = .returned (.tuple #[]) ∧ Hid (Sp F w w') := by
  obtain ⟨W1, hW1⟩ : ∃ W1, W1 = w.alloc (.cells #[v1, v2] 25) := ⟨_, rfl⟩
  have hb1 : Below w.heap.size w W1 := by rw [hW1]; exact bel1 _ _
  obtain ⟨G, hG⟩ : ∃ G : Nat → Prop, G = fun i => F i ∧ i < w.heap.size := ⟨_, rfl⟩
  have HRA : Hid (RawIs W1 G v1 v2 r) := (rawP_low hr (fun b h1 h2 => by rw [hG]; exact ⟨h1, h2⟩)).anyP hb1
  obtain ⟨p1, c1, hv1, -⟩ := readsP_slc hr.1
  obtain ⟨vs, hr1, hr2, hr3⟩ := HRA.out.2
  obtain ⟨p2, c2, hv2, hl2⟩ := readsP_slc hr1
  obtain ⟨N, hN⟩ : ∃ N, N = r.defs.length := ⟨_, rfl⟩
  have HN : Hid (N = r.defs.length) := hN
  rw [← hN] at hv2 hl2
  have hN9 : N ≤ 9223372036854775807 := by unfold maxLen at hl2; omega
  have KT := spoilTexts_any v1 r.starts W1 HRA.out.1 hs
  have hq : ∀ j, W1.cell? ⟨w.heap.size, j, none⟩ = (#[v1, v2] : Array Value)[j]? := fun j => by rw [hW1]; exact World.cell?_alloc_at _ _ _ _ rfl
  obtain ⟨gb, hgb⟩ : ∃ gb, gb = w.heap.size := ⟨_, rfl⟩
  subst hv1
  have HQ : Hid (∀ w', Sp G W1 w' → w'.cell? ⟨gb, 0, none⟩ = some (.slice p1 r.starts.length c1) ∧ w'.cell? ⟨gb, 1, none⟩ = some (.slice p2 N c2)) := fun w' hb => by rw [hgb]; exact ⟨hb.slc (hq 0), hb.slc ((hq 1).trans (by rw [hv2]; rfl))⟩
  have HDW : Hid (∀ (i : Nat) (w' : World), i < N → Sp G W1 w' → ∃ (g1 o1 : Nat) (p3 : Option Addr) (c3 : Nat) (al : List (List Cj)), p2 = some ⟨g1, o1, none⟩ ∧ w'.cell? ⟨g1, o1 + i * 2 + 1, none⟩ = some (.slice p3 al.length c3) ∧ al.length ≤ 9223372036854775807 ∧ Hid (IsAlts W1 G (.slice p3 al.length c3) al) ∧ Hid (∀ w'', Sp G W1 w'' → w''.cell? ⟨g1, o1 + i * 2 + 1, none⟩ = some (.slice p3 al.length c3))) := fun i w' hi hb => by
    obtain ⟨d, hd⟩ : ∃ d, r.defs[i]? = some d := ⟨_, List.getElem?_eq_getElem (by rw [← HN.out]; exact hi)⟩
    obtain ⟨u, hu⟩ : ∃ u, vs[i]? = some u := ⟨_, List.getElem?_eq_getElem (by rw [hr2, ← HN.out]; exact hi)⟩
    have ia := hr3 i d u hd hu
    obtain ⟨ws, k1, k2, k3⟩ := id ia
    obtain ⟨p3, c3, hu3, hl3⟩ := readsP_slc k1
    subst hu3
    rw [hv2, ← HN.out] at hr1
    obtain ⟨g1, o1, e1, hF1, hg1, cc, ff⟩ := readsP hr1 (by omega)
    have a1 : W1.cell? ⟨g1, o1 + i * 2 + 1, none⟩ = some (.slice p3 d.alts.length c3) := by rw [Nat.add_assoc]; exact cc _ _ (dfsV_at r.defs vs i d _ hd hu).2
    exact ⟨g1, o1, p3, c3, d.alts, e1, hb.slc a1, by unfold maxLen at hl3; omega, ia, fun w'' h => h.slc a1⟩
  have HAW : Hid (∀ (p3 : Option Addr) (c3 : Nat) (al : List (List Cj)) (j : Nat) (w' : World), IsAlts W1 G (.slice p3 al.length c3) al → j < al.length → Sp G W1 w' → ∃ (g3 o3 : Nat) (p4 : Option Addr) (c4 : Nat) (cs : List Cj), p3 = some ⟨g3, o3, none⟩ ∧ w'.cell? ⟨g3, o3 + j, none⟩ = some (.slice p4 cs.length c4) ∧ cs.length ≤ 9223372036854775807 ∧ Hid (IsCjs W1 G (.slice p4 cs.length c4) cs) ∧ Hid (∀ w'', Sp G W1 w'' → w''.cell? ⟨g3, o3 + j, none⟩ = some (.slice p4 cs.length c4))) := fun p3 c3 al j w' ia hj hb => by
    obtain ⟨ws, k1, k2, k3⟩ := ia
    obtain ⟨a, ha⟩ : ∃ a, al[j]? = some a := ⟨_, List.getElem?_eq_getElem hj⟩
    obtain ⟨u, hu⟩ : ∃ u, ws[j]? = some u := ⟨_, List.getElem?_eq_getElem (by rw [k2]; exact hj)⟩
    have ic := k3 j a u ha hu
    obtain ⟨ys, l1, l2, l3⟩ := id ic
    obtain ⟨p4, c4, hu4, hl4⟩ := readsP_slc l1
    subst hu4
    obtain ⟨g3, o3, e1, hF1, hg1, cc, ff⟩ := readsP k1 (by omega)
    have a1 : W1.cell? ⟨g3, o3 + j, none⟩ = some (.slice p4 a.length c4) := cc _ _ hu
    exact ⟨g3, o3, p4, c4, a, e1, hb.slc a1, by unfold maxLen at hl4; omega, ic, fun w'' h => h.slc a1⟩
  have HCW : Hid (∀ (p4 : Option Addr) (c4 : Nat) (cs : List Cj) (k : Nat) (w' : World), IsCjs W1 G (.slice p4 cs.length c4) cs → k < cs.length → Sp G W1 w' → ∃ (g5 o5 : Nat) (p6 : Option Addr) (S c6 : Nat), p4 = some ⟨g5, o5, none⟩ ∧ w'.cell? ⟨g5, o5 + k * 2 + 1, none⟩ = some (.slice p6 S c6) ∧ Calls Try.prog 17 #[.slice p6 S c6] w' fun e w'' => e = .returned (.tuple #[]) ∧ Hid (Sp G w' w'')) := fun p4 c4 cs k w' ic hk hb => by
    obtain ⟨ys, l1, l2, l3⟩ := ic
    obtain ⟨c, hc⟩ : ∃ c, cs[k]? = some c := ⟨_, List.getElem?_eq_getElem hk⟩
    obtain ⟨u, hu⟩ : ∃ u, ys[k]? = some u := ⟨_, List.getElem?_eq_getElem (by rw [l2]; exact hk)⟩
    have ii := l3 k c u hc hu
    obtain ⟨p6, c6, hu6, hl6⟩ := readsP_slc ii
    subst hu6
    obtain ⟨g5, o5, e1, hF1, hg1, cc, ff⟩ := readsP l1 (by omega)
    have a1 : W1.cell? ⟨g5, o5 + k * 2 + 1, none⟩ = some (.slice p6 c.items.length c6) := by rw [Nat.add_assoc]; exact cc _ _ (cjsV_at cs ys k c _ hc hu).2
    refine ⟨g5, o5, p6, c.items.length, c6, e1, hb.slc a1, spoilIts_any p6 c.items.length c6 w' (by unfold maxLen at hl6; omega) fun h0 => ?_⟩
    obtain ⟨g7, o7, e7, hF7, hg7, c7, f7⟩ := readsP ii h0
    refine ⟨g7, o7, e7, hF7, fun j hj => ?_⟩
    obtain ⟨x, hx⟩ : ∃ x, c.items[j]? = some x := ⟨_, List.getElem?_eq_getElem hj⟩
    have h1 := (itsV_at c.items j x hx).1
    obtain ⟨u5, k3, k4⟩ := hb.like _ _ _ (c7 _ _ h1)
    obtain ⟨z5, rfl⟩ := k4.int
    exact ⟨z5, k3, (hb.froz _ _ hg7).trans (f7 _ (List.getElem?_eq_some_iff.1 h1).1)⟩
  have HFIN : Hid (∀ w', Sp G W1 w' → Sp F w w') := fun w' h => (Sp.of hb1).trans (h.mono fun i hi => by rw [hG] at hi; exact hi.1)
  obtain ⟨m, hm⟩ : ∃ m, m = r.starts.length := ⟨_, rfl⟩
  rw [← hm] at HQ KT hW1 ⊢
  obtain ⟨q1, q2⟩ := HQ.out W1 (Sp.refl _ _)
  rw [hgb] at q1 q2
  subst hv2
  clear hr hs HRA hb1 hq hN hl2 hm hr1 hr2 hr3 hG
  go_enter Try.func8, Try.ntmps8
  go_upto_region 2 with (go_at_call 16; rw [← hW1]; refine KT.mono ?_; rintro e w2 ⟨rfl, HS2⟩)
  rw [← hgb]
  clear hW1 q1 q2 KT hgb
  go_wp2
  go_loopw [2] (fun z wr => ∃ i : Nat, i ≤ N ∧ z = .int .i64 i ∧ Hid (Sp G W1 wr)) (fun z _ => N - (intOf z).toNat)
  case atStart => exact ⟨0, Nat.zero_le _, rfl, HS2⟩
  case round =>
    clear HS2
    obtain ⟨i, hi, rfl, HS⟩ := hrel
    obtain ⟨q1, q2⟩ := HQ.out wr HS.out
    by_cases hlt : i < N
    · obtain ⟨g1, o1, p3, c3, al, hp, a1, hl3, IA, A1⟩ := HDW.out i wr hlt HS.out
      subst hp
      obtain ⟨nA, hnA⟩ : ∃ x, x = al.length := ⟨_, rfl⟩
      have HNA : Hid (nA = al.length) := hnA
      rw [← hnA] at a1 hl3 A1
      clear hnA
      have hltI : (i : Int) < (N : Int) := by omega
      go_wp2
      go_loopw [3] (fun z wr => ∃ j : Nat, j ≤ nA ∧ z = .int .i64 j ∧ Hid (Sp G W1 wr)) (fun z _ => nA - (intOf z).toNat)
      case atStart => exact ⟨0, Nat.zero_le _, rfl, HS⟩
      case round =>
        clear HS a1 q1 q2
        obtain ⟨j, hj, rfl, HS⟩ := hrel
        obtain ⟨V, hV⟩ : ∃ x, x = wr := ⟨_, rfl⟩
        subst hV
        obtain ⟨q1, q2⟩ := HQ.out V HS.out
        have a1 := A1.out V HS.out
        by_cases hlj : j < nA
        · obtain ⟨g3, o3, p4, c4, cs, hp4, b1, hl4, IC, B1⟩ := HAW.out p3 c3 al j V IA.out (by rw [← HNA.out]; exact hlj) HS.out
          subst hp4
          obtain ⟨nC, hnC⟩ : ∃ x, x = cs.length := ⟨_, rfl⟩
          have HNC : Hid (nC = cs.length) := hnC
          rw [← hnC] at b1 hl4 B1
          clear hnC
          have hljI : (j : Int) < (nA : Int) := by omega
          go_wp2
          go_loopw [4] (fun z wr => ∃ k : Nat, k ≤ nC ∧ z = .int .i64 k ∧ Hid (Sp G W1 wr)) (fun z _ => nC - (intOf z).toNat)
          case atStart => exact ⟨0, Nat.zero_le _, rfl, HS⟩
          case round =>
            clear HS a1 q1 q2 b1
            obtain ⟨k, hk, rfl, HS⟩ := hrel
            obtain ⟨V2, hV2⟩ : ∃ x, x = wr := ⟨_, rfl⟩
            subst hV2
            obtain ⟨q1, q2⟩ := HQ.out V2 HS.out
            have a1 := A1.out V2 HS.out
            have b1 := B1.out V2 HS.out
            by_cases hlk : k < nC
            · obtain ⟨g5, o5, p6, S, c6, hp6, d1, KI⟩ := HCW.out p4 c4 cs k V2 IC.out (by rw [← HNC.out]; exact hlk) HS.out
              subst hp6
              have hlkI : (k : Int) < (nC : Int) := by omega
              go_wp2_with (go_at_call 17; refine KI.mono ?_; rintro e w3 ⟨rfl, h3⟩)
              go_roundw
              case rel => exact ⟨k + 1, by omega, by go_num, HS.out.trans h3.out⟩
              case measure => simp [intOf]; omega
            · obtain rfl : k = nC := by omega
              have hlkI : ¬ (k : Int) < (k : Int) := by omega
              go_wp2
              go_roundw
              case rel => exact ⟨j + 1, by omega, by go_num, HS⟩
              case measure => simp [intOf]; omega
        · obtain rfl : j = nA := by omega
          have hljI : ¬ (j : Int) < (j : Int) := by omega
          go_wp2
          go_roundw
          case rel => exact ⟨i + 1, by omega, by go_num, HS⟩
          case measure => simp [intOf]; omega
    · obtain rfl : i = N := by omega
      have hltI : ¬ (i : Int) < (i : Int) := by omega
      go_wp2
      go_end0
      exact ⟨rfl, HFIN.out _ HS.out⟩
end Go.Proofs.Ytdlpmefdeeokhaa
