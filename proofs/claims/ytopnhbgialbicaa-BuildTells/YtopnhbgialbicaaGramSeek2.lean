/- The search for the first item that is wanted, with each of the three closures. -/
import Derived.Test.YtopnhbgialbicaaGramSeek
namespace Go.Proofs.Ytopnhbgialbicaa
set_option linter.unusedVariables false
open Go.ChangeShapes Go.WideShapes Go.ChangeAt Go.RowKit Go.Maps

theorem grown_new {W w : World} {row : Option Nat} (h : W.grownBy w row) (b j : Nat) (v : Value) (hb : W.heap.size ≤ b) : W.grownBy (w.setCell ⟨b, j, none⟩ v) row :=
  ⟨h.1, h.2, h.3, by have := h.size; simpa [World.setCell] using this, fun i hi hne => (Go.Deep.blk_setCell_other w ⟨b, j, none⟩ v i (by show i ≠ b; omega)).trans (h.block i hi hne)⟩
theorem grown_new4 {W w : World} {row : Option Nat} (h : W.grownBy w row) {b : Nat} {v0 v1 v2 v3 : Value} (hb : W.heap.size ≤ b) : W.grownBy ((((w.setCell ⟨b, 0, none⟩ v0).setCell ⟨b, 1, none⟩ v1).setCell ⟨b, 2, none⟩ v2).setCell ⟨b, 3, none⟩ v3) row := grown_new (grown_new (grown_new (grown_new h b 0 v0 hb) b 1 v1 hb) b 2 v2 hb) b 3 v3 hb
theorem grown_drew {W w : World} {row : Option Nat} (h : W.grownBy w row) : W.grownBy w.drew row := ⟨h.1, h.2, h.3, h.size, h.block⟩
set_option maxRecDepth 100000 in
set_option maxHeartbeats 8000000 in
theorem findName {σ : Type} (stop : σ → It → Bool) (step : σ → It → σ) (Inv : σ → World → Prop) (row : Option Nat) (B cb : Nat) (W : World)
    (hC : ∀ s w i, Inv s w → i.text.size ≤ 140737488355328 → Calls Try.prog 27 #[itA i, .pointer (some ⟨cb, 0, none⟩)] w fun e w' => e = .returned (.bool (stop s i)) ∧ w.grownBy w' row ∧ (stop s i = false → Inv (step s i) w'))
    (hK : ∀ s w w', Inv s w → Below w.heap.size w w' → Inv s w') (hr : ∀ b, row = some b → B ≤ b ∧ b < W.heap.size) (hB : B ≤ W.heap.size)
    (v : Value) (l : List Df) (hd : IsDefs W (fun b => b < B) v l) (hT : Fit l) (s0 : σ) (h0 : Inv s0 W) :
    Calls Try.prog 26 #[v, .func (.func 27) #[] #[.pointer (some ⟨cb, 0, none⟩)]] W fun e w' => e = .returned (retF (findS stop step s0 (flat l))) ∧ W.grownBy w' row := by
  have HC : Hid (∀ s w i, Inv s w → i.text.size ≤ 140737488355328 → Calls Try.prog 27 #[itA i, .pointer (some ⟨cb, 0, none⟩)] w fun e w' => e = .returned (.bool (stop s i)) ∧ w.grownBy w' row ∧ (stop s i = false → Inv (step s i) w')) := hC
  have HK : Hid (∀ s w w', Inv s w → Below w.heap.size w w' → Inv s w') := hK
  have HF : Hid (Fit l) := hT
  have HB : Hid (B ≤ W.heap.size ∧ ∀ b, row = some b → B ≤ b ∧ b < W.heap.size) := ⟨hB, hr⟩
  clear hC hK hT hr hB
  obtain ⟨us, ⟨p, cp, rfl, hm, hca⟩, hla, hia⟩ := hd
  replace hm := hm.1
  unfold maxLen at hm
  have HA : Hid (0 < l.length → ∃ g o, p = some ⟨g, o, none⟩ ∧ g < B ∧ g < W.heap.size ∧ (∀ j c, (dfsV l us)[j]? = some c → W.cell? ⟨g, o + j, none⟩ = some c) ∧ ∀ j, j < ((dfsV l us)).length → W.frozen? ⟨g, o + j, none⟩ = false) := hca
  have IA : Hid (us.length = l.length ∧ ∀ (k : Nat) (c : Df) (u : Value), l[k]? = some c → us[k]? = some u → IsAlts W (fun b => b < B) u c.alts) := ⟨hla, hia⟩
  clear hca hla hia
  obtain ⟨R, hR⟩ : ∃ R, R = findS stop step s0 (flat l) := ⟨_, rfl⟩
  have HR : Hid (findS stop step s0 (flat l) = R) := hR.symm
  rw [← hR]
  clear hR
  have H0 : Hid (Inv s0 W) := h0
  clear h0
  have QF : ∀ (j g : Nat) (v : Value) (w' : World), g < B → W.grownBy w' row → W.cell? ⟨g, j, none⟩ = some v → w'.cell? ⟨g, j, none⟩ = some v := fun j g v w' hg hw h => hw.cell h (fun e => by have := (HB.out.2 g e.symm).1; omega)
  have QQ : Hid (∀ (j g : Nat) (v : Value) (w' : World), g < B → W.grownBy w' row → W.cell? ⟨g, j, none⟩ = some v → w'.cell? ⟨g, j, none⟩ = some v) := QF
  clear QF
  go_enter Try.func26, Try.ntmps26
  go_wp2
  have T0 : W.grownBy (W.alloc (.cells #[.int .i64 0, .string ⟨#[]⟩, .int .i64 0, .int .i64 0] 40)) row := World.grownBy_alloc _ _ _
  have N0 : ∀ j, (W.alloc (.cells #[.int .i64 0, .string ⟨#[]⟩, .int .i64 0, .int .i64 0] 40)).cell? ⟨W.heap.size, j, none⟩ = (#[.int .i64 0, .string ⟨#[]⟩, .int .i64 0, .int .i64 0] : Array Value)[j]? := fun j => World.cell?_alloc_at _ _ _ _ rfl
  have hWz : W.heap.size < (W.alloc (.cells #[.int .i64 0, .string ⟨#[]⟩, .int .i64 0, .int .i64 0] 40)).heap.size := by simp
  have HI1 : Hid (Inv s0 (W.alloc (.cells #[.int .i64 0, .string ⟨#[]⟩, .int .i64 0, .int .i64 0] 40))) := HK.out _ _ _ H0.out (bel1 _ _)
  have hRb : some W.heap.size ≠ row := fun e => by have := (HB.out.2 _ e.symm).2; omega
  have HRb : Hid (some W.heap.size ≠ row) := hRb
  have FZ : ∀ j, (W.alloc (.cells #[.int .i64 0, .string ⟨#[]⟩, .int .i64 0, .int .i64 0] 40)).frozen? ⟨W.heap.size, j, none⟩ = false := fun j => World.frozen?_alloc_at _ _ _ _ rfl
  have RB : Hid (∀ wr, (W.alloc (.cells #[.int .i64 0, .string ⟨#[]⟩, .int .i64 0, .int .i64 0] 40)).grownBy wr row → (wr.cell? ⟨W.heap.size, 0, none⟩ = some (.int .i64 0) ∧ wr.cell? ⟨W.heap.size, 1, none⟩ = some (.string ⟨#[]⟩) ∧ wr.cell? ⟨W.heap.size, 2, none⟩ = some (.int .i64 0) ∧ wr.cell? ⟨W.heap.size, 3, none⟩ = some (.int .i64 0)) ∧ (∀ j, wr.frozen? ⟨W.heap.size, j, none⟩ = false) ∧ W.heap.size < wr.heap.size) := fun wr hg =>
    ⟨⟨hg.cell (N0 0) hRb, hg.cell (N0 1) hRb, hg.cell (N0 2) hRb, hg.cell (N0 3) hRb⟩, fun j => gfro hg hWz (FZ j) hRb, Nat.lt_of_lt_of_le hWz hg.size⟩
  generalize hW1 : W.alloc (.cells #[.int .i64 0, .string ⟨#[]⟩, .int .i64 0, .int .i64 0] 40) = W1 at T0 N0 hWz HI1 FZ RB ⊢
  have HT0 : Hid (W.grownBy W1 row) := T0
  clear N0 hWz FZ hW1 T0 hRb
  go_loopw [17] (fun i wr => ∃ (k : Nat) (s : σ), k ≤ l.length ∧ i = .int .i64 k ∧ Hid (Inv s wr) ∧ Hid (W1.grownBy wr row) ∧ Hid (findS stop step s ((l.drop k).flatMap flatD) = R)) (fun i _ => l.length - (intOf i).toNat)
  case atStart => exact ⟨0, s0, by omega, rfl, HI1, World.grownBy.refl _ _, HR⟩
  case round =>
    obtain ⟨k, s, hk, rfl, HV, HG, HT⟩ := hrel
    by_cases hlt : k < l.length
    · obtain ⟨d, hd⟩ : ∃ t, l[k]? = some t := ⟨_, List.getElem?_eq_getElem hlt⟩
      obtain ⟨u, hu⟩ : ∃ u, us[k]? = some u := ⟨_, List.getElem?_eq_getElem (by rw [IA.out.1]; exact hlt)⟩
      obtain ⟨g1, o1, hp, hgB, hg1, ca, -⟩ := HA.out (by omega)
      subst hp
      obtain ⟨i0, i1⟩ := dfsV_at l us k d u hd hu
      have HG0 : Hid (W.grownBy wr row) := HT0.out.trans HG.out
      have a0 := QQ.out _ _ _ _ hgB HG0.out (ca _ _ i0)
      have a1 := QQ.out _ _ _ _ hgB HG0.out (reas (ca _ _ i1))
      have HT2 := HT.out
      rw [flat_drop hd] at HT2
      have HFd : Hid (∀ a, a ∈ d.alts → ∀ c, c ∈ a → ∀ i, i ∈ c.items → i.text.size ≤ 140737488355328) := HF.out d (List.mem_of_getElem? hd)
      obtain ⟨xs, ⟨q, cq, hx, hml, hcb⟩, hlb, hib⟩ := IA.out.2 k d u hd hu
      subst hx
      replace hml := hml.1
      unfold maxLen at hml
      obtain ⟨nm, al⟩ := d
      simp only at a0 a1 HT2 HFd hcb hlb hib hml
      have HX : Hid (findS stop step s (al.flatMap (flatA nm) ++ (l.drop (k + 1)).flatMap flatD) = R) := HT2
      have HA2 : Hid (0 < al.length → ∃ g o, q = some ⟨g, o, none⟩ ∧ g < B ∧ g < W.heap.size ∧ (∀ j c, xs[j]? = some c → W.cell? ⟨g, o + j, none⟩ = some c) ∧ ∀ j, j < (xs).length → W.frozen? ⟨g, o + j, none⟩ = false) := hcb
      have IA2 : Hid (xs.length = al.length ∧ ∀ (k : Nat) (c : List Cj) (u : Value), al[k]? = some c → xs[k]? = some u → IsCjs W (fun b => b < B) u c) := ⟨hlb, hib⟩
      clear hcb hlb hib HT2 ca hd hu hg1 i0 i1 hgB
      generalize hM1 : (l.drop (k + 1)).flatMap flatD = M1 at HX
      have HM1 : Hid ((l.drop (k + 1)).flatMap flatD = M1) := hM1
      clear hM1
      have HWs : Hid (W.heap.size ≤ wr.heap.size) := HG0.out.size
      go_wp2
      have D0 : (wr.alloc (.cells #[.string nm, .slice q al.length cq] 35)).cell? ⟨wr.heap.size, 0, none⟩ = some (.string nm) := World.cell?_alloc_at _ _ _ _ rfl
      have HGd : Hid (wr.grownBy (wr.alloc (.cells #[.string nm, .slice q al.length cq] 35)) row) := World.grownBy_alloc _ _ _
      have HVd : Hid (Inv s (wr.alloc (.cells #[.string nm, .slice q al.length cq] 35))) := HK.out _ _ _ HV.out (bel1 _ _)
      generalize wr.alloc (.cells #[.string nm, .slice q al.length cq] 35) = wd at D0 HGd HVd ⊢
      have HD0 : Hid (wd.cell? ⟨wr.heap.size, 0, none⟩ = some (.string nm)) := D0
      have HRd : Hid (some wr.heap.size ≠ row) := fun e => by have := (HB.out.2 _ e.symm).2; have := HWs.out; omega
      have HGW : Hid (W.grownBy wd row) := HG0.out.trans HGd.out
      have HG1 : Hid (W1.grownBy wd row) := HG.out.trans HGd.out
      clear D0 a0 a1
      go_loopw [24] (fun i wz => ∃ (k2 : Nat) (s2 : σ), k2 ≤ al.length ∧ i = .int .i64 k2 ∧ Hid (Inv s2 wz) ∧ Hid (wd.grownBy wz row) ∧ Hid (findS stop step s2 ((al.drop k2).flatMap (flatA nm) ++ M1) = R)) (fun i _ => al.length - (intOf i).toNat)
      case atStart => exact ⟨0, s, by omega, rfl, HVd, World.grownBy.refl _ _, HX⟩
      case round =>
        obtain ⟨k2, s2, hk2, rfl, HV2, HG2, HT2⟩ := hrel
        by_cases hlt2 : k2 < al.length
        · obtain ⟨a, hd⟩ : ∃ t, al[k2]? = some t := ⟨_, List.getElem?_eq_getElem hlt2⟩
          obtain ⟨u, hu⟩ : ∃ u, xs[k2]? = some u := ⟨_, List.getElem?_eq_getElem (by rw [IA2.out.1]; exact hlt2)⟩
          obtain ⟨g2, o2, hp, hgB, hg1, ca, -⟩ := HA2.out (by omega)
          subst hp
          have b0 := QQ.out _ _ _ _ hgB (HGW.out.trans HG2.out) (ca _ _ hu)
          have HT3 := HT2.out
          rw [flatD_drop hd] at HT3
          have HFa : Hid (∀ c, c ∈ a → ∀ i, i ∈ c.items → i.text.size ≤ 140737488355328) := HFd.out a (List.mem_of_getElem? hd)
          obtain ⟨ys, ⟨q3, c3, hx, hml3, hcb⟩, hlb, hib⟩ := IA2.out.2 k2 a u hd hu
          subst hx
          replace hml3 := hml3.1
          unfold maxLen at hml3
          generalize hM2 : (al.drop (k2 + 1)).flatMap (flatA nm) ++ M1 = M2 at HT3
          have HM2 : Hid ((al.drop (k2 + 1)).flatMap (flatA nm) ++ M1 = M2) := hM2
          clear hM2
          have HX2 : Hid (findS stop step s2 (a.flatMap (flatC nm) ++ M2) = R) := HT3
          have HA3 : Hid (0 < a.length → ∃ g o, q3 = some ⟨g, o, none⟩ ∧ g < B ∧ g < W.heap.size ∧ (∀ j c, (cjsV a ys)[j]? = some c → W.cell? ⟨g, o + j, none⟩ = some c) ∧ ∀ j, j < ((cjsV a ys)).length → W.frozen? ⟨g, o + j, none⟩ = false) := hcb
          have IA3 : Hid (ys.length = a.length ∧ ∀ (k : Nat) (c : Cj) (u : Value), a[k]? = some c → ys[k]? = some u → IsIts W (fun b => b < B) u c.items) := ⟨hlb, hib⟩
          clear hcb hlb hib HT3 ca hd hu hg1 hgB
          go_wp2
          go_loopw [30] (fun i wz => ∃ (k3 : Nat) (s3 : σ), k3 ≤ a.length ∧ i = .int .i64 k3 ∧ Hid (Inv s3 wz) ∧ Hid (wd.grownBy wz row) ∧ Hid (findS stop step s3 ((a.drop k3).flatMap (flatC nm) ++ M2) = R)) (fun i _ => a.length - (intOf i).toNat)
          case atStart => exact ⟨0, s2, by omega, rfl, HV2, HG2, HX2⟩
          case round =>
            obtain ⟨k3, s3, hk3, rfl, HV3, HG3, HT3⟩ := hrel
            by_cases hlt3 : k3 < a.length
            · obtain ⟨c, hd⟩ : ∃ t, a[k3]? = some t := ⟨_, List.getElem?_eq_getElem hlt3⟩
              obtain ⟨u, hu⟩ : ∃ u, ys[k3]? = some u := ⟨_, List.getElem?_eq_getElem (by rw [IA3.out.1]; exact hlt3)⟩
              obtain ⟨g3, o3, hp, hgB, hg1, ca, -⟩ := HA3.out (by omega)
              subst hp
              obtain ⟨i0, i1⟩ := cjsV_at a ys k3 c u hd hu
              have c0 := QQ.out _ _ _ _ hgB (HGW.out.trans HG3.out) (ca _ _ i0)
              have c1 := QQ.out _ _ _ _ hgB (HGW.out.trans HG3.out) (reas (ca _ _ i1))
              have HT4 := HT3.out
              rw [flatA_drop hd] at HT4
              have HFc : Hid (∀ i, i ∈ c.items → i.text.size ≤ 140737488355328) := HFa.out c (List.mem_of_getElem? hd)
              obtain ⟨q4, c4, hx, hml4, hcb⟩ := IA3.out.2 k3 c u hd hu
              subst hx
              replace hml4 := hml4.1
              unfold maxLen at hml4
              generalize hM3 : (a.drop (k3 + 1)).flatMap (flatC nm) ++ M2 = M3 at HT4
              have HM3 : Hid ((a.drop (k3 + 1)).flatMap (flatC nm) ++ M2 = M3) := hM3
              clear hM3
              obtain ⟨ng, its⟩ := c
              simp only at c0 c1 HT4 HFc hcb hml4
              have HX3 : Hid (findS stop step s3 (its.map (fun i => (nm, i)) ++ M3) = R) := HT4
              have HA4 : Hid (0 < its.length → ∃ g o, q4 = some ⟨g, o, none⟩ ∧ g < B ∧ g < W.heap.size ∧ (∀ j c, (itsV its)[j]? = some c → W.cell? ⟨g, o + j, none⟩ = some c) ∧ ∀ j, j < ((itsV its)).length → W.frozen? ⟨g, o + j, none⟩ = false) := hcb
              clear hcb HT4 ca hd hu hg1 hgB i0 i1
              go_wp2
              have HG4 : Hid (wd.grownBy (wr.alloc (.cells #[.bool ng, .slice q4 its.length c4] 43)) row) := HG3.out.trans (World.grownBy_alloc _ _ _)
              have HV4 : Hid (Inv s3 (wr.alloc (.cells #[.bool ng, .slice q4 its.length c4] 43))) := HK.out _ _ _ HV3.out (bel1 _ _)
              generalize wr.alloc (.cells #[.bool ng, .slice q4 its.length c4] 43) = wc at HG4 HV4 ⊢
              clear c0 c1
              go_loopw [37] (fun i wz => ∃ (k4 : Nat) (s4 : σ), k4 ≤ its.length ∧ i = .int .i64 k4 ∧ Hid (Inv s4 wz) ∧ Hid (wd.grownBy wz row) ∧ Hid (findS stop step s4 ((its.drop k4).map (fun i => (nm, i)) ++ M3) = R)) (fun i _ => its.length - (intOf i).toNat)
              case atStart => exact ⟨0, s3, by omega, rfl, HV4, HG4, HX3⟩
              case round =>
                obtain ⟨k4, s4, hk4, rfl, HV5, HG5, HT5⟩ := hrel
                by_cases hlt4 : k4 < its.length
                · obtain ⟨t, ht⟩ : ∃ t, its[k4]? = some t := ⟨_, List.getElem?_eq_getElem hlt4⟩
                  obtain ⟨g4, o4, hp, hgB, hg1, ca, -⟩ := HA4.out (by omega)
                  subst hp
                  obtain ⟨i0, i1, i2, i3⟩ := itsV_at its k4 t ht
                  have d0 := QQ.out _ _ _ _ hgB (HGW.out.trans HG5.out) (ca _ _ i0)
                  have d1 := QQ.out _ _ _ _ hgB (HGW.out.trans HG5.out) (reas (ca _ _ i1))
                  have d2 := QQ.out _ _ _ _ hgB (HGW.out.trans HG5.out) (reas (ca _ _ i2))
                  have d3 := QQ.out _ _ _ _ hgB (HGW.out.trans HG5.out) (reas (ca _ _ i3))
                  have HT6 := HT5.out
                  rw [flatC_drop ht, findS] at HT6
                  have hts := HFc.out t (List.mem_of_getElem? ht)
                  obtain ⟨kd, tx, lo, hi⟩ := t
                  simp only at d0 d1 d2 d3 HT6 hts
                  have CL : ∀ o, Calls Try.prog 27 #[.agg #[.int .i64 kd, .string tx, .int .i64 lo, .int .i64 hi], .pointer (some ⟨cb, 0, none⟩)] (wr.alloc o) fun e w' => e = .returned (.bool (stop s4 ⟨kd, tx, lo, hi⟩)) ∧ (wr.alloc o).grownBy w' row ∧ (stop s4 ⟨kd, tx, lo, hi⟩ = false → Inv (step s4 ⟨kd, tx, lo, hi⟩) w') := fun o => HC.out s4 _ ⟨kd, tx, lo, hi⟩ (HK.out _ _ _ HV5.out (bel1 _ _)) hts
                  clear ca ht hgB hg1 i0 i1 i2 i3 hts
                  cases hst : stop s4 ⟨kd, tx, lo, hi⟩ with
                  | false =>
                    rw [hst] at CL HT6
                    have HN : Hid (findS stop step (step s4 ⟨kd, tx, lo, hi⟩) ((its.drop (k4 + 1)).map (fun i => (nm, i)) ++ M3) = R) := HT6
                    have CM : ∀ o, Calls Try.prog 27 #[.agg #[.int .i64 kd, .string tx, .int .i64 lo, .int .i64 hi], .pointer (some ⟨cb, 0, none⟩)] (wr.alloc o) fun e w' => e = .returned (.bool false) ∧ Hid (wr.grownBy w' row) ∧ Hid (Inv (step s4 ⟨kd, tx, lo, hi⟩) w') := fun o => (CL o).mono fun e w' ⟨h1, h2, h3⟩ => ⟨h1, (World.grownBy_alloc _ _ _).trans h2, h3 rfl⟩
                    clear CL HT6 hst
                    go_wp2_with (go_at_call 27; refine (CM _).mono ?_; rintro e w5 ⟨rfl, g5, v5⟩)
                    go_roundw
                    case rel => exact ⟨k4 + 1, _, by omega, by go_num, v5, HG5.out.trans g5.out, HN⟩
                    case measure => simp [intOf]; omega
                  | true =>
                    rw [hst] at CL HT6
                    have HN : Hid (some (nm, ⟨kd, tx, lo, hi⟩) = R) := HT6
                    have HWs2 : Hid (W.heap.size ≤ wr.heap.size) := (HGW.out.trans HG5.out).size
                    have hri : some wr.heap.size ≠ row := fun e => by have := (HB.out.2 _ e.symm).2; have := HWs2.out; omega
                    have CM : Calls Try.prog 27 #[.agg #[.int .i64 kd, .string tx, .int .i64 lo, .int .i64 hi], .pointer (some ⟨cb, 0, none⟩)] (wr.alloc (.cells #[.int .i64 kd, .string tx, .int .i64 lo, .int .i64 hi] 40)) fun e w' => e = .returned (.bool true) ∧ Hid (wr.grownBy w' row) ∧ w'.cell? ⟨wr.heap.size, 0, none⟩ = some (.int .i64 kd) ∧ w'.cell? ⟨wr.heap.size, 1, none⟩ = some (.string tx) ∧ w'.cell? ⟨wr.heap.size, 2, none⟩ = some (.int .i64 lo) ∧ w'.cell? ⟨wr.heap.size, 3, none⟩ = some (.int .i64 hi) := (CL _).mono fun e w' ⟨h1, h2, h3⟩ => ⟨h1, (World.grownBy_alloc _ _ _).trans h2, h2.cell (World.cell?_alloc_at _ _ _ _ rfl) hri, h2.cell (World.cell?_alloc_at _ _ _ _ rfl) hri, h2.cell (World.cell?_alloc_at _ _ _ _ rfl) hri, h2.cell (World.cell?_alloc_at _ _ _ _ rfl) hri⟩
                    clear CL HT6 hst hri
                    go_wp2_with (go_at_call 27; refine CM.mono ?_; rintro e w5 ⟨rfl, g5, e0, e1, e2, e3⟩; obtain ⟨⟨n0, n1, n2, n3⟩, fz, hz⟩ := RB.out _ (HG1.out.trans (HG5.out.trans g5.out)); have f0 := fz 0; have f1 := fz 1; have f2 := fz 2; have f3 := fz 3; clear fz; have nm0 := (HG5.out.trans g5.out).cell HD0.out HRd.out)
                    go_region
                    all_goals go_wp2
                    have e := HN.out
                    subst e
                    refine bodyPost_ret (v := retF (some (nm, ⟨kd, tx, lo, hi⟩))) (by simp [results, Try.results26, go_sem, n0, n1, n2, n3, retF, itA]) rfl ?_
                    exact ⟨rfl, grown_drew (grown_new4 (HGW.out.trans (HG5.out.trans g5.out)) (Nat.le_refl _))⟩
                · obtain rfl : k4 = its.length := by omega
                  have HT6 := HT5.out
                  rw [List.drop_length] at HT6
                  have HN : Hid (findS stop step s4 M3 = R) := HT6
                  clear HT6
                  go_wp2
                  go_roundw
                  case rel => exact ⟨k3 + 1, s4, by omega, by go_num, HV5, HG5, by rw [HM3.out]; exact HN.out⟩
                  case measure => simp [intOf]; omega
            · obtain rfl : k3 = a.length := by omega
              have HT4 := HT3.out
              rw [List.drop_length] at HT4
              have HN : Hid (findS stop step s3 M2 = R) := HT4
              clear HT4
              go_wp2
              go_roundw
              case rel => exact ⟨k2 + 1, s3, by omega, by go_num, HV3, HG3, by rw [HM2.out]; exact HN.out⟩
              case measure => simp [intOf]; omega
        · obtain rfl : k2 = al.length := by omega
          have HT3 := HT2.out
          rw [List.drop_length] at HT3
          have HN : Hid (findS stop step s2 M1 = R) := HT3
          clear HT3
          go_wp2
          go_roundw
          case rel => exact ⟨k + 1, s2, by omega, by go_num, HV2, HG1.out.trans HG2.out, by rw [HM1.out]; exact HN.out⟩
          case measure => simp [intOf]; omega
    · obtain rfl : k = l.length := by omega
      have HT2 := HT.out
      rw [List.drop_length] at HT2
      have e : none = R := HT2
      subst e
      obtain ⟨⟨n0, n1, n2, n3⟩, fz, hz⟩ := RB.out _ HG.out
      have f0 := fz 0
      have f1 := fz 1
      have f2 := fz 2
      have f3 := fz 3
      clear fz HT2
      go_wp2
      refine bodyPost_ret (v := retF none) (by simp [results, Try.results26, go_sem, n0, n1, n2, n3, retF]) rfl ?_
      exact ⟨rfl, grown_new4 (HT0.out.trans HG.out) (Nat.le_refl _)⟩
set_option maxRecDepth 100000 in
set_option maxHeartbeats 8000000 in
theorem findRange {σ : Type} (stop : σ → It → Bool) (step : σ → It → σ) (Inv : σ → World → Prop) (row : Option Nat) (B cb : Nat) (W : World)
    (hC : ∀ s w i, Inv s w → i.text.size ≤ 140737488355328 → Calls Try.prog 28 #[itA i] w fun e w' => e = .returned (.bool (stop s i)) ∧ w.grownBy w' row ∧ (stop s i = false → Inv (step s i) w'))
    (hK : ∀ s w w', Inv s w → Below w.heap.size w w' → Inv s w') (hr : ∀ b, row = some b → B ≤ b ∧ b < W.heap.size) (hB : B ≤ W.heap.size)
    (v : Value) (l : List Df) (hd : IsDefs W (fun b => b < B) v l) (hT : Fit l) (s0 : σ) (h0 : Inv s0 W) :
    Calls Try.prog 26 #[v, .func (.func 28) #[] #[]] W fun e w' => e = .returned (retF (findS stop step s0 (flat l))) ∧ W.grownBy w' row := by
  have HC : Hid (∀ s w i, Inv s w → i.text.size ≤ 140737488355328 → Calls Try.prog 28 #[itA i] w fun e w' => e = .returned (.bool (stop s i)) ∧ w.grownBy w' row ∧ (stop s i = false → Inv (step s i) w')) := hC
  have HK : Hid (∀ s w w', Inv s w → Below w.heap.size w w' → Inv s w') := hK
  have HF : Hid (Fit l) := hT
  have HB : Hid (B ≤ W.heap.size ∧ ∀ b, row = some b → B ≤ b ∧ b < W.heap.size) := ⟨hB, hr⟩
  clear hC hK hT hr hB
  obtain ⟨us, ⟨p, cp, rfl, hm, hca⟩, hla, hia⟩ := hd
  replace hm := hm.1
  unfold maxLen at hm
  have HA : Hid (0 < l.length → ∃ g o, p = some ⟨g, o, none⟩ ∧ g < B ∧ g < W.heap.size ∧ (∀ j c, (dfsV l us)[j]? = some c → W.cell? ⟨g, o + j, none⟩ = some c) ∧ ∀ j, j < ((dfsV l us)).length → W.frozen? ⟨g, o + j, none⟩ = false) := hca
  have IA : Hid (us.length = l.length ∧ ∀ (k : Nat) (c : Df) (u : Value), l[k]? = some c → us[k]? = some u → IsAlts W (fun b => b < B) u c.alts) := ⟨hla, hia⟩
  clear hca hla hia
  obtain ⟨R, hR⟩ : ∃ R, R = findS stop step s0 (flat l) := ⟨_, rfl⟩
  have HR : Hid (findS stop step s0 (flat l) = R) := hR.symm
  rw [← hR]
  clear hR
  have H0 : Hid (Inv s0 W) := h0
  clear h0
  have QF : ∀ (j g : Nat) (v : Value) (w' : World), g < B → W.grownBy w' row → W.cell? ⟨g, j, none⟩ = some v → w'.cell? ⟨g, j, none⟩ = some v := fun j g v w' hg hw h => hw.cell h (fun e => by have := (HB.out.2 g e.symm).1; omega)
  have QQ : Hid (∀ (j g : Nat) (v : Value) (w' : World), g < B → W.grownBy w' row → W.cell? ⟨g, j, none⟩ = some v → w'.cell? ⟨g, j, none⟩ = some v) := QF
  clear QF
  go_enter Try.func26, Try.ntmps26
  go_wp2
  have T0 : W.grownBy (W.alloc (.cells #[.int .i64 0, .string ⟨#[]⟩, .int .i64 0, .int .i64 0] 40)) row := World.grownBy_alloc _ _ _
  have N0 : ∀ j, (W.alloc (.cells #[.int .i64 0, .string ⟨#[]⟩, .int .i64 0, .int .i64 0] 40)).cell? ⟨W.heap.size, j, none⟩ = (#[.int .i64 0, .string ⟨#[]⟩, .int .i64 0, .int .i64 0] : Array Value)[j]? := fun j => World.cell?_alloc_at _ _ _ _ rfl
  have hWz : W.heap.size < (W.alloc (.cells #[.int .i64 0, .string ⟨#[]⟩, .int .i64 0, .int .i64 0] 40)).heap.size := by simp
  have HI1 : Hid (Inv s0 (W.alloc (.cells #[.int .i64 0, .string ⟨#[]⟩, .int .i64 0, .int .i64 0] 40))) := HK.out _ _ _ H0.out (bel1 _ _)
  have hRb : some W.heap.size ≠ row := fun e => by have := (HB.out.2 _ e.symm).2; omega
  have HRb : Hid (some W.heap.size ≠ row) := hRb
  have FZ : ∀ j, (W.alloc (.cells #[.int .i64 0, .string ⟨#[]⟩, .int .i64 0, .int .i64 0] 40)).frozen? ⟨W.heap.size, j, none⟩ = false := fun j => World.frozen?_alloc_at _ _ _ _ rfl
  have RB : Hid (∀ wr, (W.alloc (.cells #[.int .i64 0, .string ⟨#[]⟩, .int .i64 0, .int .i64 0] 40)).grownBy wr row → (wr.cell? ⟨W.heap.size, 0, none⟩ = some (.int .i64 0) ∧ wr.cell? ⟨W.heap.size, 1, none⟩ = some (.string ⟨#[]⟩) ∧ wr.cell? ⟨W.heap.size, 2, none⟩ = some (.int .i64 0) ∧ wr.cell? ⟨W.heap.size, 3, none⟩ = some (.int .i64 0)) ∧ (∀ j, wr.frozen? ⟨W.heap.size, j, none⟩ = false) ∧ W.heap.size < wr.heap.size) := fun wr hg =>
    ⟨⟨hg.cell (N0 0) hRb, hg.cell (N0 1) hRb, hg.cell (N0 2) hRb, hg.cell (N0 3) hRb⟩, fun j => gfro hg hWz (FZ j) hRb, Nat.lt_of_lt_of_le hWz hg.size⟩
  generalize hW1 : W.alloc (.cells #[.int .i64 0, .string ⟨#[]⟩, .int .i64 0, .int .i64 0] 40) = W1 at T0 N0 hWz HI1 FZ RB ⊢
  have HT0 : Hid (W.grownBy W1 row) := T0
  clear N0 hWz FZ hW1 T0 hRb
  go_loopw [17] (fun i wr => ∃ (k : Nat) (s : σ), k ≤ l.length ∧ i = .int .i64 k ∧ Hid (Inv s wr) ∧ Hid (W1.grownBy wr row) ∧ Hid (findS stop step s ((l.drop k).flatMap flatD) = R)) (fun i _ => l.length - (intOf i).toNat)
  case atStart => exact ⟨0, s0, by omega, rfl, HI1, World.grownBy.refl _ _, HR⟩
  case round =>
    obtain ⟨k, s, hk, rfl, HV, HG, HT⟩ := hrel
    by_cases hlt : k < l.length
    · obtain ⟨d, hd⟩ : ∃ t, l[k]? = some t := ⟨_, List.getElem?_eq_getElem hlt⟩
      obtain ⟨u, hu⟩ : ∃ u, us[k]? = some u := ⟨_, List.getElem?_eq_getElem (by rw [IA.out.1]; exact hlt)⟩
      obtain ⟨g1, o1, hp, hgB, hg1, ca, -⟩ := HA.out (by omega)
      subst hp
      obtain ⟨i0, i1⟩ := dfsV_at l us k d u hd hu
      have HG0 : Hid (W.grownBy wr row) := HT0.out.trans HG.out
      have a0 := QQ.out _ _ _ _ hgB HG0.out (ca _ _ i0)
      have a1 := QQ.out _ _ _ _ hgB HG0.out (reas (ca _ _ i1))
      have HT2 := HT.out
      rw [flat_drop hd] at HT2
      have HFd : Hid (∀ a, a ∈ d.alts → ∀ c, c ∈ a → ∀ i, i ∈ c.items → i.text.size ≤ 140737488355328) := HF.out d (List.mem_of_getElem? hd)
      obtain ⟨xs, ⟨q, cq, hx, hml, hcb⟩, hlb, hib⟩ := IA.out.2 k d u hd hu
      subst hx
      replace hml := hml.1
      unfold maxLen at hml
      obtain ⟨nm, al⟩ := d
      simp only at a0 a1 HT2 HFd hcb hlb hib hml
      have HX : Hid (findS stop step s (al.flatMap (flatA nm) ++ (l.drop (k + 1)).flatMap flatD) = R) := HT2
      have HA2 : Hid (0 < al.length → ∃ g o, q = some ⟨g, o, none⟩ ∧ g < B ∧ g < W.heap.size ∧ (∀ j c, xs[j]? = some c → W.cell? ⟨g, o + j, none⟩ = some c) ∧ ∀ j, j < (xs).length → W.frozen? ⟨g, o + j, none⟩ = false) := hcb
      have IA2 : Hid (xs.length = al.length ∧ ∀ (k : Nat) (c : List Cj) (u : Value), al[k]? = some c → xs[k]? = some u → IsCjs W (fun b => b < B) u c) := ⟨hlb, hib⟩
      clear hcb hlb hib HT2 ca hd hu hg1 i0 i1 hgB
      generalize hM1 : (l.drop (k + 1)).flatMap flatD = M1 at HX
      have HM1 : Hid ((l.drop (k + 1)).flatMap flatD = M1) := hM1
      clear hM1
      have HWs : Hid (W.heap.size ≤ wr.heap.size) := HG0.out.size
      go_wp2
      have D0 : (wr.alloc (.cells #[.string nm, .slice q al.length cq] 35)).cell? ⟨wr.heap.size, 0, none⟩ = some (.string nm) := World.cell?_alloc_at _ _ _ _ rfl
      have HGd : Hid (wr.grownBy (wr.alloc (.cells #[.string nm, .slice q al.length cq] 35)) row) := World.grownBy_alloc _ _ _
      have HVd : Hid (Inv s (wr.alloc (.cells #[.string nm, .slice q al.length cq] 35))) := HK.out _ _ _ HV.out (bel1 _ _)
      generalize wr.alloc (.cells #[.string nm, .slice q al.length cq] 35) = wd at D0 HGd HVd ⊢
      have HD0 : Hid (wd.cell? ⟨wr.heap.size, 0, none⟩ = some (.string nm)) := D0
      have HRd : Hid (some wr.heap.size ≠ row) := fun e => by have := (HB.out.2 _ e.symm).2; have := HWs.out; omega
      have HGW : Hid (W.grownBy wd row) := HG0.out.trans HGd.out
      have HG1 : Hid (W1.grownBy wd row) := HG.out.trans HGd.out
      clear D0 a0 a1
      go_loopw [24] (fun i wz => ∃ (k2 : Nat) (s2 : σ), k2 ≤ al.length ∧ i = .int .i64 k2 ∧ Hid (Inv s2 wz) ∧ Hid (wd.grownBy wz row) ∧ Hid (findS stop step s2 ((al.drop k2).flatMap (flatA nm) ++ M1) = R)) (fun i _ => al.length - (intOf i).toNat)
      case atStart => exact ⟨0, s, by omega, rfl, HVd, World.grownBy.refl _ _, HX⟩
      case round =>
        obtain ⟨k2, s2, hk2, rfl, HV2, HG2, HT2⟩ := hrel
        by_cases hlt2 : k2 < al.length
        · obtain ⟨a, hd⟩ : ∃ t, al[k2]? = some t := ⟨_, List.getElem?_eq_getElem hlt2⟩
          obtain ⟨u, hu⟩ : ∃ u, xs[k2]? = some u := ⟨_, List.getElem?_eq_getElem (by rw [IA2.out.1]; exact hlt2)⟩
          obtain ⟨g2, o2, hp, hgB, hg1, ca, -⟩ := HA2.out (by omega)
          subst hp
          have b0 := QQ.out _ _ _ _ hgB (HGW.out.trans HG2.out) (ca _ _ hu)
          have HT3 := HT2.out
          rw [flatD_drop hd] at HT3
          have HFa : Hid (∀ c, c ∈ a → ∀ i, i ∈ c.items → i.text.size ≤ 140737488355328) := HFd.out a (List.mem_of_getElem? hd)
          obtain ⟨ys, ⟨q3, c3, hx, hml3, hcb⟩, hlb, hib⟩ := IA2.out.2 k2 a u hd hu
          subst hx
          replace hml3 := hml3.1
          unfold maxLen at hml3
          generalize hM2 : (al.drop (k2 + 1)).flatMap (flatA nm) ++ M1 = M2 at HT3
          have HM2 : Hid ((al.drop (k2 + 1)).flatMap (flatA nm) ++ M1 = M2) := hM2
          clear hM2
          have HX2 : Hid (findS stop step s2 (a.flatMap (flatC nm) ++ M2) = R) := HT3
          have HA3 : Hid (0 < a.length → ∃ g o, q3 = some ⟨g, o, none⟩ ∧ g < B ∧ g < W.heap.size ∧ (∀ j c, (cjsV a ys)[j]? = some c → W.cell? ⟨g, o + j, none⟩ = some c) ∧ ∀ j, j < ((cjsV a ys)).length → W.frozen? ⟨g, o + j, none⟩ = false) := hcb
          have IA3 : Hid (ys.length = a.length ∧ ∀ (k : Nat) (c : Cj) (u : Value), a[k]? = some c → ys[k]? = some u → IsIts W (fun b => b < B) u c.items) := ⟨hlb, hib⟩
          clear hcb hlb hib HT3 ca hd hu hg1 hgB
          go_wp2
          go_loopw [30] (fun i wz => ∃ (k3 : Nat) (s3 : σ), k3 ≤ a.length ∧ i = .int .i64 k3 ∧ Hid (Inv s3 wz) ∧ Hid (wd.grownBy wz row) ∧ Hid (findS stop step s3 ((a.drop k3).flatMap (flatC nm) ++ M2) = R)) (fun i _ => a.length - (intOf i).toNat)
          case atStart => exact ⟨0, s2, by omega, rfl, HV2, HG2, HX2⟩
          case round =>
            obtain ⟨k3, s3, hk3, rfl, HV3, HG3, HT3⟩ := hrel
            by_cases hlt3 : k3 < a.length
            · obtain ⟨c, hd⟩ : ∃ t, a[k3]? = some t := ⟨_, List.getElem?_eq_getElem hlt3⟩
              obtain ⟨u, hu⟩ : ∃ u, ys[k3]? = some u := ⟨_, List.getElem?_eq_getElem (by rw [IA3.out.1]; exact hlt3)⟩
              obtain ⟨g3, o3, hp, hgB, hg1, ca, -⟩ := HA3.out (by omega)
              subst hp
              obtain ⟨i0, i1⟩ := cjsV_at a ys k3 c u hd hu
              have c0 := QQ.out _ _ _ _ hgB (HGW.out.trans HG3.out) (ca _ _ i0)
              have c1 := QQ.out _ _ _ _ hgB (HGW.out.trans HG3.out) (reas (ca _ _ i1))
              have HT4 := HT3.out
              rw [flatA_drop hd] at HT4
              have HFc : Hid (∀ i, i ∈ c.items → i.text.size ≤ 140737488355328) := HFa.out c (List.mem_of_getElem? hd)
              obtain ⟨q4, c4, hx, hml4, hcb⟩ := IA3.out.2 k3 c u hd hu
              subst hx
              replace hml4 := hml4.1
              unfold maxLen at hml4
              generalize hM3 : (a.drop (k3 + 1)).flatMap (flatC nm) ++ M2 = M3 at HT4
              have HM3 : Hid ((a.drop (k3 + 1)).flatMap (flatC nm) ++ M2 = M3) := hM3
              clear hM3
              obtain ⟨ng, its⟩ := c
              simp only at c0 c1 HT4 HFc hcb hml4
              have HX3 : Hid (findS stop step s3 (its.map (fun i => (nm, i)) ++ M3) = R) := HT4
              have HA4 : Hid (0 < its.length → ∃ g o, q4 = some ⟨g, o, none⟩ ∧ g < B ∧ g < W.heap.size ∧ (∀ j c, (itsV its)[j]? = some c → W.cell? ⟨g, o + j, none⟩ = some c) ∧ ∀ j, j < ((itsV its)).length → W.frozen? ⟨g, o + j, none⟩ = false) := hcb
              clear hcb HT4 ca hd hu hg1 hgB i0 i1
              go_wp2
              have HG4 : Hid (wd.grownBy (wr.alloc (.cells #[.bool ng, .slice q4 its.length c4] 43)) row) := HG3.out.trans (World.grownBy_alloc _ _ _)
              have HV4 : Hid (Inv s3 (wr.alloc (.cells #[.bool ng, .slice q4 its.length c4] 43))) := HK.out _ _ _ HV3.out (bel1 _ _)
              generalize wr.alloc (.cells #[.bool ng, .slice q4 its.length c4] 43) = wc at HG4 HV4 ⊢
              clear c0 c1
              go_loopw [37] (fun i wz => ∃ (k4 : Nat) (s4 : σ), k4 ≤ its.length ∧ i = .int .i64 k4 ∧ Hid (Inv s4 wz) ∧ Hid (wd.grownBy wz row) ∧ Hid (findS stop step s4 ((its.drop k4).map (fun i => (nm, i)) ++ M3) = R)) (fun i _ => its.length - (intOf i).toNat)
              case atStart => exact ⟨0, s3, by omega, rfl, HV4, HG4, HX3⟩
              case round =>
                obtain ⟨k4, s4, hk4, rfl, HV5, HG5, HT5⟩ := hrel
                by_cases hlt4 : k4 < its.length
                · obtain ⟨t, ht⟩ : ∃ t, its[k4]? = some t := ⟨_, List.getElem?_eq_getElem hlt4⟩
                  obtain ⟨g4, o4, hp, hgB, hg1, ca, -⟩ := HA4.out (by omega)
                  subst hp
                  obtain ⟨i0, i1, i2, i3⟩ := itsV_at its k4 t ht
                  have d0 := QQ.out _ _ _ _ hgB (HGW.out.trans HG5.out) (ca _ _ i0)
                  have d1 := QQ.out _ _ _ _ hgB (HGW.out.trans HG5.out) (reas (ca _ _ i1))
                  have d2 := QQ.out _ _ _ _ hgB (HGW.out.trans HG5.out) (reas (ca _ _ i2))
                  have d3 := QQ.out _ _ _ _ hgB (HGW.out.trans HG5.out) (reas (ca _ _ i3))
                  have HT6 := HT5.out
                  rw [flatC_drop ht, findS] at HT6
                  have hts := HFc.out t (List.mem_of_getElem? ht)
                  obtain ⟨kd, tx, lo, hi⟩ := t
                  simp only at d0 d1 d2 d3 HT6 hts
                  have CL : ∀ o, Calls Try.prog 28 #[.agg #[.int .i64 kd, .string tx, .int .i64 lo, .int .i64 hi]] (wr.alloc o) fun e w' => e = .returned (.bool (stop s4 ⟨kd, tx, lo, hi⟩)) ∧ (wr.alloc o).grownBy w' row ∧ (stop s4 ⟨kd, tx, lo, hi⟩ = false → Inv (step s4 ⟨kd, tx, lo, hi⟩) w') := fun o => HC.out s4 _ ⟨kd, tx, lo, hi⟩ (HK.out _ _ _ HV5.out (bel1 _ _)) hts
                  clear ca ht hgB hg1 i0 i1 i2 i3 hts
                  cases hst : stop s4 ⟨kd, tx, lo, hi⟩ with
                  | false =>
                    rw [hst] at CL HT6
                    have HN : Hid (findS stop step (step s4 ⟨kd, tx, lo, hi⟩) ((its.drop (k4 + 1)).map (fun i => (nm, i)) ++ M3) = R) := HT6
                    have CM : ∀ o, Calls Try.prog 28 #[.agg #[.int .i64 kd, .string tx, .int .i64 lo, .int .i64 hi]] (wr.alloc o) fun e w' => e = .returned (.bool false) ∧ Hid (wr.grownBy w' row) ∧ Hid (Inv (step s4 ⟨kd, tx, lo, hi⟩) w') := fun o => (CL o).mono fun e w' ⟨h1, h2, h3⟩ => ⟨h1, (World.grownBy_alloc _ _ _).trans h2, h3 rfl⟩
                    clear CL HT6 hst
                    go_wp2_with (go_at_call 28; refine (CM _).mono ?_; rintro e w5 ⟨rfl, g5, v5⟩)
                    go_roundw
                    case rel => exact ⟨k4 + 1, _, by omega, by go_num, v5, HG5.out.trans g5.out, HN⟩
                    case measure => simp [intOf]; omega
                  | true =>
                    rw [hst] at CL HT6
                    have HN : Hid (some (nm, ⟨kd, tx, lo, hi⟩) = R) := HT6
                    have HWs2 : Hid (W.heap.size ≤ wr.heap.size) := (HGW.out.trans HG5.out).size
                    have hri : some wr.heap.size ≠ row := fun e => by have := (HB.out.2 _ e.symm).2; have := HWs2.out; omega
                    have CM : Calls Try.prog 28 #[.agg #[.int .i64 kd, .string tx, .int .i64 lo, .int .i64 hi]] (wr.alloc (.cells #[.int .i64 kd, .string tx, .int .i64 lo, .int .i64 hi] 40)) fun e w' => e = .returned (.bool true) ∧ Hid (wr.grownBy w' row) ∧ w'.cell? ⟨wr.heap.size, 0, none⟩ = some (.int .i64 kd) ∧ w'.cell? ⟨wr.heap.size, 1, none⟩ = some (.string tx) ∧ w'.cell? ⟨wr.heap.size, 2, none⟩ = some (.int .i64 lo) ∧ w'.cell? ⟨wr.heap.size, 3, none⟩ = some (.int .i64 hi) := (CL _).mono fun e w' ⟨h1, h2, h3⟩ => ⟨h1, (World.grownBy_alloc _ _ _).trans h2, h2.cell (World.cell?_alloc_at _ _ _ _ rfl) hri, h2.cell (World.cell?_alloc_at _ _ _ _ rfl) hri, h2.cell (World.cell?_alloc_at _ _ _ _ rfl) hri, h2.cell (World.cell?_alloc_at _ _ _ _ rfl) hri⟩
                    clear CL HT6 hst hri
                    go_wp2_with (go_at_call 28; refine CM.mono ?_; rintro e w5 ⟨rfl, g5, e0, e1, e2, e3⟩; obtain ⟨⟨n0, n1, n2, n3⟩, fz, hz⟩ := RB.out _ (HG1.out.trans (HG5.out.trans g5.out)); have f0 := fz 0; have f1 := fz 1; have f2 := fz 2; have f3 := fz 3; clear fz; have nm0 := (HG5.out.trans g5.out).cell HD0.out HRd.out)
                    go_region
                    all_goals go_wp2
                    have e := HN.out
                    subst e
                    refine bodyPost_ret (v := retF (some (nm, ⟨kd, tx, lo, hi⟩))) (by simp [results, Try.results26, go_sem, n0, n1, n2, n3, retF, itA]) rfl ?_
                    exact ⟨rfl, grown_drew (grown_new4 (HGW.out.trans (HG5.out.trans g5.out)) (Nat.le_refl _))⟩
                · obtain rfl : k4 = its.length := by omega
                  have HT6 := HT5.out
                  rw [List.drop_length] at HT6
                  have HN : Hid (findS stop step s4 M3 = R) := HT6
                  clear HT6
                  go_wp2
                  go_roundw
                  case rel => exact ⟨k3 + 1, s4, by omega, by go_num, HV5, HG5, by rw [HM3.out]; exact HN.out⟩
                  case measure => simp [intOf]; omega
            · obtain rfl : k3 = a.length := by omega
              have HT4 := HT3.out
              rw [List.drop_length] at HT4
              have HN : Hid (findS stop step s3 M2 = R) := HT4
              clear HT4
              go_wp2
              go_roundw
              case rel => exact ⟨k2 + 1, s3, by omega, by go_num, HV3, HG3, by rw [HM2.out]; exact HN.out⟩
              case measure => simp [intOf]; omega
        · obtain rfl : k2 = al.length := by omega
          have HT3 := HT2.out
          rw [List.drop_length] at HT3
          have HN : Hid (findS stop step s2 M1 = R) := HT3
          clear HT3
          go_wp2
          go_roundw
          case rel => exact ⟨k + 1, s2, by omega, by go_num, HV2, HG1.out.trans HG2.out, by rw [HM1.out]; exact HN.out⟩
          case measure => simp [intOf]; omega
    · obtain rfl : k = l.length := by omega
      have HT2 := HT.out
      rw [List.drop_length] at HT2
      have e : none = R := HT2
      subst e
      obtain ⟨⟨n0, n1, n2, n3⟩, fz, hz⟩ := RB.out _ HG.out
      have f0 := fz 0
      have f1 := fz 1
      have f2 := fz 2
      have f3 := fz 3
      clear fz HT2
      go_wp2
      refine bodyPost_ret (v := retF none) (by simp [results, Try.results26, go_sem, n0, n1, n2, n3, retF]) rfl ?_
      exact ⟨rfl, grown_new4 (HT0.out.trans HG.out) (Nat.le_refl _)⟩
set_option maxRecDepth 100000 in
set_option maxHeartbeats 8000000 in
theorem findLong {σ : Type} (stop : σ → It → Bool) (step : σ → It → σ) (Inv : σ → World → Prop) (row : Option Nat) (B cb : Nat) (W : World)
    (hC : ∀ s w i, Inv s w → i.text.size ≤ 140737488355328 → Calls Try.prog 29 #[itA i, .pointer (some ⟨cb, 0, none⟩)] w fun e w' => e = .returned (.bool (stop s i)) ∧ w.grownBy w' row ∧ (stop s i = false → Inv (step s i) w'))
    (hK : ∀ s w w', Inv s w → Below w.heap.size w w' → Inv s w') (hr : ∀ b, row = some b → B ≤ b ∧ b < W.heap.size) (hB : B ≤ W.heap.size)
    (v : Value) (l : List Df) (hd : IsDefs W (fun b => b < B) v l) (hT : Fit l) (s0 : σ) (h0 : Inv s0 W) :
    Calls Try.prog 26 #[v, .func (.func 29) #[] #[.pointer (some ⟨cb, 0, none⟩)]] W fun e w' => e = .returned (retF (findS stop step s0 (flat l))) ∧ W.grownBy w' row := by
  have HC : Hid (∀ s w i, Inv s w → i.text.size ≤ 140737488355328 → Calls Try.prog 29 #[itA i, .pointer (some ⟨cb, 0, none⟩)] w fun e w' => e = .returned (.bool (stop s i)) ∧ w.grownBy w' row ∧ (stop s i = false → Inv (step s i) w')) := hC
  have HK : Hid (∀ s w w', Inv s w → Below w.heap.size w w' → Inv s w') := hK
  have HF : Hid (Fit l) := hT
  have HB : Hid (B ≤ W.heap.size ∧ ∀ b, row = some b → B ≤ b ∧ b < W.heap.size) := ⟨hB, hr⟩
  clear hC hK hT hr hB
  obtain ⟨us, ⟨p, cp, rfl, hm, hca⟩, hla, hia⟩ := hd
  replace hm := hm.1
  unfold maxLen at hm
  have HA : Hid (0 < l.length → ∃ g o, p = some ⟨g, o, none⟩ ∧ g < B ∧ g < W.heap.size ∧ (∀ j c, (dfsV l us)[j]? = some c → W.cell? ⟨g, o + j, none⟩ = some c) ∧ ∀ j, j < ((dfsV l us)).length → W.frozen? ⟨g, o + j, none⟩ = false) := hca
  have IA : Hid (us.length = l.length ∧ ∀ (k : Nat) (c : Df) (u : Value), l[k]? = some c → us[k]? = some u → IsAlts W (fun b => b < B) u c.alts) := ⟨hla, hia⟩
  clear hca hla hia
  obtain ⟨R, hR⟩ : ∃ R, R = findS stop step s0 (flat l) := ⟨_, rfl⟩
  have HR : Hid (findS stop step s0 (flat l) = R) := hR.symm
  rw [← hR]
  clear hR
  have H0 : Hid (Inv s0 W) := h0
  clear h0
  have QF : ∀ (j g : Nat) (v : Value) (w' : World), g < B → W.grownBy w' row → W.cell? ⟨g, j, none⟩ = some v → w'.cell? ⟨g, j, none⟩ = some v := fun j g v w' hg hw h => hw.cell h (fun e => by have := (HB.out.2 g e.symm).1; omega)
  have QQ : Hid (∀ (j g : Nat) (v : Value) (w' : World), g < B → W.grownBy w' row → W.cell? ⟨g, j, none⟩ = some v → w'.cell? ⟨g, j, none⟩ = some v) := QF
  clear QF
  go_enter Try.func26, Try.ntmps26
  go_wp2
  have T0 : W.grownBy (W.alloc (.cells #[.int .i64 0, .string ⟨#[]⟩, .int .i64 0, .int .i64 0] 40)) row := World.grownBy_alloc _ _ _
  have N0 : ∀ j, (W.alloc (.cells #[.int .i64 0, .string ⟨#[]⟩, .int .i64 0, .int .i64 0] 40)).cell? ⟨W.heap.size, j, none⟩ = (#[.int .i64 0, .string ⟨#[]⟩, .int .i64 0, .int .i64 0] : Array Value)[j]? := fun j => World.cell?_alloc_at _ _ _ _ rfl
  have hWz : W.heap.size < (W.alloc (.cells #[.int .i64 0, .string ⟨#[]⟩, .int .i64 0, .int .i64 0] 40)).heap.size := by simp
  have HI1 : Hid (Inv s0 (W.alloc (.cells #[.int .i64 0, .string ⟨#[]⟩, .int .i64 0, .int .i64 0] 40))) := HK.out _ _ _ H0.out (bel1 _ _)
  have hRb : some W.heap.size ≠ row := fun e => by have := (HB.out.2 _ e.symm).2; omega
  have HRb : Hid (some W.heap.size ≠ row) := hRb
  have FZ : ∀ j, (W.alloc (.cells #[.int .i64 0, .string ⟨#[]⟩, .int .i64 0, .int .i64 0] 40)).frozen? ⟨W.heap.size, j, none⟩ = false := fun j => World.frozen?_alloc_at _ _ _ _ rfl
  have RB : Hid (∀ wr, (W.alloc (.cells #[.int .i64 0, .string ⟨#[]⟩, .int .i64 0, .int .i64 0] 40)).grownBy wr row → (wr.cell? ⟨W.heap.size, 0, none⟩ = some (.int .i64 0) ∧ wr.cell? ⟨W.heap.size, 1, none⟩ = some (.string ⟨#[]⟩) ∧ wr.cell? ⟨W.heap.size, 2, none⟩ = some (.int .i64 0) ∧ wr.cell? ⟨W.heap.size, 3, none⟩ = some (.int .i64 0)) ∧ (∀ j, wr.frozen? ⟨W.heap.size, j, none⟩ = false) ∧ W.heap.size < wr.heap.size) := fun wr hg =>
    ⟨⟨hg.cell (N0 0) hRb, hg.cell (N0 1) hRb, hg.cell (N0 2) hRb, hg.cell (N0 3) hRb⟩, fun j => gfro hg hWz (FZ j) hRb, Nat.lt_of_lt_of_le hWz hg.size⟩
  generalize hW1 : W.alloc (.cells #[.int .i64 0, .string ⟨#[]⟩, .int .i64 0, .int .i64 0] 40) = W1 at T0 N0 hWz HI1 FZ RB ⊢
  have HT0 : Hid (W.grownBy W1 row) := T0
  clear N0 hWz FZ hW1 T0 hRb
  go_loopw [17] (fun i wr => ∃ (k : Nat) (s : σ), k ≤ l.length ∧ i = .int .i64 k ∧ Hid (Inv s wr) ∧ Hid (W1.grownBy wr row) ∧ Hid (findS stop step s ((l.drop k).flatMap flatD) = R)) (fun i _ => l.length - (intOf i).toNat)
  case atStart => exact ⟨0, s0, by omega, rfl, HI1, World.grownBy.refl _ _, HR⟩
  case round =>
    obtain ⟨k, s, hk, rfl, HV, HG, HT⟩ := hrel
    by_cases hlt : k < l.length
    · obtain ⟨d, hd⟩ : ∃ t, l[k]? = some t := ⟨_, List.getElem?_eq_getElem hlt⟩
      obtain ⟨u, hu⟩ : ∃ u, us[k]? = some u := ⟨_, List.getElem?_eq_getElem (by rw [IA.out.1]; exact hlt)⟩
      obtain ⟨g1, o1, hp, hgB, hg1, ca, -⟩ := HA.out (by omega)
      subst hp
      obtain ⟨i0, i1⟩ := dfsV_at l us k d u hd hu
      have HG0 : Hid (W.grownBy wr row) := HT0.out.trans HG.out
      have a0 := QQ.out _ _ _ _ hgB HG0.out (ca _ _ i0)
      have a1 := QQ.out _ _ _ _ hgB HG0.out (reas (ca _ _ i1))
      have HT2 := HT.out
      rw [flat_drop hd] at HT2
      have HFd : Hid (∀ a, a ∈ d.alts → ∀ c, c ∈ a → ∀ i, i ∈ c.items → i.text.size ≤ 140737488355328) := HF.out d (List.mem_of_getElem? hd)
      obtain ⟨xs, ⟨q, cq, hx, hml, hcb⟩, hlb, hib⟩ := IA.out.2 k d u hd hu
      subst hx
      replace hml := hml.1
      unfold maxLen at hml
      obtain ⟨nm, al⟩ := d
      simp only at a0 a1 HT2 HFd hcb hlb hib hml
      have HX : Hid (findS stop step s (al.flatMap (flatA nm) ++ (l.drop (k + 1)).flatMap flatD) = R) := HT2
      have HA2 : Hid (0 < al.length → ∃ g o, q = some ⟨g, o, none⟩ ∧ g < B ∧ g < W.heap.size ∧ (∀ j c, xs[j]? = some c → W.cell? ⟨g, o + j, none⟩ = some c) ∧ ∀ j, j < (xs).length → W.frozen? ⟨g, o + j, none⟩ = false) := hcb
      have IA2 : Hid (xs.length = al.length ∧ ∀ (k : Nat) (c : List Cj) (u : Value), al[k]? = some c → xs[k]? = some u → IsCjs W (fun b => b < B) u c) := ⟨hlb, hib⟩
      clear hcb hlb hib HT2 ca hd hu hg1 i0 i1 hgB
      generalize hM1 : (l.drop (k + 1)).flatMap flatD = M1 at HX
      have HM1 : Hid ((l.drop (k + 1)).flatMap flatD = M1) := hM1
      clear hM1
      have HWs : Hid (W.heap.size ≤ wr.heap.size) := HG0.out.size
      go_wp2
      have D0 : (wr.alloc (.cells #[.string nm, .slice q al.length cq] 35)).cell? ⟨wr.heap.size, 0, none⟩ = some (.string nm) := World.cell?_alloc_at _ _ _ _ rfl
      have HGd : Hid (wr.grownBy (wr.alloc (.cells #[.string nm, .slice q al.length cq] 35)) row) := World.grownBy_alloc _ _ _
      have HVd : Hid (Inv s (wr.alloc (.cells #[.string nm, .slice q al.length cq] 35))) := HK.out _ _ _ HV.out (bel1 _ _)
      generalize wr.alloc (.cells #[.string nm, .slice q al.length cq] 35) = wd at D0 HGd HVd ⊢
      have HD0 : Hid (wd.cell? ⟨wr.heap.size, 0, none⟩ = some (.string nm)) := D0
      have HRd : Hid (some wr.heap.size ≠ row) := fun e => by have := (HB.out.2 _ e.symm).2; have := HWs.out; omega
      have HGW : Hid (W.grownBy wd row) := HG0.out.trans HGd.out
      have HG1 : Hid (W1.grownBy wd row) := HG.out.trans HGd.out
      clear D0 a0 a1
      go_loopw [24] (fun i wz => ∃ (k2 : Nat) (s2 : σ), k2 ≤ al.length ∧ i = .int .i64 k2 ∧ Hid (Inv s2 wz) ∧ Hid (wd.grownBy wz row) ∧ Hid (findS stop step s2 ((al.drop k2).flatMap (flatA nm) ++ M1) = R)) (fun i _ => al.length - (intOf i).toNat)
      case atStart => exact ⟨0, s, by omega, rfl, HVd, World.grownBy.refl _ _, HX⟩
      case round =>
        obtain ⟨k2, s2, hk2, rfl, HV2, HG2, HT2⟩ := hrel
        by_cases hlt2 : k2 < al.length
        · obtain ⟨a, hd⟩ : ∃ t, al[k2]? = some t := ⟨_, List.getElem?_eq_getElem hlt2⟩
          obtain ⟨u, hu⟩ : ∃ u, xs[k2]? = some u := ⟨_, List.getElem?_eq_getElem (by rw [IA2.out.1]; exact hlt2)⟩
          obtain ⟨g2, o2, hp, hgB, hg1, ca, -⟩ := HA2.out (by omega)
          subst hp
          have b0 := QQ.out _ _ _ _ hgB (HGW.out.trans HG2.out) (ca _ _ hu)
          have HT3 := HT2.out
          rw [flatD_drop hd] at HT3
          have HFa : Hid (∀ c, c ∈ a → ∀ i, i ∈ c.items → i.text.size ≤ 140737488355328) := HFd.out a (List.mem_of_getElem? hd)
          obtain ⟨ys, ⟨q3, c3, hx, hml3, hcb⟩, hlb, hib⟩ := IA2.out.2 k2 a u hd hu
          subst hx
          replace hml3 := hml3.1
          unfold maxLen at hml3
          generalize hM2 : (al.drop (k2 + 1)).flatMap (flatA nm) ++ M1 = M2 at HT3
          have HM2 : Hid ((al.drop (k2 + 1)).flatMap (flatA nm) ++ M1 = M2) := hM2
          clear hM2
          have HX2 : Hid (findS stop step s2 (a.flatMap (flatC nm) ++ M2) = R) := HT3
          have HA3 : Hid (0 < a.length → ∃ g o, q3 = some ⟨g, o, none⟩ ∧ g < B ∧ g < W.heap.size ∧ (∀ j c, (cjsV a ys)[j]? = some c → W.cell? ⟨g, o + j, none⟩ = some c) ∧ ∀ j, j < ((cjsV a ys)).length → W.frozen? ⟨g, o + j, none⟩ = false) := hcb
          have IA3 : Hid (ys.length = a.length ∧ ∀ (k : Nat) (c : Cj) (u : Value), a[k]? = some c → ys[k]? = some u → IsIts W (fun b => b < B) u c.items) := ⟨hlb, hib⟩
          clear hcb hlb hib HT3 ca hd hu hg1 hgB
          go_wp2
          go_loopw [30] (fun i wz => ∃ (k3 : Nat) (s3 : σ), k3 ≤ a.length ∧ i = .int .i64 k3 ∧ Hid (Inv s3 wz) ∧ Hid (wd.grownBy wz row) ∧ Hid (findS stop step s3 ((a.drop k3).flatMap (flatC nm) ++ M2) = R)) (fun i _ => a.length - (intOf i).toNat)
          case atStart => exact ⟨0, s2, by omega, rfl, HV2, HG2, HX2⟩
          case round =>
            obtain ⟨k3, s3, hk3, rfl, HV3, HG3, HT3⟩ := hrel
            by_cases hlt3 : k3 < a.length
            · obtain ⟨c, hd⟩ : ∃ t, a[k3]? = some t := ⟨_, List.getElem?_eq_getElem hlt3⟩
              obtain ⟨u, hu⟩ : ∃ u, ys[k3]? = some u := ⟨_, List.getElem?_eq_getElem (by rw [IA3.out.1]; exact hlt3)⟩
              obtain ⟨g3, o3, hp, hgB, hg1, ca, -⟩ := HA3.out (by omega)
              subst hp
              obtain ⟨i0, i1⟩ := cjsV_at a ys k3 c u hd hu
              have c0 := QQ.out _ _ _ _ hgB (HGW.out.trans HG3.out) (ca _ _ i0)
              have c1 := QQ.out _ _ _ _ hgB (HGW.out.trans HG3.out) (reas (ca _ _ i1))
              have HT4 := HT3.out
              rw [flatA_drop hd] at HT4
              have HFc : Hid (∀ i, i ∈ c.items → i.text.size ≤ 140737488355328) := HFa.out c (List.mem_of_getElem? hd)
              obtain ⟨q4, c4, hx, hml4, hcb⟩ := IA3.out.2 k3 c u hd hu
              subst hx
              replace hml4 := hml4.1
              unfold maxLen at hml4
              generalize hM3 : (a.drop (k3 + 1)).flatMap (flatC nm) ++ M2 = M3 at HT4
              have HM3 : Hid ((a.drop (k3 + 1)).flatMap (flatC nm) ++ M2 = M3) := hM3
              clear hM3
              obtain ⟨ng, its⟩ := c
              simp only at c0 c1 HT4 HFc hcb hml4
              have HX3 : Hid (findS stop step s3 (its.map (fun i => (nm, i)) ++ M3) = R) := HT4
              have HA4 : Hid (0 < its.length → ∃ g o, q4 = some ⟨g, o, none⟩ ∧ g < B ∧ g < W.heap.size ∧ (∀ j c, (itsV its)[j]? = some c → W.cell? ⟨g, o + j, none⟩ = some c) ∧ ∀ j, j < ((itsV its)).length → W.frozen? ⟨g, o + j, none⟩ = false) := hcb
              clear hcb HT4 ca hd hu hg1 hgB i0 i1
              go_wp2
              have HG4 : Hid (wd.grownBy (wr.alloc (.cells #[.bool ng, .slice q4 its.length c4] 43)) row) := HG3.out.trans (World.grownBy_alloc _ _ _)
              have HV4 : Hid (Inv s3 (wr.alloc (.cells #[.bool ng, .slice q4 its.length c4] 43))) := HK.out _ _ _ HV3.out (bel1 _ _)
              generalize wr.alloc (.cells #[.bool ng, .slice q4 its.length c4] 43) = wc at HG4 HV4 ⊢
              clear c0 c1
              go_loopw [37] (fun i wz => ∃ (k4 : Nat) (s4 : σ), k4 ≤ its.length ∧ i = .int .i64 k4 ∧ Hid (Inv s4 wz) ∧ Hid (wd.grownBy wz row) ∧ Hid (findS stop step s4 ((its.drop k4).map (fun i => (nm, i)) ++ M3) = R)) (fun i _ => its.length - (intOf i).toNat)
              case atStart => exact ⟨0, s3, by omega, rfl, HV4, HG4, HX3⟩
              case round =>
                obtain ⟨k4, s4, hk4, rfl, HV5, HG5, HT5⟩ := hrel
                by_cases hlt4 : k4 < its.length
                · obtain ⟨t, ht⟩ : ∃ t, its[k4]? = some t := ⟨_, List.getElem?_eq_getElem hlt4⟩
                  obtain ⟨g4, o4, hp, hgB, hg1, ca, -⟩ := HA4.out (by omega)
                  subst hp
                  obtain ⟨i0, i1, i2, i3⟩ := itsV_at its k4 t ht
                  have d0 := QQ.out _ _ _ _ hgB (HGW.out.trans HG5.out) (ca _ _ i0)
                  have d1 := QQ.out _ _ _ _ hgB (HGW.out.trans HG5.out) (reas (ca _ _ i1))
                  have d2 := QQ.out _ _ _ _ hgB (HGW.out.trans HG5.out) (reas (ca _ _ i2))
                  have d3 := QQ.out _ _ _ _ hgB (HGW.out.trans HG5.out) (reas (ca _ _ i3))
                  have HT6 := HT5.out
                  rw [flatC_drop ht, findS] at HT6
                  have hts := HFc.out t (List.mem_of_getElem? ht)
                  obtain ⟨kd, tx, lo, hi⟩ := t
                  simp only at d0 d1 d2 d3 HT6 hts
                  have CL : ∀ o, Calls Try.prog 29 #[.agg #[.int .i64 kd, .string tx, .int .i64 lo, .int .i64 hi], .pointer (some ⟨cb, 0, none⟩)] (wr.alloc o) fun e w' => e = .returned (.bool (stop s4 ⟨kd, tx, lo, hi⟩)) ∧ (wr.alloc o).grownBy w' row ∧ (stop s4 ⟨kd, tx, lo, hi⟩ = false → Inv (step s4 ⟨kd, tx, lo, hi⟩) w') := fun o => HC.out s4 _ ⟨kd, tx, lo, hi⟩ (HK.out _ _ _ HV5.out (bel1 _ _)) hts
                  clear ca ht hgB hg1 i0 i1 i2 i3 hts
                  cases hst : stop s4 ⟨kd, tx, lo, hi⟩ with
                  | false =>
                    rw [hst] at CL HT6
                    have HN : Hid (findS stop step (step s4 ⟨kd, tx, lo, hi⟩) ((its.drop (k4 + 1)).map (fun i => (nm, i)) ++ M3) = R) := HT6
                    have CM : ∀ o, Calls Try.prog 29 #[.agg #[.int .i64 kd, .string tx, .int .i64 lo, .int .i64 hi], .pointer (some ⟨cb, 0, none⟩)] (wr.alloc o) fun e w' => e = .returned (.bool false) ∧ Hid (wr.grownBy w' row) ∧ Hid (Inv (step s4 ⟨kd, tx, lo, hi⟩) w') := fun o => (CL o).mono fun e w' ⟨h1, h2, h3⟩ => ⟨h1, (World.grownBy_alloc _ _ _).trans h2, h3 rfl⟩
                    clear CL HT6 hst
                    go_wp2_with (go_at_call 29; refine (CM _).mono ?_; rintro e w5 ⟨rfl, g5, v5⟩)
                    go_roundw
                    case rel => exact ⟨k4 + 1, _, by omega, by go_num, v5, HG5.out.trans g5.out, HN⟩
                    case measure => simp [intOf]; omega
                  | true =>
                    rw [hst] at CL HT6
                    have HN : Hid (some (nm, ⟨kd, tx, lo, hi⟩) = R) := HT6
                    have HWs2 : Hid (W.heap.size ≤ wr.heap.size) := (HGW.out.trans HG5.out).size
                    have hri : some wr.heap.size ≠ row := fun e => by have := (HB.out.2 _ e.symm).2; have := HWs2.out; omega
                    have CM : Calls Try.prog 29 #[.agg #[.int .i64 kd, .string tx, .int .i64 lo, .int .i64 hi], .pointer (some ⟨cb, 0, none⟩)] (wr.alloc (.cells #[.int .i64 kd, .string tx, .int .i64 lo, .int .i64 hi] 40)) fun e w' => e = .returned (.bool true) ∧ Hid (wr.grownBy w' row) ∧ w'.cell? ⟨wr.heap.size, 0, none⟩ = some (.int .i64 kd) ∧ w'.cell? ⟨wr.heap.size, 1, none⟩ = some (.string tx) ∧ w'.cell? ⟨wr.heap.size, 2, none⟩ = some (.int .i64 lo) ∧ w'.cell? ⟨wr.heap.size, 3, none⟩ = some (.int .i64 hi) := (CL _).mono fun e w' ⟨h1, h2, h3⟩ => ⟨h1, (World.grownBy_alloc _ _ _).trans h2, h2.cell (World.cell?_alloc_at _ _ _ _ rfl) hri, h2.cell (World.cell?_alloc_at _ _ _ _ rfl) hri, h2.cell (World.cell?_alloc_at _ _ _ _ rfl) hri, h2.cell (World.cell?_alloc_at _ _ _ _ rfl) hri⟩
                    clear CL HT6 hst hri
                    go_wp2_with (go_at_call 29; refine CM.mono ?_; rintro e w5 ⟨rfl, g5, e0, e1, e2, e3⟩; obtain ⟨⟨n0, n1, n2, n3⟩, fz, hz⟩ := RB.out _ (HG1.out.trans (HG5.out.trans g5.out)); have f0 := fz 0; have f1 := fz 1; have f2 := fz 2; have f3 := fz 3; clear fz; have nm0 := (HG5.out.trans g5.out).cell HD0.out HRd.out)
                    go_region
                    all_goals go_wp2
                    have e := HN.out
                    subst e
                    refine bodyPost_ret (v := retF (some (nm, ⟨kd, tx, lo, hi⟩))) (by simp [results, Try.results26, go_sem, n0, n1, n2, n3, retF, itA]) rfl ?_
                    exact ⟨rfl, grown_drew (grown_new4 (HGW.out.trans (HG5.out.trans g5.out)) (Nat.le_refl _))⟩
                · obtain rfl : k4 = its.length := by omega
                  have HT6 := HT5.out
                  rw [List.drop_length] at HT6
                  have HN : Hid (findS stop step s4 M3 = R) := HT6
                  clear HT6
                  go_wp2
                  go_roundw
                  case rel => exact ⟨k3 + 1, s4, by omega, by go_num, HV5, HG5, by rw [HM3.out]; exact HN.out⟩
                  case measure => simp [intOf]; omega
            · obtain rfl : k3 = a.length := by omega
              have HT4 := HT3.out
              rw [List.drop_length] at HT4
              have HN : Hid (findS stop step s3 M2 = R) := HT4
              clear HT4
              go_wp2
              go_roundw
              case rel => exact ⟨k2 + 1, s3, by omega, by go_num, HV3, HG3, by rw [HM2.out]; exact HN.out⟩
              case measure => simp [intOf]; omega
        · obtain rfl : k2 = al.length := by omega
          have HT3 := HT2.out
          rw [List.drop_length] at HT3
          have HN : Hid (findS stop step s2 M1 = R) := HT3
          clear HT3
          go_wp2
          go_roundw
          case rel => exact ⟨k + 1, s2, by omega, by go_num, HV2, HG1.out.trans HG2.out, by rw [HM1.out]; exact HN.out⟩
          case measure => simp [intOf]; omega
    · obtain rfl : k = l.length := by omega
      have HT2 := HT.out
      rw [List.drop_length] at HT2
      have e : none = R := HT2
      subst e
      obtain ⟨⟨n0, n1, n2, n3⟩, fz, hz⟩ := RB.out _ HG.out
      have f0 := fz 0
      have f1 := fz 1
      have f2 := fz 2
      have f3 := fz 3
      clear fz HT2
      go_wp2
      refine bodyPost_ret (v := retF none) (by simp [results, Try.results26, go_sem, n0, n1, n2, n3, retF]) rfl ?_
      exact ⟨rfl, grown_new4 (HT0.out.trans HG.out) (Nat.le_refl _)⟩
end Go.Proofs.Ytopnhbgialbicaa
