import Derived.Test.YtopnhbgialbicaaGramVar
import Derived.Test.YtopnhbgialbicaaGramRow
import Derived.Deep.RegionLaw
import Derived.Deep.AppendLies
/- The rules that definitions make. -/
namespace Go.Proofs.Ytopnhbgialbicaa
set_option linter.unusedVariables false
open Go.ChangeShapes Go.WideShapes Go.ChangeAt Go.RowKit Go.Maps

theorem Try.infoCn : (Try.prog.info? 50).map (fun i => (i.zero, i.size, i.bytes)) = some (some (.agg #[.bool false, .slice none 0 0]), 2, 32) := by kernel_rfl
theorem Try.infoRu : (Try.prog.info? 53).map (fun i => (i.zero, i.size, i.bytes)) = some (some (.agg #[.int .i64 0, .slice none 0 0]), 2, 32) := by kernel_rfl
theorem rulesT_take {names : List ByteArray} {l : List Df} {k : Nat} {d : Df} (h : l[k]? = some d) : rulesT names (l.take (k + 1)) = rulesT names (l.take k) ++ rulesD names d := by
  rw [take_snoc h, rulesT, List.flatMap_append]; simp [rulesT]
theorem rulesT_len {names : List ByteArray} {l : List Df} {k : Nat} : (rulesT names (l.take k)).length ≤ (rulesT names l).length := by
  conv => rhs; rw [← List.take_append_drop k l]
  rw [rulesT, rulesT, List.flatMap_append, List.length_append]; omega
theorem Reads.above {w w' : World} {F : Nat → Prop} {v : Value} {n : Nat} {cs : List Value} (h : Reads w F v n cs) (hb : Below w.heap.size w w') : Reads w' F v n cs := h.any hb
/-- What is made is not too great. -/
structure Fine (names : List ByteArray) (l : List Df) : Prop where
  fit : Fit l
  nms : ∀ d, d ∈ l → d.name.size ≤ 140737488355328
  rul : (rulesT names l).length ≤ 1099511627776
  cnj : ∀ d, d ∈ l → ∀ a, a ∈ d.alts → a.length ≤ 1099511627776
  row : ∀ d, d ∈ l → ∀ a, a ∈ d.alts → ∀ c, c ∈ a → (rowT names c.items).length ≤ 4294967296
set_option maxRecDepth 100000 in
set_option maxHeartbeats 8000000 in
theorem makeRules_any (v : Value) (l : List Df) (names : List ByteArray) (B : Nat) (W : World) {F0 : Nat → Prop} (hd : IsDefs W F0 v l) (hm : NMap W B names) (hB : B < W.heap.size) (hF : Fine names l) :
    Calls Try.prog 15 #[v, .map (some B)] W fun e w' => ∃ v', ∃ F : Nat → Prop, e = .returned v' ∧ (∀ b, F b → W.heap.size ≤ b ∧ b < w'.heap.size) ∧ IsRus w' F v' (rulesT names l) ∧ Below W.heap.size W w' := by
  obtain ⟨i, hi0, hz0, hz1, hz2⟩ := info_parts Try.infoCn
  have HI : Hid (Try.prog.info? 50 = some i ∧ i.zero = some (.agg #[.bool false, .slice none 0 0]) ∧ i.size = 2 ∧ i.bytes = 32) := ⟨hi0, hz0, hz1, hz2⟩
  obtain ⟨ir, hr0, hr1, hr2, hr3⟩ := info_parts Try.infoRu
  have HJ : Hid (Try.prog.info? 53 = some ir ∧ ir.zero = some (.agg #[.int .i64 0, .slice none 0 0]) ∧ ir.size = 2 ∧ ir.bytes = 32) := ⟨hr0, hr1, hr2, hr3⟩
  obtain ⟨us, ⟨p, cp, rfl, hml, hca⟩, hla, hia⟩ := hd
  replace hml := hml.1
  unfold maxLen at hml
  have HA : Hid (0 < l.length → ∃ g o, p = some ⟨g, o, none⟩ ∧ F0 g ∧ g < W.heap.size ∧ (∀ j c, (dfsV l us)[j]? = some c → W.cell? ⟨g, o + j, none⟩ = some c) ∧ ∀ j, j < ((dfsV l us)).length → W.frozen? ⟨g, o + j, none⟩ = false) := hca
  have IA : Hid (us.length = l.length ∧ ∀ (k : Nat) (c : Df) (u : Value), l[k]? = some c → us[k]? = some u → IsAlts W F0 u c.alts) := ⟨hla, hia⟩
  have HM : Hid (NMap W B names ∧ B < W.heap.size) := ⟨hm, hB⟩
  have HF : Hid (Fine names l) := hF
  clear hca hla hia hi0 hz0 hz1 hz2 hr0 hr1 hr2 hr3 hm hF hB
  go_enter Try.func15, Try.ntmps15
  go_wp2
  go_loopw [5, 15] (fun o j wr => ∃ (k n : Nat) (F : Nat → Prop) (vs : List Value), k ≤ l.length ∧ j = .int .i64 k ∧ (∃ po co, o = .slice po n co) ∧ Hid (n = (rulesT names (l.take k)).length) ∧ Hid (Mk0 W F (rulesT names (l.take k)) vs o wr)) (fun _ j _ => l.length - (intOf j).toNat)
  case atStart => exact ⟨0, 0, _, _, Nat.zero_le _, rfl, ⟨none, 0, rfl⟩, rfl, Mk0.new _⟩
  case round =>
    obtain ⟨k, n, F, vs, hk, rfl, ⟨po, co, rfl⟩, HN, MM⟩ := hrel
    have hsz : W.heap.size ≤ wr.heap.size := MM.out.bl.size
    by_cases hlt : k < l.length
    · obtain ⟨d, hd⟩ : ∃ t, l[k]? = some t := ⟨_, List.getElem?_eq_getElem hlt⟩
      obtain ⟨u, hu⟩ : ∃ u, us[k]? = some u := ⟨_, List.getElem?_eq_getElem (by rw [IA.out.1]; exact hlt)⟩
      obtain ⟨g1, o1, hp, -, hg1, ca, -⟩ := HA.out (by omega)
      subst hp
      obtain ⟨i0, i1⟩ := dfsV_at l us k d u hd hu
      have a0 := (MM.out.bl.cell (p := ⟨_, _, none⟩) hg1).trans (ca _ _ i0)
      have a1 := (MM.out.bl.cell (p := ⟨_, _, none⟩) hg1).trans (reas (ca _ _ i1))
      have hdm := List.mem_of_getElem? hd
      have HFa : Hid (∀ a, a ∈ d.alts → a.length ≤ 1099511627776 ∧ ∀ c, c ∈ a → (rowT names c.items).length ≤ 4294967296 ∧ ∀ i, i ∈ c.items → i.text.size ≤ 140737488355328) := fun a ha => ⟨HF.out.cnj d hdm a ha, fun c hc => ⟨HF.out.row d hdm a ha c hc, HF.out.fit d hdm a ha c hc⟩⟩
      have hnm := HF.out.nms d hdm
      have HT : Hid (rulesT names (l.take (k + 1)) = rulesT names (l.take k) ++ rulesD names d) := rulesT_take hd
      have HLE : Hid (n + d.alts.length ≤ 1099511627776) := by
        show _ ≤ _
        have h1 := rulesT_len (names := names) (l := l) (k := k + 1)
        rw [HT.out, List.length_append, ← HN.out] at h1
        have h2 := HF.out.rul
        have h3 : (rulesD names d).length = d.alts.length := by simp [rulesD]
        omega
      obtain ⟨xs, ⟨q, cq, hx, hml2, hcb⟩, hlb, hib⟩ := IA.out.2 k d u hd hu
      subst hx
      replace hml2 := hml2.1
      unfold maxLen at hml2
      obtain ⟨nm, al⟩ := d
      simp only at a0 a1 HFa hcb hlb hib hml2 hnm HLE
      have HA2 : Hid (0 < al.length → ∃ g o, q = some ⟨g, o, none⟩ ∧ F0 g ∧ g < W.heap.size ∧ (∀ j c, xs[j]? = some c → W.cell? ⟨g, o + j, none⟩ = some c) ∧ ∀ j, j < (xs).length → W.frozen? ⟨g, o + j, none⟩ = false) := hcb
      have IA2 : Hid (xs.length = al.length ∧ ∀ (k : Nat) (c : List Cj) (u : Value), al[k]? = some c → xs[k]? = some u → IsCjs W F0 u c) := ⟨hlb, hib⟩
      have hle := HLE.out
      clear hcb hlb hib ca hd hu hg1 i0 i1 hdm
      go_wp2
      have DB : Hid ((wr.alloc (.cells #[.string nm, .slice q al.length cq] 35)).heap[wr.heap.size]? = some (.cells #[.string nm, .slice q al.length cq] 35)) := heap_alloc_new _ _
      have MM1 : Hid (Mk0 W F (rulesT names (l.take k)) vs (.slice po n co) (wr.alloc (.cells #[.string nm, .slice q al.length cq] 35))) := MM.out.keep (bel1 _ _)
      obtain ⟨db, hdb⟩ : ∃ db, wr.heap.size = db := ⟨_, rfl⟩
      rw [hdb] at DB
      rw [hdb]
      generalize wr.alloc (.cells #[.string nm, .slice q al.length cq] 35) = wd at DB MM1 ⊢
      clear a0 a1
      go_loopw [5, 22] (fun o j wz => ∃ (k2 : Nat) (F : Nat → Prop) (vs : List Value), k2 ≤ al.length ∧ j = .int .i64 k2 ∧ (∃ po co, o = .slice po (n + k2) co) ∧ Hid (Mk0 W F (rulesT names (l.take k) ++ (al.take k2).map (ruleT names nm)) vs o wz) ∧ Hid (wz.heap[db]? = some (.cells #[.string nm, .slice q al.length cq] 35))) (fun _ j _ => al.length - (intOf j).toNat)
      case atStart => exact ⟨0, F, vs, Nat.zero_le _, rfl, ⟨po, co, rfl⟩, by show Mk0 _ _ _ _ _ _; simpa using MM1.out, DB⟩
      case round =>
        obtain ⟨k2, F2, vs2, hk2, rfl, ⟨pz, cz, rfl⟩, MM2, DB2⟩ := hrel
        by_cases hlt2 : k2 < al.length
        · obtain ⟨a, hd⟩ : ∃ t, al[k2]? = some t := ⟨_, List.getElem?_eq_getElem hlt2⟩
          obtain ⟨u, hu⟩ : ∃ u, xs[k2]? = some u := ⟨_, List.getElem?_eq_getElem (by rw [IA2.out.1]; exact hlt2)⟩
          obtain ⟨g2, o2, hp, -, hg1, ca, -⟩ := HA2.out (by omega)
          have b0 := (MM2.out.bl.cell (p := ⟨_, _, none⟩) hg1).trans (ca _ _ hu)
          have hwsz : W.heap.size ≤ wr.heap.size := MM2.out.bl.size
          have d0 : wr.cell? ⟨db, 0, none⟩ = some (.string nm) := cell_of_cells DB2.out 0
          have HFc := HFa.out a (List.mem_of_getElem? hd)
          have hal := HFc.1
          have HFb : Hid (∀ c, c ∈ a → (rowT names c.items).length ≤ 4294967296 ∧ ∀ i, i ∈ c.items → i.text.size ≤ 140737488355328) := HFc.2
          obtain ⟨ys, ⟨q3, c3, hx, -, hcb⟩, hlb, hib⟩ := IA2.out.2 k2 a u hd hu
          subst hx
          have HTa : Hid ((al.take (k2 + 1)).map (ruleT names nm) = (al.take k2).map (ruleT names nm) ++ [⟨numOf names nm, a.map (cnT names)⟩]) := take_map' (ruleT names nm) hd
          have HA3 : Hid (0 < a.length → ∃ g o, q3 = some ⟨g, o, none⟩ ∧ F0 g ∧ g < W.heap.size ∧ (∀ j c, (cjsV a ys)[j]? = some c → W.cell? ⟨g, o + j, none⟩ = some c) ∧ ∀ j, j < ((cjsV a ys)).length → W.frozen? ⟨g, o + j, none⟩ = false) := hcb
          have IA3 : Hid (ys.length = a.length ∧ ∀ (k : Nat) (c : Cj) (u : Value), a[k]? = some c → ys[k]? = some u → IsIts W F0 u c.items) := ⟨hlb, hib⟩
          obtain ⟨D, hown, hD, hdd⟩ := HM.out.1
          have hat0 := (hdd nm).2
          have hownr : wr.ownsMap Try.prog 9 (plainElem Try.prog 3) B names.length D := by
            obtain ⟨es, ck, h1, h2⟩ := hown
            exact ⟨es, ck, (MM2.out.bl.block B HM.out.2).trans h1, h2⟩
          have hkey : keyOf Try.prog 9 (.string nm) = some (litS nm) := WideMaps.keyOf_string_mk Try.underlying9 (by unfold maxLen; omega)
          subst hp
          clear hcb hlb hib ca hd hu hg1 hown hD hdd HFc
          go_wp2_with (at_lookup; refine wpList_lookup_own_int _ rfl _ _ 55 rfl 9 3 .i64 Try.keyed Try.underMap Try.underlying3 (Try.zeroInt _) B _ D rfl hownr _ _ rfl hkey ?_; intro c hat hwc; obtain rfl : c = numOf names nm := (by rw [hat0] at hat; injection hat with hat; injection hat with _ hat; exact hat.symm))
          have KK : Hid (Mk W wr.heap.size F2 (rulesT names (l.take k) ++ (al.take k2).map (ruleT names nm)) vs2 (.slice pz (n + k2) cz) (numOf names nm) [] [] (.slice none 0 0) (wr.alloc (.cells #[.int .i64 (numOf names nm), .slice none 0 0] 53))) := MM2.out.open _
          have DB3 : Hid ((wr.alloc (.cells #[.int .i64 (numOf names nm), .slice none 0 0] 53)).heap[db]? = some (.cells #[.string nm, .slice (some ⟨g2, o2, none⟩) al.length cq] 35)) := (heap_alloc_old _ (block_lt DB2.out)).trans DB2.out
          obtain ⟨rb, hrb⟩ : ∃ rb, wr.heap.size = rb := ⟨_, rfl⟩
          rw [hrb] at KK
          rw [hrb]
          have hdr : db ≠ rb := by have := block_lt DB2.out; omega
          generalize wr.alloc (.cells #[.int .i64 (numOf names nm), .slice none 0 0] 53) = wq at KK DB3 ⊢
          clear b0 d0 hownr hat0
          go_loopw [33] (fun j wz => ∃ (k3 : Nat) (F3 : Nat → Prop) (vs3 : List Value) (pc : Option Addr) (cc : Nat), k3 ≤ a.length ∧ j = .int .i64 k3 ∧ Hid (Mk W rb F3 (rulesT names (l.take k) ++ (al.take k2).map (ruleT names nm)) vs2 (.slice pz (n + k2) cz) (numOf names nm) ((a.take k3).map (cnT names)) vs3 (.slice pc k3 cc) wz) ∧ Hid (wz.heap[db]? = some (.cells #[.string nm, .slice (some ⟨g2, o2, none⟩) al.length cq] 35))) (fun j _ => a.length - (intOf j).toNat)
          case atStart => exact ⟨0, F2, [], none, 0, Nat.zero_le _, rfl, by show Mk _ _ _ _ _ _ _ _ _ _ _; simpa using KK.out, DB3⟩
          case round =>
            obtain ⟨k3, F3, vs3, pc, cc, hk3, rfl, MK, DB4⟩ := hrel
            have hwz : W.heap.size ≤ wr.heap.size := MK.out.m0.bl.size
            by_cases hlt3 : k3 < a.length
            · obtain ⟨c, hd⟩ : ∃ t, a[k3]? = some t := ⟨_, List.getElem?_eq_getElem hlt3⟩
              obtain ⟨u, hu⟩ : ∃ u, ys[k3]? = some u := ⟨_, List.getElem?_eq_getElem (by rw [IA3.out.1]; exact hlt3)⟩
              obtain ⟨g3, o3, hp, -, hg1, ca, -⟩ := HA3.out (by omega)
              subst hp
              obtain ⟨i0, i1⟩ := cjsV_at a ys k3 c u hd hu
              have c0 := (MK.out.m0.bl.cell (p := ⟨_, _, none⟩) hg1).trans (ca _ _ i0)
              have c1 := (MK.out.m0.bl.cell (p := ⟨_, _, none⟩) hg1).trans (reas (ca _ _ i1))
              have hfc := HFb.out c (List.mem_of_getElem? hd)
              have IT := IA3.out.2 k3 c u hd hu
              have HTc : Hid ((a.take (k3 + 1)).map (cnT names) = (a.take k3).map (cnT names) ++ [⟨c.neg, rowT names c.items⟩]) := take_map' (cnT names) hd
              obtain ⟨q4, c4, hx⟩ := Reads.slc IT
              subst hx
              obtain ⟨ng, its⟩ := c
              simp only at c0 c1 hfc IT HTc
              have hrl := block_lt MK.out.rb
              have MR : Calls Try.prog 31 #[.slice q4 its.length c4, .map (some B)] (wr.alloc (.cells #[.bool ng, .slice q4 its.length c4] 43)).drew fun e w' => ∃ p' c', e = .returned (.slice p' (rowT names its).length c') ∧ Hid (w'.ownsRow wr.heap.size 47 3 (.slice p' (rowT names its).length c') (rowT names its).length (sysV (rowT names its))) ∧ Hid (Below wr.heap.size wr w') ∧ w'.cell? ⟨rb, 1, none⟩ = some (.slice pc k3 cc) ∧ w'.frozen? ⟨rb, 1, none⟩ = false ∧ w'.cell? ⟨wr.heap.size, 0, none⟩ = some (.bool ng) ∧ w'.cell? ⟨wr.heap.size, 1, none⟩ = some (.slice q4 its.length c4) ∧ W.heap.size ≤ w'.heap.size ∧ rb < w'.heap.size ∧ Hid (w'.ownsRow W.heap.size 50 2 (.slice pc k3 cc) k3 (cnsV ((a.take k3).map (cnT names)) vs3)) := by
                have hb0 : Below wr.heap.size wr (wr.alloc (.cells #[.bool ng, .slice q4 its.length c4] 43)).drew := (bel1 _ _).drew
                have hb1 : Below W.heap.size W (wr.alloc (.cells #[.bool ng, .slice q4 its.length c4] 43)).drew := MK.out.m0.bl.trans (hb0.mono hwz)
                refine (makeRow_any _ its names B _ (Reads.above IT hb1) (HM.out.1.keep hb1 HM.out.2) (Nat.lt_of_lt_of_le HM.out.2 hb1.size) hfc.2 hfc.1).mono ?_
                rintro e w' ⟨v', rfl, ho, hb2⟩
                obtain ⟨p', c', hv⟩ := row_slice ho
                subst hv
                have hb3 := hb0.trans (hb2.mono hb0.size)
                refine ⟨p', c', rfl, row_mono ho hb0.size, hb3, (hb3.cell (p := ⟨_, _, none⟩) hrl).trans (cell_of_cells MK.out.rb 1), (hb3.frozen (p := ⟨_, _, none⟩) hrl).trans (by simp [World.frozen?, MK.out.rb]), (hb2.cell (p := ⟨_, _, none⟩) (by simp)).trans (World.cell?_alloc_at _ _ _ _ rfl), (hb2.cell (p := ⟨_, _, none⟩) (by simp)).trans (World.cell?_alloc_at _ _ _ _ rfl), Nat.le_trans hwz hb3.size, Nat.lt_of_lt_of_le hrl hb3.size, ?_⟩
                have h9 := (MK.out.keep hb3).oc
                rw [List.length_map, take_len hk3] at h9
                exact h9
              have r1 : wr.cell? ⟨rb, 1, none⟩ = some (.slice pc k3 cc) := cell_of_cells MK.out.rb 1
              have f1 : wr.frozen? ⟨rb, 1, none⟩ = false := by simp [World.frozen?, MK.out.rb]
              generalize rowT names its = sq at MR HTc
              have MX : Hid (k3 + 1 ≤ maxLen) := by show _ ≤ _; unfold maxLen; omega
              have BY : Hid ((k3 + 1) * 32 ≤ 140737488355328) := by show _ ≤ _; omega
              have hlen : ((a.take k3).map (cnT names)).length = k3 := by rw [List.length_map, take_len hk3]
              have HLN : Hid (((a.take k3).map (cnT names)).length = k3) := hlen
              have RNE : Hid ((Value.slice pc k3 cc).ownBlock ≠ some rb) := by
                show _ ≠ _
                intro e
                have h1 := row_other MK.out.oc (by decide) MK.out.rb (World.grownBy.refl wr _)
                obtain ⟨_, ⟨h1, _⟩ | ⟨g', cap', cur, h1, _, h3, _⟩⟩ := MK.out.oc
                · rw [h1] at e; cases e
                · rw [h1] at e
                  have e2 : g' = rb := by injection e
                  subst e2
                  have h4 := MK.out.rb
                  rw [h3] at h4
                  injection h4 with h4
                  injection h4 with _ h5
                  exact absurd h5 (by decide)
              clear hlen ca hd hu hg1 i0 i1 IT hfc
              go_wp2_with (fail)
              go_region_law (first | (refine step_append_lies _ (by rfl) _ _ _ (by rfl) W.heap.size 50 i _ 2 32 Try.underlying51 HI.out.1 HI.out.2.1 HI.out.2.2.1 HI.out.2.2.2 rfl (by omega) (.slice pc k3 cc) k3 (cnsV ((a.take k3).map (cnT names)) vs3) (by rfl) (o1.out.alloc _) ⟨w1.heap.size, 0, none⟩ 1 1 [.bool ng, .slice ps sq.length cs] (by rfl) (by rfl) (World.news_of_block (cs := #[.bool ng, .slice ps sq.length cs]) (t := 50) (fr := (0, 0)) (heap_alloc_new w1 _)) (by simp [Value.oneCell']) (by omega) MX.out BY.out (Nat.le_trans hW1 (le_alloc _ _)) (w1.heap.size + 1) (by simp) ?_; intro gg cap1 w2 hown1 hgrow hat hltg; have x1 : w2.cell? ⟨rb, 1, none⟩ = some (.slice pc k3 cc) := (hgrow.cell_far ⟨rb, 1, none⟩ (by simp; omega) (Ne.symm RNE.out)).trans ((World.cell?_alloc_past _ _ _ hR1).trans r1'); have y1 : w2.frozen? ⟨rb, 1, none⟩ = false := (hgrow.frozen_far ⟨rb, 1, none⟩ (by simp; omega) (Ne.symm RNE.out)).trans ((World.frozen?_alloc_past _ _ _ hR1).trans f1')) | (go_simp; refine MR.mono ?_; rintro e w1 ⟨ps, cs, rfl, s1, b1, r1', f1', e0, e1, hW1, hR1, o1⟩))
              all_goals
                have FIN : Hid (Mk W rb (fun b => F3 b ∨ (Value.slice ps sq.length cs).ownBlock = some b) (rulesT names (l.take k) ++ (al.take k2).map (ruleT names nm)) vs2 (.slice pz (n + k2) cz) (numOf names nm) ((a.take (k3 + 1)).map (cnT names)) (vs3 ++ [.slice ps sq.length cs]) (.slice (some ⟨gg, 0, none⟩) (k3 + 1) cap1) (w2.setCell ⟨rb, 1, none⟩ (.slice (some ⟨gg, 0, none⟩) (k3 + 1) cap1))) := MK.out.conj' HLN.out b1.out s1.out hgrow hown1 hat HTc.out
                have DB5 : Hid ((w2.setCell ⟨rb, 1, none⟩ (.slice (some ⟨gg, 0, none⟩) (k3 + 1) cap1)).heap[db]? = some (.cells #[.string nm, .slice (some ⟨g2, o2, none⟩) al.length cq] 35)) := MK.out.conj_other (n := 0) b1.out DB4.out hgrow _
                clear hgrow hown1 hat
                go_wp2
                go_roundw
                case rel => exact ⟨k3 + 1, _, _, _, _, by omega, by go_num, FIN, DB5⟩
                case measure => simp [intOf]; omega
            · obtain rfl : k3 = a.length := by omega
              have r0 : wr.cell? ⟨rb, 0, none⟩ = some (.int .i64 (numOf names nm)) := cell_of_cells MK.out.rb 0
              have r1 : wr.cell? ⟨rb, 1, none⟩ = some (.slice pc a.length cc) := cell_of_cells MK.out.rb 1
              have HLN : Hid ((rulesT names (l.take k) ++ (al.take k2).map (ruleT names nm)).length = n + k2) := by
                show _ = _
                rw [List.length_append, List.length_map, take_len hk2, ← HN.out]
              have OR : Hid (wr.ownsRow W.heap.size 53 2 (.slice pz (n + k2) cz) (n + k2) (rusV (rulesT names (l.take k) ++ (al.take k2).map (ruleT names nm)) vs2)) := by
                have h9 := MK.out.m0.oo
                rw [HLN.out] at h9
                exact h9
              have MX : Hid (n + k2 + 1 ≤ maxLen) := by show _ ≤ _; unfold maxLen; omega
              have BY : Hid ((n + k2 + 1) * 32 ≤ 140737488355328) := by show _ ≤ _; omega
              have ONE : Hid (∀ u, u ∈ [Value.int .i64 (numOf names nm), .slice pc a.length cc] → u.oneCell' = true) := by show ∀ u, _ → _; simp [Value.oneCell']
              have HTb : Hid (rulesT names (l.take k) ++ (al.take (k2 + 1)).map (ruleT names nm) = (rulesT names (l.take k) ++ (al.take k2).map (ruleT names nm)) ++ [⟨numOf names nm, (a.take a.length).map (cnT names)⟩]) := by
                show _ = _
                rw [HTa.out, List.take_length, List.append_assoc]
              go_wp2_with (at_builtin; refine wpList_append_lies _ rfl _ _ 27 rfl W.heap.size 53 ir (.agg #[.int .i64 0, .slice none 0 0]) 2 32 Try.underlying27 HJ.out.1 HJ.out.2.1 HJ.out.2.2.1 HJ.out.2.2.2 rfl (by decide) _ _ _ rfl (OR.out.alloc _) ⟨wr.heap.size, 0, none⟩ 1 1 [.int .i64 (numOf names nm), .slice pc a.length cc] rfl rfl (World.news_of_block (cs := #[.int .i64 (numOf names nm), .slice pc a.length cc]) (t := 53) (fr := (0, 0)) (heap_alloc_new wr _)) ONE.out (by decide) MX.out BY.out (Nat.le_trans hwz (le_alloc _ _)) (wr.heap.size + 1) (by simp) ?_; intro gg cap1 w2 hown1 hgrow hat hltg)
              have FIN : Hid (Mk0 W (fun b => F3 b ∨ (Value.slice pc a.length cc).ownBlock = some b) (rulesT names (l.take k) ++ (al.take (k2 + 1)).map (ruleT names nm)) (vs2 ++ [.slice pc a.length cc]) (.slice (some ⟨gg, 0, none⟩) (n + k2 + 1) cap1) w2) := MK.out.rule' HLN.out hgrow hown1 hat HTb.out
              have DB5 : Hid (w2.heap[db]? = some (.cells #[.string nm, .slice (some ⟨g2, o2, none⟩) al.length cq] 35)) := MK.out.m0.other (n := 0) DB4.out hgrow
              clear hgrow hown1 hat
              go_roundw
              case rel => exact ⟨k2 + 1, _, _, by omega, by go_num, ⟨_, _, rfl⟩, FIN, DB5⟩
              case measure => simp [intOf]; omega
        · obtain rfl : k2 = al.length := by omega
          have M3 : Hid (Mk0 W F2 (rulesT names (l.take (k + 1))) vs2 (.slice pz (n + al.length) cz) wr) := by
            show Mk0 _ _ _ _ _ _
            have := MM2.out
            rw [List.take_length] at this
            rw [HT.out]; exact this
          have HN2 : Hid (n + al.length = (rulesT names (l.take (k + 1))).length) := by
            show _ = _
            rw [HT.out, List.length_append, ← HN.out]; simp [rulesD]
          go_wp2
          go_roundw
          case rel => exact ⟨k + 1, n + al.length, F2, vs2, by omega, by go_num, ⟨_, _, rfl⟩, HN2, M3⟩
          case measure => simp [intOf]; omega
    · obtain rfl : k = l.length := by omega
      go_wp2
      go_ret
      have ho := MM.out
      rw [List.take_length] at ho
      exact ⟨_, _, rfl, ho.rus.1, ho.rus.2, ho.bl⟩
end Go.Proofs.Ytopnhbgialbicaa
/- What the searches say of sizes. No program in sight. -/
namespace Go.Proofs.Ytopnhbgialbicaa
set_option linter.unusedVariables false

def wsum : List (ByteArray × It) → Nat
  | [] => 0
  | x :: l => width x.2 + wsum l
theorem wsum_append : ∀ l m, wsum (l ++ m) = wsum l + wsum m
  | [], m => by simp [wsum]
  | x :: l, m => by simp [wsum, wsum_append l m]; omega
theorem wsum_mem {α : Type} (f : α → List (ByteArray × It)) : ∀ (l : List α) (a : α), a ∈ l → wsum (f a) ≤ wsum (l.flatMap f)
  | [], a, h => by cases h
  | b :: l, a, h => by
    rw [List.flatMap_cons, wsum_append]
    rcases List.mem_cons.1 h with e | e
    · subst e; omega
    · have := wsum_mem f l a e; omega
theorem wsum_none : ∀ (l : List (ByteArray × It)) (n : Nat), n ≤ 1024 → findS stopL stepL n l = none → n + wsum l ≤ 1024
  | [], n, hn, _ => by simpa [wsum] using hn
  | x :: l, n, hn, h => by
    rw [findS] at h
    by_cases hs : stopL n x.2 = true
    · rw [if_pos hs] at h; cases h
    · rw [if_neg hs] at h
      have h1 : n + width x.2 ≤ 1024 := by simpa [stopL] using hs
      have := wsum_none l (stepL n x.2) h1 h
      simp only [wsum, stepL] at this ⊢
      omega
theorem symT_len (names : List ByteArray) (i : It) : (symT names i).length = width i := by
  unfold symT width
  by_cases h0 : i.kind = 0
  · rw [if_pos h0, if_neg (by omega)]; rfl
  · rw [if_neg h0]
    by_cases h1 : i.kind = 1
    · rw [if_pos h1, if_pos h1]; exact bytesT_len _
    · rw [if_neg h1, if_neg h1]
      split <;> rfl
theorem rowT_sum (names : List ByteArray) (n : ByteArray) : ∀ l : List It, (rowT names l).length = wsum (l.map fun i => (n, i))
  | [] => rfl
  | i :: l => by
    rw [rowT, List.flatMap_cons, List.length_append, symT_len, List.map_cons, wsum, ← rowT_sum names n l]; rfl
theorem short_row {names : List ByteArray} {l : List Df} (h : tooLongT l = false) {d : Df} (hd : d ∈ l) {a : List Cj} (ha : a ∈ d.alts) {c : Cj} (hc : c ∈ a) : (rowT names c.items).length ≤ 1024 := by
  have h0 : findS stopL stepL 0 (flat l) = none := by
    unfold tooLongT at h
    cases hf : findS stopL stepL 0 (flat l) with
    | none => rfl
    | some x => rw [hf] at h; cases h
  have h1 := wsum_none _ 0 (by omega) h0
  have h2 := wsum_mem flatD l d hd
  have h3 := wsum_mem (flatA d.name) d.alts a ha
  have h4 := wsum_mem (flatC d.name) a c hc
  rw [rowT_sum names d.name]
  simp only [flat, flatD, flatA, flatC] at *
  omega
/-- Declarations that are not too great. -/
structure Sized (r : Rw) : Prop where
  fit : Fit r.defs
  nms : ∀ d, d ∈ r.defs → d.name.size ≤ 140737488355328
  sts : ∀ s, s ∈ r.starts → s.size ≤ 140737488355328
  len : r.defs.length ≤ 4294967296
  rul : (rulesT (namesT r.defs) r.defs).length ≤ 1099511627776
  cnj : ∀ d, d ∈ r.defs → ∀ a, a ∈ d.alts → a.length ≤ 1099511627776
theorem Sized.fine {r : Rw} (h : Sized r) (ht : tooLongT r.defs = false) : Fine (namesT r.defs) r.defs :=
  ⟨h.fit, h.nms, h.rul, h.cnj, fun d hd a ha c hc => Nat.le_trans (short_row ht hd ha hc) (by omega)⟩
theorem Sized.short {r : Rw} (h : Sized r) (ht : tooLongT r.defs = false) : Short (gramT r).rules := by
  intro q hq c hc
  obtain ⟨d, hd, h1⟩ := List.mem_flatMap.1 hq
  obtain ⟨a, ha, h2⟩ := List.mem_map.1 h1
  subst h2
  obtain ⟨j, hj, h3⟩ := List.mem_map.1 hc
  subst h3
  exact Nat.le_trans (short_row ht hd ha hj) (by omega)
theorem Sized.names {r : Rw} (h : Sized r) : ∀ s, s ∈ namesT r.defs → s.size ≤ maxLen := by
  intro s hs
  obtain ⟨d, hd, h1⟩ := List.mem_map.1 hs
  subst h1
  have := h.nms d hd
  unfold maxLen; omega
theorem Sized.starts {r : Rw} (h : Sized r) : ∀ s, s ∈ r.starts → s.size ≤ maxLen := fun s hs => by
  have := h.sts s hs
  unfold maxLen; omega
theorem namesT_len (l : List Df) : (namesT l).length = l.length := by simp [namesT]
end Go.Proofs.Ytopnhbgialbicaa
