/- ComponentsRules, walked. -/
import Derived.Test.YtalckpaeleflnaaCmpApp
import Derived.Test.YtalckpaeleflnaaComponentsFormsW
import Derived.Deep.CutRange
namespace Go.Proofs.Ytalckpaeleflnaa
set_option linter.unusedVariables false
open Go.ChangeShapes Go.WideShapes Go.ChangeAt Go.RowKit

def fitM (m : Nat) (e : Ed) : Ed := ((IntKind.u64.wrap e.1).tmod (1 + (m : Int)), (IntKind.u64.wrap e.2.1).tmod (1 + (m : Int)), e.2.2)
theorem mod_lt (x : Int) (m : Nat) : ∃ r : Nat, r ≤ m ∧ (IntKind.u64.wrap x).tmod (1 + (m : Int)) = (r : Int) := by
  have h0 : 0 ≤ IntKind.u64.wrap x := by rw [IntKind.wrap_u64]; omega
  have h1 := Int.emod_nonneg (IntKind.u64.wrap x) (b := 1 + (m : Int)) (by omega)
  have h2 := Int.emod_lt_of_pos (IntKind.u64.wrap x) (b := 1 + (m : Int)) (by omega)
  rw [Int.tmod_eq_emod_of_nonneg h0]
  exact ⟨((IntKind.u64.wrap x) % (1 + (m : Int))).toNat, by omega, by omega⟩
theorem fit_ok (m : Nat) (l : List Ed) : edsB ((1 + m : Nat) : Int) (l.map (fitM m)) = true := by
  unfold edsB
  rw [List.all_eq_true]
  intro e he
  obtain ⟨d, _, rfl⟩ := List.mem_map.1 he
  obtain ⟨x, hx, e1⟩ := mod_lt d.1 m
  obtain ⟨y, hy, e2⟩ := mod_lt d.2.1 m
  unfold edB endB fitM
  simp only [e1, e2, Bool.and_eq_true, decide_eq_true_eq]
  omega
theorem take_fit {l : List Ed} {k : Nat} {t : Ed} (ht : l[k]? = some t) (m : Nat) : (l.take (k + 1)).map (fitM m) = (l.take k).map (fitM m) ++ [fitM m t] := by
  rw [List.take_add_one, ht]; simp
theorem region_class {P : Program} {id : Nat} {Q : Exit → Act → World → Prop} {a : Act} {w : World} {l : List Oper} {ι : Type} (f : ι → World) (hm : P.follows .mixedOrders = true) (hB : Region.lexB .any l.toArray = true) (h0 : ∃ n, w.drew = f n)
    (h : wpQuiet P l.toArray (fun w' => ∃ n, w' = f n) (fun a' => ∀ w', (∃ n, w' = f n) → Q .normal a' w') l a) : (Code.region id l.toArray true).wp P Q a w :=
  wp_region_quiet (C := fun w' => ∃ n, w' = f n) hm hB h0 (by simpa using h)
/-- The worlds of a property, as a family. -/
theorem family2 (I : World → Prop) (w : World) (h : I w) : ∃ (ι : Type) (f : ι → World) (n0 : ι), w = f n0 ∧ (∀ n, I (f n)) ∧ ∀ w', I w' → ∃ m, w' = f m :=
  ⟨{x // I x}, Subtype.val, ⟨w, h⟩, rfl, Subtype.property, fun w' h => ⟨⟨w', h⟩, rfl⟩⟩
theorem IsInts.all {w : World} {F : Nat → Prop} {p : Option Addr} {n c : Nat} {l : List Int} (h : IsInts w F (.slice p n c) l) (hl : 0 < l.length) : ∃ g o, p = some ⟨g, o, none⟩ ∧ g < w.heap.size ∧ ∀ k z, l[k]? = some z → w.cell? ⟨g, o + k, none⟩ = some (.int .i64 z) := by
  obtain ⟨p2, c2, e2, _, hc⟩ := h
  injection e2 with e3
  subst e3
  obtain ⟨g, o, e9, _, hg, cc, _⟩ := hc (by omega)
  exact ⟨g, o, e9, hg, fun k z hk => cc k _ (by unfold intsV; rw [List.getElem?_map, hk]; rfl)⟩
set_option maxHeartbeats 8000000 in
set_option maxRecDepth 100000 in
theorem componentsRules_walk (w : World) (a0 : Int) (w0 : (Lit.int .i64 a0).wf = true) (v : Value) (l : List Ed) (ha : IsEds w Any v l) (hz : l.length * 24 ≤ reachBytes) (ok : ∀ e, e ∈ l → okE e) :
    Calls Try.prog 4 #[.int .i64 a0, v] w fun e w' => e = .returned (.bool true) ∧ Below w.heap.size w w' := by
  obtain ⟨m, hm, em⟩ := andM 15 (by decide) a0
  have em : bits .and .i64 a0 15 = (m : Int) := em
  obtain ⟨p, cp, rfl⟩ := ha.slc
  have HA : Hid (IsEds w Any (.slice p l.length cp) l) := ha
  have hm9 : l.length ≤ 9223372036854775807 := by have := ha.len; unfold maxLen at this; omega
  obtain ⟨J, hJ⟩ : ∃ J, J = min 40 l.length := ⟨_, rfl⟩
  have hJ1 : J ≤ 40 := by omega
  have hJ2 : J ≤ l.length := by omega
  have HJ : Hid (J = min 40 l.length) := hJ
  clear ha ok hz hJ
  go_enter Try.func4, Try.ntmps4
  go_wp2_with (go_at_call 16; refine (awake7_any _).mono ?_; rintro e w1 ⟨rfl, H1⟩)
  go_loopw [6, 7] (fun u x wr => ∃ j : Nat, j ≤ J ∧ x = .int .i64 j ∧ Hid (wr.ownsRow w1.heap.size 37 3 u j (edsV ((l.take j).map (fitM m)))) ∧ Hid (Below w1.heap.size w1 wr)) (fun _ x _ => J - (intOf x).toNat)
  case atStart => exact ⟨0, Nat.zero_le _, rfl, World.ownsRow_nil _ _ _ _, Below.refl _ _⟩
  case round =>
    obtain ⟨j, hj, rfl, HU, HB⟩ := hrel
    obtain ⟨p6, c6, hu⟩ := row_slice HU.out
    subst hu
    by_cases hlt : j < J
    · obtain ⟨t, ht⟩ : ∃ t, l[j]? = some t := ⟨_, List.getElem?_eq_getElem (by omega)⟩
      have HBw : Hid (Below w.heap.size w wr) := H1.out.trans (HB.out.mono H1.out.size)
      obtain ⟨g1, o1, hp, -, q0, q1, q2⟩ := (HA.out.any HBw.out).at ht
      subst hp
      obtain ⟨t0, t1, t2⟩ := t
      simp only at q0 q1 q2
      obtain ⟨x, hx, ex⟩ := mod_lt t0 m
      obtain ⟨y, hy, ey⟩ := mod_lt t1 m
      have HF : Hid ((l.take (j + 1)).map (fitM m) = (l.take j).map (fitM m) ++ [((x : Int), (y : Int), t2)]) := by
        show _ = _
        rw [take_fit ht]; unfold fitM; rw [ex, ey]
      obtain ⟨V, hV⟩ : ∃ V, V = wr := ⟨_, rfl⟩
      subst hV
      obtain ⟨q8, c8, w8, hrun, hown, hb8⟩ := app_ed HU.out HB.out.size (by omega) (x : Int) (y : Int) t2
      have HU8 : Hid (w8.ownsRow w1.heap.size 37 3 (.slice q8 (j + 1) c8) (j + 1) (edsV ((l.take (j + 1)).map (fitM m)))) := by show World.ownsRow _ _ _ _ _ _ _; rw [HF.out]; exact hown
      have HB8 : Hid (Below w1.heap.size w1 w8) := HB.out.trans hb8
      have LA := stepApp hrun
      unfold StepApp at LA
      have hl1 : j < l.length := by omega
      have hl2 : j < 40 := by omega
      have ek : IntKind.u64.wrap (1 + (m : Int)) = 1 + (m : Int) := by rw [IntKind.wrap_u64]; omega
      have ek0 : ¬ (1 + (m : Int) = 0) := by omega
      have wx : IntKind.i64.wrap (x : Int) = (x : Int) := by rw [IntKind.wrap_i64]; omega
      have wy : IntKind.i64.wrap (y : Int) = (y : Int) := by rw [IntKind.wrap_i64]; omega
      clear ht hown hb8 hrun
      go_wp2
      go_region_law (with_reducible refine LA _ _ _ _ _ _ ?_ ?_ ?_ ?_; rfl; exact ⟨_, _, rfl, rfl, rfl⟩; rfl)
      all_goals
        go_wp2
        go_roundw
        case rel => exact ⟨j + 1, by omega, by go_num, HU8, HB8⟩
        case measure => simp [intOf]; omega
    · obtain rfl : j = J := by omega
      obtain ⟨L, hL⟩ : ∃ L, L = (l.take j).map (fitM m) := ⟨_, rfl⟩
      have HLn : Hid (j = L.length) := by show _ = _; rw [hL]; simp; omega
      have HE : Hid (edsB ((1 + m : Nat) : Int) L = true) := by show _ = _; rw [hL]; exact fit_ok m _
      have HM : Hid (mayE ((1 + m : Nat) : Int) L = true) := by
        show mayE _ _ = _
        unfold mayE
        rw [HE.out, decide_eq_true (by omega), decide_eq_true (by omega)]; rfl
      rw [← hL] at HU
      have hcond : ¬ ((j < l.length) ∧ j < 40) := by rw [HJ.out]; omega
      clear hL
      obtain ⟨V, hV⟩ : ∃ V, V = wr := ⟨_, rfl⟩
      subst hV
      have HBw : Hid (Below w.heap.size w V) := H1.out.trans (HB.out.mono H1.out.size)
      have HES : Hid (∀ w', Below V.heap.size V w' → IsEds w' (fun i => w1.heap.size ≤ i) (.slice p6 j c6) L) := fun w' hb => (eds_of HU.out).any hb
      have KC : Calls Try.prog 9 #[.int .i64 (1 + (m : Int)), .slice p6 j c6] V fun e w' => ∃ q c, e = .returned (.tuple #[.slice q (1 + m) c, .int .i64 0]) ∧ Hid (IsInts w' Any (.slice q (1 + m) c) (compsT (1 + m) L)) ∧ Hid (Below V.heap.size V w') := by
        have := comps_ok (1 + m) _ L V (HES.out V (Below.refl _ _)) HM.out
        rw [show ((1 + m : Nat) : Int) = 1 + (m : Int) by omega] at this
        refine this.mono fun e w' ⟨u, h1, h2, h3⟩ => ?_
        obtain ⟨q, c, hq⟩ := h2.out.slc
        rw [compsT_length] at hq
        subst hq
        exact ⟨q, c, h1, h2.out.keep (Nat.le_refl _) (fun _ _ _ => rfl) (fun _ _ _ => trivial), h3⟩
      have KR : Hid (∀ (a b : Nat) (w' : World), a < 1 + m → b < 1 + m → Below V.heap.size V w' → Calls Try.prog 13 #[.int .i64 (1 + (m : Int)), .slice p6 j c6, .int .i64 (a : Int), .int .i64 (b : Int)] w' fun e w'' => e = .returned (.bool (wayB (1 + m) L a b)) ∧ Hid (Below w'.heap.size w' w'')) := fun a b w' ha hb hw => by
        have := reaches_any ((1 + m : Nat) : Int) _ L (a : Int) (b : Int) w' (HES.out w' hw)
        rw [reach_way HM.out ha hb, show ((1 + m : Nat) : Int) = 1 + (m : Int) by omega] at this
        exact this
      have hcase : (j < l.length ∧ ¬ j < 40) ∨ ¬ j < l.length := by
        by_cases h : j < l.length
        · exact Or.inl ⟨h, fun h' => hcond ⟨h, h'⟩⟩
        · exact Or.inr h
      clear hcond
      rcases hcase with ⟨hx1, hx2⟩ | hx1
      all_goals
        go_wp2_with (first
          | (go_at_call 9; refine KC.mono ?_; rintro e w2 ⟨q2, c2, rfl, I2, b2⟩)
          | (go_at_call 12; refine (num_any _ _).mono ?_; rintro e wn ⟨rfl, rfl⟩))
        obtain ⟨g2, o2, hq2, hg2, hcells⟩ := I2.out.all (by rw [compsT_length]; omega)
        subst hq2
        have HC : Hid (∀ i w', i < 1 + m → Below w2.heap.size w2 w' → w'.cell? ⟨g2, o2 + i, none⟩ = some (.int .i64 ((comp (1 + m) L i : Nat) : Int))) := fun i w' hi hb => (hb.cell (p := ⟨g2, o2 + i, none⟩) hg2).trans (hcells i _ (compsT_at L hi))
        clear hcells KC
        have HV2 : Hid (∀ w', Below w2.heap.size w2 w' → Below V.heap.size V w') := fun w' hb => b2.out.trans (hb.mono b2.out.size)
        go_loopw [10] (fun x wr => ∃ i : Nat, i ≤ 1 + m ∧ x = .int .i64 i ∧ Hid (Below w2.heap.size w2 wr)) (fun x _ => 1 + m - (intOf x).toNat)
        case atStart => exact ⟨0, Nat.zero_le _, rfl, Below.refl _ _⟩
        case round =>
          obtain ⟨i, hi, rfl, HBi⟩ := hrel
          by_cases hli : i < 1 + m
          · obtain ⟨hs1, hs2, hs3⟩ := comp_spec HE.out hli
            have hid := comp_idem HE.out hli
            have e1 := HC.out i wr hli HBi.out
            have e2 := HC.out (comp (1 + m) L i) wr (by omega) HBi.out
            rw [hid] at e2
            have HCI : Hid (∀ w', Below w2.heap.size w2 w' → w'.cell? ⟨g2, o2 + i, none⟩ = some (.int .i64 ((comp (1 + m) L i : Nat) : Int))) := fun w' hb => HC.out i w' hli hb
            have HEQ : Hid (∀ j', j' < 1 + m → (comp (1 + m) L i = comp (1 + m) L j' ↔ both (1 + m) L i j' = true)) := fun j' hj' => comp_eq HE.out hli hj'
            clear hs2 hs3 hid
            generalize comp (1 + m) L i = ci at *
            have hn1 : ¬ ((ci : Int) < 0) := by omega
            have hn2 : ¬ ((i : Int) < (ci : Int)) := by omega
            have hn3 : ci < 1 + m := by omega
            have hn4 : (0 : Int) ≤ (ci : Int) := by omega
            have hn5 : (ci : Int) < ((1 + m : Nat) : Int) := by omega
            have hn6 : (ci : Int) < 1 + (m : Int) := by omega
            have hn7 : decide ((i : Int) < (ci : Int)) = false := decide_eq_false hn2
            have hn8 : ¬ (i < ci) := by omega
            have hn9 : decide (i < ci) = false := decide_eq_false hn8
            obtain ⟨Y, hY⟩ : ∃ Y, Y = wr := ⟨_, rfl⟩
            subst hY
            have HS1 : Hid (∀ w', Below Y.heap.size Y w' → Below Y.heap.size Y w' ∧ w'.cell? ⟨g2, o2 + i, none⟩ = some (.int .i64 (ci : Int)) ∧ w'.cell? ⟨g2, o2 + ci, none⟩ = some (.int .i64 (ci : Int))) := fun w' hb => ⟨hb, (hb.cell (p := ⟨g2, o2 + i, none⟩) (Nat.lt_of_lt_of_le hg2 HBi.out.size)).trans e1, (hb.cell (p := ⟨g2, o2 + ci, none⟩) (Nat.lt_of_lt_of_le hg2 HBi.out.size)).trans e2⟩
            clear e1 e2
            go_wp2
            go_region_held3 (fun w' => Below Y.heap.size Y w' ∧ w'.cell? ⟨g2, o2 + i, none⟩ = some (.int .i64 (ci : Int)) ∧ w'.cell? ⟨g2, o2 + ci, none⟩ = some (.int .i64 (ci : Int)))
              ((refine HS1.out _ ?_; (repeat' (first | with_reducible assumption | with_reducible exact Below.refl _ _ | with_reducible apply bel_drew))))
              (fail)
            go_wp2
            go_loopw [11] (fun x wr => ∃ k : Nat, k ≤ 1 + m ∧ x = .int .i64 k ∧ Hid (Below w2.heap.size w2 wr)) (fun x _ => 1 + m - (intOf x).toNat)
            case atStart => exact ⟨0, Nat.zero_le _, rfl, bel_drew HBi.out⟩
            case round =>
              obtain ⟨k, hk, rfl, HBk⟩ := hrel
              by_cases hlk : k < 1 + m
              · obtain ⟨X, hX⟩ : ∃ X, X = wr := ⟨_, rfl⟩
                subst hX
                obtain ⟨ck, hck⟩ : ∃ ck, ck = comp (1 + m) L k := ⟨_, rfl⟩
                have hiff := HEQ.out k hlk
                rw [← hck] at hiff
                have HSS : Hid (∀ w', Below X.heap.size X w' → Below X.heap.size X w' ∧ w'.cell? ⟨g2, o2 + i, none⟩ = some (.int .i64 (ci : Int)) ∧ w'.cell? ⟨g2, o2 + k, none⟩ = some (.int .i64 (ck : Int))) := fun w' hb => by
                  have hb2 := HBk.out.trans (hb.mono HBk.out.size)
                  exact ⟨hb, HCI.out w' hb2, by rw [hck]; exact HC.out k w' hlk hb2⟩
                have KR2 : Hid (∀ (a b : Nat) (w' : World), a < 1 + m → b < 1 + m → Below X.heap.size X w' → Calls Try.prog 13 #[.int .i64 (1 + (m : Int)), .slice p6 j c6, .int .i64 (a : Int), .int .i64 (b : Int)] w' fun e w'' => e = .returned (.bool (wayB (1 + m) L a b)) ∧ Below X.heap.size X w'') := fun a b w' ha hb hw =>
                  (KR.out a b w' ha hb (HV2.out _ (HBk.out.trans (hw.mono HBk.out.size)))).mono fun e w'' ⟨h1, h2⟩ => ⟨h1, hw.trans (h2.out.mono hw.size)⟩
                have HB2 : Hid (∀ w', Below X.heap.size X w' → Below w2.heap.size w2 w') := fun w' hb => HBk.out.trans (hb.mono HBk.out.size)
                go_wp2
                go_cut [130] from 104 to 162 (fun b wc => b = .bool false ∧ Hid (Below w2.heap.size w2 wc))
                case first =>
                  cases r1 : wayB (1 + m) L i k with
                  | false =>
                    have hne : ¬ ci = ck := fun e => by have := hiff.1 e; unfold both at this; rw [r1] at this; cases this
                    have hne2 : ((ci : Int) == (ck : Int)) = false := by rw [beq_eq_false_iff_ne]; omega
                    have hne3 : ¬ ((ci : Int) = (ck : Int)) := by omega
                    clear hiff hck
                    have KA : ∀ w', Below X.heap.size X w' → Calls Try.prog 13 #[.int .i64 (1 + (m : Int)), .slice p6 j c6, .int .i64 (i : Int), .int .i64 (k : Int)] w' fun e w'' => e = .returned (.bool false) ∧ Below X.heap.size X w'' := fun w' hb => by have := KR2.out i k w' hli hlk hb; rwa [r1] at this
                    obtain ⟨ι, f, n0, hf0, hf, hcl⟩ := family2 (fun w' => Below X.heap.size X w') X.drew (bel_drew (Below.refl _ _))
                    have hne0 : Nonempty ι := ⟨n0⟩
                    have z1 := fun n => (HSS.out (f n) (hf n)).2.1
                    have z2 := fun n => (HSS.out (f n) (hf n)).2.2
                    refine region_class f (by kernel_rfl) (by kernel_rfl) ⟨n0, hf0⟩ ?_
                    clear hf0
                    repeat (go_big_quiet_step ((go_at_call 13; (with_reducible refine (KA _ (hf _)).mono ?_; rintro e w' ⟨rfl, hb⟩; exact ⟨rfl, hcl _ hb⟩))))
                    refine wpQuiet_nil ?_
                    intro w9 hw9
                    obtain ⟨mm, rfl⟩ := hw9
                    have H9 : Hid (Below w2.heap.size w2 (f mm)) := HB2.out _ (hf mm)
                    generalize f mm = w9 at H9
                    clear hcl hf hne0 n0 z1 z2
                    clear f
                    go_wp2
                    go_meet
                    case rel => exact ⟨rfl, H9⟩
                  | true =>
                    cases r2 : wayB (1 + m) L k i with
                    | false =>
                      have hne : ¬ ci = ck := fun e => by have := hiff.1 e; unfold both at this; rw [r1, r2] at this; cases this
                      have hne2 : ((ci : Int) == (ck : Int)) = false := by rw [beq_eq_false_iff_ne]; omega
                      have hne3 : ¬ ((ci : Int) = (ck : Int)) := by omega
                      clear hiff hck
                      have KA : ∀ w', Below X.heap.size X w' → Calls Try.prog 13 #[.int .i64 (1 + (m : Int)), .slice p6 j c6, .int .i64 (i : Int), .int .i64 (k : Int)] w' fun e w'' => e = .returned (.bool true) ∧ Below X.heap.size X w'' := fun w' hb => by have := KR2.out i k w' hli hlk hb; rwa [r1] at this
                      have KB : ∀ w', Below X.heap.size X w' → Calls Try.prog 13 #[.int .i64 (1 + (m : Int)), .slice p6 j c6, .int .i64 (k : Int), .int .i64 (i : Int)] w' fun e w'' => e = .returned (.bool false) ∧ Below X.heap.size X w'' := fun w' hb => by have := KR2.out k i w' hlk hli hb; rwa [r2] at this
                      obtain ⟨ι, f, n0, hf0, hf, hcl⟩ := family2 (fun w' => Below X.heap.size X w') X.drew (bel_drew (Below.refl _ _))
                      have hne0 : Nonempty ι := ⟨n0⟩
                      have z1 := fun n => (HSS.out (f n) (hf n)).2.1
                      have z2 := fun n => (HSS.out (f n) (hf n)).2.2
                      refine region_class f (by kernel_rfl) (by kernel_rfl) ⟨n0, hf0⟩ ?_
                      clear hf0
                      repeat (go_big_quiet_step ((go_at_call 13; first | (with_reducible refine (KA _ (hf _)).mono ?_; rintro e w' ⟨rfl, hb⟩; exact ⟨rfl, hcl _ hb⟩) | (with_reducible refine (KB _ (hf _)).mono ?_; rintro e w' ⟨rfl, hb⟩; exact ⟨rfl, hcl _ hb⟩))))
                      refine wpQuiet_nil ?_
                      intro w9 hw9
                      obtain ⟨mm, rfl⟩ := hw9
                      have H9 : Hid (Below w2.heap.size w2 (f mm)) := HB2.out _ (hf mm)
                      generalize f mm = w9 at H9
                      clear hcl hf hne0 n0 z1 z2
                      clear f
                      go_wp2
                      go_meet
                      case rel => exact ⟨rfl, H9⟩
                    | true =>
                      have hee : ck = ci := (hiff.2 (by unfold both; rw [r1, r2]; rfl)).symm
                      clear hiff hck
                      subst hee
                      have KA : ∀ w', Below X.heap.size X w' → Calls Try.prog 13 #[.int .i64 (1 + (m : Int)), .slice p6 j c6, .int .i64 (i : Int), .int .i64 (k : Int)] w' fun e w'' => e = .returned (.bool true) ∧ Below X.heap.size X w'' := fun w' hb => by have := KR2.out i k w' hli hlk hb; rwa [r1] at this
                      have KB : ∀ w', Below X.heap.size X w' → Calls Try.prog 13 #[.int .i64 (1 + (m : Int)), .slice p6 j c6, .int .i64 (k : Int), .int .i64 (i : Int)] w' fun e w'' => e = .returned (.bool true) ∧ Below X.heap.size X w'' := fun w' hb => by have := KR2.out k i w' hlk hli hb; rwa [r2] at this
                      obtain ⟨ι, f, n0, hf0, hf, hcl⟩ := family2 (fun w' => Below X.heap.size X w') X.drew (bel_drew (Below.refl _ _))
                      have hne0 : Nonempty ι := ⟨n0⟩
                      have z1 := fun n => (HSS.out (f n) (hf n)).2.1
                      have z2 := fun n => (HSS.out (f n) (hf n)).2.2
                      refine region_class f (by kernel_rfl) (by kernel_rfl) ⟨n0, hf0⟩ ?_
                      clear hf0
                      repeat (go_big_quiet_step ((go_at_call 13; first | (with_reducible refine (KA _ (hf _)).mono ?_; rintro e w' ⟨rfl, hb⟩; exact ⟨rfl, hcl _ hb⟩) | (with_reducible refine (KB _ (hf _)).mono ?_; rintro e w' ⟨rfl, hb⟩; exact ⟨rfl, hcl _ hb⟩))))
                      refine wpQuiet_nil ?_
                      intro w9 hw9
                      obtain ⟨mm, rfl⟩ := hw9
                      have H9 : Hid (Below w2.heap.size w2 (f mm)) := HB2.out _ (hf mm)
                      generalize f mm = w9 at H9
                      clear hcl hf hne0 n0 z1 z2
                      clear f
                      go_wp2
                      go_meet
                      case rel => exact ⟨rfl, H9⟩
                case rest =>
                  obtain ⟨rfl, HBc⟩ := hcut
                  go_wp2
                  go_loopw [12] (fun x wr => ∃ q : Nat, q ≤ j ∧ x = .int .i64 q ∧ Hid (Below w2.heap.size w2 wr)) (fun x _ => j - (intOf x).toNat)
                  case atStart => exact ⟨0, Nat.zero_le _, rfl, HBc⟩
                  case round =>
                    obtain ⟨q, hq, rfl, HBr⟩ := hrel
                    by_cases hlq : q < j
                    · obtain ⟨t, ht⟩ : ∃ t, L[q]? = some t := ⟨_, List.getElem?_eq_getElem (by rw [← HLn.out]; exact hlq)⟩
                      have htm := List.mem_of_getElem? ht
                      have hed := edB_lt (List.all_eq_true.1 HE.out t htm)
                      obtain ⟨t0, t1, t2⟩ := t
                      simp only at hed
                      obtain ⟨x, rfl⟩ : ∃ x : Nat, t0 = (x : Int) := ⟨t0.toNat, by omega⟩
                      obtain ⟨y, rfl⟩ : ∃ y : Nat, t1 = (y : Int) := ⟨t1.toNat, by omega⟩
                      have hx : x < 1 + m := by omega
                      have hy : y < 1 + m := by omega
                      obtain ⟨Z, hZ⟩ : ∃ Z, Z = wr := ⟨_, rfl⟩
                      subst hZ
                      obtain ⟨g6, o6, hp6, hg6, d0, d1, -⟩ := (HES.out Z (HV2.out _ HBr.out)).at ht
                      subst hp6
                      have HD : Hid (∀ w', Below Z.heap.size Z w' → w'.cell? ⟨g6, o6 + q * 3 + 1, none⟩ = some (.int .i64 (y : Int))) := fun w' hb => (hb.cell (p := ⟨g6, o6 + q * 3 + 1, none⟩) hg6).trans d1
                      have HMO : Hid (wayB (1 + m) L i x = true → wayB (1 + m) L i y = true) := fun h => way_more HE.out hli htm h
                      have KR3 : Hid (∀ (a b : Nat) (w' : World), a < 1 + m → b < 1 + m → Below Z.heap.size Z w' → Calls Try.prog 13 #[.int .i64 (1 + (m : Int)), .slice (some ⟨g6, o6, none⟩) j c6, .int .i64 (a : Int), .int .i64 (b : Int)] w' fun e w'' => e = .returned (.bool (wayB (1 + m) L a b)) ∧ Below Z.heap.size Z w'') := fun a b w' ha hb hw =>
                        (KR.out a b w' ha hb (HV2.out _ (HBr.out.trans (hw.mono HBr.out.size)))).mono fun e w'' ⟨h1, h2⟩ => ⟨h1, hw.trans (h2.out.mono hw.size)⟩
                      have HZ : Hid (∀ w', Below Z.heap.size Z w' → Below w2.heap.size w2 w') := fun w' hb => HBr.out.trans (hb.mono HBr.out.size)
                      clear ht htm hed
                      by_cases hxk : x = k
                      · subst hxk
                        cases r1 : wayB (1 + m) L i x with
                        | false =>
                          go_wp2_with (go_at_call 13; refine (KR3.out _ _ _ ?_ ?_ ?_).mono ?_; omega; omega; exact Below.refl _ _; rintro e w9 ⟨rfl, b9⟩; rw [r1])
                          go_roundw
                          case rel => exact ⟨q + 1, by omega, by go_num, HZ.out _ b9⟩
                          case measure => simp [intOf]; omega
                        | true =>
                          have r2 := HMO.out r1
                          have T0 : Hid True := trivial
                          go_wp2_with (go_at_call 13; first
                            | (have hh := T0; clear hh T0; refine (KR3.out _ _ _ ?_ ?_ ?_).mono ?_; omega; omega; exact Below.refl _ _; rintro e w9 ⟨rfl, b9⟩; rw [r1]; have d9 := HD.out _ b9)
                            | (refine (KR3.out _ _ _ ?_ ?_ b9).mono ?_; omega; omega; rintro e w10 ⟨rfl, b10⟩; rw [r2]))
                          go_roundw
                          case rel => exact ⟨q + 1, by omega, by go_num, HZ.out _ b10⟩
                          case measure => simp [intOf]; omega
                      · have hxk2 : ((x : Int) == (k : Int)) = false := by rw [beq_eq_false_iff_ne]; omega
                        have hxk3 : ¬ ((x : Int) = (k : Int)) := by omega
                        go_wp2
                        go_roundw
                        case rel => exact ⟨q + 1, by omega, by go_num, HBr⟩
                        case measure => simp [intOf]; omega
                    · obtain rfl : q = j := by omega
                      go_wp2
                      go_roundw
                      case rel => exact ⟨k + 1, by omega, by go_num, HBr⟩
                      case measure => simp [intOf]; omega
              · obtain rfl : k = 1 + m := by omega
                go_wp2
                go_roundw
                case rel => exact ⟨i + 1, by omega, by go_num, HBk⟩
                case measure => simp [intOf]; omega
          · obtain rfl : i = 1 + m := by omega
            have HF : Hid (Below w.heap.size w wr) := HBw.out.trans ((HV2.out _ HBi.out).mono HBw.out.size)
            go_wp2
            go_ret
            exact ⟨rfl, HF.out⟩
end Go.Proofs.Ytalckpaeleflnaa
