/- ComponentsMore, walked. -/
import Derived.Test.YtalckpaeleflnaaCmpApp
import Derived.Test.YtalckpaeleflnaaComponentsFormsW
import Derived.Deep.CutRange
namespace Go.Proofs.Ytalckpaeleflnaa
set_option linter.unusedVariables false
open Go.ChangeShapes Go.WideShapes Go.ChangeAt Go.RowKit

theorem region_class {P : Program} {id : Nat} {Q : Exit → Act → World → Prop} {a : Act} {w : World} {l : List Oper} {ι : Type} (f : ι → World) (hm : P.follows .mixedOrders = true) (hB : Region.lexB .any l.toArray = true) (h0 : ∃ n, w.drew = f n)
    (h : wpQuiet P l.toArray (fun w' => ∃ n, w' = f n) (fun a' => ∀ w', (∃ n, w' = f n) → Q .normal a' w') l a) : (Code.region id l.toArray true).wp P Q a w :=
  wp_region_quiet (C := fun w' => ∃ n, w' = f n) hm hB h0 (by simpa using h)
/-- The worlds of a property, as a family. -/
theorem family2 (I : World → Prop) (w : World) (h : I w) : ∃ (ι : Type) (f : ι → World) (n0 : ι), w = f n0 ∧ (∀ n, I (f n)) ∧ ∀ w', I w' → ∃ m, w' = f m :=
  ⟨{x // I x}, Subtype.val, ⟨w, h⟩, rfl, Subtype.property, fun w' h => ⟨⟨w', h⟩, rfl⟩⟩
theorem IsInts.all {w : World} {F : Nat → Prop} {p : Option Addr} {n c : Nat} {l : List Int} (h : IsInts w F (.slice p n c) l) (hl : 0 < l.length) : ∃ g o, p = some ⟨g, o, none⟩ ∧ g < w.heap.size ∧ ∀ k z, l[k]? = some z → w.cell? ⟨g, o + k, none⟩ = some (.int .i64 z) := by
  obtain ⟨p2, c2, e2, _, hc⟩ := h
  injection e2 with e3
  subst e3
  obtain ⟨g, o, e9, _, hg, cc, _⟩ := hc (by omega)
  exact ⟨g, o, e9, hg, fun k z hk => cc k _ (by unfold intsV; rw [List.getElem?_map, hk]; rfl)⟩
def fit7 (e : Ed) : Ed := (bits .and .i64 e.1 7, bits .and .i64 e.2.1 7, false)
theorem and7 (x : Int) : ∃ r : Nat, r ≤ 7 ∧ bits .and .i64 x 7 = (r : Int) := andM 7 (by decide) x
theorem fit7_ok (l : List Ed) : edsB ((8 : Nat) : Int) (l.map fit7) = true := by
  unfold edsB
  rw [List.all_eq_true]
  intro e he
  obtain ⟨d, _, rfl⟩ := List.mem_map.1 he
  obtain ⟨x, hx, e1⟩ := and7 d.1
  obtain ⟨y, hy, e2⟩ := and7 d.2.1
  unfold edB endB fit7
  simp only [e1, e2, Bool.and_eq_true, decide_eq_true_eq]
  omega
theorem take_fit7 {l : List Ed} {k : Nat} {t : Ed} (ht : l[k]? = some t) : (l.take (k + 1)).map fit7 = (l.take k).map fit7 ++ [fit7 t] := by
  rw [List.take_add_one, ht]; simp
theorem may8 {l : List Ed} (h : edsB ((8 : Nat) : Int) l = true) : mayE ((8 : Nat) : Int) l = true := by
  unfold mayE; rw [h]; rfl
theorem snoc_ok {l : List Ed} (h : edsB ((8 : Nat) : Int) l = true) {x y : Nat} (hx : x ≤ 7) (hy : y ≤ 7) : edsB ((8 : Nat) : Int) (l ++ [((x : Int), (y : Int), false)]) = true := by
  unfold edsB at *
  rw [List.all_append, h]
  simp only [List.all_cons, List.all_nil, Bool.and_true, Bool.true_and]
  unfold edB endB
  simp only [Bool.and_eq_true, decide_eq_true_eq]
  omega
theorem more_way {l : List Ed} (h : edsB ((8 : Nat) : Int) l = true) {x y : Nat} (hx : x ≤ 7) (hy : y ≤ 7) {i j : Nat} (hi : i < 8) (hj : j < 8) :
    wayB 8 (l ++ [((x : Int), (y : Int), false)]) i j = (wayB 8 l i j || wayB 8 l i x && wayB 8 l y j) := by
  rw [Bool.eq_iff_iff, way_iff (snoc_ok h hx hy) hi, way_snoc]
  simp only [Bool.or_eq_true, Bool.and_eq_true]
  rw [way_iff h hi, way_iff h hi, way_iff h (show y < 8 by omega)]
  simp only [Int.toNat_natCast]
theorem more_comp {l : List Ed} (h : edsB ((8 : Nat) : Int) l = true) {x y : Nat} (hx : x ≤ 7) (hy : y ≤ 7) {i j : Nat} (hi : i < 8) (hj : j < 8) (e : comp 8 l i = comp 8 l j) :
    comp 8 (l ++ [((x : Int), (y : Int), false)]) i = comp 8 (l ++ [((x : Int), (y : Int), false)]) j := by
  rw [comp_eq h hi hj] at e
  rw [comp_eq (snoc_ok h hx hy) hi hj]
  unfold both at *
  rw [Bool.and_eq_true] at *
  rw [more_way h hx hy hi hj, more_way h hx hy hj hi, e.1, e.2]
  simp
theorem not_drew {w : World} {B e size n : Nat} {v : Value} {xs : List Value} (h : w.ownsRow B e size v n xs) : w.drew.ownsRow B e size v n xs := h
/-- A row of edges and an edge more, both in a new row. -/
theorem more_run {V : World} {B : Nat} {p : Option Addr} {c : Nat} {l : List Ed} (hown : V.ownsRow B 37 3 (.slice p l.length c) l.length (edsV l)) (hB : B ≤ V.heap.size) (hn : l.length ≤ 1000) :
    ∃ q k w', (Builtin.append_ #[22, 22] 22 #[.slice (some ⟨V.heap.size, 0, none⟩) 0 0, .slice p l.length c]).run Try.prog (V.alloc (.cells #[] 37)) = .ok (.slice q l.length k) w' ∧ w'.ownsRow V.heap.size 37 3 (.slice q l.length k) l.length (edsV l) ∧ Below V.heap.size V w' := by
  obtain ⟨i, hi0, hz0, hz1, hz2⟩ := info_parts Try.infoEd
  have ho : (V.alloc (.cells #[] 37)).ownsRow V.heap.size 37 3 (.slice (some ⟨V.heap.size, 0, none⟩) 0 0) 0 [] := World.ownsRow_made V _ 0 (Nat.le_refl _) (Nat.zero_le _) rfl
  have hr : Reads (V.alloc (.cells #[] 37)) Any (.slice p l.length c) l.length (edsV l) := (Reads.of (F := Any) hown (fun _ _ => trivial)).any (bel1 V _)
  obtain ⟨v', w', h1, h2, h3⟩ := run_append_reads (P := Try.prog) V.heap.size 22 22 37 i _ 3 24 Try.underlying22 hi0 hz0 hz1 hz2 rfl (by decide) _ 0 [] ho _ l.length _ hr (edsV_length l) (edsV_one l) (by unfold maxLen; omega) (by omega) (by simp)
  simp only [List.nil_append, Nat.zero_add] at h2
  obtain ⟨q, k, hv⟩ := row_slice h2
  subst hv
  exact ⟨q, k, w', h1, h2, (bel1 V _).grown h3 (by simp) (fun g hg => by have hg : some V.heap.size = some g := hg; injection hg with hg; omega)⟩
/-- As app_ed, in a region in the text's order. -/
theorem app_ed2 {V : World} {B n : Nat} {p : Option Addr} {c : Nat} {l : List Ed} (hown : V.ownsRow B 37 3 (.slice p n c) n (edsV l)) (hB : B ≤ V.heap.size) (hn : n ≤ 1000) (x y : Int) (z : Bool) :
    ∃ q k w', (Builtin.append_ #[22, 22] 22 #[.slice p n c, .slice (some ⟨V.heap.size, 0, none⟩) 1 1]).run Try.prog (V.alloc (.cells #[.int .i64 x, .int .i64 y, .bool z] 37)) = .ok (.slice q (n + 1) k) w' ∧ w'.ownsRow B 37 3 (.slice q (n + 1) k) (n + 1) (edsV (l ++ [(x, y, z)])) ∧ Below B V w' := by
  obtain ⟨i, hi0, hz0, hz1, hz2⟩ := info_parts Try.infoEd
  have hr : Reads (V.alloc (.cells #[.int .i64 x, .int .i64 y, .bool z] 37)) Any (.slice (some ⟨V.heap.size, 0, none⟩) 1 1) 1 [.int .i64 x, .int .i64 y, .bool z] := reads_laid (heap_alloc_new V _) (by unfold maxLen; omega) rfl
  obtain ⟨v', w', h1, h2, h3⟩ := run_append_reads (P := Try.prog) B 22 22 37 i _ 3 24 Try.underlying22 hi0 hz0 hz1 hz2 rfl (by decide) _ n (edsV l) (hown.alloc _) _ 1 _ hr rfl (by simp [Value.oneCell']) (by unfold maxLen; omega) (by omega) (by simp; omega)
  obtain ⟨q, k, hv⟩ := row_slice h2
  subst hv
  refine ⟨q, k, w', h1, by rw [edsV_append]; exact h2, ((Below.refl B V).alloc hB _).grown h3 (by simp; omega) (fun g hg => (hown.lt g hg).1)⟩
set_option maxHeartbeats 8000000 in
set_option maxRecDepth 100000 in
theorem componentsMore_walk (w : World) (v : Value) (l : List Ed) (ha : IsEds w Any v l) (hz : l.length * 24 ≤ reachBytes) (ok : ∀ e, e ∈ l → okE e) (a1 : Int) (w1 : (Lit.int .i64 a1).wf = true) (a2 : Int) (w2 : (Lit.int .i64 a2).wf = true) :
    Calls Try.prog 7 #[v, .int .i64 a1, .int .i64 a2] w fun e w' => e = .returned (.bool true) ∧ Below w.heap.size w w' := by
  obtain ⟨x, hx, ex⟩ := and7 a1
  obtain ⟨y, hy, ey⟩ := and7 a2
  obtain ⟨p, cp, rfl⟩ := ha.slc
  have HA : Hid (IsEds w Any (.slice p l.length cp) l) := ha
  have hm9 : l.length ≤ 9223372036854775807 := by have := ha.len; unfold maxLen at this; omega
  obtain ⟨J, hJ⟩ : ∃ J, J = min 20 l.length := ⟨_, rfl⟩
  have hJ1 : J ≤ 20 := by omega
  have hJ2 : J ≤ l.length := by omega
  have HJ : Hid (J = min 20 l.length) := hJ
  clear ha ok hz hJ w1 w2
  go_enter Try.func7, Try.ntmps7
  go_wp2_with (go_at_call 16; refine (awake7_any _).mono ?_; rintro e w1 ⟨rfl, H1⟩)
  go_loopw [7, 8] (fun u x wr => ∃ j : Nat, j ≤ J ∧ x = .int .i64 j ∧ Hid (wr.ownsRow w1.heap.size 37 3 u j (edsV ((l.take j).map fit7))) ∧ Hid (Below w1.heap.size w1 wr)) (fun _ x _ => J - (intOf x).toNat)
  case atStart => exact ⟨0, Nat.zero_le _, rfl, World.ownsRow_nil _ _ _ _, Below.refl _ _⟩
  case round =>
    obtain ⟨j, hj, rfl, HU, HB⟩ := hrel
    obtain ⟨p6, c6, hu⟩ := row_slice HU.out
    subst hu
    by_cases hlt : j < J
    · obtain ⟨t, ht⟩ : ∃ t, l[j]? = some t := ⟨_, List.getElem?_eq_getElem (by omega)⟩
      have HBw : Hid (Below w.heap.size w wr) := H1.out.trans (HB.out.mono H1.out.size)
      obtain ⟨g1, o1, hp, -, q0, q1, q2⟩ := (HA.out.any HBw.out).at ht
      subst hp
      obtain ⟨t0, t1, t2⟩ := t
      simp only at q0 q1 q2
      obtain ⟨a, hxa, ea⟩ := and7 t0
      obtain ⟨b, hxb, eb⟩ := and7 t1
      have HF : Hid ((l.take (j + 1)).map fit7 = (l.take j).map fit7 ++ [((a : Int), (b : Int), false)]) := by
        show _ = _
        rw [take_fit7 ht]; unfold fit7; rw [ea, eb]
      obtain ⟨V, hV⟩ : ∃ V, V = wr := ⟨_, rfl⟩
      subst hV
      obtain ⟨q8, c8, w8, hrun, hown, hb8⟩ := app_ed HU.out HB.out.size (by omega) (a : Int) (b : Int) false
      have HU8 : Hid (w8.ownsRow w1.heap.size 37 3 (.slice q8 (j + 1) c8) (j + 1) (edsV ((l.take (j + 1)).map fit7))) := by show World.ownsRow _ _ _ _ _ _ _; rw [HF.out]; exact hown
      have HB8 : Hid (Below w1.heap.size w1 w8) := HB.out.trans hb8
      have LA := stepApp hrun
      unfold StepApp at LA
      have hl1 : j < l.length := by omega
      have hl2 : j < 20 := by omega
      clear ht hown hb8 hrun
      go_wp2
      go_region_law (with_reducible refine LA _ _ _ _ _ _ ?_ ?_ ?_ ?_; rfl; exact ⟨_, _, rfl, rfl, rfl⟩; rfl)
      all_goals
        go_wp2
        go_roundw
        case rel => exact ⟨j + 1, by omega, by go_num, HU8, HB8⟩
        case measure => simp [intOf]; omega
    · obtain rfl : j = J := by omega
      obtain ⟨L, hL⟩ : ∃ L, L = (l.take j).map fit7 := ⟨_, rfl⟩
      have hLn : j = L.length := by rw [hL]; simp; omega
      have HE : Hid (edsB ((8 : Nat) : Int) L = true) := by show _ = _; rw [hL]; exact fit7_ok _
      rw [← hL] at HU
      have hcond : ¬ ((j < l.length) ∧ j < 20) := by rw [HJ.out]; omega
      clear hL
      obtain ⟨V, hV⟩ : ∃ V, V = wr := ⟨_, rfl⟩
      subst hV
      have HBw : Hid (Below w.heap.size w V) := H1.out.trans (HB.out.mono H1.out.size)
      obtain ⟨q2, c2, W2, run2, own2, bel2⟩ := more_run (l := L) (by rw [← hLn]; exact HU.out) HB.out.size (by omega)
      obtain ⟨q3, c3, W3, run3, own3, bel3⟩ := app_ed2 own2 bel2.size (by omega) (x : Int) (y : Int) false
      have HV3 : Hid (Below V.heap.size V W3) := bel2.trans bel3
      have HES : Hid (∀ w', Below W3.heap.size W3 w' → IsEds w' Any (.slice p6 j c6) L) := fun w' hb => by
        have h0 : IsEds V Any (.slice p6 j c6) L := (eds_of HU.out).keep (Nat.le_refl _) (fun _ _ _ => rfl) (fun _ _ _ => trivial)
        exact (h0.any HV3.out).any hb
      obtain ⟨M, hM⟩ : ∃ M, M = L ++ [((x : Int), (y : Int), false)] := ⟨_, rfl⟩
      have HEM : Hid (∀ w', Below W3.heap.size W3 w' → IsEds w' Any (.slice q3 (j + 1) c3) M) := fun w' hb => by
        have h0 : IsEds W3 Any (.slice q3 (L.length + 1) c3) (L ++ [((x : Int), (y : Int), false)]) := (eds_of own3).keep (Nat.le_refl _) (fun _ _ _ => rfl) (fun _ _ _ => trivial)
        rw [← hLn] at h0
        rw [hM]
        exact h0.any hb
      have HEB : Hid (edsB ((8 : Nat) : Int) M = true) := by show _ = _; rw [hM]; exact snoc_ok HE.out hx hy
      have HWM : Hid (∀ i k, i < 8 → k < 8 → wayB 8 M i k = (wayB 8 L i k || wayB 8 L i x && wayB 8 L y k)) := fun i k hi hk => by rw [hM]; exact more_way HE.out hx hy hi hk
      have HCM : Hid (∀ i k, i < 8 → k < 8 → comp 8 L i = comp 8 L k → comp 8 M i = comp 8 M k) := fun i k hi hk e => by rw [hM]; exact more_comp HE.out hx hy hi hk e
      rw [← hLn] at run2 run3
      have KC : Hid (∀ (u : Value) (Z : List Ed) (w' : World), edsB ((8 : Nat) : Int) Z = true → IsEds w' Any u Z → Calls Try.prog 9 #[.int .i64 8, u] w' fun e w'' => ∃ q c, e = .returned (.tuple #[.slice q 8 c, .int .i64 0]) ∧ Hid (∃ g o, q = some ⟨g, o, none⟩ ∧ g < w''.heap.size ∧ ∀ k, k < 8 → w''.cell? ⟨g, o + k, none⟩ = some (.int .i64 ((comp 8 Z k : Nat) : Int))) ∧ Hid (Below w'.heap.size w' w'')) := fun u Z w' hz hu => (comps_ok 8 u Z w' hu (may8 hz)).mono fun e w'' ⟨uu, h1, h2, h3⟩ => by
        obtain ⟨q, c, hq⟩ := h2.out.slc
        rw [compsT_length] at hq
        subst hq
        obtain ⟨g, o, e1, e2, e3⟩ := h2.out.all (by rw [compsT_length]; omega)
        exact ⟨q, c, h1, ⟨g, o, e1, e2, fun k hk => e3 k _ (compsT_at Z hk)⟩, h3⟩
      have KR : Hid (∀ (u : Value) (Z : List Ed) (a b : Nat) (w' : World), edsB ((8 : Nat) : Int) Z = true → a < 8 → b < 8 → IsEds w' Any u Z → Calls Try.prog 13 #[.int .i64 8, u, .int .i64 (a : Int), .int .i64 (b : Int)] w' fun e w'' => e = .returned (.bool (wayB 8 Z a b)) ∧ Hid (Below w'.heap.size w' w'')) := fun u Z a b w' hz ha hb hu => by
        have := reaches_any ((8 : Nat) : Int) u Z (a : Int) (b : Int) w' hu
        rw [reach_way (may8 hz) ha hb] at this
        exact this
      have hcase : (j < l.length ∧ ¬ j < 20) ∨ ¬ j < l.length := by
        by_cases h : j < l.length
        · exact Or.inl ⟨h, fun h' => hcond ⟨h, h'⟩⟩
        · exact Or.inr h
      clear hcond own2 own3 bel2 bel3 hM hLn
      have T0 : Hid True := trivial
      rcases hcase with ⟨hx1, hx2⟩ | hx1
      all_goals
        go_wp2_with (first
          | (at_builtin; first
            | (have hh := T0; clear hh T0; refine wpList_run_append rfl _ _ 22 rfl _ _ rfl rfl run2 ?_)
            | (refine wpList_run_append rfl _ _ 22 rfl _ _ rfl rfl run3 ?_; have T1 : Hid True := trivial))
          | (go_at_call 9; first
            | (have hh := T1; clear hh T1; refine (KC.out _ L _ HE.out (HES.out _ (Below.refl _ _))).mono ?_; rintro e w4 ⟨qa, ca, rfl, IA, b4⟩)
            | (refine (KC.out _ M _ HEB.out (HEM.out _ b4.out)).mono ?_; rintro e w5 ⟨qb, cb, rfl, IB, b5⟩))
          | (go_at_call 12; refine (num_any _ _).mono ?_; rintro e wn ⟨rfl, rfl⟩))
        obtain ⟨ga, oa, hqa, hga, hca⟩ := IA.out
        obtain ⟨gb, ob, hqb, hgb, hcb⟩ := IB.out
        subst hqa hqb
        have H5 : Hid (Below W3.heap.size W3 w5) := b4.out.trans (b5.out.mono b4.out.size)
        have HCA : Hid (∀ k w', k < 8 → Below w5.heap.size w5 w' → w'.cell? ⟨ga, oa + k, none⟩ = some (.int .i64 ((comp 8 L k : Nat) : Int))) := fun k w' hk hb => (hb.cell (p := ⟨ga, oa + k, none⟩) (Nat.lt_of_lt_of_le hga b5.out.size)).trans ((b5.out.cell (p := ⟨ga, oa + k, none⟩) hga).trans (hca k hk))
        have HCB : Hid (∀ k w', k < 8 → Below w5.heap.size w5 w' → w'.cell? ⟨gb, ob + k, none⟩ = some (.int .i64 ((comp 8 M k : Nat) : Int))) := fun k w' hk hb => (hb.cell (p := ⟨gb, ob + k, none⟩) hgb).trans (hcb k hk)
        have KF : Hid (∀ (a b : Nat) (w' : World), a < 8 → b < 8 → Below w5.heap.size w5 w' → Calls Try.prog 13 #[.int .i64 8, .slice p6 j c6, .int .i64 (a : Int), .int .i64 (b : Int)] w' fun e w'' => e = .returned (.bool (wayB 8 L a b)) ∧ Hid (Below w'.heap.size w' w'')) := fun a b w' ha hb hw => KR.out _ L a b w' HE.out ha hb (HES.out _ (H5.out.trans (hw.mono H5.out.size)))
        have KM : Hid (∀ (a b : Nat) (w' : World), a < 8 → b < 8 → Below w5.heap.size w5 w' → Calls Try.prog 13 #[.int .i64 8, .slice q3 (j + 1) c3, .int .i64 (a : Int), .int .i64 (b : Int)] w' fun e w'' => e = .returned (.bool (wayB 8 M a b)) ∧ Hid (Below w'.heap.size w' w'')) := fun a b w' ha hb hw => KR.out _ M a b w' HEB.out ha hb (HEM.out _ (H5.out.trans (hw.mono H5.out.size)))
        have HFI : Hid (∀ w', Below w5.heap.size w5 w' → Below w.heap.size w w') := fun w' hb => HBw.out.trans ((HV3.out.trans ((H5.out.trans (hb.mono H5.out.size)).mono HV3.out.size)).mono HBw.out.size)
        clear hca hcb KC KR
        go_loopw [14] (fun x wr => ∃ i : Nat, i ≤ 8 ∧ x = .int .i64 i ∧ Hid (Below w5.heap.size w5 wr)) (fun x _ => 8 - (intOf x).toNat)
        case atStart => exact ⟨0, Nat.zero_le _, rfl, Below.refl _ _⟩
        case round =>
          obtain ⟨i, hi, rfl, HBi⟩ := hrel
          by_cases hli : i < 8
          · have hli2 : (i : Int) < 8 := by omega
            have hli3 : decide ((i : Int) < 8) = true := decide_eq_true hli2
            go_wp2
            go_loopw [15] (fun x wr => ∃ k : Nat, k ≤ 8 ∧ x = .int .i64 k ∧ Hid (Below w5.heap.size w5 wr)) (fun x _ => 8 - (intOf x).toNat)
            case atStart => exact ⟨0, Nat.zero_le _, rfl, HBi⟩
            case round =>
              obtain ⟨k, hk, rfl, HBk⟩ := hrel
              by_cases hlk : k < 8
              · have hlk2 : (k : Int) < 8 := by omega
                have hlk3 : decide ((k : Int) < 8) = true := decide_eq_true hlk2
                obtain ⟨X, hX⟩ : ∃ X, X = wr := ⟨_, rfl⟩
                subst hX
                have HB2 : Hid (∀ w', Below X.heap.size X w' → Below w5.heap.size w5 w') := fun w' hb => HBk.out.trans (hb.mono HBk.out.size)
                have HSS : Hid (∀ w', Below X.heap.size X w' → w'.cell? ⟨ga, oa + i, none⟩ = some (.int .i64 ((comp 8 L i : Nat) : Int)) ∧ w'.cell? ⟨ga, oa + k, none⟩ = some (.int .i64 ((comp 8 L k : Nat) : Int)) ∧ w'.cell? ⟨gb, ob + i, none⟩ = some (.int .i64 ((comp 8 M i : Nat) : Int)) ∧ w'.cell? ⟨gb, ob + k, none⟩ = some (.int .i64 ((comp 8 M k : Nat) : Int))) := fun w' hb => ⟨HCA.out i w' hli (HB2.out _ hb), HCA.out k w' hlk (HB2.out _ hb), HCB.out i w' hli (HB2.out _ hb), HCB.out k w' hlk (HB2.out _ hb)⟩
                have hcm := HCM.out i k hli hlk
                have hwm := HWM.out i k hli hlk
                have KA0 : Hid (∀ w', Below X.heap.size X w' → Calls Try.prog 13 #[.int .i64 8, .slice p6 j c6, .int .i64 (i : Int), .int .i64 (k : Int)] w' fun e w'' => e = .returned (.bool (wayB 8 L i k)) ∧ Below X.heap.size X w'') := fun w' hb => (KF.out i k w' hli hlk (HB2.out _ hb)).mono fun e w'' ⟨h1, h2⟩ => ⟨h1, hb.trans (h2.out.mono hb.size)⟩
                have KB0 : Hid (∀ w', Below X.heap.size X w' → Calls Try.prog 13 #[.int .i64 8, .slice q3 (j + 1) c3, .int .i64 (i : Int), .int .i64 (k : Int)] w' fun e w'' => e = .returned (.bool (wayB 8 M i k)) ∧ Below X.heap.size X w'') := fun w' hb => (KM.out i k w' hli hlk (HB2.out _ hb)).mono fun e w'' ⟨h1, h2⟩ => ⟨h1, hb.trans (h2.out.mono hb.size)⟩
                have HWM1 : Hid (wayB 8 M i k = (wayB 8 L i k || wayB 8 L i x && wayB 8 L y k)) := hwm
                generalize comp 8 L i = ai at *
                generalize comp 8 L k = ak at *
                generalize comp 8 M i = bi at *
                generalize comp 8 M k = bk at *
                go_wp2
                go_cut [123] from 87 to 147 (fun b wc => b = .bool false ∧ Hid (Below w5.heap.size w5 wc))
                case first =>
                  by_cases hae : ai = ak
                  · have hbe := hcm hae
                    clear hcm
                    subst hae hbe
                    cases rf : wayB 8 L i k with
                    | false =>
                      have KA := KA0.out
                      rw [rf] at KA
                      have KB := KB0.out
                      clear hwm
                      obtain ⟨ι, f, n0, hf0, hf, hcl⟩ := family2 (fun w' => Below X.heap.size X w') X.drew (bel_drew (Below.refl _ _))
                      have hne0 : Nonempty ι := ⟨n0⟩
                      have z1 := fun n => (HSS.out (f n) (hf n)).1
                      have z2 := fun n => (HSS.out (f n) (hf n)).2.1
                      have z3 := fun n => (HSS.out (f n) (hf n)).2.2.1
                      have z4 := fun n => (HSS.out (f n) (hf n)).2.2.2
                      refine region_class f (by kernel_rfl) (by kernel_rfl) ⟨n0, hf0⟩ ?_
                      clear hf0
                      repeat (go_big_quiet_step ((go_at_call 13; first | (with_reducible refine (KA _ (hf _)).mono ?_; rintro e w' ⟨rfl, hb⟩; exact ⟨rfl, hcl _ hb⟩) | (with_reducible refine (KB _ (hf _)).mono ?_; rintro e w' ⟨rfl, hb⟩; exact ⟨rfl, hcl _ hb⟩))))
                      refine wpQuiet_nil ?_
                      intro w9 hw9
                      obtain ⟨mm, rfl⟩ := hw9
                      have H9 : Hid (Below w5.heap.size w5 (f mm)) := HB2.out _ (hf mm)
                      generalize f mm = w9 at H9
                      clear hcl hf hne0 n0 z1 z2 z3 z4
                      clear f
                      go_wp2
                      go_meet
                      case rel => exact ⟨rfl, H9⟩
                    | true =>
                      have KA := KA0.out
                      rw [rf] at KA
                      have KB := KB0.out
                      rw [show wayB 8 M i k = true by rw [hwm, rf]; rfl] at KB
                      clear hwm
                      obtain ⟨ι, f, n0, hf0, hf, hcl⟩ := family2 (fun w' => Below X.heap.size X w') X.drew (bel_drew (Below.refl _ _))
                      have hne0 : Nonempty ι := ⟨n0⟩
                      have z1 := fun n => (HSS.out (f n) (hf n)).1
                      have z2 := fun n => (HSS.out (f n) (hf n)).2.1
                      have z3 := fun n => (HSS.out (f n) (hf n)).2.2.1
                      have z4 := fun n => (HSS.out (f n) (hf n)).2.2.2
                      refine region_class f (by kernel_rfl) (by kernel_rfl) ⟨n0, hf0⟩ ?_
                      clear hf0
                      repeat (go_big_quiet_step ((go_at_call 13; first | (with_reducible refine (KA _ (hf _)).mono ?_; rintro e w' ⟨rfl, hb⟩; exact ⟨rfl, hcl _ hb⟩) | (with_reducible refine (KB _ (hf _)).mono ?_; rintro e w' ⟨rfl, hb⟩; exact ⟨rfl, hcl _ hb⟩))))
                      refine wpQuiet_nil ?_
                      intro w9 hw9
                      obtain ⟨mm, rfl⟩ := hw9
                      have H9 : Hid (Below w5.heap.size w5 (f mm)) := HB2.out _ (hf mm)
                      generalize f mm = w9 at H9
                      clear hcl hf hne0 n0 z1 z2 z3 z4
                      clear f
                      go_wp2
                      go_meet
                      case rel => exact ⟨rfl, H9⟩
                  · have hae2 : ((ai : Int) == (ak : Int)) = false := by rw [beq_eq_false_iff_ne]; omega
                    have hae3 : ¬ ((ai : Int) = (ak : Int)) := by omega
                    clear hcm
                    cases rf : wayB 8 L i k with
                    | false =>
                      have KA := KA0.out
                      rw [rf] at KA
                      have KB := KB0.out
                      clear hwm
                      obtain ⟨ι, f, n0, hf0, hf, hcl⟩ := family2 (fun w' => Below X.heap.size X w') X.drew (bel_drew (Below.refl _ _))
                      have hne0 : Nonempty ι := ⟨n0⟩
                      have z1 := fun n => (HSS.out (f n) (hf n)).1
                      have z2 := fun n => (HSS.out (f n) (hf n)).2.1
                      have z3 := fun n => (HSS.out (f n) (hf n)).2.2.1
                      have z4 := fun n => (HSS.out (f n) (hf n)).2.2.2
                      refine region_class f (by kernel_rfl) (by kernel_rfl) ⟨n0, hf0⟩ ?_
                      clear hf0
                      repeat (go_big_quiet_step ((go_at_call 13; first | (with_reducible refine (KA _ (hf _)).mono ?_; rintro e w' ⟨rfl, hb⟩; exact ⟨rfl, hcl _ hb⟩) | (with_reducible refine (KB _ (hf _)).mono ?_; rintro e w' ⟨rfl, hb⟩; exact ⟨rfl, hcl _ hb⟩))))
                      refine wpQuiet_nil ?_
                      intro w9 hw9
                      obtain ⟨mm, rfl⟩ := hw9
                      have H9 : Hid (Below w5.heap.size w5 (f mm)) := HB2.out _ (hf mm)
                      generalize f mm = w9 at H9
                      clear hcl hf hne0 n0 z1 z2 z3 z4
                      clear f
                      go_wp2
                      go_meet
                      case rel => exact ⟨rfl, H9⟩
                    | true =>
                      have KA := KA0.out
                      rw [rf] at KA
                      have KB := KB0.out
                      rw [show wayB 8 M i k = true by rw [hwm, rf]; rfl] at KB
                      clear hwm
                      obtain ⟨ι, f, n0, hf0, hf, hcl⟩ := family2 (fun w' => Below X.heap.size X w') X.drew (bel_drew (Below.refl _ _))
                      have hne0 : Nonempty ι := ⟨n0⟩
                      have z1 := fun n => (HSS.out (f n) (hf n)).1
                      have z2 := fun n => (HSS.out (f n) (hf n)).2.1
                      have z3 := fun n => (HSS.out (f n) (hf n)).2.2.1
                      have z4 := fun n => (HSS.out (f n) (hf n)).2.2.2
                      refine region_class f (by kernel_rfl) (by kernel_rfl) ⟨n0, hf0⟩ ?_
                      clear hf0
                      repeat (go_big_quiet_step ((go_at_call 13; first | (with_reducible refine (KA _ (hf _)).mono ?_; rintro e w' ⟨rfl, hb⟩; exact ⟨rfl, hcl _ hb⟩) | (with_reducible refine (KB _ (hf _)).mono ?_; rintro e w' ⟨rfl, hb⟩; exact ⟨rfl, hcl _ hb⟩))))
                      refine wpQuiet_nil ?_
                      intro w9 hw9
                      obtain ⟨mm, rfl⟩ := hw9
                      have H9 : Hid (Below w5.heap.size w5 (f mm)) := HB2.out _ (hf mm)
                      generalize f mm = w9 at H9
                      clear hcl hf hne0 n0 z1 z2 z3 z4
                      clear f
                      go_wp2
                      go_meet
                      case rel => exact ⟨rfl, H9⟩
                case rest =>
                  obtain ⟨rfl, HBc⟩ := hcut
                  clear hcm hwm KA0 KB0 HSS
                  have C1 : ∀ w', Below w5.heap.size w5 w' → Calls Try.prog 13 #[.int .i64 8, .slice p6 j c6, .int .i64 (i : Int), .int .i64 (k : Int)] w' fun e w'' => e = .returned (.bool (wayB 8 L i k)) ∧ Below w5.heap.size w5 w'' := fun w' hb => (KF.out i k w' hli hlk hb).mono fun e w'' ⟨h1, h2⟩ => ⟨h1, hb.trans (h2.out.mono hb.size)⟩
                  have C2 : ∀ w', Below w5.heap.size w5 w' → Calls Try.prog 13 #[.int .i64 8, .slice p6 j c6, .int .i64 (i : Int), .int .i64 (x : Int)] w' fun e w'' => e = .returned (.bool (wayB 8 L i x)) ∧ Below w5.heap.size w5 w'' := fun w' hb => (KF.out i x w' hli (by omega) hb).mono fun e w'' ⟨h1, h2⟩ => ⟨h1, hb.trans (h2.out.mono hb.size)⟩
                  have C3 : ∀ w', Below w5.heap.size w5 w' → Calls Try.prog 13 #[.int .i64 8, .slice p6 j c6, .int .i64 (y : Int), .int .i64 (k : Int)] w' fun e w'' => e = .returned (.bool (wayB 8 L y k)) ∧ Below w5.heap.size w5 w'' := fun w' hb => (KF.out y k w' (by omega) hlk hb).mono fun e w'' ⟨h1, h2⟩ => ⟨h1, hb.trans (h2.out.mono hb.size)⟩
                  have C4 : ∀ w', Below w5.heap.size w5 w' → Calls Try.prog 13 #[.int .i64 8, .slice q3 (j + 1) c3, .int .i64 (i : Int), .int .i64 (k : Int)] w' fun e w'' => e = .returned (.bool (wayB 8 M i k)) ∧ Below w5.heap.size w5 w'' := fun w' hb => (KM.out i k w' hli hlk hb).mono fun e w'' ⟨h1, h2⟩ => ⟨h1, hb.trans (h2.out.mono hb.size)⟩
                  cases rf : wayB 8 L i k with
                  | true =>
                    rw [rf] at C1
                    rw [show wayB 8 M i k = true by rw [HWM1.out, rf]; rfl] at C4
                    have T1 : Hid True := trivial
                    go_wp2_with (go_at_call 13; first
                      | (have hh := T1; clear hh T1; refine (C1 _ HBc.out).mono ?_; rintro e v1 ⟨rfl, B1⟩; have T2 : Hid True := trivial)
                      | (have hh := T2; clear hh T2; refine (C4 _ B1).mono ?_; rintro e v2 ⟨rfl, B2⟩))
                    go_roundw
                    case rel => exact ⟨k + 1, by omega, by go_num, B2⟩
                    case measure => simp [intOf]; omega
                  | false =>
                    rw [rf] at C1
                    cases r3 : wayB 8 L i x with
                    | false =>
                      rw [r3] at C2
                      rw [show wayB 8 M i k = false by rw [HWM1.out, rf, r3]; rfl] at C4
                      have T1 : Hid True := trivial
                      go_wp2_with (go_at_call 13; first
                        | (have hh := T1; clear hh T1; refine (C1 _ HBc.out).mono ?_; rintro e v1 ⟨rfl, B1⟩; have T2 : Hid True := trivial)
                        | (have hh := T2; clear hh T2; refine (C2 _ B1).mono ?_; rintro e v2 ⟨rfl, B2⟩; have T3 : Hid True := trivial)
                        | (have hh := T3; clear hh T3; refine (C4 _ B2).mono ?_; rintro e v3 ⟨rfl, B3⟩))
                      go_roundw
                      case rel => exact ⟨k + 1, by omega, by go_num, B3⟩
                      case measure => simp [intOf]; omega
                    | true =>
                      rw [r3] at C2
                      rw [show wayB 8 M i k = wayB 8 L y k by rw [HWM1.out, rf, r3]; simp] at C4
                      cases r4 : wayB 8 L y k with
                      | false =>
                        rw [r4] at C3 C4
                        have T1 : Hid True := trivial
                        go_wp2_with (go_at_call 13; first
                          | (have hh := T1; clear hh T1; refine (C1 _ HBc.out).mono ?_; rintro e v1 ⟨rfl, B1⟩; have T2 : Hid True := trivial)
                          | (have hh := T2; clear hh T2; refine (C2 _ B1).mono ?_; rintro e v2 ⟨rfl, B2⟩; have T3 : Hid True := trivial)
                          | (have hh := T3; clear hh T3; refine (C3 _ B2).mono ?_; rintro e v3 ⟨rfl, B3⟩; have T4 : Hid True := trivial)
                          | (have hh := T4; clear hh T4; refine (C4 _ B3).mono ?_; rintro e v4 ⟨rfl, B4⟩))
                        go_roundw
                        case rel => exact ⟨k + 1, by omega, by go_num, B4⟩
                        case measure => simp [intOf]; omega
                      | true =>
                        rw [r4] at C3 C4
                        have T1 : Hid True := trivial
                        go_wp2_with (go_at_call 13; first
                          | (have hh := T1; clear hh T1; refine (C1 _ HBc.out).mono ?_; rintro e v1 ⟨rfl, B1⟩; have T2 : Hid True := trivial)
                          | (have hh := T2; clear hh T2; refine (C2 _ B1).mono ?_; rintro e v2 ⟨rfl, B2⟩; have T3 : Hid True := trivial)
                          | (have hh := T3; clear hh T3; refine (C3 _ B2).mono ?_; rintro e v3 ⟨rfl, B3⟩; have T4 : Hid True := trivial)
                          | (have hh := T4; clear hh T4; refine (C4 _ B3).mono ?_; rintro e v4 ⟨rfl, B4⟩))
                        go_roundw
                        case rel => exact ⟨k + 1, by omega, by go_num, B4⟩
                        case measure => simp [intOf]; omega
              · obtain rfl : k = 8 := by omega
                go_wp2
                go_roundw
                case rel => exact ⟨i + 1, by omega, by go_num, HBk⟩
                case measure => simp [intOf]; omega
          · obtain rfl : i = 8 := by omega
            have HF : Hid (Below w.heap.size w wr) := HFI.out _ HBi.out
            go_wp2
            go_ret
            exact ⟨rfl, HF.out⟩
end Go.Proofs.Ytalckpaeleflnaa
