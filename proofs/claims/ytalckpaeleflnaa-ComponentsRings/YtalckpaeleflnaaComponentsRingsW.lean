/- ComponentsRings, walked. -/
import Derived.Test.YtalckpaeleflnaaCmpApp2
import Derived.Test.YtalckpaeleflnaaCmpRingT
namespace Go.Proofs.Ytalckpaeleflnaa
set_option linter.unusedVariables false
open Go.ChangeShapes Go.WideShapes Go.ChangeAt Go.RowKit

def sgn (i : Nat) : Bool := bits .and .i64 (i : Int) 1 == 1
theorem mod2_lt (x : Int) (m : Nat) : ∃ r : Nat, r < 2 + m ∧ (IntKind.u64.wrap x).tmod (2 + (m : Int)) = (r : Int) := by
  have h0 : 0 ≤ IntKind.u64.wrap x := by rw [IntKind.wrap_u64]; omega
  have h1 := Int.emod_nonneg (IntKind.u64.wrap x) (b := 2 + (m : Int)) (by omega)
  have h2 := Int.emod_lt_of_pos (IntKind.u64.wrap x) (b := 2 + (m : Int)) (by omega)
  rw [Int.tmod_eq_emod_of_nonneg h0]
  exact ⟨((IntKind.u64.wrap x) % (2 + (m : Int))).toNat, by omega, by omega⟩
theorem next_int (i m : Nat) : ((i : Int) + 1).tmod (2 + (m : Int)) = (((i + 1) % (2 + m) : Nat) : Int) := by
  rw [Int.tmod_eq_emod_of_nonneg (by omega)]
  simp
theorem edsV_take : ∀ (L : List Ed) (c : Nat), edsV (L.take c) = (edsV L).take (c * 3)
  | [], c => by simp [edsV]
  | e :: L, 0 => by simp [edsV]
  | e :: L, c + 1 => by
    rw [List.take_succ_cons, show (c + 1) * 3 = c * 3 + 1 + 1 + 1 by omega]
    simp [edsV, edV, edsV_take L c]
theorem edsV_drop : ∀ (L : List Ed) (c : Nat), edsV (L.drop c) = (edsV L).drop (c * 3)
  | [], c => by simp [edsV]
  | e :: L, 0 => by simp
  | e :: L, c + 1 => by
    rw [List.drop_succ_cons, show (c + 1) * 3 = c * 3 + 1 + 1 + 1 by omega]
    simp [edsV, edV, edsV_drop L c]
theorem eds_take {w : World} {F : Nat → Prop} {a : Option Addr} {cap : Nat} {L : List Ed} {n : Nat} (h : IsEds w F (.slice a n cap) L) {c : Nat} (hc : c ≤ n) (hn : n = L.length) : Reads w F (.slice a c cap) c (edsV (L.take c)) := by
  obtain ⟨p, k, e1, h1, h2⟩ := h
  injection e1 with e1 e2 e3
  subst e1 e3
  refine ⟨a, cap, rfl, ⟨by omega, by omega⟩, fun hpos => ?_⟩
  obtain ⟨g, o, e4, e5, e6, e7, e8⟩ := h2 (by omega)
  refine ⟨g, o, e4, e5, e6, fun j x hj => e7 j x ?_, fun j hj => e8 j ?_⟩
  · rw [edsV_take, List.getElem?_take] at hj
    split at hj
    · exact hj
    · cases hj
  · rw [edsV_take, List.length_take] at hj; omega
theorem eds_drop {w : World} {F : Nat → Prop} {g cap : Nat} {L : List Ed} {n : Nat} (h : IsEds w F (.slice (some ⟨g, 0, none⟩) n cap) L) {d : Nat} (hd : d ≤ n) (hn : n = L.length) {b : Option Addr} (hb : d < n → b = some ⟨g, d * 3, none⟩) : Reads w F (.slice b (n - d) (cap - d)) (n - d) (edsV (L.drop d)) := by
  obtain ⟨p, k, e1, h1, h2⟩ := h
  injection e1 with e1 e2 e3
  subst e1 e3
  refine ⟨b, cap - d, rfl, ⟨by omega, by omega⟩, fun hpos => ?_⟩
  obtain ⟨g', o, e4, e5, e6, e7, e8⟩ := h2 (by omega)
  injection e4 with e4
  injection e4 with e4 e9
  subst e4 e9
  refine ⟨g, d * 3, hb (by omega), e5, e6, fun j x hj => ?_, fun j hj => ?_⟩
  · rw [edsV_drop, List.getElem?_drop] at hj
    have := e7 _ x hj
    rwa [Nat.zero_add] at this
  · rw [edsV_drop, List.length_drop] at hj
    have := e8 (d * 3 + j) (by omega)
    rwa [Nat.zero_add] at this
/-- A row cut open: all but the edge c, in a new row. -/
theorem open_run {V : World} {g cap c : Nat} {L : List Ed} {n : Nat} (hL : IsEds V Any (.slice (some ⟨g, 0, none⟩) (n + 1) cap) L) (hn : n + 1 = L.length) (hc : c < n + 1) (hm : n ≤ 1000) {b : Option Addr} (hb : c + 1 < n + 1 → b = some ⟨g, (c + 1) * 3, none⟩) :
    ∃ q1 k1 W1 q2 k2 W2, (Builtin.append_ #[22, 22] 22 #[.slice (some ⟨V.heap.size, 0, none⟩) 0 0, .slice (some ⟨g, 0, none⟩) c cap]).run Try.prog (V.alloc (.cells #[] 37)).drew = .ok (.slice q1 c k1) W1 ∧
      (Builtin.append_ #[22, 22] 22 #[.slice q1 c k1, .slice b (n + 1 - (c + 1)) (cap - (c + 1))]).run Try.prog W1 = .ok (.slice q2 n k2) W2 ∧ IsEds W2 Any (.slice q2 n k2) (L.take c ++ L.drop (c + 1)) ∧ Below V.heap.size V W1 ∧ Below V.heap.size V W2 := by
  obtain ⟨i, hi0, hz0, hz1, hz2⟩ := info_parts Try.infoEd
  have ho : (V.alloc (.cells #[] 37)).drew.ownsRow V.heap.size 37 3 (.slice (some ⟨V.heap.size, 0, none⟩) 0 0) 0 [] := World.ownsRow_made V _ 0 (Nat.le_refl _) (Nat.zero_le _) rfl
  have hl1 : (L.take c).length = c := by rw [List.length_take]; omega
  have hl2 : (L.drop (c + 1)).length = n + 1 - (c + 1) := by rw [List.length_drop]; omega
  have b0 : Below V.heap.size V (V.alloc (.cells #[] 37)).drew := bel_drew (bel1 V _)
  have r1 := (eds_take hL (c := c) (by omega) hn).any b0
  obtain ⟨v1, W1, h1, h2, h3⟩ := run_append_reads (P := Try.prog) V.heap.size 22 22 37 i _ 3 24 Try.underlying22 hi0 hz0 hz1 hz2 rfl (by decide) _ 0 [] ho _ c _ r1 (by rw [edsV_length, hl1]) (edsV_one _) (by unfold maxLen; omega) (by omega) (by show V.heap.size ≤ (V.alloc _).heap.size; simp)
  simp only [List.nil_append, Nat.zero_add] at h2
  obtain ⟨q1, k1, hv1⟩ := row_slice h2
  subst hv1
  have b1 : Below V.heap.size V W1 := b0.grown h3 (by show V.heap.size ≤ (V.alloc _).heap.size; simp) (fun g hg => by have hg : some V.heap.size = some g := hg; injection hg with hg; omega)
  have r2 := (eds_drop hL (d := c + 1) (by omega) hn hb).any b1
  obtain ⟨v2, W2, h4, h5, h6⟩ := run_append_reads (P := Try.prog) V.heap.size 22 22 37 i _ 3 24 Try.underlying22 hi0 hz0 hz1 hz2 rfl (by decide) _ c _ h2 _ (n + 1 - (c + 1)) _ r2 (by rw [edsV_length, hl2]) (edsV_one _) (by unfold maxLen; omega) (by omega) b1.size
  rw [show c + (n + 1 - (c + 1)) = n by omega, ← edsV_append] at h5
  obtain ⟨q2, k2, hv2⟩ := row_slice h5
  subst hv2
  refine ⟨q1, k1, W1, q2, k2, W2, h1, h4, (eds_of h5).keep (Nat.le_refl _) (fun _ _ _ => rfl) (fun _ _ _ => trivial), b1, b1.grown h6 b1.size (fun g hg => (h2.lt g hg).1)⟩
set_option maxHeartbeats 4000000 in
set_option maxRecDepth 100000 in
theorem componentsRings_walk (w : World) (a0 : Int) (w0 : (Lit.int .i64 a0).wf = true) (a1 : Int) (w1 : (Lit.int .i64 a1).wf = true) (a2 : Int) (w2 : (Lit.int .i64 a2).wf = true) :
    Calls Try.prog 5 #[.int .i64 a0, .int .i64 a1, .int .i64 a2] w fun e w' => e = .returned (.bool true) ∧ Below w.heap.size w w' := by
  obtain ⟨m, hm, em⟩ := andM 31 (by decide) a0
  have em : bits .and .i64 a0 31 = (m : Int) := em
  obtain ⟨n, hn, en⟩ := andM 15 (by decide) a2
  have en : bits .and .i64 a2 15 = (n : Int) := en
  obtain ⟨c, hc, ec⟩ := mod2_lt a1 m
  obtain ⟨k, hk⟩ : ∃ k, k = 2 + m := ⟨_, rfl⟩
  have ek : IntKind.u64.wrap (2 + (m : Int)) = 2 + (m : Int) := by rw [IntKind.wrap_u64]; omega
  have ek0 : ¬ (2 + (m : Int) = 0) := by omega
  have wc : IntKind.i64.wrap (c : Int) = (c : Int) := by rw [IntKind.wrap_i64]; omega
  clear w0 w1 w2
  go_enter Try.func5, Try.ntmps5
  go_wp2_with (go_at_call 16; refine (awake7_any _).mono ?_; rintro e w1 ⟨rfl, H1⟩)
  go_loopw [9, 10] (fun u x wr => ∃ j : Nat, j ≤ 2 + m ∧ x = .int .i64 j ∧ Hid (wr.ownsRow w1.heap.size 37 3 u j (edsV (ringL (2 + m) sgn j))) ∧ Hid (Below w1.heap.size w1 wr)) (fun _ x _ => 2 + m - (intOf x).toNat)
  case atStart => exact ⟨0, Nat.zero_le _, rfl, World.ownsRow_nil _ _ _ _, Below.refl _ _⟩
  case round =>
    obtain ⟨j, hj, rfl, HU, HB⟩ := hrel
    obtain ⟨p6, c6, hu⟩ := row_slice HU.out
    subst hu
    by_cases hlt : j < 2 + m
    · have hj2 : (j : Int) < 2 + (m : Int) := by omega
      obtain ⟨V, hV⟩ : ∃ V, V = wr := ⟨_, rfl⟩
      subst hV
      have enx := next_int j m
      have HR : Hid (ringL (2 + m) sgn (j + 1) = ringL (2 + m) sgn j ++ [((j : Int), (((j + 1) % (2 + m) : Nat) : Int), sgn j)]) := ringL_snoc _ _ _
      obtain ⟨z, hzz⟩ : ∃ z, z = sgn j := ⟨_, rfl⟩
      have ez : (bits .and .i64 (j : Int) 1 == 1) = z := hzz.symm
      rw [← hzz] at HR
      obtain ⟨y, hy⟩ : ∃ y, y = (j + 1) % (2 + m) := ⟨_, rfl⟩
      have hy2 : y < 2 + m := by rw [hy]; exact Nat.mod_lt _ (by omega)
      rw [← hy] at HR enx
      obtain ⟨q8, c8, w8, hrun, hown, hb8⟩ := app_ed2 HU.out HB.out.size (by omega) (j : Int) (y : Int) z
      have HU8 : Hid (w8.ownsRow w1.heap.size 37 3 (.slice q8 (j + 1) c8) (j + 1) (edsV (ringL (2 + m) sgn (j + 1)))) := by show World.ownsRow _ _ _ _ _ _ _; rw [HR.out]; exact hown
      have HB8 : Hid (Below w1.heap.size w1 w8) := HB.out.trans hb8
      have ez2 : ∀ q : Bool, q = (bits .and .i64 (j : Int) 1 == 1) → q = z := fun q h => h.trans ez
      clear hzz hy hown hb8 ez2
      go_wp2_with (at_builtin; refine wpList_run_append rfl _ _ 22 rfl _ _ rfl rfl hrun ?_)
      go_roundw
      case rel => exact ⟨j + 1, by omega, by go_num, HU8, HB8⟩
      case measure => simp [intOf]; omega
    · obtain rfl : j = 2 + m := by omega
      obtain ⟨V, hV⟩ : ∃ V, V = wr := ⟨_, rfl⟩
      subst hV
      have HBw : Hid (Below w.heap.size w V) := H1.out.trans (HB.out.mono H1.out.size)
      have hex : ∃ g, p6 = some ⟨g, 0, none⟩ ∧ 2 + m ≤ c6 ∧ c6 ≤ maxLen := by
        obtain ⟨_, ⟨h1, h2⟩ | ⟨g, c', cur, h1, h2, h3, h4, h5, _⟩⟩ := id HU.out
        · omega
        · injection h1 with e1 e2 e3
          subst e3
          exact ⟨g, e1, h4, h5⟩
      obtain ⟨g, hp6, hc6, hc7⟩ := hex
      subst hp6
      have hc8 : c6 ≤ 9223372036854775807 := by unfold maxLen at hc7; omega
      have hlt2 : ¬ ((2 + m : Nat) : Int) < 2 + (m : Int) := by omega
      have hlt3 : decide (((2 + m : Nat) : Int) < 2 + (m : Int)) = false := decide_eq_false hlt2
      have HES : Hid (∀ w', Below V.heap.size V w' → IsEds w' Any (.slice (some ⟨g, 0, none⟩) (2 + m) c6) (ringL (2 + m) sgn (2 + m))) := fun w' hb => ((eds_of HU.out).keep (Nat.le_refl _) (fun _ _ _ => rfl) (fun _ _ _ => trivial) : IsEds V Any _ _).any hb
      have KC : Hid (∀ (u : Value) (Z : List Ed) (w' : World), edsB ((2 + m + n : Nat) : Int) Z = true → IsEds w' Any u Z → Calls Try.prog 9 #[.int .i64 (2 + (m : Int) + (n : Int)), u] w' fun e w'' => ∃ q c, e = .returned (.tuple #[.slice q (2 + m + n) c, .int .i64 0]) ∧ Hid (∃ g o, q = some ⟨g, o, none⟩ ∧ g < w''.heap.size ∧ ∀ k, k < 2 + m + n → w''.cell? ⟨g, o + k, none⟩ = some (.int .i64 ((comp (2 + m + n) Z k : Nat) : Int))) ∧ Hid (Below w'.heap.size w' w'')) := fun u Z w' hz hu => by
        have hmay : mayE ((2 + m + n : Nat) : Int) Z = true := by unfold mayE; rw [hz, decide_eq_true (by omega), decide_eq_true (by omega)]; rfl
        have := comps_ok (2 + m + n) u Z w' hu hmay
        rw [show ((2 + m + n : Nat) : Int) = 2 + (m : Int) + (n : Int) by omega] at this
        refine this.mono fun e w'' ⟨uu, h1, h2, h3⟩ => ?_
        obtain ⟨q, c, hq⟩ := h2.out.slc
        rw [compsT_length] at hq
        subst hq
        obtain ⟨g, o, e1, e2, e3⟩ := h2.out.all (by rw [compsT_length]; omega)
        exact ⟨q, c, h1, ⟨g, o, e1, e2, fun k hk => e3 k _ (compsT_at Z hk)⟩, h3⟩
      have HE1 : Hid (edsB ((2 + m + n : Nat) : Int) (ringL (2 + m) sgn (2 + m)) = true) := eds_ring (by omega) (by omega) (fun e he => mem_ring.1 he)
      have HE2 : Hid (edsB ((2 + m + n : Nat) : Int) (openL (2 + m) sgn c) = true) := eds_ring (k := 2 + m) (s := sgn) (by omega) (by omega) (fun e he => by obtain ⟨a, h1, _, h2⟩ := (mem_open hc).1 he; exact ⟨a, h1, h2⟩)
      go_wp2_with (first
        | (go_at_call 9; refine (KC.out _ _ _ HE1.out (HES.out _ (Below.refl _ _))).mono ?_; rintro e w4 ⟨qa, ca, rfl, IA, b4⟩))
      have hcc1 : c ≤ c6 := by omega
      have hb : ∃ b : Option Addr, (if c6 = c + 1 then some ⟨g, 0, none⟩ else some (⟨g, (c + 1) * 3, none⟩ : Addr)) = b ∧ (c + 1 < 1 + m + 1 → b = some ⟨g, (c + 1) * 3, none⟩) := by
        refine ⟨_, rfl, fun h => ?_⟩
        rw [if_neg (by omega)]
      obtain ⟨b, hb1, hb2⟩ := hb
      obtain ⟨q1, k1, X1, q2, k2, X2, run1, run2, IO, bx1, bx2⟩ := open_run (V := w4) (L := ringL (2 + m) sgn (2 + m)) (n := 1 + m) (by rw [show 1 + m + 1 = 2 + m by omega]; exact HES.out _ b4.out) (by rw [ringL_length]; omega) (c := c) (by omega) (by omega) hb2
      have LA := stepApp run1
      have LB := stepApp run2
      unfold StepApp at LA LB
      have HIO : Hid (IsEds X2 Any (.slice q2 (1 + m) k2) (openL (2 + m) sgn c)) := IO
      have HX2 : Hid (Below w4.heap.size w4 X2) := bx2
      rw [show 1 + m + 1 - (c + 1) = 2 + m - (c + 1) by omega] at LB
      have wc1 : IntKind.i64.wrap ((c : Int) + 1) = (c : Int) + 1 := by rw [IntKind.wrap_i64]; omega
      have hcc2 : c + 1 ≤ 2 + m := by omega
      have hcc3 : (c : Int) + 1 ≤ ((2 + m : Nat) : Int) := by omega
      have hcc4 : (c : Int) + 1 ≤ 2 + (m : Int) := by omega
      have hcc5 : (0 : Int) ≤ (c : Int) + 1 := by omega
      have enc := next_int c m
      obtain ⟨d, hd⟩ : ∃ d, d = (c + 1) % (2 + m) := ⟨_, rfl⟩
      have hd2 : d < 2 + m := by rw [hd]; exact Nat.mod_lt _ (by omega)
      have HR1 : Hid (wayB (2 + m + n) (openL (2 + m) sgn c) d c = true) := by show _ = _; rw [hd]; exact way_full HE2.out (by omega) (open_full hc)
      have HR2 : Hid (wayB (2 + m + n) (openL (2 + m) sgn c) c d = false) := by show _ = _; rw [hd, ← Bool.not_eq_true]; exact fun h => open_not hc (by omega) (way_sound h)
      rw [← hd] at enc
      have HC1 : Hid (∀ i, i < 2 + m + n → comp (2 + m + n) (ringL (2 + m) sgn (2 + m)) i = if i < 2 + m then 0 else i) := fun i hi => ring_comp (by omega) (by omega) hi
      have HC2 : Hid (∀ i, i < 2 + m + n → comp (2 + m + n) (openL (2 + m) sgn c) i = i) := fun i hi => open_comp (by omega) hc hi
      clear run1 run2 IO bx1 bx2 hb2 hd
      go_cut [14] from 57 (fun v wc => v = .slice q2 (1 + m) k2 ∧ Hid (wc = X2))
      case first =>
        go_region_law (first | (with_reducible refine LA _ _ _ _ _ _ ?_ ?_ ?_ ?_; rfl; exact ⟨_, _, rfl, rfl, rfl⟩; rfl) | (with_reducible refine LB _ _ _ _ _ _ ?_ ?_ ?_ ?_; rfl; exact ⟨_, _, rfl, rfl, rfl⟩; rfl))
        all_goals
          go_wp2
          go_meet
          case rel => exact ⟨rfl, by trivial⟩
      case rest =>
        obtain ⟨rfl, HWX⟩ := hcut
        obtain rfl : wc = X2 := HWX.out
        clear LA LB HWX hb1
        have KR : Hid (∀ (a b : Nat) (r : Bool) (w' : World), a < 2 + m → b < 2 + m → wayB (2 + m + n) (openL (2 + m) sgn c) a b = r → Below wc.heap.size wc w' → Calls Try.prog 13 #[.int .i64 (2 + (m : Int) + (n : Int)), .slice q2 (1 + m) k2, .int .i64 (a : Int), .int .i64 (b : Int)] w' fun e w'' => e = .returned (.bool r) ∧ Hid (Below w'.heap.size w' w'')) := fun a b r w' ha hb hr hw => by
          have hmay : mayE ((2 + m + n : Nat) : Int) (openL (2 + m) sgn c) = true := by unfold mayE; rw [HE2.out, decide_eq_true (by omega), decide_eq_true (by omega)]; rfl
          have := reaches_any ((2 + m + n : Nat) : Int) _ (openL (2 + m) sgn c) (a : Int) (b : Int) w' (HIO.out.any hw)
          rw [reach_way hmay (by omega) (by omega), hr, show ((2 + m + n : Nat) : Int) = 2 + (m : Int) + (n : Int) by omega] at this
          exact this
        have T1 : Hid True := trivial
        go_wp2_with (first
          | (go_at_call 9; refine (KC.out _ _ _ HE2.out HIO.out).mono ?_; rintro e w5 ⟨qb, cb, rfl, IB, b5⟩)
          | (go_at_call 12; refine (num_any _ _).mono ?_; rintro e wn ⟨rfl, rfl⟩))
        obtain ⟨ga, oa, hqa, hga, hca⟩ := IA.out
        obtain ⟨gb, ob, hqb, hgb, hcb⟩ := IB.out
        subst hqa hqb
        have HCA : Hid (∀ i w', i < 2 + m + n → Below w5.heap.size w5 w' → w'.cell? ⟨ga, oa + i, none⟩ = some (.int .i64 (((if i < 2 + m then 0 else i : Nat)) : Int))) := fun i w' hi hb => by
          rw [← HC1.out i hi]
          have h4 := (HX2.out.cell (p := ⟨ga, oa + i, none⟩) hga).trans (hca i hi)
          have h5 := (b5.out.cell (p := ⟨ga, oa + i, none⟩) (Nat.lt_of_lt_of_le hga HX2.out.size)).trans h4
          exact (hb.cell (p := ⟨ga, oa + i, none⟩) (Nat.lt_of_lt_of_le (Nat.lt_of_lt_of_le hga HX2.out.size) b5.out.size)).trans h5
        have HCB : Hid (∀ i w', i < 2 + m + n → Below w5.heap.size w5 w' → w'.cell? ⟨gb, ob + i, none⟩ = some (.int .i64 (i : Int))) := fun i w' hi hb => by
          have h4 := hcb i hi
          rw [HC2.out i hi] at h4
          exact (hb.cell (p := ⟨gb, ob + i, none⟩) hgb).trans h4
        have HFI : Hid (∀ w', Below w5.heap.size w5 w' → Below w.heap.size w w') := fun w' hb => by
          have h1 := HBw.out.trans (b4.out.mono HBw.out.size)
          have h2 := h1.trans (HX2.out.mono h1.size)
          have h3 := h2.trans (b5.out.mono h2.size)
          exact h3.trans (hb.mono h3.size)
        clear hca hcb
        go_loopw [17] (fun x wr => ∃ i : Nat, i ≤ 2 + m + n ∧ x = .int .i64 i ∧ Hid (Below w5.heap.size w5 wr)) (fun x _ => 2 + m + n - (intOf x).toNat)
        case atStart => exact ⟨0, Nat.zero_le _, rfl, Below.refl _ _⟩
        case round =>
          obtain ⟨i, hi, rfl, HBi⟩ := hrel
          by_cases hli : i < 2 + m + n
          · have hli2 : (i : Int) < 2 + (m : Int) + (n : Int) := by omega
            have ca1 := HCA.out i wr hli HBi.out
            have cb1 := HCB.out i wr hli HBi.out
            by_cases hik : i < 2 + m
            · have hik2 : (i : Int) < 2 + (m : Int) := by omega
              rw [if_pos hik] at ca1
              go_wp2
              go_roundw
              case rel => exact ⟨i + 1, by omega, by go_num, HBi⟩
              case measure => simp [intOf]; omega
            · have hik2 : ¬ (i : Int) < 2 + (m : Int) := by omega
              rw [if_neg hik] at ca1
              go_wp2
              go_roundw
              case rel => exact ⟨i + 1, by omega, by go_num, HBi⟩
              case measure => simp [intOf]; omega
          · obtain rfl : i = 2 + m + n := by omega
            have hli2 : ¬ ((2 + m + n : Nat) : Int) < 2 + (m : Int) + (n : Int) := by omega
            have KR1 := KR.out d c true wr hd2 hc HR1.out (b5.out.trans (HBi.out.mono b5.out.size))
            have KR2 : Hid (∀ w', Below wr.heap.size wr w' → Calls Try.prog 13 #[.int .i64 (2 + (m : Int) + (n : Int)), .slice q2 (1 + m) k2, .int .i64 (c : Int), .int .i64 (d : Int)] w' fun e w'' => e = .returned (.bool false) ∧ Hid (Below w'.heap.size w' w'')) := fun w' hw => KR.out c d false w' hc hd2 HR2.out ((b5.out.trans (HBi.out.mono b5.out.size)).trans (hw.mono (b5.out.trans (HBi.out.mono b5.out.size)).size))
            have HFW : Hid (∀ w', Below wr.heap.size wr w' → Below w.heap.size w w') := fun w' hw => HFI.out _ (HBi.out.trans (hw.mono HBi.out.size))
            go_wp2_with (go_at_call 13; first
              | (have hh := T1; clear hh T1; refine KR1.mono ?_; rintro e w9 ⟨rfl, b9⟩)
              | (refine (KR2.out _ b9.out).mono ?_; rintro e w10 ⟨rfl, b10⟩))
            go_ret
            exact ⟨rfl, HFW.out _ (b9.out.trans (b10.out.mono b9.out.size))⟩
end Go.Proofs.Ytalckpaeleflnaa
