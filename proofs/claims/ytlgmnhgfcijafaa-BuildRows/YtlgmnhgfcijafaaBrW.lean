/- BuildRows, walked. -/
import Derived.Test.YtlgmnhgfcijafaaBrM
import Derived.Test.YtlgmnhgfcijafaaGramAwake
import Derived.Deep.RegionHeld3
import Derived.BigRegion
import Derived.Deep.CutRange
import Derived.Deep.AppendLies
import Derived.PlainAid
namespace Go.Proofs.Ytlgmnhgfcijafaa
set_option linter.unusedVariables false
set_option linter.unusedSimpArgs false
open Go.ChangeShapes Go.WideShapes Go.ChangeAt Go.RowKit

theorem Try.infoAltB : (Try.prog.info? 37).map (fun i => (i.zero, i.size, i.bytes)) = some (some (.slice none 0 0), 1, 24) := by kernel_rfl
theorem Try.infoDefB : (Try.prog.info? 31).map (fun i => (i.zero, i.size, i.bytes)) = some (some (.agg #[.string ⟨#[]⟩, .slice none 0 0]), 2, 40) := by kernel_rfl
theorem Try.infoRulB : (Try.prog.info? 45).map (fun i => (i.zero, i.size, i.bytes)) = some (some (.agg #[.int .i64 0, .slice none 0 0]), 2, 32) := by kernel_rfl
theorem Try.infoSymB : (Try.prog.info? 42).map (fun i => (i.zero, i.size, i.bytes)) = some (some (.agg #[.int .i64 0, .int .i64 0, .int .i64 0]), 3, 24) := by kernel_rfl
theorem hid_ofB {p : Prop} (h : p) : Hid p := h
theorem cellB {w : World} {b : Nat} {arr : Array Value} {t : TypeId} (h : w.heap[b]? = some (.cells arr t)) (j : Nat) : w.cell? ⟨b, j, none⟩ = arr[j]? := Lib.cell_of_heap h j
theorem frzB {w : World} {b : Nat} {arr : Array Value} {t : TypeId} (h : w.heap[b]? = some (.cells arr t)) (j : Nat) : w.frozen? ⟨b, j, none⟩ = false := by unfold World.frozen?; rw [h]; simp
theorem and3B (x : Int) : ∃ n : Nat, n < 4 ∧ bits .and .i64 x 3 = (n : Int) := by
  have h : (BitVec.ofInt 64 x &&& BitVec.ofInt 64 3).toNat < 4 := by
    rw [BitVec.toNat_and]
    exact Nat.lt_of_le_of_lt Nat.and_le_right (by decide)
  refine ⟨_, h, ?_⟩
  show IntKind.i64.wrap ((BitVec.ofInt 64 x &&& BitVec.ofInt 64 3).toNat : Int) = _
  generalize (BitVec.ofInt 64 x &&& BitVec.ofInt 64 3).toNat = n at h
  rw [IntKind.wrap_i64]; omega
theorem and1B : ∀ j, j < 4 → (bits .and .i64 ((j : Nat) : Int) 1 == 1) = ngQ j := by decide
theorem modB_lt (x : Int) (m : Nat) (hm : 0 < m) : ∃ r : Nat, r < m ∧ (IntKind.u64.wrap x).tmod (m : Int) = (r : Int) := by
  have h0 : 0 ≤ IntKind.u64.wrap x := by rw [IntKind.wrap_u64]; omega
  have h1 := Int.emod_nonneg (IntKind.u64.wrap x) (b := (m : Int)) (by omega)
  have h2 := Int.emod_lt_of_pos (IntKind.u64.wrap x) (b := (m : Int)) (by omega)
  rw [Int.tmod_eq_emod_of_nonneg h0]
  exact ⟨((IntKind.u64.wrap x) % (m : Int)).toNat, by omega, by omega⟩
/-- How many alternatives. -/
def kQ (zs : List Int) (i : Nat) : Nat := match zs[i]? with
  | some z => 1 + (bits .and .i64 z 3).toNat
  | none => 1
theorem kQ_lim (zs : List Int) (i : Nat) : 1 ≤ kQ zs i ∧ kQ zs i ≤ 4 := by
  unfold kQ
  split
  · rename_i z _
    obtain ⟨n, h1, h2⟩ := and3B z
    rw [h2]
    simp
    omega
  · omega
/-- The first bytes of a text, each a symbol. -/
def preQ (T : ByteArray) (m : Nat) : List Sy := (List.range m).map fun k => ⟨-1, PlainAid.bt T k, PlainAid.bt T k⟩
theorem preQ_succ (T : ByteArray) (m : Nat) : preQ T (m + 1) = preQ T m ++ [⟨-1, PlainAid.bt T m, PlainAid.bt T m⟩] := by simp [preQ, List.range_succ]
theorem preQ_len (T : ByteArray) (m : Nat) : (preQ T m).length = m := by simp [preQ]
theorem preQ_all (T : ByteArray) : preQ T T.size = bytesT T := by
  apply List.ext_getElem?
  intro k
  unfold preQ bytesT
  by_cases hk : k < T.size
  · rw [List.getElem?_map, List.getElem?_map, List.getElem?_range hk]
    have h2 : T.data.toList[k]? = some (T.data[k]'hk) := by rw [Array.getElem?_toList]; exact Array.getElem?_eq_getElem hk
    rw [h2]
    have h3 := PlainAid.get_bt T k hk
    show some (Sy.mk (-1) (PlainAid.bt T k) (PlainAid.bt T k)) = some (Sy.mk (-1) _ _)
    rw [← h3]
    rfl
  · rw [List.getElem?_eq_none (by simp; omega), List.getElem?_eq_none (by simp; show T.size ≤ k; omega)]
theorem rusQ_len (T : ByteArray) {K : Nat → Nat} (hK : ∀ i, 1 ≤ K i ∧ K i ≤ 4) : ∀ n, (rusQ T K n).length ≤ 4 * n
  | 0 => Nat.zero_le _
  | n + 1 => by
    have := rusQ_len T hK n
    have := (hK n).2
    simp only [rusQ, List.length_append, List.length_map, List.length_range]
    omega
theorem namB_at {V : World} {nb : Nat} (h : V.heap[nb]? = some (.cells #[.string ⟨#[98]⟩, .string ⟨#[97]⟩, .string ⟨#[99]⟩] 9)) (i : Nat) (hi : i < 3) : V.cell? ⟨nb, i, none⟩ = some (.string (nmQ i)) := by
  rw [cellB h i]
  match i, hi with
  | 0, _ => rfl
  | 1, _ => rfl
  | 2, _ => rfl
theorem Bq.start (W0 : World) : Bq W0 [] none 0 0 [] [] none 0 0 [] (fun _ => False) ((W0.alloc (.cells #[.slice none 0 0, .slice none 0 0] 27)).alloc (.cells #[.string ⟨#[98]⟩, .string ⟨#[97]⟩, .string ⟨#[99]⟩] 9)) := by
  have e1 : (W0.alloc (.cells #[.slice none 0 0, .slice none 0 0] 27)).heap.size = W0.heap.size + 1 := by simp
  have h2 := newB (W0.alloc (.cells #[.slice none 0 0, .slice none 0 0] 27)) (.cells #[.string ⟨#[98]⟩, .string ⟨#[97]⟩, .string ⟨#[99]⟩] 9)
  rw [e1] at h2
  exact ⟨(belB1 W0 _).alloc (by omega) _, ((belB1 _ _).block _ (by omega)).trans (newB W0 _), h2, World.ownsRow_nil _ _ _ _, ⟨rfl, fun k c u h => by simp at h⟩, World.ownsRow_nil _ _ _ _, ⟨rfl, fun k c u h => by simp at h⟩, fun b h => h.elim, rfl, rfl⟩
set_option maxHeartbeats 40000000 in
set_option maxRecDepth 100000 in
theorem buildRows_core (W : World) (s : ByteArray) (hs : s.size ≤ 140737488351232) (a : Int) (pv : Option Addr) (zn cv : Nat) (K : Nat → Nat) (hK : ∀ i, 1 ≤ K i ∧ K i ≤ 4) (hz8 : zn * 8 ≤ 140737488351232) (T : ByteArray) (hT : T.size ≤ 20) (hTs : (20 < s.size ∧ T = s.extract 0 20) ∨ (¬ 20 < s.size ∧ T = s))
    (HZ0 : ∀ i, i < zn → ∀ w', Below W.heap.size W w' → ∃ g o z n, pv = some ⟨g, o, none⟩ ∧ w'.cell? ⟨g, o + i, none⟩ = some (.int .i64 z) ∧ bits .and .i64 z 3 = ((n : Nat) : Int) ∧ n < 4 ∧ K i = 1 + n) (HZ1 : ∀ i, ¬ i < zn → K i = 1)
    (KA0 : ∀ w, Calls Try.prog 4 #[] w fun e w' => e = .returned (.bool true) ∧ Hid (Below w.heap.size w w'))
    (KB0 : ∀ (V : World) (v1 v2 : Value) (sx : Nat), sx < 3 → IsTexts V Any v1 [nmQ sx] → IsDefs V Any v2 (defsQ T K 3) → Calls Try.prog 5 #[.agg #[v1, v2]] V fun e w' => ∃ p1 c1 p2 c2, e = .returned (.tuple #[.agg #[.int .i64 (sx : Int), .slice p1 3 c1, .slice p2 (rusQ T K 3).length c2], .string ⟨#[]⟩, .int .i64 0]) ∧ Hid (GrIs w' Any (.slice p1 3 c1) (.slice p2 (rusQ T K 3).length c2) (grQ T K sx)) ∧ Hid (Below V.heap.size V w'))
    (KS0 : ∀ (g : Gr) (a1 a2 b1 b2 : Value) (w : World), GrIs w Any a1 a2 g → GrIs w Any b1 b2 g → Calls Try.prog 7 #[.agg #[.int .i64 g.start, a1, a2], .agg #[.int .i64 g.start, b1, b2]] w fun e w' => e = .returned (.bool true) ∧ Hid (Below w.heap.size w w')) :
    Calls Try.prog 3 #[.slice pv zn cv, .string s, .int .i64 a] W fun e W' => e = .returned (.bool true) ∧ Below W.heap.size W W' := by
  have HZ := hid_ofB HZ0
  have KA := hid_ofB KA0
  have KB := hid_ofB KB0
  have KS := hid_ofB KS0
  have HZN := hid_ofB HZ1
  have HK := hid_ofB hK
  have HTS := hid_ofB hTs
  clear HZ0 HZ1 KA0 KB0 KS0 hK hTs
  go_enter Try.func3, Try.ntmps3
  go_upto_if 26 with (go_at_call 4; refine (KA.out _).mono ?_; rintro e w1 ⟨rfl, b1⟩)
  go_cut [7] from 27 to 28 (fun b wc => b = .string T ∧ Hid (wc = w1))
  case first =>
    rcases HTS.out with ⟨h1, h2⟩ | ⟨h1, h2⟩
    · have h1I : (20 : Int) < (s.size : Int) := by omega
      have h3 : 20 ≤ s.size := by omega
      go_wp2
      all_goals first
        | (exfalso; omega)
        | (go_meet; case rel => exact ⟨by rw [h2], rfl⟩)
    · have h1I : ¬ (20 : Int) < (s.size : Int) := by omega
      go_wp2
      all_goals first
        | (exfalso; omega)
        | (go_meet; case rel => exact ⟨by rw [h2], rfl⟩)
  case rest =>
    obtain ⟨hb7, hwc⟩ := hcut
    have hwc2 : wc = w1 := hwc
    subst hb7 hwc2
    obtain ⟨W0, hW0⟩ : ∃ x, x = wc := ⟨_, rfl⟩
    subst hW0
    go_upto_region 9 with fail
    have HQ0 := hid_ofB (Bq.start W0)
    obtain ⟨V0, hV0⟩ : ∃ x, x = (W0.alloc (.cells #[.slice none 0 0, .slice none 0 0] 27)).alloc (.cells #[.string ⟨#[98]⟩, .string ⟨#[97]⟩, .string ⟨#[99]⟩] 9) := ⟨_, rfl⟩
    rw [← hV0] at HQ0 ⊢
    obtain ⟨rb, hrb⟩ : ∃ x, x = W0.heap.size := ⟨_, rfl⟩
    obtain ⟨nb, hnb⟩ : ∃ x, x = W0.heap.size + 1 := ⟨_, rfl⟩
    rw [← hnb, ← hrb]
    have HRB := hid_ofB hrb
    have HNB := hid_ofB hnb
    clear hV0 hrb hnb hwc
    go_wp2
    go_loopw [9, 11] (fun wv x wr => ∃ (i : Nat) (wp : Option Addr) (wm wk : Nat) (us : List Value) (dp : Option Addr) (dc : Nat) (ds : List Value) (F : Nat → Prop), i ≤ 3 ∧ wm ≤ 4 * i ∧ x = .int .i64 i ∧ wv = .slice wp wm wk ∧ Hid (Bq W0 (rusQ T K i) wp wm wk us (defsQ T K i) dp i dc ds F wr)) (fun _ x _ => 3 - (intOf x).toNat)
    case atStart => exact ⟨0, none, 0, 0, [], none, 0, [], _, by omega, by omega, rfl, rfl, HQ0⟩
    case round =>
      clear HQ0
      obtain ⟨i, wp, wm, wk, us, dp, dc, ds, F, hi, hwm, rfl, rfl, HQ⟩ := hrel
      obtain ⟨V, hV⟩ : ∃ x, x = wr := ⟨_, rfl⟩
      subst hV
      by_cases hlt : i < 3
      · --SA
        have hltI : (i : Int) < 3 := by omega
        have hltD : decide ((i : Int) < 3) = true := decide_eq_true hltI
        have nvi : V.cell? ⟨nb, i, none⟩ = some (.string (nmQ i)) := by rw [HNB.out]; exact namB_at HQ.out.nv i hlt
        obtain ⟨ni, hni⟩ : ∃ x, x = nmQ i := ⟨_, rfl⟩
        have HNI := hid_ofB hni
        rw [← hni] at nvi
        have HAQ := hid_ofB (HQ.out.new ni)
        have hi0 : (0 : Int) ≤ (i : Int) := by omega
        clear hni
        go_upto_if 42 with fail
        obtain ⟨X, hX⟩ : ∃ x, x = V.alloc (.cells #[.string ni, .slice none 0 0] 31) := ⟨_, rfl⟩
        obtain ⟨db, hdb⟩ : ∃ x, x = V.heap.size := ⟨_, rfl⟩
        rw [← hX] at HAQ ⊢
        rw [← hdb] at HAQ ⊢
        clear hX hdb nvi HQ
        obtain ⟨ki, hki⟩ : ∃ x, x = K i := ⟨_, rfl⟩
        have HKI := hid_ofB hki
        clear hki
        obtain ⟨cb, hcb⟩ : ∃ b, b = decide (i < zn) := ⟨_, rfl⟩
        rw [← hcb]
        have HCB := hid_ofB hcb
        clear hcb
        go_cut [13] from 43 to 48 (fun b wc => b = .int .i64 (ki : Int) ∧ Hid (wc = X))
        case first =>
          cases cb with
          | true =>
            have hiz : i < zn := by simpa using HCB.out.symm
            have hizI : (i : Int) < (zn : Int) := by omega
            obtain ⟨g, o, z, n, hp, hz, ha, hn4, hk⟩ := HZ.out i hiz X (b1.out.trans (HAQ.out.bq.bl.mono b1.out.size))
            subst hp
            have e := hid_ofB (show (ki : Int) = 1 + (n : Int) by rw [HKI.out, hk]; omega)
            clear hk
            go_wp2
            go_meet
            case rel => exact ⟨by rw [e.out], rfl⟩
          | false =>
            have hiz : ¬ i < zn := by simpa using HCB.out.symm
            have e := hid_ofB (show (ki : Int) = 1 by rw [HKI.out, HZN.out i hiz]; rfl)
            clear hiz
            go_wp2
            go_meet
            case rel => exact ⟨by rw [e.out], rfl⟩
        case rest =>
          obtain ⟨hb13, hwc⟩ := hcut
          have hwc2 : wc = X := hwc
          subst hb13 hwc2
          obtain ⟨X, hX⟩ : ∃ x, x = wc := ⟨_, rfl⟩
          subst hX
          obtain ⟨dm, hdm⟩ : ∃ x, x = i := ⟨_, rfl⟩
          have HDM := hid_ofB hdm
          have hk4 : 1 ≤ ki ∧ ki ≤ 4 := by rw [HKI.out]; exact HK.out i
          obtain ⟨hk1, hk4⟩ := hk4
          have HA0 : Hid (Aq W0 (rusQ T K i ++ (List.range 0).map (rulQ T i)) wp wm wk us (defsQ T K i) dp dm dc ds F db ni ((List.range 0).map (altQ T i)) none 0 0 [] X) := by
            show Aq _ _ _ _ _ _ _ _ _ _ _ _ _ _ _ _ _ _ _ _
            rw [hdm]
            simpa using HAQ.out
          clear HAQ hdm hwc
          go_wp2
          go_loopw [9, 14] (fun wv x wr => ∃ (j : Nat) (wp : Option Addr) (wm wk : Nat) (us : List Value) (F : Nat → Prop) (ap : Option Addr) (ac : Nat) (als : List Value), j ≤ ki ∧ wm ≤ 4 * i + j ∧ x = .int .i64 j ∧ wv = .slice wp wm wk ∧ Hid (Aq W0 (rusQ T K i ++ (List.range j).map (rulQ T i)) wp wm wk us (defsQ T K i) dp dm dc ds F db ni ((List.range j).map (altQ T i)) ap j ac als wr)) (fun _ x _ => ki - (intOf x).toNat)
          case atStart => exact ⟨0, wp, wm, wk, us, F, none, 0, [], Nat.zero_le _, by omega, rfl, rfl, HA0⟩
          case round =>
            clear HA0
            obtain ⟨j, wp, wm, wk, us, F, ap, ac, als, hj, hwm2, rfl, rfl, HA⟩ := hrel
            obtain ⟨V, hV⟩ : ∃ x, x = wr := ⟨_, rfl⟩
            subst hV
            by_cases hlj : j < ki
            · --SB
              have hljI : (j : Int) < (ki : Int) := by omega
              have hj0 : (0 : Int) ≤ (j : Int) := by omega
              have hj4 : j < 4 := by omega
              obtain ⟨ng, hng⟩ : ∃ x, x = ngQ j := ⟨_, rfl⟩
              have HNG := hid_ofB hng
              have ha1 : (bits .and .i64 (j : Int) 1 == 1) = ng := by rw [hng]; exact and1B j hj4
              obtain ⟨q, hq⟩ : ∃ x, x = (i + j) % 3 := ⟨_, rfl⟩
              have HQ3 := hid_ofB hq
              have hq3 : q < 3 := by rw [hq]; exact Nat.mod_lt _ (by decide)
              have hrem : ((i : Int) + (j : Int)).tmod 3 = (q : Int) := by rw [Int.tmod_eq_emod_of_nonneg (by omega)]; omega
              have hwij : IntKind.i64.wrap ((i : Int) + (j : Int)) = (i : Int) + (j : Int) := by rw [IntKind.wrap_i64]; omega
              have hq0 : (0 : Int) ≤ (q : Int) := by omega
              have hqI : (q : Int) < 3 := by omega
              have nq : V.cell? ⟨nb, q, none⟩ = some (.string (nmQ q)) := by rw [HNB.out]; exact namB_at HA.out.bq.nv q hq3
              obtain ⟨nn, hnn⟩ : ∃ x, x = nmQ q := ⟨_, rfl⟩
              have HNN := hid_ofB hnn
              rw [← hnn] at nq
              have dv1 : V.cell? ⟨db, 1, none⟩ = some (.slice ap j ac) := cellB HA.out.dv 1
              have df1 : V.frozen? ⟨db, 1, none⟩ = false := frzB HA.out.dv 1
              have hdl : db < V.heap.size := blkB_lt HA.out.dv
              have hnl : nb < V.heap.size := by rw [HNB.out]; exact blkB_lt HA.out.bq.nv
              have RN : Hid ((Value.slice ap j ac).ownBlock ≠ some db) := row_noB HA.out.oa (by decide) HA.out.dv
              obtain ⟨it, hi0, hi1, hi2, hi3⟩ := info_parts Try.infoAltB
              have HI : Hid (Try.prog.info? 37 = some it ∧ it.zero = some (.slice none 0 0) ∧ it.size = 1 ∧ it.bytes = 24) := ⟨hi0, hi1, hi2, hi3⟩
              have MX : Hid (j + 1 ≤ maxLen) := by show _ ≤ _; unfold maxLen; omega
              have BY : Hid ((j + 1) * 24 ≤ 140737488355328) := by show _ ≤ _; omega
              have hW0 : W0.heap.size + 2 ≤ V.heap.size := by have := HA.out.hd.1; omega
              obtain ⟨Z, hZ⟩ : ∃ Z, Z = ((V.alloc (.cells #[.int .i64 1, .string T, .int .i64 0, .int .i64 0, .int .i64 0, .string nn, .int .i64 0, .int .i64 0, .int .i64 2, .string ⟨#[]⟩, .int .i64 (j : Int), .int .i64 9] 33)).alloc (.cells #[.bool ng, .slice (some ⟨V.heap.size, 0, none⟩) 3 3] 36)).alloc (.cells #[.slice (some ⟨V.heap.size + 1, 0, none⟩) 1 1] 37) := ⟨_, rfl⟩
              have hVZ : Below V.heap.size V Z := by rw [hZ]; exact ((belB1 V _).alloc (by simp) _).alloc (by simp; omega) _
              have hZs : Z.heap.size = V.heap.size + 3 := by rw [hZ]; simp
              have z0 : Z.heap[V.heap.size]? = some (.cells #[.int .i64 1, .string T, .int .i64 0, .int .i64 0, .int .i64 0, .string nn, .int .i64 0, .int .i64 0, .int .i64 2, .string ⟨#[]⟩, .int .i64 (j : Int), .int .i64 9] 33) := by
                rw [hZ]
                exact ((belB1 _ _).block _ (by simp; omega)).trans (((belB1 _ _).block _ (by simp)).trans (newB V _))
              have z1 : Z.heap[V.heap.size + 1]? = some (.cells #[.bool ng, .slice (some ⟨V.heap.size, 0, none⟩) 3 3] 36) := by
                rw [hZ]
                have h := newB (V.alloc (.cells #[.int .i64 1, .string T, .int .i64 0, .int .i64 0, .int .i64 0, .string nn, .int .i64 0, .int .i64 0, .int .i64 2, .string ⟨#[]⟩, .int .i64 (j : Int), .int .i64 9] 33)) (.cells #[.bool ng, .slice (some ⟨V.heap.size, 0, none⟩) 3 3] 36)
                rw [show (V.alloc (.cells #[.int .i64 1, .string T, .int .i64 0, .int .i64 0, .int .i64 0, .string nn, .int .i64 0, .int .i64 0, .int .i64 2, .string ⟨#[]⟩, .int .i64 (j : Int), .int .i64 9] 33)).heap.size = V.heap.size + 1 by simp] at h
                exact ((belB1 _ _).block _ (by simp)).trans h
              have z2 : Z.heap[V.heap.size + 2]? = some (.cells #[.slice (some ⟨V.heap.size + 1, 0, none⟩) 1 1] 37) := by
                have h := newB ((V.alloc (.cells #[.int .i64 1, .string T, .int .i64 0, .int .i64 0, .int .i64 0, .string nn, .int .i64 0, .int .i64 0, .int .i64 2, .string ⟨#[]⟩, .int .i64 (j : Int), .int .i64 9] 33)).alloc (.cells #[.bool ng, .slice (some ⟨V.heap.size, 0, none⟩) 3 3] 36)) (.cells #[.slice (some ⟨V.heap.size + 1, 0, none⟩) 1 1] 37)
                rw [← hZ] at h
                simpa using h
              have IC : IsCjs Z (fun b => V.heap.size ≤ b ∧ b < Z.heap.size) (.slice (some ⟨V.heap.size + 1, 0, none⟩) 1 1) (altQ T i j) := by
                have i0 : IsIts Z (fun b => V.heap.size ≤ b ∧ b < Z.heap.size) (.slice (some ⟨V.heap.size, 0, none⟩) 3 3) (itsQ T i j) := by
                  have e : itsV (itsQ T i j) = [.int .i64 1, .string T, .int .i64 0, .int .i64 0, .int .i64 0, .string nn, .int .i64 0, .int .i64 0, .int .i64 2, .string ⟨#[]⟩, .int .i64 (j : Int), .int .i64 9] := by rw [HNN.out, HQ3.out]; rfl
                  show Reads _ _ _ 3 _
                  rw [e]
                  refine ⟨_, _, rfl, ⟨by unfold maxLen; omega, Nat.le_refl _⟩, fun _ => ⟨V.heap.size, 0, rfl, ⟨Nat.le_refl _, by omega⟩, by omega, fun m c hm => ?_, fun m _ => by rw [Nat.zero_add]; exact frzB z0 m⟩⟩
                  rw [Nat.zero_add, cellB z0 m]
                  simpa using hm
                refine ⟨[.slice (some ⟨V.heap.size, 0, none⟩) 3 3], ?_, rfl, fun m c u h1 h2 => ?_⟩
                · have e : cjsV (altQ T i j) [.slice (some ⟨V.heap.size, 0, none⟩) 3 3] = [.bool ng, .slice (some ⟨V.heap.size, 0, none⟩) 3 3] := by rw [HNG.out]; rfl
                  show Reads _ _ _ 1 _
                  rw [e]
                  refine ⟨_, _, rfl, ⟨by unfold maxLen; omega, Nat.le_refl _⟩, fun _ => ⟨V.heap.size + 1, 0, rfl, ⟨by omega, by omega⟩, by omega, fun m c hm => ?_, fun m _ => by rw [Nat.zero_add]; exact frzB z1 m⟩⟩
                  rw [Nat.zero_add, cellB z1 m]
                  simpa using hm
                · have hm : m = 0 := by have := (List.getElem?_eq_some_iff.1 h1).1; simp [altQ] at this; omega
                  subst hm
                  obtain rfl : u = .slice (some ⟨V.heap.size, 0, none⟩) 3 3 := by simpa using h2.symm
                  obtain rfl : c = ⟨ngQ j, itsQ T i j⟩ := by simpa [altQ] using h1.symm
                  exact i0
              have HIC := hid_ofB IC
              have HVZ := hid_ofB hVZ
              have HZ2 := hid_ofB z2
              have OAZ : Hid (Z.ownsRow (W0.heap.size + 2) 37 1 (.slice ap j ac) j als) := row_keep HA.out.oa hVZ
              have dZ1 : Z.cell? ⟨db, 1, none⟩ = some (.slice ap j ac) := (hVZ.cell (p := ⟨db, 1, none⟩) hdl).trans dv1
              have dZ2 : Z.frozen? ⟨db, 1, none⟩ = false := (hVZ.frozen (p := ⟨db, 1, none⟩) hdl).trans df1
              have hdZ : db < Z.heap.size := by omega
              have HWM : Hid (wm ≤ 4 * i + j ∧ j < ki) := by show _ ∧ _; omega
              clear z0 z1 z2 IC hVZ hi0 hi1 hi2 hi3 hng hq hnn hlj hj hwm2
              have OAZ2 := OAZ.out
              rw [hZ] at OAZ2
              have OAZ3 := hid_ofB OAZ2
              have z23 := HZ2.out
              rw [hZ] at z23
              have HZ3 := hid_ofB z23
              rw [hZ] at dZ1 dZ2 hdZ
              have hZs2 := hZs
              rw [hZ] at hZs2
              have HZE := hid_ofB hZ
              have HFI : Hid (∀ (gg cap : Nat) (w5 : World), Z.grownBy w5 (Value.slice ap j ac).ownBlock → w5.ownsRow (W0.heap.size + 2) 37 1 (.slice (some ⟨gg, 0, none⟩) (j + 1) cap) (j + 1) (als ++ [.slice (some ⟨V.heap.size + 1, 0, none⟩) 1 1]) → ((Value.slice ap j ac).ownBlock = some gg ∨ gg = V.heap.size + 3) → ∃ (ap2 : Option Addr) (ac2 : Nat) (als2 : List Value) (F2 : Nat → Prop), Hid (Aq W0 (rusQ T K i ++ (List.range j).map (rulQ T i)) wp wm wk us (defsQ T K i) dp dm dc ds F2 db ni ((List.range (j + 1)).map (altQ T i)) ap2 (j + 1) ac2 als2 (w5.setCell ⟨db, 1, none⟩ (.slice (some ⟨gg, 0, none⟩) (j + 1) cap)))) := fun gg cap w5 hg hown hat => by
                have h := HA.out.alt HVZ.out HIC.out hg hown (by rw [hZs]; exact hat)
                refine ⟨some ⟨gg, 0, none⟩, cap, als ++ [.slice (some ⟨V.heap.size + 1, 0, none⟩) 1 1], (fun b => F b ∨ (V.heap.size ≤ b ∧ b < Z.heap.size)), ?_⟩
                show Aq _ _ _ _ _ _ _ _ _ _ _ _ _ _ ((List.range (j + 1)).map (altQ T i)) _ _ _ _ _
                rw [List.range_succ, List.map_append]
                exact h
              clear OAZ OAZ2 HZ2 z23 hZs hZ
              go_upto_region 19 with fail
              go_cut [] from 54 to 76 (fun wc => ∃ (ap2 : Option Addr) (ac2 : Nat) (als2 : List Value) (F2 : Nat → Prop), Hid (Aq W0 (rusQ T K i ++ (List.range j).map (rulQ T i)) wp wm wk us (defsQ T K i) dp dm dc ds F2 db ni ((List.range (j + 1)).map (altQ T i)) ap2 (j + 1) ac2 als2 wc))
              case first =>
                go_region_law (refine step_append_lies _ (by rfl) _ _ _ (by rfl) (W0.heap.size + 2) 37 it _ 1 24 Try.underlying29 HI.out.1 HI.out.2.1 HI.out.2.2.1 HI.out.2.2.2 rfl (by omega) (.slice ap j ac) j als (by rfl) (OAZ3.out.drew) ⟨V.heap.size + 2, 0, none⟩ 1 1 [.slice (some ⟨V.heap.size + 1, 0, none⟩) 1 1] (by rfl) (by rfl) (World.news_of_block (cs := #[.slice (some ⟨V.heap.size + 1, 0, none⟩) 1 1]) (t := 37) (fr := (0, 0)) HZ3.out) (fun x hx => by simp at hx; rcases hx with rfl; rfl) (by omega) MX.out BY.out (by simp; omega) (V.heap.size + 3) (by simp) ?_; intro gg cap1 w6 hown1 hgrow hat hltg; have r6 : w6.cell? ⟨db, 1, none⟩ = some (.slice ap j ac) := (hgrow.cell_far ⟨db, 1, none⟩ hdZ (Ne.symm RN.out)).trans dZ1; have f6 : w6.frozen? ⟨db, 1, none⟩ = false := (hgrow.frozen_far ⟨db, 1, none⟩ hdZ (Ne.symm RN.out)).trans dZ2)
                all_goals
                  have FIN := HFI.out gg cap1 w6 (by rw [HZE.out]; exact ⟨hgrow.os, hgrow.tape, hgrow.output, hgrow.size, hgrow.block⟩) hown1 hat
                  clear HFI hgrow hown1 hat r6 f6
                  go_wp2
                  go_meet
                  case rel => exact FIN
              case rest =>
                obtain ⟨ap2, ac2, als2, F2, HA2⟩ := hcut
                obtain ⟨Y, hY⟩ : ∃ x, x = wc := ⟨_, rfl⟩
                subst hY
                clear HFI HIC HVZ OAZ3 HZ3 HZE dZ1 dZ2 hdZ hZs2 nq dv1 df1 hdl hnl RN HI MX BY hW0 HA hwij
                have hYs : W0.heap.size + 2 ≤ Y.heap.size := by have := HA2.out.hd.1; have := blkB_lt HA2.out.dv; omega
                go_upto_region 22 with fail
                have HX0 := hid_ofB (newB Y (.cells #[.bool ng, .slice none 0 0] 40))
                have HXB := hid_ofB (belB1 Y (.cells #[.bool ng, .slice none 0 0] 40))
                obtain ⟨Y1, hY1⟩ : ∃ x, x = Y.alloc (.cells #[.bool ng, .slice none 0 0] 40) := ⟨_, rfl⟩
                obtain ⟨xb, hxb⟩ : ∃ x, x = Y.heap.size := ⟨_, rfl⟩
                rw [← hY1] at HX0 HXB ⊢
                rw [← hxb] at HX0 ⊢
                have HXE := hid_ofB hxb
                obtain ⟨iy, hi0, hi1, hi2, hi3⟩ := info_parts Try.infoSymB
                have HI : Hid (Try.prog.info? 42 = some iy ∧ iy.zero = some (.agg #[.int .i64 0, .int .i64 0, .int .i64 0]) ∧ iy.size = 3 ∧ iy.bytes = 24) := ⟨hi0, hi1, hi2, hi3⟩
                have hxl : xb < Y1.heap.size := blkB_lt HX0.out
                have gbt := PlainAid.get_bt T
                obtain ⟨tz, htz⟩ : ∃ x, x = T.size := ⟨_, rfl⟩
                have HTZ := hid_ofB htz
                have htz20 : tz ≤ 20 := by rw [htz]; exact hT
                clear hY1 hxb hi0 hi1 hi2 hi3
                go_wp2
                go_loopw [16] (fun x wr => ∃ (m : Nat) (p : Option Addr) (c : Nat), m ≤ T.size ∧ x = .int .i64 m ∧ Hid (wr.heap[xb]? = some (.cells #[.bool ng, .slice p m c] 40)) ∧ Hid (wr.ownsRow Y.heap.size 42 3 (.slice p m c) m (sysV (preQ T m))) ∧ Hid (Below Y.heap.size Y wr)) (fun x _ => T.size - (intOf x).toNat)
                case atStart => exact ⟨0, none, 0, Nat.zero_le _, rfl, HX0, World.ownsRow_nil _ _ _ _, HXB⟩
                case round =>
                  clear HX0 HXB hxl
                  obtain ⟨m, p, c, hm, rfl, HX, HO, HB⟩ := hrel
                  obtain ⟨V2, hV2⟩ : ∃ x, x = wr := ⟨_, rfl⟩
                  subst hV2
                  have x1 : V2.cell? ⟨xb, 1, none⟩ = some (.slice p m c) := cellB HX.out 1
                  have f1 : V2.frozen? ⟨xb, 1, none⟩ = false := frzB HX.out 1
                  have hxl : xb < V2.heap.size := blkB_lt HX.out
                  have RNX : Hid ((Value.slice p m c).ownBlock ≠ some xb) := row_noB HO.out (by decide) HX.out
                  have hYV : Y.heap.size ≤ V2.heap.size := HB.out.size
                  by_cases hlm : m < T.size
                  · --SD
                    have hlmI : (m : Int) < (T.size : Int) := by omega
                    have MX : Hid (m + 1 ≤ maxLen) := by show _ ≤ _; unfold maxLen; omega
                    have BY : Hid ((m + 1) * 24 ≤ 140737488355328) := by show _ ≤ _; omega
                    have hwb : IntKind.i64.wrap (PlainAid.bt T m) = PlainAid.bt T m := by have := PlainAid.bt_nonneg T m; have := PlainAid.bt_le T m; rw [IntKind.wrap_i64]; omega
                    have HFI : Hid (∀ (gg cap : Nat) (w5 : World), (V2.alloc (.cells #[.int .i64 (-1), .int .i64 (PlainAid.bt T m), .int .i64 (PlainAid.bt T m)] 42)).grownBy w5 (Value.slice p m c).ownBlock → w5.ownsRow Y.heap.size 42 3 (.slice (some ⟨gg, 0, none⟩) (m + 1) cap) (m + 1) (sysV (preQ T m) ++ [.int .i64 (-1), .int .i64 (PlainAid.bt T m), .int .i64 (PlainAid.bt T m)]) →
                        Hid ((w5.setCell ⟨xb, 1, none⟩ (.slice (some ⟨gg, 0, none⟩) (m + 1) cap)).heap[xb]? = some (.cells #[.bool ng, .slice (some ⟨gg, 0, none⟩) (m + 1) cap] 40)) ∧ Hid ((w5.setCell ⟨xb, 1, none⟩ (.slice (some ⟨gg, 0, none⟩) (m + 1) cap)).ownsRow Y.heap.size 42 3 (.slice (some ⟨gg, 0, none⟩) (m + 1) cap) (m + 1) (sysV (preQ T (m + 1)))) ∧ Hid (Below Y.heap.size Y (w5.setCell ⟨xb, 1, none⟩ (.slice (some ⟨gg, 0, none⟩) (m + 1) cap)))) := fun gg cap w5 hg hown => by
                      have hx5 : w5.heap[xb]? = some (.cells #[.bool ng, .slice p m c] 40) := (hg.block xb (by simp; omega) (Ne.symm RNX.out)).trans (((belB1 V2 _).block xb hxl).trans HX.out)
                      have e : sysV (preQ T (m + 1)) = sysV (preQ T m) ++ [.int .i64 (-1), .int .i64 (PlainAid.bt T m), .int .i64 (PlainAid.bt T m)] := by rw [preQ_succ, sysV_append]; rfl
                      refine ⟨setB_same hx5 _, ?_, ((HB.out.trans ((belB1 V2 _).mono hYV)).grown hg (by simp; omega) (fun x e => (HO.out.lt x e).1)).setCell (p := ⟨xb, 1, none⟩) (by show _ ≤ xb; rw [HXE.out]; exact Nat.le_refl _) _⟩
                      show World.ownsRow _ _ _ _ _ _ _
                      rw [e]
                      exact ownsRow_setCell_other (a := ⟨xb, 1, none⟩) hown (row_noB hown (by decide) hx5) _
                    go_upto_region 24 with fail
                    go_region_law (refine step_append_lies _ (by rfl) _ _ _ (by rfl) Y.heap.size 42 iy _ 3 24 Try.underlying38 HI.out.1 HI.out.2.1 HI.out.2.2.1 HI.out.2.2.2 rfl (by omega) (.slice p m c) m (sysV (preQ T m)) (by rfl) ((HO.out.alloc _).drew) ⟨V2.heap.size, 0, none⟩ 1 1 [.int .i64 (-1), .int .i64 (PlainAid.bt T m), .int .i64 (PlainAid.bt T m)] (by rfl) (by rfl) (World.news_of_block (cs := #[.int .i64 (-1), .int .i64 (PlainAid.bt T m), .int .i64 (PlainAid.bt T m)]) (t := 42) (fr := (0, 0)) (newB V2 _)) (fun x hx => by simp at hx; rcases hx with rfl | rfl | rfl <;> rfl) (by omega) MX.out BY.out (Nat.le_trans hYV (le_alloc _ _)) (V2.heap.size + 1) (by simp) ?_; intro gg cap1 w6 hown1 hgrow hat hltg; have r6 : w6.cell? ⟨xb, 1, none⟩ = some (.slice p m c) := (hgrow.cell_far ⟨xb, 1, none⟩ (by simp; omega) (Ne.symm RNX.out)).trans ((World.cell?_alloc_past _ _ _ hxl).trans x1); have f6 : w6.frozen? ⟨xb, 1, none⟩ = false := (hgrow.frozen_far ⟨xb, 1, none⟩ (by simp; omega) (Ne.symm RNX.out)).trans ((World.frozen?_alloc_past _ _ _ hxl).trans f1))
                    all_goals
                      obtain ⟨F1, F2', F3⟩ := HFI.out gg cap1 w6 ⟨hgrow.os, hgrow.tape, hgrow.output, hgrow.size, hgrow.block⟩ hown1
                      clear HFI hgrow hown1 hat r6 f6
                      go_wp2
                      go_roundw
                      case rel => exact ⟨m + 1, _, _, by omega, by go_num, F1, F2', F3⟩
                      case measure => simp [intOf]; omega
                  · --SE
                    have hmT : m = T.size := by omega
                    have HMT := hid_ofB hmT
                    have hlmI : ¬ (m : Int) < (T.size : Int) := by omega
                    have hm20 : m ≤ 20 := by rw [hmT]; exact hT
                    have MX : Hid (m + 2 ≤ maxLen) := by show _ ≤ _; unfold maxLen; omega
                    have BY : Hid ((m + 2) * 24 ≤ 140737488355328) := by show _ ≤ _; omega
                    have x0 : V2.cell? ⟨xb, 0, none⟩ = some (.bool ng) := cellB HX.out 0
                    have hwij : IntKind.i64.wrap ((i : Int) + (j : Int)) = (i : Int) + (j : Int) := by rw [IntKind.wrap_i64]; omega
                    have HFI : Hid (∀ (gg cap : Nat) (w5 : World), (V2.alloc (.cells #[.int .i64 (q : Int), .int .i64 0, .int .i64 0, .int .i64 (-1), .int .i64 (j : Int), .int .i64 9] 42)).grownBy w5 (Value.slice p m c).ownBlock → w5.ownsRow Y.heap.size 42 3 (.slice (some ⟨gg, 0, none⟩) (m + 2) cap) (m + 2) (sysV (preQ T m) ++ [.int .i64 (q : Int), .int .i64 0, .int .i64 0, .int .i64 (-1), .int .i64 (j : Int), .int .i64 9]) →
                        Hid ((w5.setCell ⟨xb, 1, none⟩ (.slice (some ⟨gg, 0, none⟩) (m + 2) cap)).heap[xb]? = some (.cells #[.bool ng, .slice (some ⟨gg, 0, none⟩) (m + 2) cap] 40)) ∧ Hid ((w5.setCell ⟨xb, 1, none⟩ (.slice (some ⟨gg, 0, none⟩) (m + 2) cap)).ownsRow Y.heap.size 42 3 (.slice (some ⟨gg, 0, none⟩) (m + 2) cap) (m + 2) (sysV (sysQ T i j))) ∧ Hid (Below Y.heap.size Y (w5.setCell ⟨xb, 1, none⟩ (.slice (some ⟨gg, 0, none⟩) (m + 2) cap)))) := fun gg cap w5 hg hown => by
                      have hx5 : w5.heap[xb]? = some (.cells #[.bool ng, .slice p m c] 40) := (hg.block xb (by simp; omega) (Ne.symm RNX.out)).trans (((belB1 V2 _).block xb hxl).trans HX.out)
                      have e : sysV (sysQ T i j) = sysV (preQ T m) ++ [.int .i64 (q : Int), .int .i64 0, .int .i64 0, .int .i64 (-1), .int .i64 (j : Int), .int .i64 9] := by rw [HMT.out, preQ_all, HQ3.out]; unfold sysQ; rw [sysV_append]; rfl
                      refine ⟨setB_same hx5 _, ?_, ((HB.out.trans ((belB1 V2 _).mono hYV)).grown hg (by simp; omega) (fun x e => (HO.out.lt x e).1)).setCell (p := ⟨xb, 1, none⟩) (by show _ ≤ xb; rw [HXE.out]; exact Nat.le_refl _) _⟩
                      show World.ownsRow _ _ _ _ _ _ _
                      rw [e]
                      exact ownsRow_setCell_other (a := ⟨xb, 1, none⟩) hown (row_noB hown (by decide) hx5) _
                    clear hlm hm hmT
                    go_upto_region 26 with (at_builtin; refine wpList_append_lies _ rfl _ _ 38 rfl Y.heap.size 42 iy (.agg #[.int .i64 0, .int .i64 0, .int .i64 0]) 3 24 Try.underlying38 HI.out.1 HI.out.2.1 HI.out.2.2.1 HI.out.2.2.2 rfl (by decide) _ _ _ rfl (HO.out.alloc _) ⟨V2.heap.size, 0, none⟩ 2 2 [.int .i64 (q : Int), .int .i64 0, .int .i64 0, .int .i64 (-1), .int .i64 (j : Int), .int .i64 9] rfl rfl (World.news_of_block (cs := #[.int .i64 (q : Int), .int .i64 0, .int .i64 0, .int .i64 (-1), .int .i64 (j : Int), .int .i64 9]) (t := 42) (fr := (0, 0)) (newB V2 _)) (fun x hx => by simp at hx; rcases hx with rfl | rfl | rfl | rfl | rfl | rfl <;> rfl) (by decide) MX.out BY.out (Nat.le_trans hYV (le_alloc _ _)) (V2.heap.size + 1) (by simp) ?_; intro gg cap1 w6 hown1 hgrow hat hltg; have r6 : w6.cell? ⟨xb, 1, none⟩ = some (.slice p m c) := (hgrow.cell_far ⟨xb, 1, none⟩ (by simp; omega) (Ne.symm RNX.out)).trans ((World.cell?_alloc_past _ _ _ hxl).trans x1); have f6 : w6.frozen? ⟨xb, 1, none⟩ = false := (hgrow.frozen_far ⟨xb, 1, none⟩ (by simp; omega) (Ne.symm RNX.out)).trans ((World.frozen?_alloc_past _ _ _ hxl).trans f1))
                    obtain ⟨F1, F2', F3⟩ := HFI.out gg cap1 w6 hgrow hown1
                    obtain ⟨V3, hV3⟩ : ∃ x, x = w6.setCell ⟨xb, 1, none⟩ (.slice (some ⟨gg, 0, none⟩) (m + 2) cap1) := ⟨_, rfl⟩
                    rw [← hV3] at F1 F2' F3 ⊢
                    clear HFI hgrow hown1 hat hltg r6 f6 hV3 x0 x1 f1 hxl RNX hYV MX BY HX HO HB
                    have x0 : V3.cell? ⟨xb, 0, none⟩ = some (.bool ng) := cellB F1.out 0
                    have x1 : V3.cell? ⟨xb, 1, none⟩ = some (.slice (some ⟨gg, 0, none⟩) (m + 2) cap1) := cellB F1.out 1
                    have h3s := F3.out.size
                    obtain ⟨ir, hi0, hi1, hi2, hi3⟩ := info_parts Try.infoRulB
                    have HI3 : Hid (Try.prog.info? 45 = some ir ∧ ir.zero = some (.agg #[.int .i64 0, .slice none 0 0]) ∧ ir.size = 2 ∧ ir.bytes = 32) := ⟨hi0, hi1, hi2, hi3⟩
                    have hwm9 := HWM.out
                    have MX : Hid (wm + 1 ≤ maxLen) := by show _ ≤ _; unfold maxLen; omega
                    have BY : Hid ((wm + 1) * 32 ≤ 140737488355328) := by show _ ≤ _; omega
                    obtain ⟨Z, hZ⟩ : ∃ Z, Z = (V3.alloc (.cells #[.bool ng, .slice (some ⟨gg, 0, none⟩) (m + 2) cap1] 40)).alloc (.cells #[.int .i64 (i : Int), .slice (some ⟨V3.heap.size, 0, none⟩) 1 1] 45) := ⟨_, rfl⟩
                    have hV3Z : Below V3.heap.size V3 Z := by rw [hZ]; exact (belB1 V3 _).alloc (by simp) _
                    have hZs : Z.heap.size = V3.heap.size + 2 := by rw [hZ]; simp
                    have z0 : Z.heap[V3.heap.size]? = some (.cells #[.bool ng, .slice (some ⟨gg, 0, none⟩) (m + 2) cap1] 40) := by rw [hZ]; exact ((belB1 _ _).block _ (by simp)).trans (newB V3 _)
                    have z1 : Z.heap[V3.heap.size + 1]? = some (.cells #[.int .i64 (i : Int), .slice (some ⟨V3.heap.size, 0, none⟩) 1 1] 45) := by
                      have h := newB (V3.alloc (.cells #[.bool ng, .slice (some ⟨gg, 0, none⟩) (m + 2) cap1] 40)) (.cells #[.int .i64 (i : Int), .slice (some ⟨V3.heap.size, 0, none⟩) 1 1] 45)
                      rw [← hZ] at h
                      simpa using h
                    have hYZ : Below Y.heap.size Y Z := F3.out.trans (hV3Z.mono h3s)
                    have IC : IsCns Z (fun b => Y.heap.size ≤ b ∧ b < Z.heap.size) (.slice (some ⟨V3.heap.size, 0, none⟩) 1 1) [⟨ng, sysQ T i j⟩] := by
                      refine ⟨[.slice (some ⟨gg, 0, none⟩) (m + 2) cap1], ?_, rfl, fun n c u h1 h2 => ?_⟩
                      · show Reads _ _ _ 1 [.bool ng, .slice (some ⟨gg, 0, none⟩) (m + 2) cap1]
                        refine ⟨_, _, rfl, ⟨by unfold maxLen; omega, Nat.le_refl _⟩, fun _ => ⟨V3.heap.size, 0, rfl, ⟨h3s, by omega⟩, by omega, fun n c hn => ?_, fun n _ => by rw [Nat.zero_add]; exact frzB z0 n⟩⟩
                        rw [Nat.zero_add, cellB z0 n]
                        simpa using hn
                      · have hn : n = 0 := by have := (List.getElem?_eq_some_iff.1 h1).1; simp at this; omega
                        subst hn
                        obtain rfl : u = .slice (some ⟨gg, 0, none⟩) (m + 2) cap1 := by simpa using h2.symm
                        obtain rfl : c = ⟨ng, sysQ T i j⟩ := by simpa using h1.symm
                        have o3 := row_keep F2'.out hV3Z
                        show Reads _ _ _ (sysQ T i j).length _
                        rw [sysQ_len, ← HMT.out]
                        exact Reads.of o3 (fun b e => o3.lt b e)
                    have OWZ : Hid (Z.ownsRow (W0.heap.size + 2) 45 2 (.slice wp wm wk) wm (rusV (rusQ T K i ++ (List.range j).map (rulQ T i)) us)) := row_keep HA2.out.bq.ow hYZ
                    have HFI : Hid (∀ (g2 cap2 : Nat) (w7 : World), Z.grownBy w7 (Value.slice wp wm wk).ownBlock → w7.ownsRow (W0.heap.size + 2) 45 2 (.slice (some ⟨g2, 0, none⟩) (wm + 1) cap2) (wm + 1) (rusV (rusQ T K i ++ (List.range j).map (rulQ T i)) us ++ [.int .i64 (i : Int), .slice (some ⟨V3.heap.size, 0, none⟩) 1 1]) → ((Value.slice wp wm wk).ownBlock = some g2 ∨ g2 = V3.heap.size + 2) →
                        Hid (Aq W0 (rusQ T K i ++ (List.range (j + 1)).map (rulQ T i)) (some ⟨g2, 0, none⟩) (wm + 1) cap2 (us ++ [.slice (some ⟨V3.heap.size, 0, none⟩) 1 1]) (defsQ T K i) dp dm dc ds (fun b => F2 b ∨ (Y.heap.size ≤ b ∧ b < Z.heap.size)) db ni ((List.range (j + 1)).map (altQ T i)) ap2 (j + 1) ac2 als2 w7)) := fun g2 cap2 w7 hg hown hat => by
                      have h := HA2.out.rule hYZ IC hg hown (by rw [hZs]; exact hat)
                      have e : (rusQ T K i ++ (List.range j).map (rulQ T i)) ++ [(⟨(i : Int), [⟨ng, sysQ T i j⟩]⟩ : Ru)] = rusQ T K i ++ (List.range (j + 1)).map (rulQ T i) := by rw [List.range_succ, List.map_append, List.append_assoc, HNG.out]; rfl
                      rw [e] at h
                      exact h
                    have z12 := z1
                    rw [hZ] at z12
                    have HZ1 := hid_ofB z12
                    have oz2 := OWZ.out
                    rw [hZ] at oz2
                    have HOZ := hid_ofB oz2
                    have HZE := hid_ofB hZ
                    have hbz : W0.heap.size + 2 ≤ V3.heap.size := by omega
                    clear z0 z1 z12 oz2 OWZ hZ hZs hV3Z hYZ IC hi0 hi1 hi2 hi3 hwm9
                    go_wp2_with (at_builtin; refine wpList_append_lies _ rfl _ _ 28 rfl (W0.heap.size + 2) 45 ir (.agg #[.int .i64 0, .slice none 0 0]) 2 32 Try.underlying28 HI3.out.1 HI3.out.2.1 HI3.out.2.2.1 HI3.out.2.2.2 rfl (by decide) _ _ _ rfl HOZ.out ⟨V3.heap.size + 1, 0, none⟩ 1 1 [.int .i64 (i : Int), .slice (some ⟨V3.heap.size, 0, none⟩) 1 1] rfl rfl (World.news_of_block (cs := #[.int .i64 (i : Int), .slice (some ⟨V3.heap.size, 0, none⟩) 1 1]) (t := 45) (fr := (0, 0)) HZ1.out) (fun x hx => by simp at hx; rcases hx with rfl | rfl <;> rfl) (by decide) MX.out BY.out (by simp; omega) (V3.heap.size + 2) (by simp) ?_; intro g2 cap2 w7 hown2 hgrow2 hat2 hl2)
                    have FIN := HFI.out g2 cap2 w7 (by rw [HZE.out]; exact hgrow2) hown2 hat2
                    clear HFI hgrow2 hown2 hat2
                    go_roundw
                    case rel => exact ⟨j + 1, _, _, _, _, _, _, _, _, by omega, by have := HWM.out.1; omega, by go_num, rfl, FIN⟩
                    case measure => simp [intOf]; omega
            · --SF
              have hjk : j = ki := by omega
              subst hjk
              have hljI : ¬ (j : Int) < (j : Int) := by omega
              have q1 : V.cell? ⟨rb, 1, none⟩ = some (.slice dp dm dc) := by rw [HRB.out]; exact cellB HA.out.bq.rv 1
              have qf : V.frozen? ⟨rb, 1, none⟩ = false := by rw [HRB.out]; exact frzB HA.out.bq.rv 1
              have d0 : V.cell? ⟨db, 0, none⟩ = some (.string ni) := cellB HA.out.dv 0
              have d1 : V.cell? ⟨db, 1, none⟩ = some (.slice ap j ac) := cellB HA.out.dv 1
              have hrl : rb < V.heap.size := by rw [HRB.out]; exact blkB_lt HA.out.bq.rv
              have RNR : Hid ((Value.slice dp dm dc).ownBlock ≠ some rb) := by show _ ≠ _; rw [HRB.out]; exact row_noB HA.out.bq.od (by decide) HA.out.bq.rv
              obtain ⟨ir, hi0, hi1, hi2, hi3⟩ := info_parts Try.infoDefB
              have HI3 : Hid (Try.prog.info? 31 = some ir ∧ ir.zero = some (.agg #[.string ⟨#[]⟩, .slice none 0 0]) ∧ ir.size = 2 ∧ ir.bytes = 40) := ⟨hi0, hi1, hi2, hi3⟩
              have hdm3 : dm < 3 := by rw [HDM.out]; exact hlt
              have MX : Hid (dm + 1 ≤ maxLen) := by show _ ≤ _; unfold maxLen; omega
              have BY : Hid ((dm + 1) * 40 ≤ 140737488355328) := by show _ ≤ _; omega
              have hbz : W0.heap.size + 2 ≤ V.heap.size := by have := HA.out.hd.1; have := blkB_lt HA.out.dv; omega
              have HFI : Hid (∀ (g2 cap2 : Nat) (w7 : World), (V.alloc (.cells #[.string ni, .slice ap j ac] 31)).grownBy w7 (Value.slice dp dm dc).ownBlock → w7.ownsRow (W0.heap.size + 2) 31 2 (.slice (some ⟨g2, 0, none⟩) (dm + 1) cap2) (dm + 1) (dfsV (defsQ T K i) ds ++ [.string ni, .slice ap j ac]) → ((Value.slice dp dm dc).ownBlock = some g2 ∨ g2 = V.heap.size + 1) →
                  Hid (Bq W0 (rusQ T K (i + 1)) wp wm wk us (defsQ T K (i + 1)) (some ⟨g2, 0, none⟩) (i + 1) cap2 (ds ++ [.slice ap j ac]) (fun b => F b ∨ (Value.slice ap j ac).ownBlock = some b) (w7.setCell ⟨rb, 1, none⟩ (.slice (some ⟨g2, 0, none⟩) (dm + 1) cap2)))) := fun g2 cap2 w7 hg hown hat => by
                have h := HA.out.fin (belB1 V _) hg hown (by simpa using hat)
                have e1 : rusQ T K i ++ (List.range j).map (rulQ T i) = rusQ T K (i + 1) := by rw [HKI.out]; rfl
                have e2 : defsQ T K i ++ [(⟨ni, (List.range j).map (altQ T i)⟩ : Df)] = defsQ T K (i + 1) := by unfold defsQ; rw [List.range_succ, List.map_append, HNI.out, HKI.out]; rfl
                rw [e1, e2] at h
                rw [HRB.out]
                have e3 : dm = i := HDM.out
                rw [e3] at h ⊢
                exact h
              clear hlj hj hi0 hi1 hi2 hi3
              have HWM : Hid (wm ≤ 4 * i + j ∧ j ≤ 4) := by show _ ∧ _; omega
              clear hwm2
              go_wp2_with (at_builtin; refine wpList_append_lies _ rfl _ _ 25 rfl (W0.heap.size + 2) 31 ir (.agg #[.string ⟨#[]⟩, .slice none 0 0]) 2 40 Try.underlying25 HI3.out.1 HI3.out.2.1 HI3.out.2.2.1 HI3.out.2.2.2 rfl (by decide) _ _ _ rfl (HA.out.bq.od.alloc _) ⟨V.heap.size, 0, none⟩ 1 1 [.string ni, .slice ap j ac] rfl rfl (World.news_of_block (cs := #[.string ni, .slice ap j ac]) (t := 31) (fr := (0, 0)) (newB V _)) (fun x hx => by simp at hx; rcases hx with rfl | rfl <;> rfl) (by decide) MX.out BY.out (by simp; omega) (V.heap.size + 1) (by simp) ?_; intro g2 cap2 w7 hown2 hgrow2 hat2 hl2; have r6 : w7.cell? ⟨rb, 1, none⟩ = some (.slice dp dm dc) := (hgrow2.cell_far ⟨rb, 1, none⟩ (by simp; omega) (Ne.symm RNR.out)).trans ((World.cell?_alloc_past _ _ _ hrl).trans q1); have f6 : w7.frozen? ⟨rb, 1, none⟩ = false := (hgrow2.frozen_far ⟨rb, 1, none⟩ (by simp; omega) (Ne.symm RNR.out)).trans ((World.frozen?_alloc_past _ _ _ hrl).trans qf))
              have FIN := HFI.out g2 cap2 w7 hgrow2 hown2 hat2
              clear HFI hgrow2 hown2 hat2 r6 f6
              go_roundw
              case rel => exact ⟨i + 1, _, _, _, _, _, _, _, _, by omega, by have := HWM.out; omega, by go_num, rfl, FIN⟩
              case measure => simp [intOf]; omega
      · --SG
        have hi3 : i = 3 := by omega
        subst hi3
        obtain ⟨sx, hsx, es⟩ := modB_lt a 3 (by decide)
        have es2 : (IntKind.u64.wrap a).tmod 3 = (sx : Int) := es
        have hs0 : (0 : Int) ≤ (sx : Int) := by omega
        have hsI : (sx : Int) < 3 := by omega
        have nvs : V.cell? ⟨nb, sx, none⟩ = some (.string (nmQ sx)) := by rw [HNB.out]; exact namB_at HQ.out.nv sx hsx
        obtain ⟨ns, hns⟩ : ∃ x, x = nmQ sx := ⟨_, rfl⟩
        have HNS := hid_ofB hns
        rw [← hns] at nvs
        have q0 : V.cell? ⟨rb, 0, none⟩ = some (.slice none 0 0) := by rw [HRB.out]; exact cellB HQ.out.rv 0
        have q1 : V.cell? ⟨rb, 1, none⟩ = some (.slice dp 3 dc) := by rw [HRB.out]; exact cellB HQ.out.rv 1
        have qf : V.frozen? ⟨rb, 0, none⟩ = false := by rw [HRB.out]; exact frzB HQ.out.rv 0
        have hrl : rb < V.heap.size := by rw [HRB.out]; exact blkB_lt HQ.out.rv
        have h3I : decide ((3 : Int) < 3) = false := by decide
        clear es hns hi hlt
        go_upto_region 30 with fail
        obtain ⟨Y, hY⟩ : ∃ Y, Y = (V.setCell ⟨rb, 0, none⟩ (.slice (some ⟨V.heap.size, 0, none⟩) 1 1)).alloc (.cells #[.string ns] 9) := ⟨_, rfl⟩
        rw [← hY]
        have hzV : (V.setCell ⟨rb, 0, none⟩ (.slice (some ⟨V.heap.size, 0, none⟩) 1 1)).heap.size = V.heap.size := by simp [World.setCell]
        have hYs : Y.heap.size = V.heap.size + 1 := by rw [hY]; simp [World.setCell]
        have st : ∀ b, b < V.heap.size → b ≠ rb → Y.heap[b]? = V.heap[b]? := fun b hb hn => by
          rw [hY]
          exact ((belB1 _ _).block b (by rw [hzV]; exact hb)).trans (Go.Deep.blk_setCell_other _ ⟨rb, 0, none⟩ _ b hn)
        have hr : Y.heap[rb]? = some (.cells #[.slice (some ⟨V.heap.size, 0, none⟩) 1 1, .slice dp 3 dc] 27) := by
          have h0 : V.heap[rb]? = some (.cells #[.slice none 0 0, .slice dp 3 dc] 27) := by rw [HRB.out]; exact HQ.out.rv
          rw [hY]
          exact ((belB1 _ _).block rb (by rw [hzV]; exact hrl)).trans (setB_same h0 _)
        have hs1 : Y.heap[V.heap.size]? = some (.cells #[.string ns] 9) := by
          have h := newB (V.setCell ⟨rb, 0, none⟩ (.slice (some ⟨V.heap.size, 0, none⟩) 1 1)) (.cells #[.string ns] 9)
          rw [← hY, hzV] at h
          exact h
        have IT : IsTexts Y Any (.slice (some ⟨V.heap.size, 0, none⟩) 1 1) [nmQ sx] := by
          rw [← HNS.out]
          refine ⟨_, _, rfl, ⟨by show (1 : Nat) ≤ _; unfold maxLen; omega, Nat.le_refl _⟩, fun _ => ⟨V.heap.size, 0, rfl, trivial, by omega, fun n c hn => ?_, fun n _ => by rw [Nat.zero_add]; exact frzB hs1 n⟩⟩
          rw [Nat.zero_add, cellB hs1 n]
          simpa [txV] using hn
        have sF : Stay F V Y := ⟨by omega, fun b hb => st b (HQ.out.fl b hb).2.1 (by have := (HQ.out.fl b hb).1; have := HRB.out; omega)⟩
        have hb9 : Below V.heap.size (V.setCell ⟨rb, 0, none⟩ (.slice (some ⟨V.heap.size, 0, none⟩) 1 1)) Y := by
          rw [hY]
          have h := belB1 (V.setCell ⟨rb, 0, none⟩ (.slice (some ⟨V.heap.size, 0, none⟩) 1 1)) (.cells #[.string ns] 9)
          rw [hzV] at h
          exact h
        have hrv : V.heap[rb]? = some (.cells #[.slice none 0 0, .slice dp 3 dc] 27) := by rw [HRB.out]; exact HQ.out.rv
        have od1 := ownsRow_setCell_other (a := ⟨rb, 0, none⟩) HQ.out.od (row_noB HQ.out.od (by decide) hrv) (.slice (some ⟨V.heap.size, 0, none⟩) 1 1)
        have ow1 := ownsRow_setCell_other (a := ⟨rb, 0, none⟩) HQ.out.ow (row_noB HQ.out.ow (by decide) hrv) (.slice (some ⟨V.heap.size, 0, none⟩) 1 1)
        have od2 : Y.ownsRow (W0.heap.size + 2) 31 2 (.slice dp 3 dc) 3 (dfsV (defsQ T K 3) ds) := row_keep od1 (by rw [hzV]; exact hb9)
        have ow2 : Y.ownsRow (W0.heap.size + 2) 45 2 (.slice wp wm wk) wm (rusV (rusQ T K 3) us) := row_keep ow1 (by rw [hzV]; exact hb9)
        have ID : IsDefs Y Any (.slice dp 3 dc) (defsQ T K 3) := ⟨ds, Reads.of od2 (fun _ _ => trivial), HQ.out.di.keep sF (fun _ _ => trivial)⟩
        have IR : IsRus Y Any (.slice wp wm wk) (rusQ T K 3) := by
          have h := Reads.of (F := Any) ow2 (fun _ _ => trivial)
          rw [HQ.out.l1] at h ⊢
          exact ⟨us, h, HQ.out.ri.keep sF (fun _ _ => trivial)⟩
        have hnY : Y.heap[nb]? = some (.cells #[.string ⟨#[98]⟩, .string ⟨#[97]⟩, .string ⟨#[99]⟩] 9) := by
          have h0 : V.heap[nb]? = some (.cells #[.string ⟨#[98]⟩, .string ⟨#[97]⟩, .string ⟨#[99]⟩] 9) := by rw [HNB.out]; exact HQ.out.nv
          exact (st nb (blkB_lt h0) (by have := HRB.out; have := HNB.out; omega)).trans h0
        have IN : IsTexts Y Any (.slice (some ⟨nb, 0, none⟩) 3 3) nmsQ := by
          refine ⟨_, _, rfl, ⟨by show (3 : Nat) ≤ _; unfold maxLen; omega, Nat.le_refl _⟩, fun _ => ⟨nb, 0, rfl, trivial, blkB_lt hnY, fun n c hn => ?_, fun n _ => by rw [Nat.zero_add]; exact frzB hnY n⟩⟩
          rw [Nat.zero_add, cellB hnY n]
          simpa [txV, nmsQ, nmQ] using hn
        have HBY : Hid (Below W.heap.size W Y) := by
          have h1 := b1.out.trans (HQ.out.bl.mono b1.out.size)
          have h2 := h1.setCell (p := ⟨rb, 0, none⟩) (by show _ ≤ rb; rw [HRB.out]; exact b1.out.size) (.slice (some ⟨V.heap.size, 0, none⟩) 1 1)
          exact h2.trans (hb9.mono h1.size)
        have HG2 : Hid (GrIs Y Any (.slice (some ⟨nb, 0, none⟩) 3 3) (.slice wp wm wk) (grQ T K sx)) := ⟨IN, IR⟩
        have KBI := KB.out Y _ _ sx hsx IT ID
        have c0 : Y.cell? ⟨rb, 0, none⟩ = some (.slice (some ⟨V.heap.size, 0, none⟩) 1 1) := cellB hr 0
        have c1 : Y.cell? ⟨rb, 1, none⟩ = some (.slice dp 3 dc) := cellB hr 1
        obtain ⟨vz, hvz⟩ : ∃ x, x = V.heap.size := ⟨_, rfl⟩
        rw [← hvz] at c0 KBI
        clear hY hzV hYs st hr hs1 IT sF hb9 hrv od1 ow1 od2 ow2 ID IR hnY IN q0 q1 qf hvz
        obtain ⟨nR, hnR⟩ : ∃ x, x = (rusQ T K 3).length := ⟨_, rfl⟩
        rw [← hnR] at KBI
        clear hnR
        go_upto_region 31 with (go_at_call 5; refine KBI.mono ?_; rintro e w9 ⟨p1, d1, p2, d2, rfl, G9, b9⟩)
        have hbu := belB1 w9 (.cells #[.int .i64 (sx : Int), .slice p1 3 d1, .slice p2 nR d2] 48)
        have KSI : Calls Try.prog 7 #[.agg #[.int .i64 (sx : Int), .slice p1 3 d1, .slice p2 nR d2], .agg #[.int .i64 (sx : Int), .slice (some ⟨nb, 0, none⟩) 3 3, .slice wp wm wk]] (w9.alloc (.cells #[.int .i64 (sx : Int), .slice p1 3 d1, .slice p2 nR d2] 48)) fun e w' => e = .returned (.bool true) ∧ Hid (Below (w9.alloc (.cells #[.int .i64 (sx : Int), .slice p1 3 d1, .slice p2 nR d2] 48)).heap.size (w9.alloc (.cells #[.int .i64 (sx : Int), .slice p1 3 d1, .slice p2 nR d2] 48)) w') := KS.out (grQ T K sx) _ _ _ _ _ (G9.out.any hbu) ((HG2.out.any b9.out).any hbu)
        have HB9 : Hid (Below W.heap.size W (w9.alloc (.cells #[.int .i64 (sx : Int), .slice p1 3 d1, .slice p2 nR d2] 48))) := (HBY.out.trans (b9.out.mono HBY.out.size)).trans (hbu.mono (Nat.le_trans HBY.out.size b9.out.size))
        clear hbu KBI c0 c1
        go_wp2_with (first
          | (go_at_call 6; refine (num_any _ _).mono ?_; rintro e wn ⟨rfl, rfl⟩)
          | (go_at_call 7; refine KSI.mono ?_; rintro e w10 ⟨rfl, b10⟩))
        go_ret
        exact ⟨rfl, HB9.out.trans (b10.out.mono HB9.out.size)⟩
end Go.Proofs.Ytlgmnhgfcijafaa
