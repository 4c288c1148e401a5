/- settle (package first): rounds of turns till one turns nothing, over any state that a closure keeps in one block. -/
import Derived.Test.YtopokicdgdjgkaaGg
import Derived.Test.YtopokicdgdjgkaaGramVar
import Derived.Test.YtopokicdgdjgkaaButF
import Derived.Deep.LoopGhost
import Derived.Deep.CutRange
namespace Go.Proofs.Ytopokicdgdjgkaa
set_option linter.unusedVariables false
set_option linter.unusedSimpArgs false
open Go.ChangeShapes Go.WideShapes Go.ChangeAt Go.RowKit

/-- A turn of each conjunct of these rules changes nothing. -/
def Still {σ : Type} (tr : σ → Int → List Sy → Bool × σ) (s : σ) (L : List Ru) : Prop := ∀ r, r ∈ L → ∀ c, c ∈ r.conj → (tr s r.head c.seq).1 = false
theorem still_nil {σ : Type} (tr : σ → Int → List Sy → Bool × σ) (s : σ) : Still tr s [] := fun r h => by cases h
theorem still_snoc {σ : Type} {tr : σ → Int → List Sy → Bool × σ} {s : σ} {L : List Ru} {r : Ru} (h : Still tr s L) (hr : ∀ c, c ∈ r.conj → (tr s r.head c.seq).1 = false) : Still tr s (L ++ [r]) := fun q hq => by
  rcases List.mem_append.1 hq with hq | hq
  · exact h q hq
  · rw [List.mem_singleton.1 hq]; exact hr
/-- What has been seen from s0 on: nothing turned and all is still so far, or something did. -/
def Seen {σ : Type} (tr : σ → Int → List Sy → Bool × σ) (μ : σ → Nat) (s0 s : σ) (c : Bool) (L : List Ru) : Prop := (c = false → s = s0 ∧ Still tr s L) ∧ (c = true → μ s < μ s0)
def SeenC {σ : Type} (tr : σ → Int → List Sy → Bool × σ) (μ : σ → Nat) (s0 s : σ) (c : Bool) (L : List Ru) (h : Int) (cs : List Cn) : Prop := (c = false → s = s0 ∧ Still tr s L ∧ ∀ d, d ∈ cs → (tr s h d.seq).1 = false) ∧ (c = true → μ s < μ s0)
theorem lngRF {w : World} {F : Nat → Prop} {v : Value} {l : List Ru} (h : IsRus w F v l) : ∃ p c, v = .slice p l.length c := by
  obtain ⟨_, ⟨p, c, e, _⟩, _⟩ := h
  exact ⟨p, c, e⟩
theorem lngCF {w : World} {F : Nat → Prop} {v : Value} {l : List Cn} (h : IsCns w F v l) : ∃ p c, v = .slice p l.length c := by
  obtain ⟨_, ⟨p, c, e, _⟩, _⟩ := h
  exact ⟨p, c, e⟩
theorem But.stay {x : Nat} {w w' : World} {F : Nat → Prop} (h : But w.heap.size x w w') (hF : ∀ b, F b → b < w.heap.size ∧ b ≠ x) : Stay F w w' := ⟨h.size, fun b hb => h.block b (hF b hb).1 (hF b hb).2⟩
theorem But.then {B x : Nat} {a b c : World} (h : But B x a b) (k : But b.heap.size x b c) (hB : B ≤ b.heap.size) : But B x a c := h.trans (k.mono hB)
set_option maxHeartbeats 8000000 in
set_option maxRecDepth 100000 in
theorem settleE {σ : Type} (tr : σ → Int → List Sy → Bool × σ) (μ : σ → Nat) (hf : ∀ s h l, (tr s h l).1 = false → (tr s h l).2 = s)     (st : Int) (v1 v2 : Value) (L : List Ru) (W : World) {F : Nat → Prop} (x : Nat) (hx : x < W.heap.size) (hL : IsRus W F v2 L) (hF : ∀ b, F b → b ≠ x) (k1 : Option Addr × Nat × Nat) (e1 : v1 = .slice k1.1 k1.2.1 k1.2.2) (ht : ∀ s (r : Ru) l, r ∈ L → (tr s r.head l).1 = true → μ (tr s r.head l).2 < μ s) (hn6 : L.length ≤ 100000) (hc6 : ∀ r, r ∈ L → r.conj.length ≤ 100000) (y : Nat) (J : σ → World → Prop)
    (hJA : ∀ s w w', J s w → Below w.heap.size w w' → J s w')
    (hJC : ∀ s w (r : Ru) (c : Cn) u, r ∈ L → c ∈ r.conj → J s w → But W.heap.size x W w → IsSys w (fun b => b < W.heap.size ∧ b ≠ x) u c.seq → Calls Try.prog 32 #[.int .i64 r.head, u, .pointer (some ⟨y, 0, none⟩)] w fun e w' => e = .returned (.bool (tr s r.head c.seq).1) ∧ Hid (J (tr s r.head c.seq).2 w') ∧ Hid (But w.heap.size x w w')) (s0 : σ) (h0 : J s0 W) :
    Calls Try.prog 31 #[.agg #[.int .i64 st, v1, v2], .func (.func 32) #[] #[.pointer (some ⟨y, 0, none⟩)]] W fun e w' => e = .returned (.tuple #[]) ∧ ∃ s, Hid (Still tr s L) ∧ Hid (J s w') ∧ Hid (But W.heap.size x W w') := by
  have HA := (show Hid _ from hJA)
  have HC := (show Hid _ from hJC)
  have HFF := (show Hid _ from hf)
  have HTT := (show Hid _ from ht)
  have HL : Hid (IsRus W (fun b => b < W.heap.size ∧ b ≠ x) v2 L) := hL.low fun b h1 h2 => ⟨h2, hF b h1⟩
  have HC6 := (show Hid _ from hc6)
  obtain ⟨p2, c2, e2⟩ := lngRF hL
  obtain ⟨n, hn⟩ : ∃ n, n = L.length := ⟨_, rfl⟩
  have HN : Hid (n = L.length) := hn
  rw [← hn] at e2 hn6
  subst e1 e2
  clear hL hJA hJC hf ht hF hn hc6
  obtain ⟨gb, hgb⟩ : ∃ gb, gb = W.heap.size := ⟨_, rfl⟩
  obtain ⟨W1, hW1⟩ : ∃ w, w = W.alloc (.cells #[.int .i64 st, .slice k1.1 k1.2.1 k1.2.2, .slice p2 n c2] 27) := ⟨_, rfl⟩
  have HB1 : Hid (Below W.heap.size W W1) := by rw [hW1]; exact bel1 _ _
  have HGB : Hid (∀ w', But W1.heap.size x W1 w' → w'.cell? ⟨gb, 2, none⟩ = some (.slice p2 n c2)) := fun w' hb => by
    have hg : W1.heap[gb]? = some (.cells #[.int .i64 st, .slice k1.1 k1.2.1 k1.2.2, .slice p2 n c2] 27) := by rw [hgb, hW1]; exact heap_alloc_new _ _
    exact (hb.cell (p := ⟨gb, 2, none⟩) (block_lt hg) (by show gb ≠ x; omega)).trans (Lib.cell_of_heap hg 2)
  have HX : Hid (x < W.heap.size) := hx
  have HJ0 : Hid (J s0 W1) := HA.out _ _ _ h0 HB1.out
  have HRU : Hid (∀ w', But W1.heap.size x W1 w' → IsRus w' (fun b => b < W.heap.size ∧ b ≠ x) (.slice p2 n c2) L) := fun w' hb => (HL.out.any HB1.out).keep (hb.stay fun b h => ⟨Nat.lt_of_lt_of_le h.1 HB1.out.size, h.2⟩) (fun _ h => h)
  clear h0 hx
  go_enter Try.func31, Try.ntmps31
  go_upto_region 2 with fail
  rw [← hW1, ← hgb]
  clear hgb hW1
  go_loopg [4] (μ s0 + 2) (fun gk b wr => ∃ (s : σ) (c : Bool), b = .bool c ∧ Hid (c = true → μ s + 2 ≤ gk) ∧ Hid (c = false → Still tr s L) ∧ Hid (J s wr) ∧ Hid (But W1.heap.size x W1 wr))
  case atStart => exact ⟨s0, true, rfl, fun _ => Nat.le_refl _, fun h => (by cases h), HJ0, But.refl _ _ _⟩
  case round =>
    obtain ⟨s, c, rfl, HM, HS, HJ, HB⟩ := hrel
    obtain ⟨V, hV⟩ : ∃ V, V = wr := ⟨_, rfl⟩
    subst hV
    cases c with
    | false =>
      have HW : Hid (But W.heap.size x W V) := (But.of HB1.out).trans (HB.out.mono HB1.out.size)
      have HS2 := HS.out rfl
      go_wp2
      go_end0
      exact ⟨rfl, s, HS2, HJ, HW⟩
    | true =>
      have HM2 : Hid (μ s + 2 ≤ gk) := HM.out rfl
      have cg := HGB.out V HB.out
      clear HM HS
      go_upto_region 5 with fail
      clear cg
      go_loopw [4, 13] (fun b i wr => ∃ (q : σ) (c : Bool) (k : Nat), b = .bool c ∧ i = .int .i64 (k : Int) ∧ k ≤ n ∧ Hid (Seen tr μ s q c (L.take k)) ∧ Hid (J q wr) ∧ Hid (But W1.heap.size x W1 wr)) (fun _ i _ => n - (intOf i).toNat)
      case atStart => exact ⟨s, false, 0, rfl, rfl, Nat.zero_le _, ⟨fun _ => ⟨rfl, still_nil _ _⟩, fun h => (by cases h)⟩, HJ, HB⟩
      case round =>
        obtain ⟨q, c, k, rfl, rfl, hk, HSE, HJq, HBq⟩ := hrel
        obtain ⟨U, hU⟩ : ∃ U, U = wr := ⟨_, rfl⟩
        subst hU
        by_cases hlt : k < n
        · have hltI : (k : Int) < (n : Int) := by omega
          have hltD : decide ((k : Int) < (n : Int)) = true := decide_eq_true hltI
          obtain ⟨r, hr⟩ : ∃ r, L[k]? = some r := ⟨_, List.getElem?_eq_getElem (by rw [← HN.out]; exact hlt)⟩
          obtain ⟨g1, o1, u1, hp, a0, a1, hcn⟩ := (HRU.out U HBq.out).row hr
          subst hp
          have hrm : r ∈ L := List.mem_of_getElem? hr
          have hm6 := HC6.out r hrm
          obtain ⟨p3, c3, hu1⟩ := lngCF hcn
          obtain ⟨m, hm⟩ : ∃ m, m = r.conj.length := ⟨_, rfl⟩
          rw [← hm] at hu1 hm6
          subst hu1
          have HMM : Hid (m = r.conj.length) := hm
          obtain ⟨hd, hhd⟩ : ∃ h, h = r.head := ⟨_, rfl⟩
          rw [← hhd] at a0
          have HHD : Hid (hd = r.head) := hhd
          have HRM : Hid (r ∈ L) := hrm
          have HCN : Hid (IsCns U (fun b => b < W.heap.size ∧ b ≠ x) (.slice p3 m c3) r.conj) := hcn
          have HTK : Hid (L.take (k + 1) = L.take k ++ [r]) := by show _ = _; rw [List.take_add_one, hr]; rfl
          obtain ⟨U2, hU2⟩ : ∃ w, w = U.alloc (.cells #[.int .i64 hd, .slice p3 m c3] 33) := ⟨_, rfl⟩
          obtain ⟨rb, hrb⟩ : ∃ b, b = U.heap.size := ⟨_, rfl⟩
          have HU2 : Hid (Below U.heap.size U U2) := by rw [hU2]; exact bel1 _ _
          have hW1U : W1.heap.size ≤ U.heap.size := HBq.out.size
          have hWW : W.heap.size ≤ W1.heap.size := HB1.out.size
          have HRB : Hid (∀ w', But U2.heap.size x U2 w' → w'.cell? ⟨rb, 0, none⟩ = some (.int .i64 hd)) := fun w' hb => by
            have hg : U2.heap[rb]? = some (.cells #[.int .i64 hd, .slice p3 m c3] 33) := by rw [hrb, hU2]; exact heap_alloc_new _ _
            exact (hb.cell (p := ⟨rb, 0, none⟩) (block_lt hg) (by show rb ≠ x; have := HX.out; omega)).trans (Lib.cell_of_heap hg 0)
          have HC2 : Hid (∀ w', But U2.heap.size x U2 w' → IsCns w' (fun b => b < W.heap.size ∧ b ≠ x) (.slice p3 m c3) r.conj) := fun w' hb => (HCN.out.any HU2.out).keep (hb.stay fun b h => ⟨by have := HU2.out.size; have := h.1; omega, h.2⟩) (fun _ h => h)
          have HJ2 : Hid (J q U2) := HA.out _ _ _ HJq.out HU2.out
          have HBU : Hid (But W1.heap.size x W1 U2) := HBq.out.then (But.of HU2.out) hW1U
          clear hr hcn hm hhd hrm
          go_upto_region 8 with fail
          rw [← hU2, ← hrb]
          clear hU2 hrb a0 a1 hltI hltD
          go_loopw [4, 20] (fun b i wr => ∃ (q : σ) (c : Bool) (j : Nat), b = .bool c ∧ i = .int .i64 (j : Int) ∧ j ≤ m ∧ Hid (SeenC tr μ s q c (L.take k) hd (r.conj.take j)) ∧ Hid (J q wr) ∧ Hid (But U2.heap.size x U2 wr)) (fun _ i _ => m - (intOf i).toNat)
          case atStart => exact ⟨q, c, 0, rfl, rfl, Nat.zero_le _, ⟨fun h => ⟨(HSE.out.1 h).1, (HSE.out.1 h).2, fun d hd => (by cases hd)⟩, HSE.out.2⟩, HJ2, But.refl _ _ _⟩
          case round =>
            clear HSE HJq HBq HJ2
            obtain ⟨q, c, j, rfl, rfl, hj, HSE, HJq, HBq⟩ := hrel
            obtain ⟨Y, hY⟩ : ∃ Y, Y = wr := ⟨_, rfl⟩
            subst hY
            by_cases hlj : j < m
            · have hljI : (j : Int) < (m : Int) := by omega
              have hljD : decide ((j : Int) < (m : Int)) = true := decide_eq_true hljI
              obtain ⟨d, hdd⟩ : ∃ d, r.conj[j]? = some d := ⟨_, List.getElem?_eq_getElem (by rw [← HMM.out]; exact hlj)⟩
              obtain ⟨g3, o3, u3, hp3, b0, b1, hsy⟩ := (HC2.out Y HBq.out).row hdd
              subst hp3
              have HTJ : Hid (r.conj.take (j + 1) = r.conj.take j ++ [d]) := by show _ = _; rw [List.take_add_one, hdd]; rfl
              obtain ⟨p4, c4, hu3⟩ := hsy.slc
              obtain ⟨z, hz⟩ : ∃ z, z = d.seq.length := ⟨_, rfl⟩
              rw [← hz] at hu3
              subst hu3
              obtain ⟨ng, hng⟩ : ∃ b, b = d.neg := ⟨_, rfl⟩
              rw [← hng] at b0
              obtain ⟨Y2, hY2⟩ : ∃ w, w = Y.alloc (.cells #[.bool ng, .slice p4 z c4] 30) := ⟨_, rfl⟩
              have HY2 : Hid (Below Y.heap.size Y Y2) := by rw [hY2]; exact bel1 _ _
              have hU2Y : U2.heap.size ≤ Y.heap.size := HBq.out.size
              have HBY : Hid (But U2.heap.size x U2 Y2) := HBq.out.then (But.of HY2.out) hU2Y
              have ry : Y2.cell? ⟨rb, 0, none⟩ = some (.int .i64 hd) := HRB.out Y2 HBY.out
              have hUU : U.heap.size ≤ U2.heap.size := HU2.out.size
              have HWY : Hid (But W.heap.size x W Y2) := ((But.of HB1.out).trans (HBU.out.mono HB1.out.size)).trans (HBY.out.mono (by omega))
              have KC := HC.out q Y2 r d (.slice p4 z c4) HRM.out (List.mem_of_getElem? hdd) (HA.out _ _ _ HJq.out HY2.out) HWY.out (hsy.any HY2.out)
              rw [← HHD.out] at KC
              have hY2' : Y.alloc (.cells #[.bool ng, .slice p4 z c4] 30) = Y2 := hY2.symm
              have hY2c : Y2.cell? ⟨Y.heap.size, 1, none⟩ = some (.slice p4 z c4) := by rw [hY2]; exact Lib.cell_of_heap (heap_alloc_new _ _) 1
              clear hdd hsy hz hng hY2
              cases hch : (tr q hd d.seq).1 with
              | true =>
                rw [hch] at KC
                have HSN : Hid (SeenC tr μ s (tr q hd d.seq).2 true (L.take k) hd (r.conj.take (j + 1))) := by
                  refine ⟨fun h => (by cases h), fun _ => ?_⟩
                  have h1 := HTT.out q r d.seq HRM.out (by rw [← HHD.out]; exact hch)
                  rw [← HHD.out] at h1
                  cases c with
                  | false => rw [← (HSE.out.1 rfl).1]; exact h1
                  | true => exact Nat.lt_trans h1 (HSE.out.2 rfl)
                clear hch HSE
                go_wp2_with (go_at_call 32; refine KC.mono ?_; rintro e w6 ⟨rfl, HJ6, HB6⟩)
                go_roundw
                case rel => exact ⟨_, true, j + 1, rfl, by go_num, by omega, HSN, HJ6, HBY.out.then HB6.out HBY.out.size⟩
                case measure => simp [intOf]; omega
              | false =>
                rw [hch, HFF.out q hd d.seq hch] at KC
                have HSN : Hid (SeenC tr μ s q c (L.take k) hd (r.conj.take (j + 1))) := by
                  refine ⟨fun h => ?_, HSE.out.2⟩
                  obtain ⟨h1, h2, h3⟩ := HSE.out.1 h
                  refine ⟨h1, h2, fun e he => ?_⟩
                  rw [HTJ.out] at he
                  rcases List.mem_append.1 he with he | he
                  · exact h3 e he
                  · rw [List.mem_singleton.1 he]; exact hch
                clear hch HSE
                go_wp2_with (go_at_call 32; refine KC.mono ?_; rintro e w6 ⟨rfl, HJ6, HB6⟩)
                go_roundw
                case rel => exact ⟨_, c, j + 1, rfl, by go_num, by omega, HSN, HJ6, HBY.out.then HB6.out HBY.out.size⟩
                case measure => simp [intOf]; omega
            · obtain rfl : m = j := by omega
              have hljI : ¬ (m : Int) < (m : Int) := by omega
              have hljD : decide ((m : Int) < (m : Int)) = false := decide_eq_false hljI
              have HSN : Hid (Seen tr μ s q c (L.take (k + 1))) := by
                refine ⟨fun h => ?_, HSE.out.2⟩
                obtain ⟨h1, h2, h3⟩ := HSE.out.1 h
                refine ⟨h1, ?_⟩
                rw [HTK.out]
                refine still_snoc h2 fun e he => ?_
                rw [← HHD.out]
                rw [HMM.out, List.take_length] at h3
                exact h3 e he
              have HBN : Hid (But W1.heap.size x W1 Y) := HBU.out.then HBq.out HBU.out.size
              clear HSE hlj hj
              go_wp2
              go_roundw
              case rel => exact ⟨q, c, k + 1, rfl, by go_num, by omega, HSN, HJq, HBN⟩
              case measure => simp [intOf]; omega
        · obtain rfl : n = k := by omega
          have hltI : ¬ (n : Int) < (n : Int) := by omega
          have hltD : decide ((n : Int) < (n : Int)) = false := decide_eq_false hltI
          have HSL : Hid (c = false → Still tr q L) := fun h => by
            obtain ⟨h1, h2⟩ := HSE.out.1 h
            rw [HN.out, List.take_length] at h2
            exact h2
          have HMU : Hid (c = true → μ q + 2 ≤ gk - 1) := fun h => by
            have := HSE.out.2 h
            have := HM2.out
            omega
          have hg1 := HM2.out
          clear HSE hlt hk
          go_wp2
          go_roundg (gk - 1)
          case measure => omega
          case rel => exact ⟨q, c, rfl, HMU, HSL, HJq, HBq⟩
set_option maxHeartbeats 8000000 in
set_option maxRecDepth 100000 in
theorem settleB {σ : Type} (tr : σ → Int → List Sy → Bool × σ) (μ : σ → Nat) (hf : ∀ s h l, (tr s h l).1 = false → (tr s h l).2 = s)     (st : Int) (v1 v2 : Value) (L : List Ru) (W : World) {F : Nat → Prop} (x : Nat) (hx : x < W.heap.size) (hL : IsRus W F v2 L) (hF : ∀ b, F b → b ≠ x) (k1 : Option Addr × Nat × Nat) (e1 : v1 = .slice k1.1 k1.2.1 k1.2.2) (ht : ∀ s (r : Ru) l, r ∈ L → (tr s r.head l).1 = true → μ (tr s r.head l).2 < μ s) (hn6 : L.length ≤ 100000) (hc6 : ∀ r, r ∈ L → r.conj.length ≤ 100000) (y : Nat) (J : σ → World → Prop)
    (hJA : ∀ s w w', J s w → Below w.heap.size w w' → J s w')
    (hJC : ∀ s w (r : Ru) (c : Cn) u, r ∈ L → c ∈ r.conj → J s w → But W.heap.size x W w → IsSys w (fun b => b < W.heap.size ∧ b ≠ x) u c.seq → Calls Try.prog 34 #[.int .i64 r.head, u, .pointer (some ⟨y, 0, none⟩)] w fun e w' => e = .returned (.bool (tr s r.head c.seq).1) ∧ Hid (J (tr s r.head c.seq).2 w') ∧ Hid (But w.heap.size x w w')) (s0 : σ) (h0 : J s0 W) :
    Calls Try.prog 31 #[.agg #[.int .i64 st, v1, v2], .func (.func 34) #[] #[.pointer (some ⟨y, 0, none⟩)]] W fun e w' => e = .returned (.tuple #[]) ∧ ∃ s, Hid (Still tr s L) ∧ Hid (J s w') ∧ Hid (But W.heap.size x W w') := by
  have HA := (show Hid _ from hJA)
  have HC := (show Hid _ from hJC)
  have HFF := (show Hid _ from hf)
  have HTT := (show Hid _ from ht)
  have HL : Hid (IsRus W (fun b => b < W.heap.size ∧ b ≠ x) v2 L) := hL.low fun b h1 h2 => ⟨h2, hF b h1⟩
  have HC6 := (show Hid _ from hc6)
  obtain ⟨p2, c2, e2⟩ := lngRF hL
  obtain ⟨n, hn⟩ : ∃ n, n = L.length := ⟨_, rfl⟩
  have HN : Hid (n = L.length) := hn
  rw [← hn] at e2 hn6
  subst e1 e2
  clear hL hJA hJC hf ht hF hn hc6
  obtain ⟨gb, hgb⟩ : ∃ gb, gb = W.heap.size := ⟨_, rfl⟩
  obtain ⟨W1, hW1⟩ : ∃ w, w = W.alloc (.cells #[.int .i64 st, .slice k1.1 k1.2.1 k1.2.2, .slice p2 n c2] 27) := ⟨_, rfl⟩
  have HB1 : Hid (Below W.heap.size W W1) := by rw [hW1]; exact bel1 _ _
  have HGB : Hid (∀ w', But W1.heap.size x W1 w' → w'.cell? ⟨gb, 2, none⟩ = some (.slice p2 n c2)) := fun w' hb => by
    have hg : W1.heap[gb]? = some (.cells #[.int .i64 st, .slice k1.1 k1.2.1 k1.2.2, .slice p2 n c2] 27) := by rw [hgb, hW1]; exact heap_alloc_new _ _
    exact (hb.cell (p := ⟨gb, 2, none⟩) (block_lt hg) (by show gb ≠ x; omega)).trans (Lib.cell_of_heap hg 2)
  have HX : Hid (x < W.heap.size) := hx
  have HJ0 : Hid (J s0 W1) := HA.out _ _ _ h0 HB1.out
  have HRU : Hid (∀ w', But W1.heap.size x W1 w' → IsRus w' (fun b => b < W.heap.size ∧ b ≠ x) (.slice p2 n c2) L) := fun w' hb => (HL.out.any HB1.out).keep (hb.stay fun b h => ⟨Nat.lt_of_lt_of_le h.1 HB1.out.size, h.2⟩) (fun _ h => h)
  clear h0 hx
  go_enter Try.func31, Try.ntmps31
  go_upto_region 2 with fail
  rw [← hW1, ← hgb]
  clear hgb hW1
  go_loopg [4] (μ s0 + 2) (fun gk b wr => ∃ (s : σ) (c : Bool), b = .bool c ∧ Hid (c = true → μ s + 2 ≤ gk) ∧ Hid (c = false → Still tr s L) ∧ Hid (J s wr) ∧ Hid (But W1.heap.size x W1 wr))
  case atStart => exact ⟨s0, true, rfl, fun _ => Nat.le_refl _, fun h => (by cases h), HJ0, But.refl _ _ _⟩
  case round =>
    obtain ⟨s, c, rfl, HM, HS, HJ, HB⟩ := hrel
    obtain ⟨V, hV⟩ : ∃ V, V = wr := ⟨_, rfl⟩
    subst hV
    cases c with
    | false =>
      have HW : Hid (But W.heap.size x W V) := (But.of HB1.out).trans (HB.out.mono HB1.out.size)
      have HS2 := HS.out rfl
      go_wp2
      go_end0
      exact ⟨rfl, s, HS2, HJ, HW⟩
    | true =>
      have HM2 : Hid (μ s + 2 ≤ gk) := HM.out rfl
      have cg := HGB.out V HB.out
      clear HM HS
      go_upto_region 5 with fail
      clear cg
      go_loopw [4, 13] (fun b i wr => ∃ (q : σ) (c : Bool) (k : Nat), b = .bool c ∧ i = .int .i64 (k : Int) ∧ k ≤ n ∧ Hid (Seen tr μ s q c (L.take k)) ∧ Hid (J q wr) ∧ Hid (But W1.heap.size x W1 wr)) (fun _ i _ => n - (intOf i).toNat)
      case atStart => exact ⟨s, false, 0, rfl, rfl, Nat.zero_le _, ⟨fun _ => ⟨rfl, still_nil _ _⟩, fun h => (by cases h)⟩, HJ, HB⟩
      case round =>
        obtain ⟨q, c, k, rfl, rfl, hk, HSE, HJq, HBq⟩ := hrel
        obtain ⟨U, hU⟩ : ∃ U, U = wr := ⟨_, rfl⟩
        subst hU
        by_cases hlt : k < n
        · have hltI : (k : Int) < (n : Int) := by omega
          have hltD : decide ((k : Int) < (n : Int)) = true := decide_eq_true hltI
          obtain ⟨r, hr⟩ : ∃ r, L[k]? = some r := ⟨_, List.getElem?_eq_getElem (by rw [← HN.out]; exact hlt)⟩
          obtain ⟨g1, o1, u1, hp, a0, a1, hcn⟩ := (HRU.out U HBq.out).row hr
          subst hp
          have hrm : r ∈ L := List.mem_of_getElem? hr
          have hm6 := HC6.out r hrm
          obtain ⟨p3, c3, hu1⟩ := lngCF hcn
          obtain ⟨m, hm⟩ : ∃ m, m = r.conj.length := ⟨_, rfl⟩
          rw [← hm] at hu1 hm6
          subst hu1
          have HMM : Hid (m = r.conj.length) := hm
          obtain ⟨hd, hhd⟩ : ∃ h, h = r.head := ⟨_, rfl⟩
          rw [← hhd] at a0
          have HHD : Hid (hd = r.head) := hhd
          have HRM : Hid (r ∈ L) := hrm
          have HCN : Hid (IsCns U (fun b => b < W.heap.size ∧ b ≠ x) (.slice p3 m c3) r.conj) := hcn
          have HTK : Hid (L.take (k + 1) = L.take k ++ [r]) := by show _ = _; rw [List.take_add_one, hr]; rfl
          obtain ⟨U2, hU2⟩ : ∃ w, w = U.alloc (.cells #[.int .i64 hd, .slice p3 m c3] 33) := ⟨_, rfl⟩
          obtain ⟨rb, hrb⟩ : ∃ b, b = U.heap.size := ⟨_, rfl⟩
          have HU2 : Hid (Below U.heap.size U U2) := by rw [hU2]; exact bel1 _ _
          have hW1U : W1.heap.size ≤ U.heap.size := HBq.out.size
          have hWW : W.heap.size ≤ W1.heap.size := HB1.out.size
          have HRB : Hid (∀ w', But U2.heap.size x U2 w' → w'.cell? ⟨rb, 0, none⟩ = some (.int .i64 hd)) := fun w' hb => by
            have hg : U2.heap[rb]? = some (.cells #[.int .i64 hd, .slice p3 m c3] 33) := by rw [hrb, hU2]; exact heap_alloc_new _ _
            exact (hb.cell (p := ⟨rb, 0, none⟩) (block_lt hg) (by show rb ≠ x; have := HX.out; omega)).trans (Lib.cell_of_heap hg 0)
          have HC2 : Hid (∀ w', But U2.heap.size x U2 w' → IsCns w' (fun b => b < W.heap.size ∧ b ≠ x) (.slice p3 m c3) r.conj) := fun w' hb => (HCN.out.any HU2.out).keep (hb.stay fun b h => ⟨by have := HU2.out.size; have := h.1; omega, h.2⟩) (fun _ h => h)
          have HJ2 : Hid (J q U2) := HA.out _ _ _ HJq.out HU2.out
          have HBU : Hid (But W1.heap.size x W1 U2) := HBq.out.then (But.of HU2.out) hW1U
          clear hr hcn hm hhd hrm
          go_upto_region 8 with fail
          rw [← hU2, ← hrb]
          clear hU2 hrb a0 a1 hltI hltD
          go_loopw [4, 20] (fun b i wr => ∃ (q : σ) (c : Bool) (j : Nat), b = .bool c ∧ i = .int .i64 (j : Int) ∧ j ≤ m ∧ Hid (SeenC tr μ s q c (L.take k) hd (r.conj.take j)) ∧ Hid (J q wr) ∧ Hid (But U2.heap.size x U2 wr)) (fun _ i _ => m - (intOf i).toNat)
          case atStart => exact ⟨q, c, 0, rfl, rfl, Nat.zero_le _, ⟨fun h => ⟨(HSE.out.1 h).1, (HSE.out.1 h).2, fun d hd => (by cases hd)⟩, HSE.out.2⟩, HJ2, But.refl _ _ _⟩
          case round =>
            clear HSE HJq HBq HJ2
            obtain ⟨q, c, j, rfl, rfl, hj, HSE, HJq, HBq⟩ := hrel
            obtain ⟨Y, hY⟩ : ∃ Y, Y = wr := ⟨_, rfl⟩
            subst hY
            by_cases hlj : j < m
            · have hljI : (j : Int) < (m : Int) := by omega
              have hljD : decide ((j : Int) < (m : Int)) = true := decide_eq_true hljI
              obtain ⟨d, hdd⟩ : ∃ d, r.conj[j]? = some d := ⟨_, List.getElem?_eq_getElem (by rw [← HMM.out]; exact hlj)⟩
              obtain ⟨g3, o3, u3, hp3, b0, b1, hsy⟩ := (HC2.out Y HBq.out).row hdd
              subst hp3
              have HTJ : Hid (r.conj.take (j + 1) = r.conj.take j ++ [d]) := by show _ = _; rw [List.take_add_one, hdd]; rfl
              obtain ⟨p4, c4, hu3⟩ := hsy.slc
              obtain ⟨z, hz⟩ : ∃ z, z = d.seq.length := ⟨_, rfl⟩
              rw [← hz] at hu3
              subst hu3
              obtain ⟨ng, hng⟩ : ∃ b, b = d.neg := ⟨_, rfl⟩
              rw [← hng] at b0
              obtain ⟨Y2, hY2⟩ : ∃ w, w = Y.alloc (.cells #[.bool ng, .slice p4 z c4] 30) := ⟨_, rfl⟩
              have HY2 : Hid (Below Y.heap.size Y Y2) := by rw [hY2]; exact bel1 _ _
              have hU2Y : U2.heap.size ≤ Y.heap.size := HBq.out.size
              have HBY : Hid (But U2.heap.size x U2 Y2) := HBq.out.then (But.of HY2.out) hU2Y
              have ry : Y2.cell? ⟨rb, 0, none⟩ = some (.int .i64 hd) := HRB.out Y2 HBY.out
              have hUU : U.heap.size ≤ U2.heap.size := HU2.out.size
              have HWY : Hid (But W.heap.size x W Y2) := ((But.of HB1.out).trans (HBU.out.mono HB1.out.size)).trans (HBY.out.mono (by omega))
              have KC := HC.out q Y2 r d (.slice p4 z c4) HRM.out (List.mem_of_getElem? hdd) (HA.out _ _ _ HJq.out HY2.out) HWY.out (hsy.any HY2.out)
              rw [← HHD.out] at KC
              have hY2' : Y.alloc (.cells #[.bool ng, .slice p4 z c4] 30) = Y2 := hY2.symm
              have hY2c : Y2.cell? ⟨Y.heap.size, 1, none⟩ = some (.slice p4 z c4) := by rw [hY2]; exact Lib.cell_of_heap (heap_alloc_new _ _) 1
              clear hdd hsy hz hng hY2
              cases hch : (tr q hd d.seq).1 with
              | true =>
                rw [hch] at KC
                have HSN : Hid (SeenC tr μ s (tr q hd d.seq).2 true (L.take k) hd (r.conj.take (j + 1))) := by
                  refine ⟨fun h => (by cases h), fun _ => ?_⟩
                  have h1 := HTT.out q r d.seq HRM.out (by rw [← HHD.out]; exact hch)
                  rw [← HHD.out] at h1
                  cases c with
                  | false => rw [← (HSE.out.1 rfl).1]; exact h1
                  | true => exact Nat.lt_trans h1 (HSE.out.2 rfl)
                clear hch HSE
                go_wp2_with (go_at_call 34; refine KC.mono ?_; rintro e w6 ⟨rfl, HJ6, HB6⟩)
                go_roundw
                case rel => exact ⟨_, true, j + 1, rfl, by go_num, by omega, HSN, HJ6, HBY.out.then HB6.out HBY.out.size⟩
                case measure => simp [intOf]; omega
              | false =>
                rw [hch, HFF.out q hd d.seq hch] at KC
                have HSN : Hid (SeenC tr μ s q c (L.take k) hd (r.conj.take (j + 1))) := by
                  refine ⟨fun h => ?_, HSE.out.2⟩
                  obtain ⟨h1, h2, h3⟩ := HSE.out.1 h
                  refine ⟨h1, h2, fun e he => ?_⟩
                  rw [HTJ.out] at he
                  rcases List.mem_append.1 he with he | he
                  · exact h3 e he
                  · rw [List.mem_singleton.1 he]; exact hch
                clear hch HSE
                go_wp2_with (go_at_call 34; refine KC.mono ?_; rintro e w6 ⟨rfl, HJ6, HB6⟩)
                go_roundw
                case rel => exact ⟨_, c, j + 1, rfl, by go_num, by omega, HSN, HJ6, HBY.out.then HB6.out HBY.out.size⟩
                case measure => simp [intOf]; omega
            · obtain rfl : m = j := by omega
              have hljI : ¬ (m : Int) < (m : Int) := by omega
              have hljD : decide ((m : Int) < (m : Int)) = false := decide_eq_false hljI
              have HSN : Hid (Seen tr μ s q c (L.take (k + 1))) := by
                refine ⟨fun h => ?_, HSE.out.2⟩
                obtain ⟨h1, h2, h3⟩ := HSE.out.1 h
                refine ⟨h1, ?_⟩
                rw [HTK.out]
                refine still_snoc h2 fun e he => ?_
                rw [← HHD.out]
                rw [HMM.out, List.take_length] at h3
                exact h3 e he
              have HBN : Hid (But W1.heap.size x W1 Y) := HBU.out.then HBq.out HBU.out.size
              clear HSE hlj hj
              go_wp2
              go_roundw
              case rel => exact ⟨q, c, k + 1, rfl, by go_num, by omega, HSN, HJq, HBN⟩
              case measure => simp [intOf]; omega
        · obtain rfl : n = k := by omega
          have hltI : ¬ (n : Int) < (n : Int) := by omega
          have hltD : decide ((n : Int) < (n : Int)) = false := decide_eq_false hltI
          have HSL : Hid (c = false → Still tr q L) := fun h => by
            obtain ⟨h1, h2⟩ := HSE.out.1 h
            rw [HN.out, List.take_length] at h2
            exact h2
          have HMU : Hid (c = true → μ q + 2 ≤ gk - 1) := fun h => by
            have := HSE.out.2 h
            have := HM2.out
            omega
          have hg1 := HM2.out
          clear HSE hlt hk
          go_wp2
          go_roundg (gk - 1)
          case measure => omega
          case rel => exact ⟨q, c, rfl, HMU, HSL, HJq, HBq⟩
end Go.Proofs.Ytopokicdgdjgkaa
