/- Rows of Booleans held against one another. -/
import Derived.Test.YtopokicdgdjgkaaFirE
import Derived.BigQuiet
import Derived.Deep.QuietTactic
namespace Go.Proofs.Ytopokicdgdjgkaa
set_option linter.unusedVariables false
open Go.ChangeShapes Go.WideShapes Go.ChangeAt Go.RowKit

def blsV (l : List Bool) : List Value := l.map Value.bool
def IsBls (w : World) (F : Nat → Prop) (v : Value) (l : List Bool) : Prop := Reads w F v l.length (blsV l)
theorem IsBls.any {w w' : World} {F : Nat → Prop} {v : Value} {l : List Bool} (h : IsBls w F v l) (hb : Below w.heap.size w w') : IsBls w' F v l := Reads.any h hb
theorem IsBls.slc {w : World} {F : Nat → Prop} {v : Value} {l : List Bool} (h : IsBls w F v l) : ∃ p c, v = .slice p l.length c := by
  obtain ⟨p, c, e, _⟩ := h
  exact ⟨p, c, e⟩
theorem IsBls.at {w : World} {F : Nat → Prop} {p : Option Addr} {n c : Nat} {l : List Bool} (h : IsBls w F (.slice p n c) l) {k : Nat} {z : Bool} (hk : l[k]? = some z) : ∃ g o, p = some ⟨g, o, none⟩ ∧ g < w.heap.size ∧ w.cell? ⟨g, o + k, none⟩ = some (.bool z) := by
  obtain ⟨p2, c2, e2, _, hc⟩ := h
  injection e2 with e3
  subst e3
  have hlt := (List.getElem?_eq_some_iff.1 hk).1
  obtain ⟨g, o, e9, _, hg, cc, _⟩ := hc (by omega)
  exact ⟨g, o, e9, hg, cc k _ (by unfold blsV; rw [List.getElem?_map, hk]; rfl)⟩
def bolL (n : Nat) (M : Nat → Bool) : List Bool := (List.range n).map M
theorem bolL_length (n : Nat) (M : Nat → Bool) : (bolL n M).length = n := by simp [bolL]
theorem bolL_at {n : Nat} (M : Nat → Bool) {k : Nat} (h : k < n) : (bolL n M)[k]? = some (M k) := by simp [bolL, h]
theorem bolL_congr {n : Nat} {M N : Nat → Bool} (h : ∀ i, i < n → M i = N i) : bolL n M = bolL n N := by
  unfold bolL
  exact List.map_congr_left fun i hi => h i (List.mem_range.1 hi)
theorem BlAt.bls {w : World} {b n : Nat} {M : Nat → Bool} (h : BlAt w b n M) {F : Nat → Prop} (hF : F b) (hm : n ≤ maxLen) : IsBls w F (.slice (some ⟨b, 0, none⟩) n n) (bolL n M) := by
  refine ⟨some ⟨b, 0, none⟩, n, by rw [bolL_length], ⟨by rw [bolL_length]; exact hm, by rw [bolL_length]; exact Nat.le_refl _⟩, fun _ => ⟨b, 0, rfl, hF, h.lt, fun j c hj => ?_, fun j _ => ?_⟩⟩
  · unfold blsV at hj
    rw [List.getElem?_map] at hj
    by_cases hl : j < n
    · rw [bolL_at M hl] at hj
      injection hj with hj
      rw [Nat.zero_add, h.cell hl, ← hj]
    · rw [List.getElem?_eq_none (by rw [bolL_length]; omega)] at hj; cases hj
  · exact h.frozen _
set_option maxHeartbeats 2000000 in
theorem sameBls_yes (va vb : Value) (l : List Bool) (w : World) {F G : Nat → Prop} (ha : IsBls w F va l) (hb : IsBls w G vb l) (hl : l.length ≤ 100000000) :
    Calls Try.prog 17 #[va, vb] w fun e w' => e = .returned (.bool true) ∧ Hid (Below w.heap.size w w') := by
  obtain ⟨p, cp, rfl⟩ := ha.slc
  obtain ⟨q, cq, rfl⟩ := hb.slc
  have HA : Hid (IsBls w F (.slice p l.length cp) l) := ha
  have HB : Hid (IsBls w G (.slice q l.length cq) l) := hb
  clear ha hb
  go_enter Try.func17, Try.ntmps17
  go_wp2
  go_loopw [5] (fun i wr => ∃ k : Nat, k ≤ l.length ∧ i = .int .i64 k ∧ Hid (Below w.heap.size w wr)) (fun i _ => l.length - (intOf i).toNat)
  case atStart => exact ⟨0, by omega, rfl, Below.refl _ _⟩
  case round =>
    obtain ⟨k, hk, rfl, HW⟩ := hrel
    by_cases hlt : k < l.length
    · obtain ⟨t, ht⟩ : ∃ t, l[k]? = some t := ⟨_, List.getElem?_eq_getElem hlt⟩
      obtain ⟨g1, o1, hp, -, a0⟩ := (HA.out.any HW.out).at ht
      obtain ⟨g2, o2, hq, -, b0⟩ := (HB.out.any HW.out).at ht
      subst hp hq
      clear ht
      go_wp2
      go_quiet (fail)
      go_wp2
      go_roundw
      case rel => exact ⟨k + 1, by omega, by go_num, ⟨HW.out.os, HW.out.tape, HW.out.output, HW.out.size, HW.out.block⟩⟩
      case measure => simp [intOf]; omega
    · obtain rfl : k = l.length := by omega
      go_wp2
      go_ret
      exact ⟨rfl, HW⟩
end Go.Proofs.Ytopokicdgdjgkaa

