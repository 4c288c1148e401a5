/- The document's Comps, against its plain function. -/
import Derived.Test.YtalckpaeleflnaaCmpRef
namespace Go.Proofs.Ytalckpaeleflnaa
set_option linter.unusedVariables false
open Go.ChangeShapes Go.WideShapes Go.ChangeAt Go.RowKit

/-- A row of one element type is no block of another. -/
theorem own_ne {w : World} {B s n c : Nat} {v : Value} {e t : TypeId} {cs : Array Value} {fr : Nat × Nat} {xs : List Value} (h : w.ownsRow B e s v n xs) (hc : w.heap[c]? = some (.cells cs t fr)) (hne : e ≠ t) : v.ownBlock ≠ some c := by
  intro hk
  obtain ⟨_, ⟨h1, _⟩ | ⟨g, cap, cur, h1, _, h3, _⟩⟩ := h
  · rw [h1] at hk; cases hk
  · rw [h1] at hk
    injection hk with hk
    have hk : g = c := hk
    subst hk
    rw [hc] at h3
    injection h3 with h3
    injection h3 with _ h4
    exact hne h4.symm
/-- The first k rows of what is reached, each in a block of its own. -/
def AllAt (w : World) (n : Nat) (l : List Ed) (k : Nat) (us : List Value) : Prop := us.length = k ∧ ∀ i, i < k → ∃ b, us[i]? = some (.slice (some ⟨b, 0, none⟩) n n) ∧ BlAt w b n (wayB n l i)
theorem AllAt.keep {w w' : World} {n k : Nat} {l : List Ed} {us : List Value} (h : AllAt w n l k us) (hb : ∀ b s, BlAt w b n s → BlAt w' b n s) : AllAt w' n l k us :=
  ⟨h.1, fun i hi => by obtain ⟨b, h1, h2⟩ := h.2 i hi; exact ⟨b, h1, hb b _ h2⟩⟩
theorem AllAt.snoc {w : World} {n k b : Nat} {l : List Ed} {us : List Value} (h : AllAt w n l k us) (hb : BlAt w b n (wayB n l k)) : AllAt w n l (k + 1) (us ++ [.slice (some ⟨b, 0, none⟩) n n]) := by
  refine ⟨by simp [h.1], fun i hi => ?_⟩
  by_cases e : i < k
  · obtain ⟨c, h1, h2⟩ := h.2 i e
    exact ⟨c, by rw [List.getElem?_append_left (by rw [h.1]; exact e)]; exact h1, h2⟩
  · obtain rfl : i = k := by omega
    exact ⟨b, by rw [List.getElem?_append_right (by rw [h.1]; exact Nat.le_refl _), h.1]; simp, hb⟩
theorem Try.infoBools : (Try.prog.info? 47).map (fun i => (i.zero, i.size, i.bytes)) = some (some (.slice none 0 0), 1, 24) := by kernel_rfl
set_option maxHeartbeats 2000000 in
theorem compsRef_no (n : Int) (v : Value) (l : List Ed) (w : World) {F : Nat → Prop} (ha : IsEds w F v l) (hm : mayE n l = false) :
    Calls Try.prog 10 #[.int .i64 n, v] w fun e w' => e = .returned (.tuple #[.slice none 0 0, .int .i64 700]) ∧ Hid (Below w.heap.size w w') := by
  have K1 := mayRef_any n v l w ha
  rw [hm] at K1
  obtain ⟨p, cp, rfl⟩ := ha.slc
  clear ha hm
  go_enter Try.func10, Try.ntmps10
  go_wp2_with (go_at_call 21; refine K1.mono ?_; rintro e w1 ⟨rfl, rfl⟩)
  go_ret2
  exact ⟨rfl, Below.refl _ _⟩
set_option maxHeartbeats 8000000 in
set_option maxRecDepth 100000 in
theorem compsRef_ok (n : Nat) (v : Value) (l : List Ed) (w : World) {F : Nat → Prop} (ha : IsEds w F v l) (hm : mayE (n : Int) l = true) :
    Calls Try.prog 10 #[.int .i64 (n : Int), v] w fun e w' => ∃ u, e = .returned (.tuple #[u, .int .i64 0]) ∧ Hid (IsInts w' (fun i => w.heap.size ≤ i) u (compsT n l)) ∧ Hid (Below w.heap.size w w') := by
  have K1 := mayRef_any n v l w ha
  rw [hm] at K1
  have hn : n ≤ 64 := by have := mayE_all hm; omega
  have K2 : Hid (∀ (f : Nat) (w' : World), f < n → Below w.heap.size w w' → Calls Try.prog 22 #[.int .i64 (n : Int), v, .int .i64 (f : Int)] w' fun e w'' => e = .returned (.slice (some ⟨w'.heap.size, 0, none⟩) n n) ∧ Hid (BlAt w'' w'.heap.size n (wayB n l f)) ∧ Hid (Below w'.heap.size w' w'')) := fun f w' hf hb => reached_any n f v l w' (ha.any hb) hm hf
  have HM : Hid (edsB (n : Int) l = true) := (mayE_all hm).2.2
  obtain ⟨p, cp, rfl⟩ := ha.slc
  obtain ⟨i0, hi0, hz0, hz1, hz2⟩ := info_parts Try.infoInt
  obtain ⟨i1, ji0, jz0, jz1, jz2⟩ := info_parts Try.infoBools
  clear ha hm
  go_enter Try.func10, Try.ntmps10
  go_wp2_with (go_at_call 21; refine K1.mono ?_; rintro e w1 ⟨rfl, rfl⟩)
  go_loopw [6, 7] (fun u x wr => ∃ (k : Nat) (us : List Value), k ≤ n ∧ x = .int .i64 k ∧ Hid (wr.ownsRow w.heap.size 47 1 u k us) ∧ Hid (AllAt wr n l k us) ∧ Hid (Below w.heap.size w wr)) (fun _ x _ => n - (intOf x).toNat)
  case atStart => exact ⟨0, [], Nat.zero_le _, rfl, World.ownsRow_nil _ _ _ _, ⟨rfl, fun i hi => by omega⟩, Below.refl _ _⟩
  case round =>
    obtain ⟨k, us, hk, rfl, HU, HL, HB⟩ := hrel
    obtain ⟨p6, c6, hu⟩ := row_slice HU.out
    subst hu
    by_cases hlt : k < n
    · have KR := K2.out k wr hlt HB.out
      obtain ⟨V, hV⟩ : ∃ V, V = wr := ⟨_, rfl⟩
      subst hV
      have MX : k + 1 ≤ maxLen := by unfold maxLen; omega
      have BY : (k + 1) * 24 ≤ 140737488355328 := by omega
      have hzb := HB.out.size
      go_wp2_with (first
        | (go_at_call 22; refine KR.mono ?_; rintro e w2 ⟨rfl, HN, b2⟩; have HU2 : Hid (w2.ownsRow w.heap.size 47 1 (.slice p6 k c6) k us) := row_keep HU.out b2.out; have hz2' := b2.out.size)
        | (at_builtin; refine wpList_append_own _ rfl _ _ 46 rfl w.heap.size 47 i1 (.slice none 0 0) 1 24 Try.underlying46 ji0 jz0 jz1 jz2 rfl (by decide) _ _ _ rfl (HU2.out.alloc _) ⟨w2.heap.size, 0, none⟩ 1 1 [.slice (some ⟨V.heap.size, 0, none⟩) n n] rfl rfl (news1 w2 _ _) ?c2 MX BY ?c5 ?_))
      case c2 => intro u hu; simp at hu; subst hu; rfl
      case c5 => simp; omega
      intro v' w3 hown' hgrow _
      have hkeep : ∀ b s, BlAt V b n s → BlAt w3 b n s := fun b s hb => by
        have h1 := (hb.keep b2.out).keep (bel1 w2 (.cells #[.slice (some ⟨V.heap.size, 0, none⟩) n n] 47))
        exact (hgrow.block b h1.lt (fun e => own_ne (HU2.out.alloc _) h1 (by decide) e.symm)).trans h1
      have hnew : BlAt w3 V.heap.size n (wayB n l k) := by
        have h1 := HN.out.keep (bel1 w2 (.cells #[.slice (some ⟨V.heap.size, 0, none⟩) n n] 47))
        exact (hgrow.block _ h1.lt (fun e => own_ne (HU2.out.alloc _) h1 (by decide) e.symm)).trans h1
      have HL3 : Hid (AllAt w3 n l (k + 1) (us ++ [.slice (some ⟨V.heap.size, 0, none⟩) n n])) := (HL.out.keep hkeep).snoc hnew
      have HU3 : Hid (w3.ownsRow w.heap.size 47 1 v' (k + 1) (us ++ [.slice (some ⟨V.heap.size, 0, none⟩) n n])) := hown'
      have HB3 : Hid (Below w.heap.size w w3) := ((HB.out.trans (b2.out.mono hzb)).alloc (by omega) _).grown hgrow (by simp; omega) (fun g hg => (HU.out.lt g hg).1)
      obtain ⟨p8, c8, hv8⟩ := row_slice hown'
      subst hv8
      clear hown' hgrow hkeep hnew
      go_wp2
      go_roundw
      case rel => exact ⟨k + 1, _, by omega, by go_num, HU3, HL3, HB3⟩
      case measure => simp [intOf]; omega
    · obtain rfl : k = n := by omega
      obtain ⟨W, hW⟩ : ∃ W, W = wr := ⟨_, rfl⟩
      subst hW
      have HROW : Hid (∀ i, i < k → ∃ g b, p6 = some ⟨g, 0, none⟩ ∧ W.cell? ⟨g, i, none⟩ = some (.slice (some ⟨b, 0, none⟩) k k) ∧ BlAt W b k (wayB k l i) ∧ g < W.heap.size) := fun i hi => by
        obtain ⟨b, h1, h2⟩ := HL.out.2 i hi
        obtain ⟨hl, ⟨_, h3⟩ | ⟨g, c', cur, h3, h4, h5⟩⟩ := id HU.out
        · omega
        · injection h3 with e1
          subst e1
          refine ⟨g, b, rfl, ?_, h2, (HU.out.lt g rfl).2⟩
          have := HU.out.cellAt i (by omega)
          rw [h1] at this
          exact this
      go_wp2
      go_loopw [8, 9] (fun u x wr => ∃ q : Nat, q ≤ k ∧ x = .int .i64 q ∧ Hid (wr.ownsRow W.heap.size 3 1 u q (intsV (cpre k l q))) ∧ Hid (Below W.heap.size W wr)) (fun _ x _ => k - (intOf x).toNat)
      case atStart => exact ⟨0, Nat.zero_le _, rfl, World.ownsRow_nil _ _ _ _, Below.refl _ _⟩
      case round =>
        obtain ⟨q, hq, rfl, HQ, HBq⟩ := hrel
        obtain ⟨p7, c7, hu7⟩ := row_slice HQ.out
        subst hu7
        by_cases hlq : q < k
        · obtain ⟨hc1, hc2, hc3⟩ := comp_spec HM.out hlq
          obtain ⟨c, hc⟩ : ∃ c, c = comp k l q := ⟨_, rfl⟩
          rw [← hc] at hc1 hc2 hc3
          have HS : Hid (intsV (cpre k l (q + 1)) = intsV (cpre k l q) ++ [.int .i64 (c : Int)]) := by show _ = _; rw [cpre_snoc, hc]; simp [intsV]
          have HC2 : Hid (both k l q c = true) := hc2
          have HC3 : Hid (∀ j, j < c → both k l q j = false) := hc3
          clear hc hc2 hc3
          obtain ⟨V, hV⟩ : ∃ V, V = wr := ⟨_, rfl⟩
          subst hV
          obtain ⟨g, bq, hp6, hcq, hBq, hgl⟩ := HROW.out q hlq
          subst hp6
          have cq : V.cell? ⟨g, q, none⟩ = some (.slice (some ⟨bq, 0, none⟩) k k) := (HBq.out.cell (p := ⟨g, q, none⟩) hgl).trans hcq
          have HVq : Hid (BlAt V bq k (wayB k l q)) := hBq.keep HBq.out
          have HROW2 : Hid (∀ i, i < k → ∃ b, V.cell? ⟨g, i, none⟩ = some (.slice (some ⟨b, 0, none⟩) k k) ∧ BlAt V b k (wayB k l i)) := fun i hi => by
            obtain ⟨g2, b, e1, e2, e3, e4⟩ := HROW.out i hi
            injection e1 with e1
            injection e1 with e1
            subst e1
            exact ⟨b, (HBq.out.cell (p := ⟨g, i, none⟩) e4).trans e2, e3.keep HBq.out⟩
          clear hcq hBq
          have MX : q + 1 ≤ maxLen := by unfold maxLen; omega
          have BY : (q + 1) * 8 ≤ 140737488355328 := by omega
          have hzV := HBq.out.size
          go_wp2
          go_loopw [10] (fun x wr => ∃ j : Nat, j ≤ c ∧ x = .int .i64 j ∧ Hid (wr = V)) (fun x _ => c - (intOf x).toNat)
          case atStart => exact ⟨0, Nat.zero_le _, rfl, by trivial⟩
          case round =>
            obtain ⟨j, hj, rfl, HWV⟩ := hrel
            obtain rfl : wr = V := HWV.out
            clear HWV
            have hjk : j < k := by omega
            have cj := HVq.out.cell hjk
            obtain ⟨bj, cr, HBj⟩ := HROW2.out j hjk
            have ck := HBj.cell hlq
            clear HBj
            by_cases hjc : j < c
            · have hno := HC3.out j hjc
              cases e0 : wayB k l q j with
              | false =>
                rw [e0] at cj
                clear hno
                go_wp2
                go_roundw
                case rel => exact ⟨j + 1, by omega, by go_num, by trivial⟩
                case measure => simp [intOf]; omega
              | true =>
                have e1 : wayB k l j q = false := by unfold both at hno; rw [e0] at hno; simpa using hno
                rw [e0] at cj
                rw [e1] at ck
                clear hno
                go_wp2
                go_roundw
                case rel => exact ⟨j + 1, by omega, by go_num, by trivial⟩
                case measure => simp [intOf]; omega
            · obtain rfl : j = c := by omega
              have hy := HC2.out
              unfold both at hy
              rw [Bool.and_eq_true] at hy
              rw [hy.1] at cj
              rw [hy.2] at ck
              clear hy
              go_wp2_with (at_builtin; refine wpList_append_own _ rfl _ _ 24 rfl W.heap.size 3 i0 (.int .i64 0) 1 8 Try.underlying24 hi0 hz0 hz1 hz2 rfl (by decide) _ _ _ rfl (HQ.out.alloc _) ⟨wr.heap.size, 0, none⟩ 1 1 [.int .i64 (j : Int)] rfl rfl (news1 wr _ _) ?c2 MX BY ?c5 ?_)
              case c2 => intro u hu; simp at hu; subst hu; rfl
              case c5 => simp; omega
              intro v' w3 hown' hgrow _
              have HU3 : Hid (w3.ownsRow W.heap.size 3 1 v' (q + 1) (intsV (cpre k l (q + 1)))) := by show World.ownsRow _ _ _ _ _ _ _; rw [HS.out]; exact hown'
              have HB3 : Hid (Below W.heap.size W w3) := (HBq.out.alloc hzV _).grown hgrow (by simp; omega) (fun g hg => (HQ.out.lt g hg).1)
              obtain ⟨p8, c8, hv8⟩ := row_slice hown'
              subst hv8
              clear hown' hgrow
              go_wp2
              go_roundw
              case rel => exact ⟨q + 1, by omega, by go_num, HU3, HB3⟩
              case measure => simp [intOf]; omega
        · obtain rfl : q = k := by omega
          have hzb := HB.out.size
          have HI : Hid (IsInts wr (fun i => w.heap.size ≤ i) (.slice p7 q c7) (compsT q l)) := by
            have := Reads.of (F := fun i => w.heap.size ≤ i) HQ.out (fun b hb => by have := (HQ.out.lt b hb).1; show _ ≤ _; omega)
            show Reads _ _ _ _ _
            rw [compsT_length]; exact this
          have HF : Hid (Below w.heap.size w wr) := HB.out.trans (HBq.out.mono hzb)
          go_wp2
          go_ret2
          exact ⟨_, rfl, HI, HF⟩
end Go.Proofs.Ytalckpaeleflnaa
