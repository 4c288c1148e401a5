/- The document's test of a rule. -/
import Derived.Test.YtopnhbgialbicaaRefMay
namespace Go.Proofs.Ytopnhbgialbicaa
set_option linter.unusedVariables false
open Go.ChangeShapes Go.WideShapes Go.ChangeAt Go.RowKit

theorem take_sum {l : List Cn} {k : Nat} {c : Cn} (h : l[k]? = some c) : rowsSum (l.take (k + 1)) = rowsSum (l.take k) + c.seq.length := by
  unfold rowsSum
  rw [List.take_add_one, h]
  simp
theorem rowsSum_le {K : Nat} {l : List Cn} (h : rowsOk K l = true) : rowsSum l ≤ 64 * l.length := by
  induction l with
  | nil => simp [rowsSum]
  | cons c l ih =>
    unfold rowsOk at h
    rw [List.all_cons, Bool.and_eq_true] at h
    have h1 := ih h.2
    have h2 : c.seq.length ≤ 64 := by have := h.1; simp [mayRow] at this; exact this.1
    simp only [rowsSum, List.map_cons, List.sum_cons, List.length_cons] at h1 ⊢
    omega
set_option maxRecDepth 100000 in
set_option maxHeartbeats 8000000 in
theorem ruleMay_ref (h : Int) (K : Nat) (v : Value) (l : List Cn) (w : World) {F : Nat → Prop} (ha : IsCns w F v l) : Calls Try.prog 22 #[.agg #[.int .i64 h, v], .int .i64 (K : Int)] w fun e w' => e = .returned (ruleEnd K l) ∧ Below w.heap.size w w' := by
  obtain ⟨us, ⟨p, cp, rfl, hm, hca⟩, hla, hia⟩ := id ha
  replace hm := hm.1
  unfold maxLen at hm
  have HA : Hid (IsCns w F (.slice p l.length cp) l) := ha
  clear hca hla hia ha
  by_cases h1 : 1 ≤ l.length
  · by_cases h8 : l.length ≤ 8
    · have HE : Hid (ruleOk K l = rowsOk K l) := by show _ = _; simp [ruleOk, h1, h8]
      obtain ⟨R, hR⟩ : ∃ R, R = ruleEnd K l := ⟨_, rfl⟩
      have HR : Hid (R = ruleEnd K l) := hR
      rw [← hR]
      clear hR
      go_enter Try.func22, Try.ntmps22
      go_wp2
      have B0 : Hid (Below w.heap.size w (w.alloc (.cells #[.int .i64 h, .slice p l.length cp] 53))) := bel1 w _
      have HA0 : Hid (IsCns (w.alloc (.cells #[.int .i64 h, .slice p l.length cp] 53)) F (.slice p l.length cp) l) := HA.out.any B0.out
      have x1 : (w.alloc (.cells #[.int .i64 h, .slice p l.length cp] 53)).cell? ⟨w.heap.size, 1, none⟩ = some (.slice p l.length cp) := World.cell?_alloc_at _ _ _ _ rfl
      have hsz : w.heap.size < (w.alloc (.cells #[.int .i64 h, .slice p l.length cp] 53)).heap.size := by simp
      generalize w.alloc (.cells #[.int .i64 h, .slice p l.length cp] 53) = W0 at B0 HA0 x1 hsz ⊢
      clear HA
      go_loopw [6, 7] (fun s i wr => ∃ (k m : Nat), k ≤ l.length ∧ m ≤ 64 * k ∧ i = .int .i64 k ∧ s = .int .i64 m ∧ Hid (Below W0.heap.size W0 wr) ∧ Hid (rowsOk K (l.take k) = true ∧ m = rowsSum (l.take k))) (fun _ i _ => l.length - (intOf i).toNat)
      case atStart => exact ⟨0, 0, by omega, by omega, rfl, rfl, Below.refl _ _, rfl, rfl⟩
      case round =>
        obtain ⟨k, m, hk, hmk, rfl, rfl, HW, HT⟩ := hrel
        have x1' := (HW.out.cell (p := ⟨w.heap.size, 1, none⟩) hsz).trans x1
        by_cases hlt : k < l.length
        · obtain ⟨us, ⟨p', cp', e1, -, hca⟩, hla, hia⟩ := HA0.out.any HW.out
          injection e1 with e1 e1n e1c
          subst e1 e1c
          clear e1n
          obtain ⟨⟨ng, sq⟩, ht⟩ : ∃ t, l[k]? = some t := ⟨_, List.getElem?_eq_getElem hlt⟩
          obtain ⟨u, hu⟩ : ∃ u, us[k]? = some u := ⟨_, List.getElem?_eq_getElem (by rw [hla]; exact hlt)⟩
          obtain ⟨g1, o1, hp, -, hg1, ca, -⟩ := hca (by omega)
          subst hp
          obtain ⟨i0, i1⟩ := cnsV_at l us k _ u ht hu
          have a1 := reas (ca _ _ i1)
          have HS : Hid (IsSys wr F u sq) := hia k _ u ht hu
          obtain ⟨z1, z3, hx, hzm, -⟩ := hia k _ u ht hu
          simp only at hx hzm
          subst hx
          replace hzm := hzm.1
          unfold maxLen at hzm
          have HTA : Hid (rowsOk K (l.take (k + 1)) = mayRow K sq) := by
            show _ = _
            unfold rowsOk
            rw [take_all ht]
            have := HT.out.1
            unfold rowsOk at this
            rw [this, Bool.true_and]
          have HSU : Hid (rowsSum (l.take (k + 1)) = m + sq.length) := by show _ = _; rw [take_sum ht, ← HT.out.2]
          have HNO : Hid (mayRow K sq = false → R = .tuple #[.int .i64 0, .bool false]) := fun e => by
            have : rowsOk K l = false := all_false ht e
            rw [HR.out]; unfold ruleEnd; rw [HE.out, this]; rfl
          clear ca ht hg1 hu hca hla hia i0 i1
          by_cases h64 : sq.length ≤ 64
          · have HMR : Hid (mayRow K sq = sq.all (maySym K)) := by show _ = _; simp [mayRow, h64]
            go_wp2
            go_loopw [9] (fun i wz => ∃ j : Nat, j ≤ sq.length ∧ i = .int .i64 j ∧ Hid (Below wr.heap.size wr wz) ∧ Hid ((sq.take j).all (maySym K) = true)) (fun i _ => sq.length - (intOf i).toNat)
            case atStart => exact ⟨0, by omega, rfl, Below.refl _ _, rfl⟩
            case round =>
              obtain ⟨j, hj, rfl, HZ, HQ⟩ := hrel
              by_cases hjl : j < sq.length
              · obtain ⟨y, hy⟩ : ∃ y, sq[j]? = some y := ⟨_, List.getElem?_eq_getElem hjl⟩
                obtain ⟨p2, c2, e2, -, hcb⟩ := HS.out.any HZ.out
                injection e2 with e2 e2n e2c
                subst e2 e2c
                clear e2n
                obtain ⟨g2, o2, hq, -, hg2, cb, -⟩ := hcb (by omega)
                subst hq
                obtain ⟨j0, j1, j2⟩ := sysV_at sq j y hy
                have b0 := cb _ _ j0
                have b1 := reas (cb _ _ j1)
                have b2 := reas (cb _ _ j2)
                obtain ⟨nm, lo, hi⟩ := y
                simp only at b0 b1 b2
                have MS := fun w => symbolMay_ref nm lo hi K w
                cases hs : maySym K ⟨nm, lo, hi⟩ with
                | true =>
                  rw [hs] at MS
                  have HN : Hid ((sq.take (j + 1)).all (maySym K) = true) := by show _ = _; rw [take_all hy, hs, HQ.out]; rfl
                  clear cb hy hg2 hcb j0 j1 j2 hs
                  go_wp2_with (go_at_call 36; refine (MS _).mono ?_; rintro e w2 ⟨rfl, bb2⟩)
                  go_roundw
                  case rel => exact ⟨j + 1, by omega, by go_num, HZ.out.trans (bb2.mono HZ.out.size), HN⟩
                  case measure => simp [intOf]; omega
                | false =>
                  rw [hs] at MS
                  have HM' : Hid (R = .tuple #[.int .i64 0, .bool false]) := HNO.out (by rw [HMR.out]; exact all_false hy hs)
                  have BF : Hid (Below w.heap.size w wr) := (B0.out.trans (HW.out.mono B0.out.size)).trans (HZ.out.mono (Nat.le_trans B0.out.size HW.out.size))
                  clear cb hy hg2 hcb j0 j1 j2 hs
                  go_wp2_with (go_at_call 36; refine (MS _).mono ?_; rintro e w2 ⟨rfl, bb2⟩)
                  go_ret2
                  exact ⟨by rw [HM'.out]; rfl, BF.out.trans (bb2.mono BF.out.size)⟩
              · obtain rfl : j = sq.length := by omega
                have HTA' : Hid (rowsOk K (l.take (k + 1)) = true ∧ m + sq.length = rowsSum (l.take (k + 1))) := by
                  refine ⟨?_, HSU.out.symm⟩
                  rw [HTA.out, HMR.out]
                  have := HQ.out
                  rwa [List.take_length] at this
                go_wp2
                go_roundw
                case rel => exact ⟨k + 1, m + sq.length, by omega, by omega, by go_num, by go_num, HW.out.trans (HZ.out.mono HW.out.size), HTA'⟩
                case measure => simp [intOf]; omega
          · have HM' : Hid (R = .tuple #[.int .i64 0, .bool false]) := HNO.out (by simp [mayRow, h64])
            have BF : Hid (Below w.heap.size w wr) := B0.out.trans (HW.out.mono B0.out.size)
            go_wp2
            go_ret2
            exact ⟨by rw [HM'.out]; rfl, BF.out⟩
        · obtain rfl : k = l.length := by omega
          have HM' : Hid (R = .tuple #[.int .i64 (m : Int), .bool true]) := by
            show _ = _
            have := HT.out
            rw [List.take_length] at this
            rw [HR.out]; unfold ruleEnd; rw [HE.out, this.1, this.2]; rfl
          have BF : Hid (Below w.heap.size w wr) := B0.out.trans (HW.out.mono B0.out.size)
          go_wp2
          go_ret2
          exact ⟨by rw [HM'.out]; rfl, BF.out⟩
    · rw [show ruleEnd K l = .tuple #[.int .i64 0, .bool false] by simp [ruleEnd, ruleOk, h8]]
      go_enter Try.func22, Try.ntmps22
      go_wp2
      go_ret2
      exact ⟨rfl, bel1 _ _⟩
  · rw [show ruleEnd K l = .tuple #[.int .i64 0, .bool false] by simp [ruleEnd, ruleOk, h1]]
    go_enter Try.func22, Try.ntmps22
    go_wp2
    go_ret2
    exact ⟨rfl, bel1 _ _⟩
end Go.Proofs.Ytopnhbgialbicaa
