/- CopyGrammar, walked: each row of the copy lies in a block of its own. -/
import Derived.Test.YtdoibpgkfdpbdaaCopyD0
namespace Go.Proofs.Ytdoibpgkfdpbdaa
set_option linter.unusedVariables false
open Go.ChangeShapes Go.WideShapes Go.ChangeAt Go.RowKit

set_option maxHeartbeats 16000000 in
set_option maxRecDepth 100000 in
theorem copyGr_deep (g : Gr) (v1 v2 : Value) (w : World) {F : Nat → Prop} (hg : GrIs w F v1 v2 g) (hz : GSz reachBytes g) :
    Calls Try.prog 9 #[.agg #[.int .i64 g.start, v1, v2]] w fun e w' => ∃ u1 u2, e = .returned (.agg #[.int .i64 g.start, u1, u2]) ∧ Hid (GrIs w' (fun i => w.heap.size ≤ i) u1 u2 g) ∧ Hid (Below w.heap.size w w') ∧ Hid (CpD w g u1 u2 w') := by
  obtain ⟨n, hnn⟩ : ∃ n, n = g.rules.length := ⟨_, rfl⟩
  obtain ⟨m, hmm⟩ : ∃ m, m = g.names.length := ⟨_, rfl⟩
  obtain ⟨p1, c1, hv1⟩ : ∃ p c, v1 = .slice p m c := by obtain ⟨p, c, e, _⟩ := hg.1; exact ⟨p, c, by rw [hmm]; exact e⟩
  obtain ⟨p2, c2, hv2⟩ := hg.2.slc
  rw [← hnn] at hv2
  subst hv1 hv2
  have HN : Hid (n = g.rules.length) := hnn
  have HMN : Hid (m = g.names.length) := hmm
  obtain ⟨W2, hW2⟩ : ∃ W2, W2 = (w.alloc (.cells #[.int .i64 g.start, .slice p1 m c1, .slice p2 n c2] 25)).alloc (.cells #[.int .i64 0, .slice none 0 0, .slice none 0 0] 25) := ⟨_, rfl⟩
  have B2 : Below w.heap.size w W2 := by rw [hW2]; exact (bel1 w _).alloc (by simp) _
  have HB2 : Hid (Below w.heap.size w W2) := B2
  have hs2 : W2.heap.size = w.heap.size + 2 := by rw [hW2]; simp
  have HQ : Hid (∀ w', Below W2.heap.size W2 w' → w'.cell? ⟨w.heap.size, 0, none⟩ = some (.int .i64 g.start) ∧ w'.cell? ⟨w.heap.size, 1, none⟩ = some (.slice p1 m c1) ∧ w'.cell? ⟨w.heap.size, 2, none⟩ = some (.slice p2 n c2) ∧ w'.heap[w.heap.size + 1]? = some (.cells #[.int .i64 0, .slice none 0 0, .slice none 0 0] 25)) := fun w' hb => by
    have q1 : ∀ j, W2.cell? ⟨w.heap.size, j, none⟩ = (#[.int .i64 g.start, .slice p1 m c1, .slice p2 n c2] : Array Value)[j]? := fun j => by
      rw [hW2, World.cell?_alloc_past _ _ _ (by simp)]; exact World.cell?_alloc_at _ _ _ _ rfl
    have q2 : W2.heap[w.heap.size + 1]? = some (.cells #[.int .i64 0, .slice none 0 0, .slice none 0 0] 25) := by
      rw [hW2]
      have := heap_alloc_new (w.alloc (.cells #[.int .i64 g.start, .slice p1 m c1, .slice p2 n c2] 25)) (.cells #[.int .i64 0, .slice none 0 0, .slice none 0 0] 25)
      simpa using this
    exact ⟨(hb.cell (p := ⟨_, _, none⟩) (by simp; omega)).trans (q1 0), (hb.cell (p := ⟨_, _, none⟩) (by simp; omega)).trans (q1 1), (hb.cell (p := ⟨_, _, none⟩) (by simp; omega)).trans (q1 2), (hb.block _ (by omega)).trans q2⟩
  have HG : Hid (GrIs W2 F (.slice p1 m c1) (.slice p2 n c2) g) := hg.any B2
  have HZ : Hid (GSz reachBytes g) := hz
  have HS2 : Hid (W2.heap.size = w.heap.size + 2) := hs2
  clear hg hz hnn hmm B2 hs2
  go_enter Try.func9, Try.ntmps9
  go_wp2
  rw [← hW2]
  clear hW2
  go_cut [3] from 8 (fun p wc => ∃ gb nv, p = .pointer (some ⟨gb, 0, none⟩) ∧ Hid (GV W2 gb (fun _ => False) g.start g.names nv [] [] (.slice none 0 0) wc))
  case first =>
    obtain ⟨i, hi0, hz0, hz1, hz2⟩ := info_parts Try.infoStrC
    have hm16 : m * 16 ≤ 140737488355328 := by have := HZ.out.1; rw [← HMN.out] at this; unfold reachBytes at this; omega
    have hmx : 0 + m ≤ maxLen := by unfold maxLen; omega
    have hmb : (0 + m) * 16 ≤ 140737488355328 := by omega
    have hlen : (txV g.names).length = m * 1 := by rw [txV_len, HMN.out]
    have R0 : Reads W2 F (.slice p1 m c1) m (txV g.names) := by have := HG.out.1; unfold IsTexts at this; rw [← HMN.out] at this; exact this
    have A1 : ∃ v' w', (Builtin.append_ #[22, 22] 22 #[.slice (some ⟨W2.heap.size, 0, none⟩) 0 0, .slice p1 m c1]).run Try.prog (W2.alloc (.cells #[] 9)).drew = .ok v' w' ∧ w'.ownsRow W2.heap.size 9 1 v' (0 + m) ([] ++ txV g.names) ∧ (W2.alloc (.cells #[] 9)).drew.grownBy w' (Value.slice (some ⟨W2.heap.size, 0, none⟩) 0 0).ownBlock :=
      run_append_reads W2.heap.size _ _ _ i _ 1 16 Try.underlying22 hi0 hz0 hz1 hz2 rfl (by omega) _ 0 [] ((ownsRow_none W2 _ 1 _ (Nat.le_refl _)).drew) _ m (txV g.names) (R0.any ((bel1 W2 _).drew)) hlen (txV_one _) hmx hmb (by simp)
    obtain ⟨va, wA, ra, oa, ga⟩ := A1
    obtain ⟨qa, ka, hva⟩ := row_slice oa
    rw [Nat.zero_add] at hva
    subst hva
    have A2 : ∃ v' w', (Builtin.append_ #[22, 22] 22 #[.slice (some ⟨W2.heap.size + 1, 0, none⟩) 0 0, .slice p1 m c1]).run Try.prog ((W2.alloc (.cells #[.int .i64 0, .slice none 0 0, .slice none 0 0] 25)).alloc (.cells #[] 9)).drew = .ok v' w' ∧ w'.ownsRow W2.heap.size 9 1 v' (0 + m) ([] ++ txV g.names) ∧ ((W2.alloc (.cells #[.int .i64 0, .slice none 0 0, .slice none 0 0] 25)).alloc (.cells #[] 9)).drew.grownBy w' (Value.slice (some ⟨W2.heap.size + 1, 0, none⟩) 0 0).ownBlock := by
      have hon := ownsRow_none (W2.alloc (.cells #[.int .i64 0, .slice none 0 0, .slice none 0 0] 25)) 9 1 W2.heap.size (by simp)
      rw [show (W2.alloc (.cells #[.int .i64 0, .slice none 0 0, .slice none 0 0] 25)).heap.size = W2.heap.size + 1 by simp] at hon
      exact run_append_reads W2.heap.size _ _ _ i _ 1 16 Try.underlying22 hi0 hz0 hz1 hz2 rfl (by omega) _ 0 [] hon.drew _ m (txV g.names) (R0.any ((bel2 W2 _ _).drew)) hlen (txV_one _) hmx hmb (by simp; omega)
    obtain ⟨vb, wB, rb, ob, gb2⟩ := A2
    obtain ⟨qb, kb, hvb⟩ := row_slice ob
    rw [Nat.zero_add] at hvb
    subst hvb
    have A3 : ∃ v' w', (Builtin.append_ #[22, 22] 22 #[.slice (some ⟨W2.heap.size, 0, none⟩) 0 0, .slice p1 m c1]).run Try.prog ((W2.alloc (.cells #[] 9)).alloc (.cells #[.int .i64 0, .slice none 0 0, .slice none 0 0] 25)).drew = .ok v' w' ∧ w'.ownsRow W2.heap.size 9 1 v' (0 + m) ([] ++ txV g.names) ∧ ((W2.alloc (.cells #[] 9)).alloc (.cells #[.int .i64 0, .slice none 0 0, .slice none 0 0] 25)).drew.grownBy w' (Value.slice (some ⟨W2.heap.size, 0, none⟩) 0 0).ownBlock :=
      run_append_reads W2.heap.size _ _ _ i _ 1 16 Try.underlying22 hi0 hz0 hz1 hz2 rfl (by omega) _ 0 [] (((ownsRow_none W2 _ 1 _ (Nat.le_refl _)).alloc _).drew) _ m (txV g.names) (R0.any ((bel2 W2 _ _).drew)) hlen (txV_one _) hmx hmb (by simp; omega)
    obtain ⟨vc, wC, rc, oc, gc⟩ := A3
    obtain ⟨qc, kc, hvc⟩ := row_slice oc
    rw [Nat.zero_add] at hvc
    subst hvc
    have q0 := (HQ.out _ (Below.refl _ _)).1
    have q1 := (HQ.out _ (Below.refl _ _)).2.1
    have ew0 : ∀ o, (W2.alloc o).cell? ⟨w.heap.size, 0, none⟩ = some (.int .i64 g.start) := fun o => (HQ.out _ (bel1 _ _)).1
    have ew1 : ∀ o, (W2.alloc o).cell? ⟨w.heap.size, 1, none⟩ = some (.slice p1 m c1) := fun o => (HQ.out _ (bel1 _ _)).2.1
    have ew2 : ∀ o o', ((W2.alloc o).alloc o').cell? ⟨w.heap.size, 0, none⟩ = some (.int .i64 g.start) := fun o o' => (HQ.out _ (bel2 _ _ _)).1
    have ew3 : ∀ o o', ((W2.alloc o).alloc o').cell? ⟨w.heap.size, 1, none⟩ = some (.slice p1 m c1) := fun o o' => (HQ.out _ (bel2 _ _ _)).2.1
    have bA : Below W2.heap.size W2 wA := (bel1 W2 (.cells #[] 9)).drew.trans ⟨ga.os, ga.tape, ga.output, ga.size, fun j hj => ga.block j (by simp; omega) (fun e => by simp [Value.ownBlock] at e; omega)⟩
    have bB : Below W2.heap.size W2 wB := (bel2 W2 (.cells #[.int .i64 0, .slice none 0 0, .slice none 0 0] 25) (.cells #[] 9)).drew.trans ⟨gb2.os, gb2.tape, gb2.output, gb2.size, fun j hj => gb2.block j (by simp; omega) (fun e => by simp [Value.ownBlock] at e; omega)⟩
    have bC : Below W2.heap.size W2 wC := (bel2 W2 (.cells #[] 9) (.cells #[.int .i64 0, .slice none 0 0, .slice none 0 0] 25)).drew.trans ⟨gc.os, gc.tape, gc.output, gc.size, fun j hj => gc.block j (by simp; omega) (fun e => by simp [Value.ownBlock] at e; omega)⟩
    have aA0 := (HQ.out _ bA).1
    have aB0 := (HQ.out _ bB).1
    have aC0 := (HQ.out _ bC).1
    have zB : wB.heap[W2.heap.size]? = some (.cells #[.int .i64 0, .slice none 0 0, .slice none 0 0] 25) := (gb2.block _ (by simp; omega) (fun e => by simp [Value.ownBlock] at e)).trans ((heap_alloc_old _ (by simp)).trans (heap_alloc_new _ _))
    have zC : wC.heap[W2.heap.size + 1]? = some (.cells #[.int .i64 0, .slice none 0 0, .slice none 0 0] 25) := (gc.block _ (by simp) (fun e => by simp [Value.ownBlock] at e)).trans (by have h9 := heap_alloc_new (W2.alloc (.cells #[] 9)) (.cells #[.int .i64 0, .slice none 0 0, .slice none 0 0] 25); rw [show (W2.alloc (.cells #[] 9)).heap.size = W2.heap.size + 1 by simp] at h9; exact h9)
    have cB : ∀ j, wB.cell? ⟨W2.heap.size, j, none⟩ = (#[.int .i64 0, .slice none 0 0, .slice none 0 0] : Array Value)[j]? := Lib.cell_of_heap zB
    have cC : ∀ j, wC.cell? ⟨W2.heap.size + 1, j, none⟩ = (#[.int .i64 0, .slice none 0 0, .slice none 0 0] : Array Value)[j]? := Lib.cell_of_heap zC
    have cB0 := cB 0
    have cB1 := cB 1
    have cB2 := cB 2
    have cC0 := cC 0
    have cC1 := cC 1
    have cC2 := cC 2
    have fB : ∀ j, wB.frozen? ⟨W2.heap.size, j, none⟩ = false := fun j => by unfold World.frozen?; rw [zB]; simp
    have fC : ∀ j, wC.frozen? ⟨W2.heap.size + 1, j, none⟩ = false := fun j => by unfold World.frozen?; rw [zC]; simp
    have OA : Hid (wA.ownsRow W2.heap.size 9 1 (.slice qa m ka) g.names.length (txV g.names)) := by show World.ownsRow _ _ _ _ _ _ _; rw [← HMN.out]; simpa using oa
    have OB : Hid (wB.ownsRow W2.heap.size 9 1 (.slice qb m kb) g.names.length (txV g.names)) := by show World.ownsRow _ _ _ _ _ _ _; rw [← HMN.out]; simpa using ob
    have OC : Hid (wC.ownsRow W2.heap.size 9 1 (.slice qc m kc) g.names.length (txV g.names)) := by show World.ownsRow _ _ _ _ _ _ _; rw [← HMN.out]; simpa using oc
    have HbA : Hid (Below W2.heap.size W2 wA) := bA
    have HbB : Hid (Below W2.heap.size W2 wB) := bB
    have HbC : Hid (Below W2.heap.size W2 wC) := bC
    have ZB : Hid (wB.heap[W2.heap.size]? = some (.cells #[.int .i64 0, .slice none 0 0, .slice none 0 0] 25)) := zB
    have ZC : Hid (wC.heap[W2.heap.size + 1]? = some (.cells #[.int .i64 0, .slice none 0 0, .slice none 0 0] 25)) := zC
    clear ga gb2 gc oa ob oc bA bB bC zB zC cB cC R0 hlen hmx hmb hm16 hi0 hz0 hz1 hz2
    have LA := stepApp ra
    have LB := stepApp rb
    have LC := stepApp rc
    clear ra rb rc
    unfold StepApp at LA LB LC
    have HSS : Hid (∀ w', Below W2.heap.size W2 w' → Below W2.heap.size W2 w' ∧ w'.cell? ⟨w.heap.size, 0, none⟩ = some (.int .i64 g.start) ∧ w'.cell? ⟨w.heap.size, 1, none⟩ = some (.slice p1 m c1)) := fun w' hb => ⟨hb, (HQ.out _ hb).1, (HQ.out _ hb).2.1⟩
    go_region_held3 (fun w' => Below W2.heap.size W2 w' ∧ w'.cell? ⟨w.heap.size, 0, none⟩ = some (.int .i64 g.start) ∧ w'.cell? ⟨w.heap.size, 1, none⟩ = some (.slice p1 m c1))
      ((refine HSS.out _ ?_; (repeat' (first | with_reducible assumption | with_reducible exact Below.refl _ _ | with_reducible exact HbA.out | with_reducible exact HbB.out | with_reducible exact HbC.out | with_reducible apply Below.drew | with_reducible apply belC_alloc | with_reducible refine belC_set ?_ ?_ _)); all_goals (first | omega | (simp; done))))
      (first | (with_reducible refine LA _ _ _ _ _ _ ?_ ?_ ?_ ?_; rfl; exact ⟨_, _, rfl, rfl, rfl⟩; rfl) | (with_reducible refine LB _ _ _ _ _ _ ?_ ?_ ?_ ?_; rfl; exact ⟨_, _, rfl, rfl, rfl⟩; rfl) | (with_reducible refine LC _ _ _ _ _ _ ?_ ?_ ?_ ?_; rfl; exact ⟨_, _, rfl, rfl, rfl⟩; rfl))
    all_goals
      go_wp2
      go_meet
    · case rel => exact ⟨_, _, rfl, GV.first (HbA.out.alloc HbA.out.size _) (heap_alloc_new _ _) (OA.out.alloc _) HbA.out.size⟩
    · case rel => exact ⟨_, _, rfl, GV.first (belC_set (belC_set (belC_set HbC.out (by omega) _) (by omega) _) (by omega) _) (set3 ZC.out _ _ _) (own3 OC.out ZC.out (by decide) _ _ _) (by omega)⟩
    · case rel => exact ⟨_, _, rfl, GV.first (belC_set (belC_set (belC_set HbB.out (by omega) _) (by omega) _) (by omega) _) (set3 ZB.out _ _ _) (own3 OB.out ZB.out (by decide) _ _ _) (by omega)⟩
  case rest =>
    obtain ⟨gb, nv, rfl, GV0⟩ := hcut
    have hn32 : n * 32 ≤ 140737488351232 := by have := HZ.out.2.1; rw [← HN.out] at this; unfold reachBytes at this; omega
    clear HMN
    go_wp2
    go_loopw [4] (fun i wr => ∃ k : Nat, k ≤ n ∧ i = .int .i64 k ∧ ∃ Fk us o vss, Hid (GV W2 gb Fk g.start g.names nv (g.rules.take k) us o wr) ∧ Hid (Dp wr W2.heap.size (g.rules.take k) us vss)) (fun i _ => n - (intOf i).toNat)
    case atStart => exact ⟨0, Nat.zero_le _, rfl, _, _, _, [], GV0, Dp.nil _ _⟩
    case round =>
      obtain ⟨k, hk, rfl, Fk, us, o, vss, GVk, SPk⟩ := hrel
      obtain ⟨V, hV⟩ : ∃ V, V = wr := ⟨_, rfl⟩
      subst hV
      have HBk : Hid (Below W2.heap.size W2 V) := GVk.out.m0.bl
      obtain ⟨y0, y1, y2, y3⟩ := HQ.out _ HBk.out
      have w2 : V.cell? ⟨gb, 0, none⟩ = some (.int .i64 g.start) := by rw [Lib.cell_of_heap GVk.out.vb]; rfl
      have w3 : V.cell? ⟨gb, 1, none⟩ = some nv := by rw [Lib.cell_of_heap GVk.out.vb]; rfl
      have w4 : V.cell? ⟨gb, 2, none⟩ = some o := by rw [Lib.cell_of_heap GVk.out.vb]; rfl
      by_cases hlt : k < n
      · obtain ⟨r, ht⟩ : ∃ r, g.rules[k]? = some r := ⟨_, List.getElem?_eq_getElem (by rw [← HN.out]; exact hlt)⟩
        have hrm : r ∈ g.rules := List.mem_of_getElem? ht
        obtain ⟨b, hbn⟩ : ∃ b, b = r.conj.length := ⟨_, rfl⟩
        have HBN : Hid (b = r.conj.length) := hbn
        have hb32 : b * 32 ≤ 140737488351232 := by have := (HZ.out.2.2 r hrm).1; rw [hbn]; unfold reachBytes at this; omega
        have HSL : Hid (∀ c, c ∈ r.conj → c.seq.length * 24 ≤ 140737488351232) := fun c hc => by have := (HZ.out.2.2 r hrm).2 c hc; unfold reachBytes at this; exact this
        obtain ⟨g1, o1, u, hp, a0, a1, icn⟩ := (HG.out.2.any HBk.out).row ht
        subst hp
        obtain ⟨p3, c3, hu⟩ := icn.slc
        rw [← hbn] at hu
        subst hu
        have HA0 : Hid (∀ w', Below V.heap.size V w' → w'.cell? ⟨w.heap.size, 2, none⟩ = some (.slice (some ⟨g1, o1, none⟩) n c2) ∧ w'.cell? ⟨g1, o1 + k * 2 + 1, none⟩ = some (.slice p3 b c3) ∧ IsCns w' F (.slice p3 b c3) r.conj) := fun w' hb => ⟨(HQ.out _ (HBk.out.trans (hb.mono HBk.out.size))).2.2.1, (hb.cell (p := ⟨_, _, none⟩) (cellC_lt a1)).trans a1, icn.any hb⟩
        obtain ⟨nb, hnb⟩ : ∃ nb, nb = V.heap.size := ⟨_, rfl⟩
        have HNB : Hid (nb = V.heap.size) := hnb
        clear hbn icn w2 w3 w4
        go_wp2
        rw [← hnb]
        clear hnb
        go_loopw [6] (fun i wr => ∃ q : Nat, q ≤ b ∧ i = .int .i64 q ∧ ∃ Fq vs c, Hid (Mk V nb Fq [] [] (.slice none 0 0) r.head (r.conj.take q) vs c wr) ∧ Hid (SqD wr V.heap.size (r.conj.take q) vs)) (fun i _ => b - (intOf i).toNat)
        case atStart => exact ⟨0, Nat.zero_le _, rfl, _, _, _, (by show Mk _ _ _ _ _ _ _ _ _ _ _; rw [HNB.out]; exact (Mk0.new V).open r.head), SqD.nil _ _⟩
        case round =>
          obtain ⟨q, hq, rfl, Fq, vs, c, MK, SQ⟩ := hrel
          obtain ⟨U, hU⟩ : ∃ U, U = wr := ⟨_, rfl⟩
          subst hU
          clear y0 y1 y2 y3 a0 a1
          have HBq : Hid (Below V.heap.size V U) := MK.out.m0.bl
          obtain ⟨y2, a1, icn⟩ := HA0.out _ HBq.out
          by_cases hlq : q < b
          · obtain ⟨cn, hcc⟩ : ∃ c, r.conj[q]? = some c := ⟨_, List.getElem?_eq_getElem (by rw [← HBN.out]; exact hlq)⟩
            have hs24 := HSL.out cn (List.mem_of_getElem? hcc)
            obtain ⟨g2, o2, u2, hp2, d0, d1, isy⟩ := icn.row hcc
            subst hp2
            obtain ⟨p4, c4, hu2⟩ := isy.slc
            obtain ⟨t, htn⟩ : ∃ t, t = cn.seq.length := ⟨_, rfl⟩
            have HTN : Hid (t = cn.seq.length) := htn
            rw [← htn] at hu2 hs24
            subst hu2
            obtain ⟨pc, cc, hvc⟩ := row_slice MK.out.oc
            rw [take_len (by rw [← HBN.out]; exact hq)] at hvc
            subst hvc
            have HIS : Hid (IsSys U F (.slice p4 t c4) cn.seq) := isy
            obtain ⟨nc, hnc⟩ : ∃ nc, nc = U.heap.size := ⟨_, rfl⟩
            have HNC : Hid (nc = U.heap.size) := hnc
            clear htn isy icn
            go_wp2
            obtain ⟨X, hX⟩ : ∃ X, X = U.alloc (.cells #[.bool cn.neg, .slice p4 t c4] 40) := ⟨_, rfl⟩
            rw [← hX]
            rw [← hnc]
            have HX : Hid (X = U.alloc (.cells #[.bool cn.neg, .slice p4 t c4] 40)) := hX
            clear hnc hX y2 a1 d0 d1
            have hzX : X.heap.size = nc + 1 := by rw [HX.out, HNC.out]; simp
            have bUX : Below U.heap.size U X := by rw [HX.out]; exact bel1 _ _
            have MX : Mk V nb Fq [] [] (.slice none 0 0) r.head (r.conj.take q) vs (.slice pc q cc) X := MK.out.keep bUX
            have hnbX : nb < X.heap.size := block_lt MX.rb
            obtain ⟨i1, hi0, hz0, hz1, hz2⟩ := info_parts Try.infoSymC
            obtain ⟨i2, hj0, hj1, hj2, hj3⟩ := info_parts Try.infoConC
            have hx1 : (X.alloc (.cells #[] 44)).drew.heap.size = X.heap.size + 1 := by simp
            have A1 : ∃ v' w', (Builtin.append_ #[38, 38] 38 #[.slice (some ⟨X.heap.size, 0, none⟩) 0 0, .slice p4 t c4]).run Try.prog (X.alloc (.cells #[] 44)).drew = .ok v' w' ∧ w'.ownsRow X.heap.size 44 3 v' (0 + t) ([] ++ sysV cn.seq) ∧ (X.alloc (.cells #[] 44)).drew.grownBy w' (Value.slice (some ⟨X.heap.size, 0, none⟩) 0 0).ownBlock := by
              have hR : Reads U F (.slice p4 t c4) t (sysV cn.seq) := by have := HIS.out; unfold IsSys at this; rw [← HTN.out] at this; exact this
              exact run_append_reads X.heap.size _ _ _ i1 _ 3 24 Try.underlying38 hi0 hz0 hz1 hz2 rfl (by omega) _ 0 [] ((ownsRow_none X _ 3 _ (Nat.le_refl _)).drew) _ t (sysV cn.seq) ((hR.any bUX).any ((bel1 X _).drew)) (by rw [sysV_length, HTN.out]) (sysV_one _) (by unfold maxLen; omega) (by omega) (by simp)
            obtain ⟨v5, w5, r5, o5, g5⟩ := A1
            rw [Nat.zero_add, List.nil_append] at o5
            obtain ⟨q5, k5, hv5⟩ := row_slice o5
            subst hv5
            have b5 : Below X.heap.size X w5 := ((bel1 X (.cells #[] 44)).drew).trans ⟨g5.os, g5.tape, g5.output, g5.size, fun j hj => g5.block j (by rw [hx1]; omega) (fun e => by simp [Value.ownBlock] at e; omega)⟩
            have M5 := MX.keep b5
            have A2 : ∃ gg cap w', (Builtin.append_ #[34, 34] 34 #[.slice pc q cc, .slice (some ⟨w5.heap.size, 0, none⟩) 1 1]).run Try.prog (w5.alloc (.cells #[.bool cn.neg, .slice q5 t k5] 40)) = .ok (.slice (some ⟨gg, 0, none⟩) (q + 1) cap) w' ∧ w'.ownsRow V.heap.size 40 2 (.slice (some ⟨gg, 0, none⟩) (q + 1) cap) (q + 1) (cnsV (r.conj.take q) vs ++ [.bool cn.neg, .slice q5 t k5]) ∧ (w5.alloc (.cells #[.bool cn.neg, .slice q5 t k5] 40)).grownBy w' (Value.slice pc q cc).ownBlock ∧ ((Value.slice pc q cc).ownBlock = some gg ∨ gg = w5.heap.size + 1) ∧ gg < w'.heap.size := by
              have oc := M5.oc
              rw [take_len (by rw [← HBN.out]; exact hq)] at oc
              exact run_append_lies (P := Try.prog) (w5.alloc (.cells #[.bool cn.neg, .slice q5 t k5] 40)) 34 34 V.heap.size 40 i2 _ 2 32 Try.underlying34 hj0 hj1 hj2 hj3 rfl (by omega) (.slice pc q cc) q (cnsV (r.conj.take q) vs) (oc.alloc _) ⟨w5.heap.size, 0, none⟩ 1 1 [.bool cn.neg, .slice q5 t k5] rfl (World.news_of_block (cs := #[.bool cn.neg, .slice q5 t k5]) (t := 40) (fr := (0, 0)) (heap_alloc_new w5 _)) (by simp [Value.oneCell']) (by omega) (by unfold maxLen; omega) (by omega) (by have := M5.m0.bl.size; simp; omega) (w5.heap.size + 1) (by simp)
            obtain ⟨gg, cap, w6, r6, o6, g6, hat, hl6⟩ := A2
            have LA := stepApp r5
            have LB := stepApp r6
            unfold StepApp at LA LB
            have FIN : Hid (Mk V nb (fun b => Fq b ∨ (Value.slice q5 t k5).ownBlock = some b) [] [] (.slice none 0 0) r.head (r.conj.take (q + 1)) (vs ++ [.slice q5 t k5]) (.slice (some ⟨gg, 0, none⟩) (q + 1) cap) (w6.setCell ⟨nb, 1, none⟩ (.slice (some ⟨gg, 0, none⟩) (q + 1) cap))) :=
              Mk.conj' (n := q) (sq := cn.seq) (ng := cn.neg) MX (take_len (by rw [← HBN.out]; exact hq)) b5 (by rw [← HTN.out]; exact o5) g6 o6 hat (take_snoc hcc)
            have hneb : (Value.slice pc q cc).ownBlock ≠ some nb := row_no M5.oc (by decide) M5.rb
            have SQ2 : Hid (SqD (w6.setCell ⟨nb, 1, none⟩ (.slice (some ⟨gg, 0, none⟩) (q + 1) cap)) V.heap.size (r.conj.take (q + 1)) (vs ++ [.slice q5 t k5])) := by
              show SqD _ _ _ _
              rw [take_snoc hcc]
              have k1 : SqD w5 V.heap.size (r.conj.take q) vs := SQ.out.imp fun n u xs h => row_keep (row_keep h bUX) b5
              have hVX : V.heap.size ≤ X.heap.size := MX.m0.bl.size
              have o5' : w5.ownsRow V.heap.size 44 3 (.slice q5 t k5) cn.seq.length (sysV cn.seq) := by have h9 := row_mono o5 hVX; rw [← HTN.out]; exact h9
              have k2 := k1.snoc (c := cn) (k := X.heap.size) o5' (fun i x b h1 h2 => Nat.lt_of_lt_of_le (SQ.out.lt i x b h1 h2).2 bUX.size) (fun b e => (o5.lt b e).1)
              refine k2.imp fun n u xs h => ?_
              have h2 := row_grown (row_keep h (bel1 w5 (.cells #[.bool cn.neg, .slice q5 t k5] 40))) (row_keep M5.oc (bel1 w5 (.cells #[.bool cn.neg, .slice q5 t k5] 40))) (by decide) g6
              exact ownsRow_setCell_other (a := ⟨nb, 1, none⟩) h2 (row_no h (by decide) M5.rb) _
            have e0 : X.cell? ⟨nb, 1, none⟩ = some (.slice pc q cc) := by rw [Lib.cell_of_heap MX.rb]; rfl
            have hb5 : w5.heap[nb]? = some (.cells #[.int .i64 r.head, .slice pc q cc] 36) := M5.rb
            have hl5 : nb < w5.heap.size := block_lt hb5
            have e1 : ∀ o, (X.alloc o).cell? ⟨nb, 1, none⟩ = some (.slice pc q cc) := fun o => (World.cell?_alloc_past _ _ _ hnbX).trans e0
            have e2 : w5.cell? ⟨nb, 1, none⟩ = some (.slice pc q cc) := by rw [Lib.cell_of_heap hb5]; rfl
            have e3 : ∀ o, (w5.alloc o).cell? ⟨nb, 1, none⟩ = some (.slice pc q cc) := fun o => (World.cell?_alloc_past _ _ _ hl5).trans e2
            have hb6 : w6.heap[nb]? = some (.cells #[.int .i64 r.head, .slice pc q cc] 36) := (g6.block nb (by simp; omega) (Ne.symm hneb)).trans ((heap_alloc_old _ hl5).trans hb5)
            have e4 : w6.cell? ⟨nb, 1, none⟩ = some (.slice pc q cc) := by rw [Lib.cell_of_heap hb6]; rfl
            have f4 : w6.frozen? ⟨nb, 1, none⟩ = false := by unfold World.frozen?; rw [hb6]; simp
            have x0 : ∀ j, X.cell? ⟨nc, j, none⟩ = (#[.bool cn.neg, .slice p4 t c4] : Array Value)[j]? := fun j => by rw [HX.out, HNC.out]; exact World.cell?_alloc_at _ _ _ _ rfl
            have hncX : nc < X.heap.size := by omega
            have z0 := x0 0
            have z1 := x0 1
            have z2 : ∀ o, (X.alloc o).cell? ⟨nc, 0, none⟩ = some (.bool cn.neg) := fun o => (World.cell?_alloc_past _ _ _ hncX).trans z0
            have z3 : ∀ o, (X.alloc o).cell? ⟨nc, 1, none⟩ = some (.slice p4 t c4) := fun o => (World.cell?_alloc_past _ _ _ hncX).trans z1
            have z4 : w5.cell? ⟨nc, 0, none⟩ = some (.bool cn.neg) := (b5.cell (p := ⟨_, _, none⟩) hncX).trans z0
            clear r5 r6 o5 o6 g5 g6 hat hl6 M5 MX b5 hb5 hb6 x0 hx1 hzX bUX hi0 hz0 hz1 hz2 hj0 hj1 hj2 hj3 hneb hs24 hcc
            go_region_law (first | (with_reducible refine LA _ _ _ _ _ _ ?_ ?_ ?_ ?_; rfl; exact ⟨_, _, rfl, rfl, rfl⟩; rfl) | (with_reducible refine LB _ _ _ _ _ _ ?_ ?_ ?_ ?_; rfl; exact ⟨_, _, rfl, rfl, rfl⟩; rfl))
            all_goals
              go_wp2
              go_roundw
              case rel => exact ⟨q + 1, by omega, by go_num, _, _, _, FIN, SQ2⟩
              case measure => simp [intOf]; omega
          · obtain rfl : q = b := by omega
            have MK2 : Mk V nb Fq [] [] (.slice none 0 0) r.head r.conj vs c U := by
              have h := MK.out
              rw [HBN.out, List.take_length] at h; exact h
            obtain ⟨pc, cc, hvc⟩ := row_slice MK2.oc
            rw [← HBN.out] at hvc
            subst hvc
            have HIC : Hid (IsCns U (fun b => Fq b ∨ (Value.slice pc q cc).ownBlock = some b) (.slice pc q cc) r.conj) := ⟨vs, Reads.of MK2.oc (fun b e => Or.inr e), MK2.ci.keep ⟨Nat.le_refl _, fun _ _ => rfl⟩ (fun b e => Or.inl e)⟩
            have HFC : Hid (∀ b, (Fq b ∨ (Value.slice pc q cc).ownBlock = some b) → V.heap.size ≤ b) := fun b e => by
              rcases e with e | e
              · exact (MK2.m0.fl b e).1
              · exact (MK2.oc.lt b e).1
            have GVu := GVk.out.keep HBq.out
            have hln : (g.rules.take k).length = k := take_len (by rw [← HN.out]; exact hk)
            obtain ⟨po, co, hvo⟩ := row_slice GVu.m0.oo
            rw [hln] at hvo
            subst hvo
            have OR : Hid (U.ownsRow W2.heap.size 36 2 (.slice po k co) k (rusV (g.rules.take k) us)) := by have h := GVu.m0.oo; rw [hln] at h; exact h
            have hgb : (Value.slice po k co).ownBlock ≠ some gb := row_no GVu.m0.oo (by decide) GVu.vb
            have hvb : U.heap[gb]? = some (.cells #[.int .i64 g.start, nv, .slice po k co] 25) := GVu.vb
            have hgl : gb < U.heap.size := block_lt hvb
            have e0 : U.cell? ⟨gb, 2, none⟩ = some (.slice po k co) := by rw [Lib.cell_of_heap hvb]; rfl
            have e1 : U.cell? ⟨nb, 0, none⟩ = some (.int .i64 r.head) := by rw [Lib.cell_of_heap MK2.rb]; rfl
            have e2 : U.cell? ⟨nb, 1, none⟩ = some (.slice pc q cc) := by rw [Lib.cell_of_heap MK2.rb]; rfl
            obtain ⟨i3, hj0, hj1, hj2, hj3⟩ := info_parts Try.infoRuleC
            have HI : Hid (Try.prog.info? 36 = some i3 ∧ i3.zero = some (.agg #[.int .i64 0, .slice none 0 0]) ∧ i3.size = 2 ∧ i3.bytes = 32) := ⟨hj0, hj1, hj2, hj3⟩
            have ONE : Hid (∀ x ∈ [Value.int .i64 r.head, .slice pc q cc], x.oneCell' = true) := fun x hx => by simp at hx; rcases hx with rfl | rfl <;> rfl
            have MXX : Hid (k + 1 ≤ maxLen) := by show _ ≤ _; unfold maxLen; omega
            have BY : Hid ((k + 1) * 32 ≤ 140737488355328) := by show _ ≤ _; omega
            have HWU : W2.heap.size ≤ U.heap.size := Nat.le_trans HBk.out.size HBq.out.size
            have HTK : Hid (g.rules.take (k + 1) = g.rules.take k ++ [⟨r.head, r.conj⟩]) := take_snoc ht
            have HVB : Hid (∀ (o' : Obj) (w2 : World), (U.alloc o').grownBy w2 (Value.slice po k co).ownBlock → w2.cell? ⟨gb, 2, none⟩ = some (.slice po k co) ∧ w2.frozen? ⟨gb, 2, none⟩ = false) := fun o' w2 hgr => by
              have h6 : w2.heap[gb]? = some (.cells #[.int .i64 g.start, nv, .slice po k co] 25) := (hgr.block gb (by simp; omega) (Ne.symm hgb)).trans ((heap_alloc_old _ hgl).trans hvb)
              exact ⟨by rw [Lib.cell_of_heap h6]; rfl, by unfold World.frozen?; rw [h6]; simp⟩
            have SQR : SqD U V.heap.size r.conj vs := by
              have h := SQ.out
              rw [HBN.out, List.take_length] at h; exact h
            have hq3 : Hid (U.ownsRow V.heap.size 40 2 (.slice pc q cc) r.conj.length (cnsV r.conj vs)) := MK2.oc
            have HDP : Hid (Dp U W2.heap.size (g.rules.take (k + 1)) (us ++ [.slice pc q cc]) (vss ++ [vs])) := by
              show Dp _ _ _ _ _
              rw [take_snoc ht]
              exact (SPk.out.keep HBq.out).snoc (r := ⟨r.head, r.conj⟩) (k := V.heap.size) (fun i u b h1 h2 => (SPk.out.lts.1 i u b h1 h2).2) (fun i ws j u b h1 h2 h3 => (SPk.out.lts.2 i ws j u b h1 h2 h3).2) HBk.out.size hq3.out SQR
            have HGB : Hid (U.heap[gb]? = some (.cells #[.int .i64 g.start, nv, .slice po k co] 25)) := hvb
            clear SQR hq3
            clear icn MK2 GVu hgb hvb hj0 hj1 hj2 hj3 MK hln
            go_wp2_with (at_builtin; refine wpList_append_lies _ rfl _ _ 23 rfl W2.heap.size 36 i3 (.agg #[.int .i64 0, .slice none 0 0]) 2 32 Try.underlying23 HI.out.1 HI.out.2.1 HI.out.2.2.1 HI.out.2.2.2 rfl (by decide) _ _ _ rfl (OR.out.alloc _) ⟨U.heap.size, 0, none⟩ 1 1 [.int .i64 r.head, .slice pc q cc] rfl rfl (World.news_of_block (cs := #[.int .i64 r.head, .slice pc q cc]) (t := 36) (fr := (0, 0)) (heap_alloc_new U _)) ONE.out (by decide) MXX.out BY.out (Nat.le_trans HWU (le_alloc _ _)) (U.heap.size + 1) (by simp) ?_; intro gg cap1 w2 hown1 hgrow hat hltg; obtain ⟨v0, v1⟩ := HVB.out _ _ hgrow)
            have FIN := GV.ruleE GVk.out HBq.out HIC.out HFC.out (take_len (by rw [← HN.out]; exact hk)) hgrow hown1 hat HTK.out
            obtain ⟨FI2, hst2⟩ := FIN
            have SP2 : Dp (w2.setCell ⟨gb, 2, none⟩ (.slice (some ⟨gg, 0, none⟩) (k + 1) cap1)) W2.heap.size (g.rules.take (k + 1)) (us ++ [.slice pc q cc]) (vss ++ [vs]) := by
              refine HDP.out.imp (fun n u xs h => ?_) (fun n u xs h => ?_)
              · exact ownsRow_setCell_other (a := ⟨gb, 2, none⟩) (row_grown (row_keep h (bel1 U _)) (row_keep OR.out (bel1 U _)) (by decide) hgrow) (row_no h (by decide) HGB.out) _
              · exact ownsRow_setCell_other (a := ⟨gb, 2, none⟩) (row_grown (row_keep h (bel1 U _)) (row_keep OR.out (bel1 U _)) (by decide) hgrow) (row_no h (by decide) HGB.out) _
            go_roundw
            case rel => exact ⟨k + 1, by omega, by go_num, _, _, _, _, FI2, SP2⟩
            case measure => simp [intOf]; omega
      · obtain rfl : k = n := by omega
        have hln : (g.rules.take k).length = k := take_len (by rw [← HN.out]; exact hk)
        obtain ⟨po, co, hvo⟩ := row_slice GVk.out.m0.oo
        rw [hln] at hvo
        subst hvo
        obtain ⟨pn, cn, hvn⟩ := row_slice GVk.out.on
        subst hvn
        have hz3 := HS2.out
        have hzV := HBk.out.size
        have c0 : V.cell? ⟨w.heap.size + 1, 0, none⟩ = some (.int .i64 0) := by rw [Lib.cell_of_heap y3]; rfl
        have c1' : V.cell? ⟨w.heap.size + 1, 1, none⟩ = some (.slice none 0 0) := by rw [Lib.cell_of_heap y3]; rfl
        have c2' : V.cell? ⟨w.heap.size + 1, 2, none⟩ = some (.slice none 0 0) := by rw [Lib.cell_of_heap y3]; rfl
        have f0 : ∀ j, V.frozen? ⟨w.heap.size + 1, j, none⟩ = false := fun j => by unfold World.frozen?; rw [y3]; simp
        have HY : Hid (V.heap[w.heap.size + 1]? = some (.cells #[.int .i64 0, .slice none 0 0, .slice none 0 0] 25)) := y3
        have HGR : Hid (GrIs V (fun i => W2.heap.size ≤ i) (.slice pn g.names.length cn) (.slice po k co) g) := by
          have hr := GVk.out.m0.rus
          refine ⟨Reads.of GVk.out.on (fun b e => (GVk.out.on.lt b e).1), ?_⟩
          have h2 := hr.2
          rw [HN.out, List.take_length] at h2
          rw [HN.out]
          exact h2.monoV (fun b e _ => (hr.1 b (by rw [HN.out]; exact e)).1)
        have HCP : Hid (CpD w g (.slice pn g.names.length cn) (.slice po k co) (((V.setCell ⟨w.heap.size + 1, 0, none⟩ (.int .i64 g.start)).setCell ⟨w.heap.size + 1, 1, none⟩ (.slice pn g.names.length cn)).setCell ⟨w.heap.size + 1, 2, none⟩ (.slice po k co))) := by
          have hG := GVk.out
          rw [show g.rules.take k = g.rules by rw [HN.out, List.take_length]] at hG
          have y4 : W2.heap[w.heap.size + 1]? = some (.cells #[.int .i64 0, .slice none 0 0, .slice none 0 0] 25) := (HQ.out W2 (Below.refl _ _)).2.2.2
          have hX := set3 HY.out (.int .i64 g.start) (.slice pn g.names.length cn) (.slice po k co)
          have hY := set3 y4 (.int .i64 g.start) (.slice pn g.names.length cn) (.slice po k co)
          obtain ⟨X, eX⟩ : ∃ X, X = (((V.setCell ⟨w.heap.size + 1, 0, none⟩ (.int .i64 g.start)).setCell ⟨w.heap.size + 1, 1, none⟩ (.slice pn g.names.length cn)).setCell ⟨w.heap.size + 1, 2, none⟩ (.slice po k co)) := ⟨_, rfl⟩
          obtain ⟨Y, eY⟩ : ∃ Y, Y = (((W2.setCell ⟨w.heap.size + 1, 0, none⟩ (.int .i64 g.start)).setCell ⟨w.heap.size + 1, 1, none⟩ (.slice pn g.names.length cn)).setCell ⟨w.heap.size + 1, 2, none⟩ (.slice po k co)) := ⟨_, rfl⟩
          have sX : X.heap.size = V.heap.size := by rw [eX]; simp [World.setCell]
          have sY : Y.heap.size = W2.heap.size := by rw [eY]; simp [World.setCell]
          have oX : ∀ i, i ≠ w.heap.size + 1 → X.heap[i]? = V.heap[i]? := fun i hne => by
            rw [eX]
            exact (Below.heap_setCell _ ⟨w.heap.size + 1, 2, none⟩ _ _ hne).trans ((Below.heap_setCell _ ⟨w.heap.size + 1, 1, none⟩ _ _ hne).trans (Below.heap_setCell _ ⟨w.heap.size + 1, 0, none⟩ _ _ hne))
          have oY : ∀ i, i ≠ w.heap.size + 1 → Y.heap[i]? = W2.heap[i]? := fun i hne => by
            rw [eY]
            exact (Below.heap_setCell _ ⟨w.heap.size + 1, 2, none⟩ _ _ hne).trans ((Below.heap_setCell _ ⟨w.heap.size + 1, 1, none⟩ _ _ hne).trans (Below.heap_setCell _ ⟨w.heap.size + 1, 0, none⟩ _ _ hne))
          have bY : Below w.heap.size w Y := by
            rw [eY]
            exact ((HB2.out.setCell (p := ⟨w.heap.size + 1, 0, none⟩) (by simp) _).setCell (p := ⟨w.heap.size + 1, 1, none⟩) (by simp) _).setCell (p := ⟨w.heap.size + 1, 2, none⟩) (by simp) _
          have pX : X.os = V.os ∧ X.tape = V.tape ∧ X.output = V.output := by rw [eX]; exact ⟨rfl, rfl, rfl⟩
          have pY : Y.os = W2.os ∧ Y.tape = W2.tape ∧ Y.output = W2.output := by rw [eY]; exact ⟨rfl, rfl, rfl⟩
          rw [← eX] at hX
          rw [← eY] at hY
          rw [← eX]
          clear eX eY
          have hs2 := HS2.out
          show CpD _ _ _ _ _
          refine ⟨Y, Fk, us, bY, ⟨fun b hF => ?_, ?_, hG.m0.no, hG.m0.ri.keep ⟨by rw [sX]; exact Nat.le_refl _, fun b hF => oX b (by have := (hG.m0.fl b hF).1; omega)⟩ (fun _ h => h), ?_⟩, ?_, hG.nn, ?_⟩
          rotate_left 4
          · have hsp := SPk.out
            rw [show g.rules.take k = g.rules by rw [HN.out, List.take_length]] at hsp
            refine ⟨vss, ?_⟩
            rw [sY]
            exact hsp.imp (fun n u xs h => row_block (w' := X) h (fun b hb _ => oX b (by omega))) (fun n u xs h => row_block (w' := X) h (fun b hb _ => oX b (by omega)))
          · have := hG.m0.fl b hF
            rw [sX, sY]; exact this
          · have h9 := row_block (w' := X) hG.m0.oo (fun b hb _ => oX b (by omega))
            rw [sY]; exact h9
          · refine ⟨?_, ?_, ?_, ?_, fun i hi => ?_⟩
            · rw [pX.1, pY.1]; exact HBk.out.os
            · rw [pX.2.1, pY.2.1]; exact HBk.out.tape
            · rw [pX.2.2, pY.2.2]; exact HBk.out.output
            · rw [sX, sY]; exact HBk.out.size
            · rw [sY] at hi
              by_cases e : i = w.heap.size + 1
              · rw [e, hX, hY]
              · rw [oX i e, oY i e]; exact HBk.out.block i hi
          · have h9 := row_block (w' := X) hG.on (fun b hb _ => oX b (by omega))
            rw [sY]; exact h9
        clear y0 y1 y3 hz3
        go_wp2
        have h3 := set3 HY.out (.int .i64 g.start) (.slice pn g.names.length cn) (.slice po k co)
        have hst : Stay (fun i => W2.heap.size ≤ i) V (((V.setCell ⟨w.heap.size + 1, 0, none⟩ (.int .i64 g.start)).setCell ⟨w.heap.size + 1, 1, none⟩ (.slice pn g.names.length cn)).setCell ⟨w.heap.size + 1, 2, none⟩ (.slice po k co)) := by
          refine ⟨by simp [World.setCell], fun i hi => ?_⟩
          have hne : i ≠ w.heap.size + 1 := by have := HS2.out; omega
          exact (Below.heap_setCell _ ⟨w.heap.size + 1, 2, none⟩ _ _ hne).trans ((Below.heap_setCell _ ⟨w.heap.size + 1, 1, none⟩ _ _ hne).trans (Below.heap_setCell _ ⟨w.heap.size + 1, 0, none⟩ _ _ hne))
        have HGF : Hid (GrIs (((V.setCell ⟨w.heap.size + 1, 0, none⟩ (.int .i64 g.start)).setCell ⟨w.heap.size + 1, 1, none⟩ (.slice pn g.names.length cn)).setCell ⟨w.heap.size + 1, 2, none⟩ (.slice po k co)) (fun i => w.heap.size ≤ i) (.slice pn g.names.length cn) (.slice po k co) g) := ⟨Reads.keep HGR.out.1 hst (fun i hi => by have := HS2.out; omega), HGR.out.2.keep hst (fun i hi => by have := HS2.out; omega)⟩
        have HBF : Hid (Below w.heap.size w (((V.setCell ⟨w.heap.size + 1, 0, none⟩ (.int .i64 g.start)).setCell ⟨w.heap.size + 1, 1, none⟩ (.slice pn g.names.length cn)).setCell ⟨w.heap.size + 1, 2, none⟩ (.slice po k co))) := (((HB2.out.trans (HBk.out.mono HB2.out.size)).setCell (p := ⟨w.heap.size + 1, 0, none⟩) (by simp) _).setCell (p := ⟨w.heap.size + 1, 1, none⟩) (by simp) _).setCell (p := ⟨w.heap.size + 1, 2, none⟩) (by simp) _
        have k0 : (((V.setCell ⟨w.heap.size + 1, 0, none⟩ (.int .i64 g.start)).setCell ⟨w.heap.size + 1, 1, none⟩ (.slice pn g.names.length cn)).setCell ⟨w.heap.size + 1, 2, none⟩ (.slice po k co)).cell? ⟨w.heap.size + 1, 0, none⟩ = some (.int .i64 g.start) := by rw [Lib.cell_of_heap h3]; rfl
        have k1 : (((V.setCell ⟨w.heap.size + 1, 0, none⟩ (.int .i64 g.start)).setCell ⟨w.heap.size + 1, 1, none⟩ (.slice pn g.names.length cn)).setCell ⟨w.heap.size + 1, 2, none⟩ (.slice po k co)).cell? ⟨w.heap.size + 1, 1, none⟩ = some (.slice pn g.names.length cn) := by rw [Lib.cell_of_heap h3]; rfl
        have k2 : (((V.setCell ⟨w.heap.size + 1, 0, none⟩ (.int .i64 g.start)).setCell ⟨w.heap.size + 1, 1, none⟩ (.slice pn g.names.length cn)).setCell ⟨w.heap.size + 1, 2, none⟩ (.slice po k co)).cell? ⟨w.heap.size + 1, 2, none⟩ = some (.slice po k co) := by rw [Lib.cell_of_heap h3]; rfl
        refine bodyPost_ret (v := .agg #[.int .i64 g.start, .slice pn g.names.length cn, .slice po k co]) (by simp [results, Try.results9, go_sem, k0, k1, k2]) rfl ?_
        exact ⟨_, _, rfl, HGF, HBF, HCP⟩
theorem copyGr_deepAny (g : Gr) (v1 v2 : Value) (w : World) {F : Nat → Prop} (hg : GrIs w F v1 v2 g) (hz : GSz reachBytes g) :
    Calls Try.prog 9 #[.agg #[.int .i64 g.start, v1, v2]] w fun e w' => ∃ u1 u2, e = .returned (.agg #[.int .i64 g.start, u1, u2]) ∧ Hid (GrIs w' (fun i => w.heap.size ≤ i) u1 u2 g) ∧ Hid (Below w.heap.size w w') :=
  (copyGr_deep g v1 v2 w hg hz).mono fun e w' ⟨u1, u2, h1, h2, h3, _⟩ => ⟨u1, u2, h1, h2, h3⟩
end Go.Proofs.Ytdoibpgkfdpbdaa
