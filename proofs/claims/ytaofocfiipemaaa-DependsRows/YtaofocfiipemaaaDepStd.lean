/- stands of layer 6: an edge that stands in a rule is found. -/
import Derived.Test.YtaofocfiipemaaaDepSame
namespace Go.Proofs.Ytaofocfiipemaaa
set_option linter.unusedVariables false
open Go.ChangeShapes Go.WideShapes Go.ChangeAt Go.RowKit

theorem IsSys.at {w : World} {F : Nat → Prop} {p : Option Addr} {n c : Nat} {l : List Sy} (h : IsSys w F (.slice p n c) l) {k : Nat} {e : Sy} (hk : l[k]? = some e) : ∃ g o, p = some ⟨g, o, none⟩ ∧ g < w.heap.size ∧ w.cell? ⟨g, o + k * 3, none⟩ = some (.int .i64 e.name) ∧ w.cell? ⟨g, o + k * 3 + 1, none⟩ = some (.int .i64 e.lo) ∧ w.cell? ⟨g, o + k * 3 + 2, none⟩ = some (.int .i64 e.hi) := by
  obtain ⟨p2, c2, e2, _, hc⟩ := h
  injection e2 with e3
  subst e3
  have hlt := (List.getElem?_eq_some_iff.1 hk).1
  obtain ⟨g, o, e9, _, hg, cc, _⟩ := hc (by omega)
  obtain ⟨a0, a1, a2⟩ := sysV_at l k e hk
  exact ⟨g, o, e9, hg, cc _ _ a0, by rw [Nat.add_assoc]; exact cc _ _ a1, by rw [Nat.add_assoc]; exact cc _ _ a2⟩
theorem IsSys.max {w : World} {F : Nat → Prop} {v : Value} {l : List Sy} (h : IsSys w F v l) : l.length ≤ maxLen := by
  obtain ⟨_, _, _, h, _⟩ := h
  exact h.1
theorem drop_cons {α : Type} {l : List α} {k : Nat} {a : α} (h : l[k]? = some a) : l.drop k = a :: l.drop (k + 1) := by
  have hlt := (List.getElem?_eq_some_iff.1 h).1
  rw [List.drop_eq_getElem_cons hlt, (List.getElem?_eq_some_iff.1 h).2]
set_option maxHeartbeats 8000000 in
set_option maxRecDepth 100000 in
theorem stands_yes (g : Gr) (v1 v2 : Value) (x : Ed) (w : World) {F : Nat → Prop} (hg : GrIs w F v1 v2 g) (hM : mayG g = true) (hx : x ∈ allE g.rules) :
    Calls Try.prog 22 #[.agg #[.int .i64 g.start, v1, v2], .agg #[.int .i64 x.1, .int .i64 x.2.1, .bool x.2.2]] w fun e w' => e = .returned (.bool true) ∧ Hid (Below w.heap.size w w') := by
  obtain ⟨p1, c1, l1, hv1⟩ : ∃ p n c, v1 = .slice p n c := by obtain ⟨p, c, e, _⟩ := hg.1; exact ⟨_, _, _, e⟩
  obtain ⟨p2, c2, hv2⟩ := hg.2.slc
  subst hv1 hv2
  obtain ⟨x0, x1, x2⟩ := x
  have HM : Hid (mayG g = true) := hM
  obtain ⟨n, hnn⟩ : ∃ n, n = g.rules.length := ⟨_, rfl⟩
  have hn6 : n ≤ 256 := by
    unfold mayG mayRules at hM
    simp only [Bool.and_eq_true, decide_eq_true_eq] at hM
    rw [hnn]; exact hM.2.2.2.2.1
  have HN : Hid (n = g.rules.length) := hnn
  have HX : Hid ((x0, x1, x2) ∈ allE g.rules) := hx
  show Calls Try.prog 22 #[.agg #[.int .i64 g.start, .slice p1 c1 l1, .slice p2 g.rules.length c2], .agg #[.int .i64 x0, .int .i64 x1, .bool x2]] w _
  rw [← hnn]
  obtain ⟨W1, hW1⟩ : ∃ W1, W1 = (w.alloc (.cells #[.int .i64 g.start, .slice p1 c1 l1, .slice p2 n c2] 25)).alloc (.cells #[.int .i64 x0, .int .i64 x1, .bool x2] 40) := ⟨_, rfl⟩
  have HW1 : Hid (Below w.heap.size w W1) := by rw [hW1]; exact (bel1 w _).alloc (by simp) _
  have hz : W1.heap.size = w.heap.size + 2 := by rw [hW1]; simp
  have HG : Hid (IsRus W1 F (.slice p2 n c2) g.rules) := by have := hg.2.any HW1.out; rw [← hnn] at this; exact this
  have HQ : Hid (∀ w', Below W1.heap.size W1 w' → w'.cell? ⟨w.heap.size, 2, none⟩ = some (.slice p2 n c2) ∧ w'.cell? ⟨w.heap.size + 1, 0, none⟩ = some (.int .i64 x0) ∧ w'.cell? ⟨w.heap.size + 1, 1, none⟩ = some (.int .i64 x1) ∧ w'.cell? ⟨w.heap.size + 1, 2, none⟩ = some (.bool x2)) := fun w' hb => by
    have q1 : ∀ j, W1.cell? ⟨w.heap.size, j, none⟩ = (#[.int .i64 g.start, .slice p1 c1 l1, .slice p2 n c2] : Array Value)[j]? := fun j => by
      rw [hW1, World.cell?_alloc_past _ _ _ (by simp)]; exact World.cell?_alloc_at _ _ _ _ rfl
    have q2 : ∀ j, W1.cell? ⟨w.heap.size + 1, j, none⟩ = (#[.int .i64 x0, .int .i64 x1, .bool x2] : Array Value)[j]? := fun j => by
      rw [hW1]; exact World.cell?_alloc_at _ _ _ _ (by simp)
    exact ⟨(hb.cell (p := ⟨_, _, none⟩) (by simp; omega)).trans (q1 2), (hb.cell (p := ⟨_, _, none⟩) (by simp; omega)).trans (q2 0), (hb.cell (p := ⟨_, _, none⟩) (by simp; omega)).trans (q2 1), (hb.cell (p := ⟨_, _, none⟩) (by simp; omega)).trans (q2 2)⟩
  clear hg hM hx hnn
  go_enter Try.func22, Try.ntmps22
  go_wp2
  rw [← hW1]
  clear hW1 hz
  go_loopw [5] (fun i wr => ∃ k : Nat, k ≤ n ∧ i = .int .i64 k ∧ Hid (Below W1.heap.size W1 wr) ∧ Hid ((x0, x1, x2) ∈ allE (g.rules.drop k))) (fun i _ => n - (intOf i).toNat)
  case atStart => exact ⟨0, Nat.zero_le _, rfl, Below.refl _ _, HX⟩
  case round =>
    obtain ⟨k, hk, rfl, HBr, HXr⟩ := hrel
    obtain ⟨V, hV⟩ : ∃ V, V = wr := ⟨_, rfl⟩
    subst hV
    obtain ⟨y0, y1, y2, y3⟩ := HQ.out _ HBr.out
    by_cases hlt : k < n
    · obtain ⟨r, ht⟩ : ∃ r, g.rules[k]? = some r := ⟨_, List.getElem?_eq_getElem (by rw [← HN.out]; exact hlt)⟩
      have hrm : r ∈ g.rules := List.mem_of_getElem? ht
      have HXs := HXr.out
      rw [drop_cons ht] at HXs
      have HX2 : Hid ((x0, x1, x2) ∈ cnsE r.head r.conj ∨ (x0, x1, x2) ∈ allE (g.rules.drop (k + 1))) := by
        unfold allE at HXs; exact List.mem_append.1 HXs
      obtain ⟨m, hmn⟩ : ∃ m, m = r.conj.length := ⟨_, rfl⟩
      have HMN : Hid (m = r.conj.length) := hmn
      have hm8 : m ≤ 8 := by rw [hmn]; exact mayG_conj HM.out r hrm
      have HSL : Hid (∀ c, c ∈ r.conj → c.seq.length ≤ 64) := mayG_seq HM.out r hrm
      clear hmn HXs
      go_wp2
      go_loopw [6] (fun i wr => ∃ q : Nat, q ≤ m ∧ i = .int .i64 q ∧ Hid (Below W1.heap.size W1 wr) ∧ Hid ((x0, x1, x2) ∈ cnsE r.head (r.conj.drop q) ∨ (x0, x1, x2) ∈ allE (g.rules.drop (k + 1)))) (fun i _ => m - (intOf i).toNat)
      case atStart => exact ⟨0, Nat.zero_le _, rfl, HBr, HX2⟩
      case round =>
        obtain ⟨q, hq, rfl, HBq, HXq⟩ := hrel
        obtain ⟨U, hU⟩ : ∃ U, U = wr := ⟨_, rfl⟩
        subst hU
        clear y0 y1 y2 y3
        obtain ⟨y0, y1, y2, y3⟩ := HQ.out _ HBq.out
        obtain ⟨g1, o1, u, hp, a0, a1, icn⟩ := (HG.out.any HBq.out).row ht
        subst hp
        obtain ⟨p3, c3, hu⟩ := icn.slc
        rw [← HMN.out] at hu
        subst hu
        by_cases hlq : q < m
        · obtain ⟨c, hcc⟩ : ∃ c, r.conj[q]? = some c := ⟨_, List.getElem?_eq_getElem (by rw [← HMN.out]; exact hlq)⟩
          obtain ⟨g2, o2, u2, hp2, d0, d1, isy⟩ := icn.row hcc
          subst hp2
          obtain ⟨p4, c4, hu2⟩ := isy.slc
          subst hu2
          have HXs := HXq.out
          rw [drop_cons hcc] at HXs
          obtain ⟨t, htn⟩ : ∃ t, t = c.seq.length := ⟨_, rfl⟩
          have HTN : Hid (t = c.seq.length) := htn
          have ht64 : t ≤ 64 := by rw [htn]; exact HSL.out c (List.mem_of_getElem? hcc)
          have HX3 : Hid ((x0, x1, x2) ∈ seqE r.head c.neg c.seq ∨ (x0, x1, x2) ∈ cnsE r.head (r.conj.drop (q + 1)) ∨ (x0, x1, x2) ∈ allE (g.rules.drop (k + 1))) := by
            show _ ∨ _ ∨ _
            rcases HXs with h | h
            · unfold cnsE at h
              rcases List.mem_append.1 h with h | h
              · exact Or.inl h
              · exact Or.inr (Or.inl h)
            · exact Or.inr (Or.inr h)
          have HIS : Hid (IsSys U F (.slice p4 t c4) c.seq) := by rw [htn]; exact isy
          rw [← htn] at d1
          obtain ⟨n3, hn3⟩ : ∃ n3, n3 = U.heap.size := ⟨_, rfl⟩
          have HN3 : Hid (n3 = U.heap.size) := hn3
          clear isy htn HXs icn
          go_wp2
          rw [← hn3]
          clear hn3
          go_loopw [8] (fun i wr => ∃ e : Nat, e ≤ t ∧ i = .int .i64 e ∧ Hid (Below U.heap.size U wr) ∧ Hid ((x0, x1, x2) ∈ seqE r.head c.neg (c.seq.drop e) ∨ (x0, x1, x2) ∈ cnsE r.head (r.conj.drop (q + 1)) ∨ (x0, x1, x2) ∈ allE (g.rules.drop (k + 1))) ∧ wr.cell? ⟨n3, 0, none⟩ = some (.bool c.neg) ∧ wr.cell? ⟨n3, 1, none⟩ = some (.slice p4 t c4)) (fun i _ => t - (intOf i).toNat)
          case atStart => exact ⟨0, Nat.zero_le _, rfl, bel1 _ _, HX3, by rw [HN3.out]; exact World.cell?_alloc_at _ _ _ _ rfl, by rw [HN3.out]; exact World.cell?_alloc_at _ _ _ _ rfl⟩
          case round =>
            obtain ⟨e, he, rfl, HBe, HXe, z0, z1⟩ := hrel
            have HB1 : Hid (Below W1.heap.size W1 wr) := HBq.out.trans (HBe.out.mono HBq.out.size)
            by_cases hle : e < t
            · obtain ⟨s, hs⟩ : ∃ s, c.seq[e]? = some s := ⟨_, List.getElem?_eq_getElem (by rw [← HTN.out]; exact hle)⟩
              obtain ⟨g5, o5, hp5, -, b0, -, -⟩ := (HIS.out.any HBe.out).at hs
              subst hp5
              clear y0 y1 y2 y3
              obtain ⟨y0, y1, y2, y3⟩ := HQ.out _ HB1.out
              obtain ⟨g9, o9, u9, hp9, f0, -, -⟩ := (HG.out.any HB1.out).row ht
              injection hp9 with hp9
              injection hp9 with e9 e9'
              subst e9 e9'
              have HXs := HXe.out
              rw [drop_cons hs] at HXs
              have HX4 : Hid (¬ (r.head = x0 ∧ c.neg = x2 ∧ s.name = x1) → ((x0, x1, x2) ∈ seqE r.head c.neg (c.seq.drop (e + 1)) ∨ (x0, x1, x2) ∈ cnsE r.head (r.conj.drop (q + 1)) ∨ (x0, x1, x2) ∈ allE (g.rules.drop (k + 1)))) := fun hne => by
                rcases HXs with h | h
                · unfold seqE at h
                  split at h
                  · exact Or.inl h
                  · rcases List.mem_cons.1 h with h | h
                    · simp only [Prod.mk.injEq] at h
                      exact absurd ⟨h.1.symm, h.2.2.symm, h.2.1.symm⟩ hne
                    · exact Or.inl h
                · exact Or.inr h
              clear HXs a0 a1 d0 d1
              by_cases k1 : r.head = x0
              · have k1' : (r.head == x0) = true := by simpa using k1
                by_cases k2 : c.neg = x2
                · have k2' : (c.neg == x2) = true := by simpa using k2
                  by_cases k3 : s.name = x1
                  · have k3' : (s.name == x1) = true := by simpa using k3
                    have HBf : Hid (Below w.heap.size w wr) := HW1.out.trans (HB1.out.mono HW1.out.size)
                    clear HX4 k1 k2 k3
                    go_wp2
                    go_quiet (fail)
                    go_wp2
                    go_ret
                    exact ⟨rfl, HBf.out.os, HBf.out.tape, HBf.out.output, HBf.out.size, HBf.out.block⟩
                  · have k3' : (s.name == x1) = false := by simpa using k3
                    have HX6 : Hid _ := HX4.out (fun h => k3 h.2.2)
                    clear HX4 k1 k2 k3
                    go_wp2
                    go_quiet (fail)
                    go_wp2
                    go_roundw
                    case rel => exact ⟨e + 1, by omega, by go_num, ⟨HBe.out.os, HBe.out.tape, HBe.out.output, HBe.out.size, HBe.out.block⟩, HX6, z0, z1⟩
                    case measure => simp [intOf]; omega
                · have k2' : (c.neg == x2) = false := by simpa using k2
                  have HX6 : Hid _ := HX4.out (fun h => k2 h.2.1)
                  clear HX4 k1 k2
                  go_wp2
                  go_quiet (fail)
                  go_wp2
                  go_roundw
                  case rel => exact ⟨e + 1, by omega, by go_num, ⟨HBe.out.os, HBe.out.tape, HBe.out.output, HBe.out.size, HBe.out.block⟩, HX6, z0, z1⟩
                  case measure => simp [intOf]; omega
              · have k1' : (r.head == x0) = false := by simpa using k1
                have HX6 : Hid _ := HX4.out (fun h => k1 h.1)
                clear HX4 k1
                go_wp2
                go_quiet (fail)
                go_wp2
                go_roundw
                case rel => exact ⟨e + 1, by omega, by go_num, ⟨HBe.out.os, HBe.out.tape, HBe.out.output, HBe.out.size, HBe.out.block⟩, HX6, z0, z1⟩
                case measure => simp [intOf]; omega
            · obtain rfl : e = t := by omega
              have HX5 : Hid ((x0, x1, x2) ∈ cnsE r.head (r.conj.drop (q + 1)) ∨ (x0, x1, x2) ∈ allE (g.rules.drop (k + 1))) := by
                have h := HXe.out
                rw [HTN.out, List.drop_length] at h
                rcases h with h | h
                · simp [seqE] at h
                · exact h
              go_wp2
              go_roundw
              case rel => exact ⟨q + 1, by omega, by go_num, HB1, HX5⟩
              case measure => simp [intOf]; omega
        · obtain rfl : q = m := by omega
          have HX5 : Hid ((x0, x1, x2) ∈ allE (g.rules.drop (k + 1))) := by
            have h := HXq.out
            rw [HMN.out, List.drop_length] at h
            rcases h with h | h
            · simp [cnsE] at h
            · exact h
          go_wp2
          go_roundw
          case rel => exact ⟨k + 1, by omega, by go_num, HBq, HX5⟩
          case measure => simp [intOf]; omega
    · obtain rfl : k = n := by omega
      have h := HXr.out
      rw [HN.out, List.drop_length] at h
      simp [allE] at h
end Go.Proofs.Ytaofocfiipemaaa
