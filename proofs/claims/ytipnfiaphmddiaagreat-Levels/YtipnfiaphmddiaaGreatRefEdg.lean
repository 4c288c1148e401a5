import Derived.Test.YtipnfiaphmddiaaGreatDepSame
import Derived.Test.YtipnfiaphmddiaaGreatRefMayG
import Derived.Test.YtipnfiaphmddiaaGreatRefMayE
/- templeref6.needs: the document's own question whether a name needs another one. -/
namespace Go.Proofs.YtipnfiaphmddiaaGreat
set_option linter.unusedVariables false
open Go.ChangeShapes Go.WideShapes Go.ChangeAt Go.RowKit

theorem seqE_cons (h : Int) (n : Bool) (s : Sy) (l : List Sy) : seqE h n (s :: l) = if s.name = -1 then seqE h n l else (h, s.name, n) :: seqE h n l := rfl
set_option maxHeartbeats 8000000 in
set_option maxRecDepth 100000 in
theorem needs_any (g : Gr) (v1 v2 : Value) (x0 x1 : Int) (x2 : Bool) (w : World) {F : Nat → Prop} (hg : GrIs w F v1 v2 g) (hM : mayG g = true) (hx1 : 0 ≤ x1) :
    Calls Tryz.prog 29 #[.agg #[.int .i64 g.start, v1, v2], .int .i64 x0, .int .i64 x1, .bool x2] w fun e w' => e = .returned (.bool (decide ((x0, x1, x2) ∈ allE g.rules))) ∧ Hid (Below w.heap.size w w') := by
  obtain ⟨p1, c1, l1, hv1⟩ : ∃ p n c, v1 = .slice p n c := by obtain ⟨p, c, e, _⟩ := hg.1; exact ⟨_, _, _, e⟩
  obtain ⟨p2, c2, hv2⟩ := hg.2.slc
  subst hv1 hv2
  have HM : Hid (mayG g = true) := hM
  obtain ⟨n, hnn⟩ : ∃ n, n = g.rules.length := ⟨_, rfl⟩
  have hn6 : n ≤ 256 := by
    unfold mayG mayRules at hM
    simp only [Bool.and_eq_true, decide_eq_true_eq] at hM
    rw [hnn]; exact hM.2.2.2.2.1
  have HN : Hid (n = g.rules.length) := hnn
  have HX1 : Hid (0 ≤ x1) := hx1
  rw [← hnn]
  obtain ⟨W1, hW1⟩ : ∃ W1, W1 = w.alloc (.cells #[.int .i64 g.start, .slice p1 c1 l1, .slice p2 n c2] 25) := ⟨_, rfl⟩
  have HW1 : Hid (Below w.heap.size w W1) := by rw [hW1]; exact bel1 w _
  have hz : W1.heap.size = w.heap.size + 1 := by rw [hW1]; simp
  have HG : Hid (IsRus W1 F (.slice p2 n c2) g.rules) := by have := hg.2.any HW1.out; rw [← hnn] at this; exact this
  have HQ : Hid (∀ w', Below W1.heap.size W1 w' → w'.cell? ⟨w.heap.size, 2, none⟩ = some (.slice p2 n c2)) := fun w' hb => by
    have q1 : ∀ j, W1.cell? ⟨w.heap.size, j, none⟩ = (#[.int .i64 g.start, .slice p1 c1 l1, .slice p2 n c2] : Array Value)[j]? := fun j => by rw [hW1]; exact World.cell?_alloc_at _ _ _ _ rfl
    exact (hb.cell (p := ⟨_, _, none⟩) (by simp; omega)).trans (q1 2)
  obtain ⟨R, hR⟩ : ∃ R, R = decide ((x0, x1, x2) ∈ allE g.rules) := ⟨_, rfl⟩
  have HR0 : Hid (R = decide ((x0, x1, x2) ∈ allE (g.rules.drop 0))) := by show _ = _; rw [hR, List.drop_zero]
  rw [← hR]
  clear hg hM hnn hx1 hR
  go_enter Tryz.func29, Tryz.ntmps29
  go_wp2
  rw [← hW1]
  clear hW1 hz
  go_loopw [9] (fun i wr => ∃ k : Nat, k ≤ n ∧ i = .int .i64 k ∧ Hid (Below W1.heap.size W1 wr) ∧ Hid (R = decide ((x0, x1, x2) ∈ allE (g.rules.drop k)))) (fun i _ => n - (intOf i).toNat)
  case atStart => exact ⟨0, Nat.zero_le _, rfl, Below.refl _ _, HR0⟩
  case round =>
    obtain ⟨k, hk, rfl, HBr, HXr⟩ := hrel
    obtain ⟨V, hV⟩ : ∃ V, V = wr := ⟨_, rfl⟩
    subst hV
    have y0 := HQ.out _ HBr.out
    by_cases hlt : k < n
    · obtain ⟨r, ht⟩ : ∃ r, g.rules[k]? = some r := ⟨_, List.getElem?_eq_getElem (by rw [← HN.out]; exact hlt)⟩
      have hrm : r ∈ g.rules := List.mem_of_getElem? ht
      obtain ⟨g1, o1, u, hp, a0, a1, icn⟩ := (HG.out.any HBr.out).row ht
      subst hp
      have hsplit : R = decide ((x0, x1, x2) ∈ cnsE r.head r.conj ∨ (x0, x1, x2) ∈ allE (g.rules.drop (k + 1))) := by
        rw [HXr.out, drop_cons ht]
        show decide (_ ∈ cnsE r.head r.conj ++ allE (g.rules.drop (k + 1))) = _
        simp only [List.mem_append]
      by_cases hh : r.head = x0
      · have hh' : (r.head != x0) = false := by simpa using hh
        obtain ⟨m, hmn⟩ : ∃ m, m = r.conj.length := ⟨_, rfl⟩
        have HMN : Hid (m = r.conj.length) := hmn
        have hm8 : m ≤ 8 := by rw [hmn]; exact mayG_conj HM.out r hrm
        have HSL : Hid (∀ c, c ∈ r.conj → c.seq.length ≤ 64) := mayG_seq HM.out r hrm
        have HR1 : Hid (R = decide ((x0, x1, x2) ∈ cnsE r.head (r.conj.drop 0) ∨ (x0, x1, x2) ∈ allE (g.rules.drop (k + 1)))) := by show _ = _; rw [hsplit, List.drop_zero]
        have HHH : Hid (r.head = x0) := hh
        clear hmn hsplit hh
        go_wp2
        go_loopw [10] (fun i wr => ∃ q : Nat, q ≤ m ∧ i = .int .i64 q ∧ Hid (Below W1.heap.size W1 wr) ∧ Hid (R = decide ((x0, x1, x2) ∈ cnsE r.head (r.conj.drop q) ∨ (x0, x1, x2) ∈ allE (g.rules.drop (k + 1))))) (fun i _ => m - (intOf i).toNat)
        case atStart => exact ⟨0, Nat.zero_le _, rfl, HBr, HR1⟩
        case round =>
          obtain ⟨q, hq, rfl, HBq, HXq⟩ := hrel
          obtain ⟨U, hU⟩ : ∃ U, U = wr := ⟨_, rfl⟩
          subst hU
          clear y0 a0 a1 icn
          have y0 := HQ.out _ HBq.out
          obtain ⟨g9, o9, u9, hp9, a0, a1, icn⟩ := (HG.out.any HBq.out).row ht
          injection hp9 with hp9
          injection hp9 with e9 e9'
          subst e9 e9'
          obtain ⟨p3, c3, hu⟩ := icn.slc
          rw [← HMN.out] at hu
          subst hu
          by_cases hlq : q < m
          · obtain ⟨c, hcc⟩ : ∃ c, r.conj[q]? = some c := ⟨_, List.getElem?_eq_getElem (by rw [← HMN.out]; exact hlq)⟩
            obtain ⟨g2, o2, u2, hp2, d0, d1, isy⟩ := icn.row hcc
            subst hp2
            obtain ⟨p4, c4, hu2⟩ := isy.slc
            subst hu2
            obtain ⟨t, htn⟩ : ∃ t, t = c.seq.length := ⟨_, rfl⟩
            have HTN : Hid (t = c.seq.length) := htn
            have ht64 : t ≤ 64 := by rw [htn]; exact HSL.out c (List.mem_of_getElem? hcc)
            have hsp : R = decide ((x0, x1, x2) ∈ seqE r.head c.neg (c.seq.drop 0) ∨ (x0, x1, x2) ∈ cnsE r.head (r.conj.drop (q + 1)) ∨ (x0, x1, x2) ∈ allE (g.rules.drop (k + 1))) := by
              rw [HXq.out, drop_cons hcc, List.drop_zero]
              show decide (_ ∈ seqE r.head c.neg c.seq ++ cnsE r.head (r.conj.drop (q + 1)) ∨ _) = _
              simp only [List.mem_append, or_assoc]
            have HR2 : Hid (R = decide ((x0, x1, x2) ∈ seqE r.head c.neg (c.seq.drop 0) ∨ (x0, x1, x2) ∈ cnsE r.head (r.conj.drop (q + 1)) ∨ (x0, x1, x2) ∈ allE (g.rules.drop (k + 1)))) := hsp
            have HIS : Hid (IsSys U F (.slice p4 t c4) c.seq) := by rw [htn]; exact isy
            rw [← htn] at d1
            obtain ⟨n3, hn3⟩ : ∃ n3, n3 = U.heap.size := ⟨_, rfl⟩
            have HN3 : Hid (n3 = U.heap.size) := hn3
            clear isy htn hsp icn
            go_wp2
            rw [← hn3]
            clear hn3
            go_loopw [12] (fun i wr => ∃ e : Nat, e ≤ t ∧ i = .int .i64 e ∧ Hid (Below U.heap.size U wr) ∧ Hid (R = decide ((x0, x1, x2) ∈ seqE r.head c.neg (c.seq.drop e) ∨ (x0, x1, x2) ∈ cnsE r.head (r.conj.drop (q + 1)) ∨ (x0, x1, x2) ∈ allE (g.rules.drop (k + 1)))) ∧ wr.cell? ⟨n3, 0, none⟩ = some (.bool c.neg) ∧ wr.cell? ⟨n3, 1, none⟩ = some (.slice p4 t c4)) (fun i _ => t - (intOf i).toNat)
            case atStart => exact ⟨0, Nat.zero_le _, rfl, bel1 _ _, HR2, by rw [HN3.out]; exact World.cell?_alloc_at _ _ _ _ rfl, by rw [HN3.out]; exact World.cell?_alloc_at _ _ _ _ rfl⟩
            case round =>
              obtain ⟨e, he, rfl, HBe, HXe, z0, z1⟩ := hrel
              have HB1 : Hid (Below W1.heap.size W1 wr) := HBq.out.trans (HBe.out.mono HBq.out.size)
              have HBf : Hid (Below w.heap.size w wr) := HW1.out.trans (HB1.out.mono HW1.out.size)
              by_cases hng : c.neg = x2
              · have hng' : (c.neg == x2) = true := by simpa using hng
                by_cases hle : e < t
                · obtain ⟨s, hs⟩ : ∃ s, c.seq[e]? = some s := ⟨_, List.getElem?_eq_getElem (by rw [← HTN.out]; exact hle)⟩
                  obtain ⟨g5, o5, hp5, -, b0, -, -⟩ := (HIS.out.any HBe.out).at hs
                  subst hp5
                  have hsp : R = decide ((x0, x1, x2) ∈ seqE r.head c.neg (s :: c.seq.drop (e + 1)) ∨ (x0, x1, x2) ∈ cnsE r.head (r.conj.drop (q + 1)) ∨ (x0, x1, x2) ∈ allE (g.rules.drop (k + 1))) := by rw [HXe.out, drop_cons hs]
                  by_cases hsn : s.name = x1
                  · have hsn' : (s.name == x1) = true := by simpa using hsn
                    have HRT : Hid (R = true) := by
                      show _ = _
                      rw [hsp, decide_eq_true_iff]
                      left
                      rw [seqE_cons]
                      rw [if_neg (by have := HX1.out; omega), HHH.out, hsn, hng]
                      exact List.mem_cons_self
                    clear hsp hsn hng
                    go_wp2
                    go_ret
                    exact ⟨by rw [HRT.out]; rfl, HBf⟩
                  · have hsn' : (s.name == x1) = false := by simpa using hsn
                    have HR3 : Hid (R = decide ((x0, x1, x2) ∈ seqE r.head c.neg (c.seq.drop (e + 1)) ∨ (x0, x1, x2) ∈ cnsE r.head (r.conj.drop (q + 1)) ∨ (x0, x1, x2) ∈ allE (g.rules.drop (k + 1)))) := by
                      show _ = _
                      rw [hsp, seqE_cons]
                      split
                      · rfl
                      · congr 1
                        rw [List.mem_cons]
                        apply propext
                        constructor
                        · rintro ((h | h) | h)
                          · simp only [Prod.mk.injEq] at h
                            exact absurd h.2.1.symm hsn
                          · exact Or.inl h
                          · exact Or.inr h
                        · rintro (h | h)
                          · exact Or.inl (Or.inr h)
                          · exact Or.inr h
                    clear hsp hsn hng
                    go_wp2
                    go_roundw
                    case rel => exact ⟨e + 1, by omega, by go_num, HBe, HR3, z0, z1⟩
                    case measure => simp [intOf]; omega
                · obtain rfl : e = t := by omega
                  have HR4 : Hid (R = decide ((x0, x1, x2) ∈ cnsE r.head (r.conj.drop (q + 1)) ∨ (x0, x1, x2) ∈ allE (g.rules.drop (k + 1)))) := by
                    show _ = _
                    rw [HXe.out, HTN.out, List.drop_length]
                    simp [seqE]
                  clear hng
                  go_wp2
                  go_roundw
                  case rel => exact ⟨q + 1, by omega, by go_num, HB1, HR4⟩
                  case measure => simp [intOf]; omega
              · have hng' : (c.neg == x2) = false := by simpa using hng
                have HR4 : Hid (R = decide ((x0, x1, x2) ∈ cnsE r.head (r.conj.drop (q + 1)) ∨ (x0, x1, x2) ∈ allE (g.rules.drop (k + 1)))) := by
                  show _ = _
                  rw [HXe.out]
                  congr 1
                  apply propext
                  constructor
                  · rintro (h | h)
                    · rw [mem_seqE] at h
                      exact absurd h.2.1.symm hng
                    · exact h
                  · exact Or.inr
                clear hng
                by_cases hle : e < t
                · go_wp2
                  go_roundw
                  case rel => exact ⟨q + 1, by omega, by go_num, HB1, HR4⟩
                  case measure => simp [intOf]; omega
                · obtain rfl : e = t := by omega
                  go_wp2
                  go_roundw
                  case rel => exact ⟨q + 1, by omega, by go_num, HB1, HR4⟩
                  case measure => simp [intOf]; omega
          · obtain rfl : q = m := by omega
            have HR5 : Hid (R = decide ((x0, x1, x2) ∈ allE (g.rules.drop (k + 1)))) := by
              show _ = _
              rw [HXq.out, HMN.out, List.drop_length]
              simp [cnsE]
            go_wp2
            go_roundw
            case rel => exact ⟨k + 1, by omega, by go_num, HBq, HR5⟩
            case measure => simp [intOf]; omega
      · have hh' : (r.head != x0) = true := by simpa using hh
        have HR5 : Hid (R = decide ((x0, x1, x2) ∈ allE (g.rules.drop (k + 1)))) := by
          show _ = _
          rw [hsplit]
          congr 1
          apply propext
          constructor
          · rintro (h | h)
            · rw [mem_cnsE] at h
              obtain ⟨c, _, h⟩ := h
              rw [mem_seqE] at h
              exact absurd h.1.symm hh
            · exact h
          · exact Or.inr
        clear hsplit hh icn
        go_wp2
        go_roundw
        case rel => exact ⟨k + 1, by omega, by go_num, HBr, HR5⟩
        case measure => simp [intOf]; omega
    · obtain rfl : k = n := by omega
      have HRF : Hid (R = false) := by
        show _ = _
        rw [HXr.out, HN.out, List.drop_length]
        simp [allE]
      go_wp2
      go_ret
      exact ⟨by rw [HRF.out]; rfl, HW1.out.trans (HBr.out.mono HW1.out.size)⟩
end Go.Proofs.YtipnfiaphmddiaaGreat
/- templeref6.Edges: the document's own edges are the program's. -/
namespace Go.Proofs.YtipnfiaphmddiaaGreat
set_option linter.unusedVariables false
open Go.ChangeShapes Go.WideShapes Go.ChangeAt Go.RowKit

def candK (a b : Int) : Nat → List Ed
  | 0 => []
  | k + 1 => candK a b k ++ [(a, b, decide (k = 1))]
def candB (a : Int) : Nat → List Ed
  | 0 => []
  | b + 1 => candB a b ++ candK a b 2
def candA (N : Nat) : Nat → List Ed
  | 0 => []
  | a + 1 => candA N a ++ candB a N
theorem candK_mem (a b : Int) (x : Ed) : x ∈ candK a b 2 ↔ x.1 = a ∧ x.2.1 = b := by
  show x ∈ [(a, b, false)] ++ [(a, b, true)] ↔ _
  obtain ⟨x0, x1, x2⟩ := x
  cases x2 <;> simp
theorem candB_mem (a : Int) (x : Ed) : ∀ b : Nat, x ∈ candB a b ↔ x.1 = a ∧ 0 ≤ x.2.1 ∧ x.2.1 < (b : Int)
  | 0 => by simp only [candB, List.not_mem_nil, false_iff]; omega
  | b + 1 => by
    unfold candB
    rw [List.mem_append, candB_mem a x b, candK_mem]
    omega
theorem candA_mem (N : Nat) (x : Ed) : ∀ a : Nat, x ∈ candA N a ↔ (0 ≤ x.1 ∧ x.1 < (a : Int)) ∧ 0 ≤ x.2.1 ∧ x.2.1 < (N : Int)
  | 0 => by simp only [candA, List.not_mem_nil, false_iff]; omega
  | a + 1 => by
    unfold candA
    rw [List.mem_append, candA_mem N x a, candB_mem]
    omega
theorem candB_rise (a : Int) : ∀ b : Nat, (candB a b).Pairwise fun x y => ltE x y = true
  | 0 => List.Pairwise.nil
  | b + 1 => by
    unfold candB
    rw [List.pairwise_append]
    refine ⟨candB_rise a b, ?_, fun x hx y hy => ?_⟩
    · show List.Pairwise _ ([(a, (b : Int), false)] ++ [(a, (b : Int), true)])
      simp [ltE, numB]
    · rw [candB_mem] at hx
      rw [candK_mem] at hy
      rw [ltE_iff]; omega
theorem candA_rise (N : Nat) : ∀ a : Nat, (candA N a).Pairwise fun x y => ltE x y = true
  | 0 => List.Pairwise.nil
  | a + 1 => by
    unfold candA
    rw [List.pairwise_append]
    refine ⟨candA_rise N a, candB_rise a N, fun x hx y hy => ?_⟩
    rw [candA_mem] at hx
    rw [candB_mem] at hy
    rw [ltE_iff]; omega
theorem candK_len (a b : Int) : ∀ k : Nat, (candK a b k).length = k
  | 0 => rfl
  | k + 1 => by unfold candK; rw [List.length_append, candK_len a b k]; rfl
theorem candB_len (a : Int) : ∀ b : Nat, (candB a b).length = b * 2
  | 0 => rfl
  | b + 1 => by unfold candB; rw [List.length_append, candB_len a b, candK_len]; omega
theorem candA_len (N : Nat) : ∀ a : Nat, (candA N a).length = a * (N * 2)
  | 0 => by simp [candA]
  | a + 1 => by unfold candA; rw [List.length_append, candA_len N a, candB_len, Nat.add_mul]; omega
theorem refE_eq {g : Gr} (h : mayG g = true) : (candA g.names.length g.names.length).filter (fun x => decide (x ∈ allE g.rules)) = edgesT g := by
  refine (edgesT_eq ((candA_rise _ _).filter _) fun x => ?_).symm
  rw [List.mem_filter, candA_mem, decide_eq_true_iff]
  refine ⟨fun hx => hx.2, fun hx => ⟨?_, hx⟩⟩
  rw [mem_allE] at hx
  obtain ⟨r, hr, hx⟩ := hx
  rw [mem_cnsE] at hx
  obtain ⟨c, hc, hx⟩ := hx
  rw [mem_seqE] at hx
  obtain ⟨e1, _, s, hs, hne, e2⟩ := hx
  have h1 := mayG_head h r hr
  have h2 := mayG_sym h r hr c hc s hs
  omega
set_option maxHeartbeats 4000000 in
set_option maxRecDepth 100000 in
theorem refEdges_no (g : Gr) (v1 v2 : Value) (w : World) {F : Nat → Prop} (hg : GrIs w F v1 v2 g) (hn : ∀ s, s ∈ g.names → s.size ≤ maxLen) (hM : mayG g = false) :
    Calls Tryz.prog 15 #[.agg #[.int .i64 g.start, v1, v2]] w fun e w' => e = .returned (.tuple #[.slice none 0 0, .int .i64 600]) ∧ Hid (Below w.heap.size w w') := by
  have K1 : ∀ o, Calls Tryz.prog 28 #[.agg #[.int .i64 g.start, v1, v2]] (w.alloc o) fun e w' => e = .returned (.bool false) ∧ Below (w.alloc o).heap.size (w.alloc o) w' := fun o => by
    have := mayG_ref g v1 v2 (w.alloc o) (hg.any (bel1 w o)) hn
    rwa [refMay_eq, hM] at this
  obtain ⟨p1, c1, l1, hv1⟩ : ∃ p n c, v1 = .slice p n c := by obtain ⟨p, c, e, _⟩ := hg.1; exact ⟨_, _, _, e⟩
  obtain ⟨p2, c2, hv2⟩ := hg.2.slc
  subst hv1 hv2
  clear hg hn hM
  go_enter Tryz.func15, Tryz.ntmps15
  go_wp2_with (go_at_call 28; refine (K1 _).mono ?_; rintro e w1 ⟨rfl, b1⟩; have H1 : Hid (Below w.heap.size w w1) := (bel1 w _).trans (b1.mono (bel1 w _).size); clear b1)
  go_ret2
  exact ⟨rfl, H1⟩
theorem filter_more (p : Ed → Bool) (l : List Ed) (x : Ed) : (l ++ [x]).filter p = l.filter p ++ (if p x then [x] else []) := by
  rw [List.filter_append]
  cases h : p x <;> simp [h]
set_option maxHeartbeats 8000000 in
set_option maxRecDepth 100000 in
theorem refEdges_ok (g : Gr) (v1 v2 : Value) (w : World) {F : Nat → Prop} (hg : GrIs w F v1 v2 g) (hn : ∀ s, s ∈ g.names → s.size ≤ maxLen) (hM : mayG g = true) :
    Calls Tryz.prog 15 #[.agg #[.int .i64 g.start, v1, v2]] w fun e w' => ∃ v, e = .returned (.tuple #[v, .int .i64 0]) ∧ Hid (IsEds w' (fun i => w.heap.size ≤ i) v (edgesT g)) ∧ Hid (Below w.heap.size w w') := by
  have K1 : ∀ o, Calls Tryz.prog 28 #[.agg #[.int .i64 g.start, v1, v2]] (w.alloc o) fun e w' => e = .returned (.bool true) ∧ Below (w.alloc o).heap.size (w.alloc o) w' := fun o => by
    have := mayG_ref g v1 v2 (w.alloc o) (hg.any (bel1 w o)) hn
    rwa [refMay_eq, hM] at this
  have KN : Hid (∀ (x0 x1 : Int) (x2 : Bool) (w2 : World), 0 ≤ x1 → Below w.heap.size w w2 → Calls Tryz.prog 29 #[.agg #[.int .i64 g.start, v1, v2], .int .i64 x0, .int .i64 x1, .bool x2] w2 fun e w' => e = .returned (.bool (decide ((x0, x1, x2) ∈ allE g.rules))) ∧ Hid (Below w2.heap.size w2 w')) := fun x0 x1 x2 w2 h1 hb => needs_any g v1 v2 x0 x1 x2 w2 (hg.any hb) hM h1
  obtain ⟨N, hN⟩ : ∃ N, N = g.names.length := ⟨_, rfl⟩
  obtain ⟨p1, c1, hv1⟩ : ∃ p c, v1 = .slice p N c := by obtain ⟨p, c, e, _⟩ := hg.1; exact ⟨p, c, by rw [hN]; exact e⟩
  obtain ⟨p2, c2, hv2⟩ := hg.2.slc
  obtain ⟨n, hnn⟩ : ∃ n, n = g.rules.length := ⟨_, rfl⟩
  rw [← hnn] at hv2
  subst hv1 hv2
  have hN64 : N ≤ 64 := by rw [hN]; exact mayG_names hM
  have HRE : Hid ((candA N N).filter (fun x => decide (x ∈ allE g.rules)) = edgesT g) := by rw [hN]; exact refE_eq hM
  obtain ⟨p, hp⟩ : ∃ p : Ed → Bool, p = fun x => decide (x ∈ allE g.rules) := ⟨_, rfl⟩
  have HP : Hid (∀ x, p x = decide (x ∈ allE g.rules)) := fun x => by rw [hp]
  rw [← hp] at HRE
  clear hg hn hM hN hnn hp
  go_enter Tryz.func15, Tryz.ntmps15
  go_wp2_with (go_at_call 28; refine (K1 _).mono ?_; rintro e w1 ⟨rfl, b1⟩; have H1 : Hid (Below w.heap.size w w1) := (bel1 w _).trans (b1.mono (bel1 w _).size); have q0 : w1.cell? ⟨w.heap.size, 0, none⟩ = some (.int .i64 g.start) := (b1.cell (p := ⟨_, _, none⟩) (by simp)).trans (World.cell?_alloc_at _ _ _ _ rfl); have q1 : w1.cell? ⟨w.heap.size, 1, none⟩ = some (.slice p1 N c1) := (b1.cell (p := ⟨_, _, none⟩) (by simp)).trans (World.cell?_alloc_at _ _ _ _ rfl); have q2 : w1.cell? ⟨w.heap.size, 2, none⟩ = some (.slice p2 n c2) := (b1.cell (p := ⟨_, _, none⟩) (by simp)).trans (World.cell?_alloc_at _ _ _ _ rfl); have q2s : w.heap.size < w1.heap.size := (by have := b1.size; simp at this; omega); clear b1)
  have HQ : Hid (∀ w', Below w1.heap.size w1 w' → w'.cell? ⟨w.heap.size, 0, none⟩ = some (.int .i64 g.start) ∧ w'.cell? ⟨w.heap.size, 1, none⟩ = some (.slice p1 N c1) ∧ w'.cell? ⟨w.heap.size, 2, none⟩ = some (.slice p2 n c2)) := fun w' hb => ⟨(hb.cell (p := ⟨_, _, none⟩) q2s).trans q0, (hb.cell (p := ⟨_, _, none⟩) q2s).trans q1, (hb.cell (p := ⟨_, _, none⟩) q2s).trans q2⟩
  clear q0 q1 q2 K1
  go_loopw [4, 5] (fun o i wr => ∃ a : Nat, a ≤ N ∧ i = .int .i64 a ∧ Hid (Below w1.heap.size w1 wr) ∧ Hid (wr.ownsRow w1.heap.size 48 3 o ((candA N a).filter p).length (edsV ((candA N a).filter p)))) (fun _ i _ => N - (intOf i).toNat)
  case atStart => exact ⟨0, Nat.zero_le _, rfl, Below.refl _ _, World.ownsRow_nil _ _ _ _⟩
  case round =>
    obtain ⟨a, ha, rfl, HBa, HOa⟩ := hrel
    obtain ⟨V, hV⟩ : ∃ V, V = wr := ⟨_, rfl⟩
    subst hV
    obtain ⟨y0, y1, y2⟩ := HQ.out _ HBa.out
    by_cases hla : a < N
    · have HO0 : Hid (V.ownsRow w1.heap.size 48 3 u4 ((candA N a ++ candB a 0).filter p).length (edsV ((candA N a ++ candB a 0).filter p))) := by show World.ownsRow _ _ _ _ _ _ _; simpa [candB] using HOa.out
      go_wp2
      go_loopw [4, 6] (fun o i wr => ∃ b : Nat, b ≤ N ∧ i = .int .i64 b ∧ Hid (Below w1.heap.size w1 wr) ∧ Hid (wr.ownsRow w1.heap.size 48 3 o ((candA N a ++ candB a b).filter p).length (edsV ((candA N a ++ candB a b).filter p)))) (fun _ i _ => N - (intOf i).toNat)
      case atStart => exact ⟨0, Nat.zero_le _, rfl, HBa, HO0⟩
      case round =>
        obtain ⟨b, hb, rfl, HBb, HOb⟩ := hrel
        obtain ⟨U, hU⟩ : ∃ U, U = wr := ⟨_, rfl⟩
        subst hU
        clear y0 y1 y2
        obtain ⟨y0, y1, y2⟩ := HQ.out _ HBb.out
        by_cases hlb : b < N
        · have HO1 : Hid (U.ownsRow w1.heap.size 48 3 u4 ((candA N a ++ candB a b ++ candK a b 0).filter p).length (edsV ((candA N a ++ candB a b ++ candK a b 0).filter p))) := by show World.ownsRow _ _ _ _ _ _ _; simpa [candK] using HOb.out
          go_wp2
          go_loopw [4, 7] (fun o i wr => ∃ k : Nat, k ≤ 2 ∧ i = .int .i64 k ∧ Hid (Below w1.heap.size w1 wr) ∧ Hid (wr.ownsRow w1.heap.size 48 3 o ((candA N a ++ candB a b ++ candK a b k).filter p).length (edsV ((candA N a ++ candB a b ++ candK a b k).filter p)))) (fun _ i _ => 2 - (intOf i).toNat)
          case atStart => exact ⟨0, Nat.zero_le _, rfl, HBb, HO1⟩
          case round =>
            obtain ⟨k, hk, rfl, HBk, HOk⟩ := hrel
            clear y0 y1 y2
            obtain ⟨y0, y1, y2⟩ := HQ.out _ HBk.out
            by_cases hlk : k < 2
            · obtain ⟨kb, hkb⟩ : ∃ kb, kb = decide (k = 1) := ⟨_, rfl⟩
              have h1 : ((k : Int) == 1) = kb := by rw [hkb, Bool.eq_iff_iff]; simp; omega
              have HKB : Hid (kb = decide (k = 1)) := hkb
              obtain ⟨L, hL⟩ : ∃ L, L = (candA N a ++ candB a b ++ candK a b k).filter p := ⟨_, rfl⟩
              have HL2 : Hid ((candA N a ++ candB a b ++ candK a b (k + 1)).filter p = L ++ (if p (a, b, kb) then [((a : Int), (b : Int), kb)] else [])) := by
                show _ = _
                rw [show candK a b (k + 1) = candK a b k ++ [((a : Int), (b : Int), kb)] by rw [hkb]; rfl, ← List.append_assoc, filter_more, ← hL]
              have hLl : L.length ≤ 100000 := by
                have h2 : L.length ≤ (candA N a ++ candB a b ++ candK a b k).length := by rw [hL]; exact List.length_filter_le _ _
                simp only [List.length_append, candA_len, candB_len, candK_len] at h2
                have h3 : a * (N * 2) ≤ 64 * (64 * 2) := Nat.mul_le_mul (by omega) (by omega)
                omega
              rw [← hL] at HOk
              have HBw : Hid (Below w.heap.size w wr) := H1.out.trans (HBk.out.mono H1.out.size)
              have KC : Calls Tryz.prog 29 #[.agg #[.int .i64 g.start, .slice p1 N c1, .slice p2 n c2], .int .i64 (a : Int), .int .i64 (b : Int), .bool kb] wr fun e w' => e = .returned (.bool (p (a, b, kb))) ∧ Hid (Below wr.heap.size wr w') := by
                rw [HP.out]; exact KN.out a b kb wr (by omega) HBw.out
              clear hL hkb
              cases hpp : p (a, b, kb) with
              | false =>
                rw [hpp] at KC HL2
                have HL3 : Hid ((candA N a ++ candB a b ++ candK a b (k + 1)).filter p = L) := by show _ = _; rw [HL2.out]; simp
                go_wp2_with (go_at_call 29; refine KC.mono ?_; rintro e w2 ⟨rfl, b2⟩)
                go_roundw
                case rel => exact ⟨k + 1, by omega, by go_num, HBk.out.trans (b2.out.mono HBk.out.size), by show World.ownsRow _ _ _ _ _ _ _; rw [HL3.out]; exact row_keep HOk.out b2.out⟩
                case measure => simp [intOf]; omega
              | true =>
                rw [hpp] at KC HL2
                have HL3 : Hid ((candA N a ++ candB a b ++ candK a b (k + 1)).filter p = L ++ [((a : Int), (b : Int), kb)]) := by show _ = _; rw [HL2.out]; simp
                obtain ⟨i, hi0, hz0, hz1, hz2⟩ := info_parts Tryz.infoEd
                have HI : Hid (Tryz.prog.info? 48 = some i ∧ i.zero = some (.agg #[.int .i64 0, .int .i64 0, .bool false]) ∧ i.size = 3 ∧ i.bytes = 24) := ⟨hi0, hz0, hz1, hz2⟩
                have ONE : Hid (∀ x ∈ [Value.int .i64 (a : Int), .int .i64 (b : Int), .bool kb], x.oneCell' = true) := fun x hx => by simp at hx; rcases hx with rfl | rfl | rfl <;> rfl
                have MX : Hid (L.length + 1 ≤ maxLen) := by show _ ≤ _; unfold maxLen; omega
                have BY : Hid ((L.length + 1) * 24 ≤ 140737488355328) := by show _ ≤ _; omega
                have HSZ := HBk.out.size
                clear hi0 hz0 hz1 hz2
                go_wp2_with (first
                  | (go_at_call 29; refine KC.mono ?_; rintro e w2 ⟨rfl, b2⟩; have OW : Hid (w2.ownsRow w1.heap.size 48 3 u4 L.length (edsV L)) := row_keep HOk.out b2.out; have hz2 := b2.out.size)
                  | (at_builtin; refine wpList_append_lies _ rfl _ _ 44 rfl w1.heap.size 48 i (.agg #[.int .i64 0, .int .i64 0, .bool false]) 3 24 Tryz.underlying44 HI.out.1 HI.out.2.1 HI.out.2.2.1 HI.out.2.2.2 rfl (by decide) _ _ _ rfl (OW.out.alloc _) ⟨w2.heap.size, 0, none⟩ 1 1 [.int .i64 (a : Int), .int .i64 (b : Int), .bool kb] rfl rfl (World.news_of_block (cs := #[.int .i64 (a : Int), .int .i64 (b : Int), .bool kb]) (t := 48) (fr := (0, 0)) (heap_alloc_new w2 _)) ONE.out (by decide) MX.out BY.out (Nat.le_trans (Nat.le_trans HSZ hz2) (le_alloc _ _)) (w2.heap.size + 1) (by simp) ?_; intro gg cap1 w3 hown1 hgrow hat hltg))
                have HB3 : Hid (Below w1.heap.size w1 w3) := ((HBk.out.trans (b2.out.mono HBk.out.size)).alloc (Nat.le_trans HSZ hz2) _).grown hgrow (by simp; omega) (fun j hj => (OW.out.lt j hj).1)
                go_roundw
                case rel => exact ⟨k + 1, by omega, by go_num, HB3, by show World.ownsRow _ _ _ _ _ _ _; rw [HL3.out, List.length_append, edsV_append]; simpa [edsV, edV] using hown1⟩
                case measure => simp [intOf]; omega
            · obtain rfl : k = 2 := by omega
              have HO2 : Hid (wr.ownsRow w1.heap.size 48 3 u4 ((candA N a ++ candB a (b + 1)).filter p).length (edsV ((candA N a ++ candB a (b + 1)).filter p))) := by
                show World.ownsRow _ _ _ _ _ _ _
                rw [show candA N a ++ candB a (b + 1) = candA N a ++ candB a b ++ candK a b 2 by rw [List.append_assoc]; rfl]
                exact HOk.out
              go_wp2
              go_roundw
              case rel => exact ⟨b + 1, by omega, by go_num, HBk, HO2⟩
              case measure => simp [intOf]; omega
        · obtain rfl : b = N := by omega
          have HO2 : Hid (U.ownsRow w1.heap.size 48 3 u4 ((candA b (a + 1)).filter p).length (edsV ((candA b (a + 1)).filter p))) := HOb
          go_wp2
          go_roundw
          case rel => exact ⟨a + 1, by omega, by go_num, HBb, HO2⟩
          case measure => simp [intOf]; omega
    · obtain rfl : a = N := by omega
      go_wp2
      go_ret2
      exact ⟨_, rfl, by show Reads _ _ _ _ _; rw [← HRE.out]; exact Reads.of HOa.out (fun j e => Nat.le_trans H1.out.size (HOa.out.lt j e).1), H1.out.trans (HBa.out.mono H1.out.size)⟩
end Go.Proofs.YtipnfiaphmddiaaGreat
