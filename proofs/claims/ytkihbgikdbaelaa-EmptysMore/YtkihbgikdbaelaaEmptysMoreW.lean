/- EmptysMore: walked. -/
import Derived.Test.YtkihbgikdbaelaaNulCop
import Derived.Test.YtkihbgikdbaelaaStrPos
namespace Go.Proofs.Ytkihbgikdbaelaa
set_option linter.unusedVariables false
open Go.ChangeShapes Go.WideShapes Go.ChangeAt Go.RowKit

/-- What is struck so far. -/
def Dn (g : Gr) (us : List Value) (i0 j0 : Nat) (w : World) : Prop := ∀ (i j : Nat) (r : Ru) (u : Value), (i < i0 ∨ i = i0 ∧ j < j0) → g.rules[i]? = some r → us[i]? = some u → j < r.conj.length → NegF w u j
theorem row_blk {w w' : World} {base e size n : Nat} {v : Value} {xs : List Value} (h : w.ownsRow base e size v n xs) (hb : ∀ b, v.ownBlock = some b → w'.heap[b]? = w.heap[b]?) : w'.ownsRow base e size v n xs := by
  obtain ⟨h1, h2⟩ := h
  refine ⟨h1, ?_⟩
  rcases h2 with h2 | ⟨g, cap, cur, hv, hg, hh, r⟩
  · exact Or.inl h2
  · exact Or.inr ⟨g, cap, cur, hv, hg, (hb g (by rw [hv]; rfl)).trans hh, r⟩
theorem GV.strike {B w w' : World} {gb : Nat} {F : Nat → Prop} {g : Gr} {nv o : Value} {us : List Value} (m : GV B gb F g.start g.names nv g.rules us o w) (s : Struck w w') (hF : ∀ b, ¬ F b → w'.heap[b]? = w.heap[b]?) (hb : Below B.heap.size B w')
    (hd : ∀ (i : Nat) (r : Ru) (u : Value), g.rules[i]? = some r → us[i]? = some u → ∀ j, j < r.conj.length → NegF w' u j) : GV B gb F g.start g.names nv (posG g).rules us o w' := by
  have hri : RusIn w' F (posG g).rules us := by
    refine ⟨by rw [m.m0.ri.1]; simp [posG], fun k c u h1 h2 => ?_⟩
    unfold posG at h1
    simp only [List.getElem?_map] at h1
    cases hk : g.rules[k]? with
    | none => rw [hk] at h1; cases h1
    | some r =>
      rw [hk] at h1
      injection h1 with h1
      subst h1
      exact cns_pos (m.m0.ri.2 k r u hk h2) s (hd k r u hk h2)
  refine ⟨⟨fun b h => ⟨(m.m0.fl b h).1, by rw [s.size]; exact (m.m0.fl b h).2⟩, ?_, m.m0.no, hri, hb⟩, row_blk m.on (fun b h => hF b (m.nn b h)), m.nn, (hF gb m.gF).trans m.vb, m.gF, m.gg⟩
  have h9 := row_blk m.m0.oo (fun b h => hF b (m.m0.no b h))
  have hl : (posG g).rules.length = g.rules.length := by simp [posG]
  rw [hl, show rusV (posG g).rules us = rusV g.rules us from rusV_pos _ _]
  exact h9
section
variable {B w w1 : World} {gb : Nat} {F : Nat → Prop} {st : Int} {ns : List ByteArray} {nv o : Value} {L : List Ru} {us : List Value}
/-- An append onto its rules, and what stays. -/
theorem GV.appRule2 (m : GV B gb F st ns nv L us o w) (hb1 : Below w.heap.size w w1) {h : Int} {c : Value} {cs : List Cn} {Fc : Nat → Prop} (hc : IsCns w1 Fc c cs) (hFc : ∀ b, Fc b → w.heap.size ≤ b) (h1 : c.oneCell' = true) (hl : L.length ≤ 100000) :
    ∃ g cap w2 F', (Builtin.append_ #[23, 23] 23 #[o, .slice (some ⟨w1.heap.size, 0, none⟩) 1 1]).run Try.prog (w1.alloc (.cells #[.int .i64 h, c] 35)) = .ok (.slice (some ⟨g, 0, none⟩) (L.length + 1) cap) w2 ∧ GV B gb F' st ns nv (L ++ [⟨h, cs⟩]) (us ++ [c]) (.slice (some ⟨g, 0, none⟩) (L.length + 1) cap) (w2.setCell ⟨gb, 2, none⟩ (.slice (some ⟨g, 0, none⟩) (L.length + 1) cap)) ∧ w2.cell? ⟨gb, 2, none⟩ = some o ∧ w2.frozen? ⟨gb, 2, none⟩ = false ∧ ∀ k, k < w1.heap.size → o.ownBlock ≠ some k → k ≠ gb → (w2.setCell ⟨gb, 2, none⟩ (.slice (some ⟨g, 0, none⟩) (L.length + 1) cap)).heap[k]? = w1.heap[k]? := by
  obtain ⟨i, hi, hz, hs, hb⟩ := info_parts Try.infoRuleO
  have m1 := m.keep hb1
  have hbs := m1.m0.bl.size
  obtain ⟨g, cap, w2, hr, hown, hgrow, hat, _⟩ := run_append_lies (P := Try.prog) (w1.alloc (.cells #[.int .i64 h, c] 35)) 23 23 B.heap.size 35 i _ 2 32 Try.underlying23 hi hz hs hb rfl (by omega) o L.length (rusV L us) (m1.m0.oo.alloc _) ⟨w1.heap.size, 0, none⟩ 1 1 [.int .i64 h, c] rfl
    (World.news_of_block (cs := #[.int .i64 h, c]) (t := 35) (fr := (0, 0)) (heap_alloc_new w1 _)) (by intro u hu; simp at hu; rcases hu with rfl | rfl; rfl; exact h1) (by omega) (by unfold maxLen; omega) (by omega) (by simp; omega) (w1.heap.size + 1) (by simp)
  have hvb : w2.heap[gb]? = some (.cells #[.int .i64 st, nv, o] 25) := (hgrow.block gb (by have := block_lt m1.vb; simp; omega) (Ne.symm (row_no m1.m0.oo (by decide) m1.vb))).trans ((heap_alloc_old _ (block_lt m1.vb)).trans m1.vb)
  obtain ⟨F', hF'⟩ := m.rule hb1 hc hFc rfl hgrow hown hat rfl
  exact ⟨g, cap, w2, F', hr, hF', Lib.cell_of_heap hvb 2, by unfold World.frozen?; rw [hvb]; simp, fun k hk ho hg => (Go.Deep.blk_setCell_other w2 ⟨gb, 2, none⟩ _ k hg).trans ((hgrow.block k (by simp; omega) (fun e => ho e.symm)).trans (heap_alloc_old _ hk))⟩
end
set_option maxHeartbeats 8000000 in
set_option maxRecDepth 100000 in
theorem emptysMore_core (W : World) (g : Gr) (v1 v2 : Value) (n : Nat) (hnl : n = g.names.length) (k1 : Option Addr × Nat) (k2 : Option Addr × Nat × Nat) (e1 : v1 = .slice k1.1 n k1.2) (e2 : v2 = .slice k2.1 k2.2.1 k2.2.2) (hrl : g.rules.length ≤ 9223372036854775807) (hcl : ∀ r, r ∈ g.rules → r.conj.length ≤ 9223372036854775807)
    (KC0 : ∀ w, Below W.heap.size W w → Calls Try.prog 11 #[.agg #[.int .i64 g.start, v1, v2]] w fun e w' => ∃ u1 u2, e = .returned (.agg #[.int .i64 g.start, u1, u2]) ∧ Hid (Below w.heap.size w w') ∧ Hid (Cp w g u1 u2 w'))
    (KH0 : (0 < n ∧ n ≤ 64 ∧ g.rules.length ≤ 256 ∧ (∀ (u1 u2 : Value) w, GrIs w Any u1 u2 (posG g) → Calls Try.prog 8 #[.agg #[.int .i64 g.start, u1, u2]] w fun e w' => ∃ b M, e = .returned (.tuple #[.slice (some ⟨b, 0, none⟩) n n, .int .i64 0]) ∧ w.heap.size ≤ b ∧ Hid (Stb (posG g).rules M) ∧ Hid (BlAt w' b n M) ∧ Hid (Below w.heap.size w w')) ∧ (∀ (M : Nat → Bool) (u1 u2 : Value) w, g.rules.length < 256 → Stb (posG g).rules M → GrIs w Any u1 u2 (moreR (posG g)) → Calls Try.prog 8 #[.agg #[.int .i64 g.start, u1, u2]] w fun e w' => ∃ b N, e = .returned (.tuple #[.slice (some ⟨b, 0, none⟩) n n, .int .i64 0]) ∧ Hid (∀ i, M i = true → N i = true) ∧ N (n - 1) = true ∧ Hid (BlAt w' b n N) ∧ Hid (Below w.heap.size w w'))) ∨
      ∀ (u1 u2 : Value) w, GrIs w Any u1 u2 (posG g) → Calls Try.prog 8 #[.agg #[.int .i64 g.start, u1, u2]] w fun e w' => e = .returned (.tuple #[.slice none 0 0, .int .i64 900]) ∧ Hid (Below w.heap.size w w')) :
    Calls Try.prog 6 #[.agg #[.int .i64 g.start, v1, v2]] W fun e W' => e = .returned (.bool true) ∧ Below W.heap.size W W' := by
  have HX1 : Hid (Bx W g.start v1 v2 (W.alloc (.cells #[.int .i64 g.start, v1, v2] 25))) := Bx.new _ _ _ _
  have KC := hid_of KC0
  have KH := hid_of KH0
  have HCL := hid_of hcl
  have HNL := hid_of hnl
  subst e1 e2
  clear KC0 KH0 hcl hnl
  go_enter Try.func6, Try.ntmps6
  go_upto_region 4 with (first
    | (go_at_call 7; refine (awake9_any _).mono ?_; rintro e wa ⟨rfl, ba⟩; have XA : Hid (Bx _ _ _ _ wa) := HX1.out.any ba.out; obtain ⟨-, z1, c0, c1, c2⟩ := XA.out)
    | (go_at_call 11; refine (KC.out _ XA.out.1).mono ?_; rintro e wc ⟨u1, u2, rfl, bc, CP⟩; obtain ⟨B, F, us, hBb, GV0⟩ := CP.out.gv; obtain ⟨q1, m1, hu1⟩ := row_slice GV0.on; obtain ⟨q2, d2, hu2⟩ := row_slice GV0.m0.oo; rw [← HNL.out] at hu1; subst hu1 hu2; have HGV0 : Hid _ := hid_of GV0; clear GV0 z1 c0 c1 c2))
  obtain ⟨Y, hY⟩ : ∃ Y, Y = wc.alloc (.cells #[.int .i64 g.start, .slice q1 n m1, .slice q2 g.rules.length d2] 25) := ⟨_, rfl⟩
  rw [← hY] at HGV0 ⊢
  have f0 : Y.cell? ⟨wc.heap.size, 0, none⟩ = some (.int .i64 g.start) := Lib.cell_of_heap HGV0.out.vb 0
  have f1 : Y.cell? ⟨wc.heap.size, 1, none⟩ = some (.slice q1 n m1) := Lib.cell_of_heap HGV0.out.vb 1
  have f2 : Y.cell? ⟨wc.heap.size, 2, none⟩ = some (.slice q2 g.rules.length d2) := Lib.cell_of_heap HGV0.out.vb 2
  obtain ⟨hb, hhb⟩ : ∃ b, b = wc.heap.size := ⟨_, rfl⟩
  rw [← hhb] at f0 f1 f2 HGV0 ⊢
  have HWB : Hid (Below W.heap.size W B) := XA.out.1.trans (hBb.mono XA.out.1.size)
  have HFB : Hid (∀ w', Struck Y w' → w'.cell? ⟨hb, 0, none⟩ = some (.int .i64 g.start) ∧ w'.cell? ⟨hb, 1, none⟩ = some (.slice q1 n m1) ∧ w'.cell? ⟨hb, 2, none⟩ = some (.slice q2 g.rules.length d2)) := fun w' s => ⟨s.cell _ _ f0 (fun b h => by cases h), s.cell _ _ f1 (fun b h => by cases h), s.cell _ _ f2 (fun b h => by cases h)⟩
  have HSB : Hid (hb < Y.heap.size) := block_lt HGV0.out.vb
  obtain ⟨N, hN⟩ : ∃ N, N = g.rules.length := ⟨_, rfl⟩
  have HN := hid_of hN
  rw [← hN] at HFB hrl ⊢
  have HRD : Hid (Reads Y (fun b => (Value.slice q2 N d2).ownBlock = some b) (.slice q2 N d2) N (rusV g.rules us)) := by
    have h9 := HGV0.out.m0.oo
    rw [← hN] at h9
    exact Reads.of h9 (fun b h => h)
  clear hY hhb f0 f1 f2 CP hBb bc XA HX1 ba KC
  rw [← hN] at HGV0
  clear hN
  go_wp2
  go_loopw [4] (fun x wr => ∃ i : Nat, i ≤ N ∧ x = .int .i64 i ∧ Hid (Struck Y wr) ∧ Hid (∀ b, ¬ F b → wr.heap[b]? = Y.heap[b]?) ∧ Hid (Below B.heap.size B wr) ∧ Hid (Dn g us i 0 wr)) (fun x _ => N - (intOf x).toNat)
  case atStart => exact ⟨0, Nat.zero_le _, rfl, Struck.refl _, fun _ _ => rfl, HGV0.out.m0.bl, fun i j r u h => by omega⟩
  case round =>
    obtain ⟨i, hi, rfl, HST, HFR, HB, HD⟩ := hrel
    obtain ⟨-, -, t2⟩ := HFB.out wr HST.out
    by_cases hlt : i < N
    · obtain ⟨r, hr⟩ : ∃ r, g.rules[i]? = some r := ⟨_, List.getElem?_eq_getElem (by rw [← HN.out]; exact hlt)⟩
      obtain ⟨u, hu⟩ : ∃ u, us[i]? = some u := ⟨_, List.getElem?_eq_getElem (by rw [HGV0.out.m0.ri.1, ← HN.out]; exact hlt)⟩
      obtain ⟨a0, a1⟩ := rusV_at g.rules us i r u hr hu
      obtain ⟨p9, c9, e9, _, hx9⟩ := HRD.out
      simp only [Value.slice.injEq] at e9
      obtain ⟨rfl, _, rfl⟩ := e9
      obtain ⟨gr, or, hq2, _, _, hc9, _⟩ := hx9 (by omega)
      subst hq2
      have icn := HGV0.out.m0.ri.2 i r u hr hu
      have hcl := HCL.out r (List.mem_of_getElem? hr)
      obtain ⟨vs, ⟨p8, c8, e8, hm8, hx8⟩, hl8, _⟩ := id icn
      subst e8
      have y1 : Y.cell? ⟨gr, or + i * 2 + 1, none⟩ = some (.slice p8 r.conj.length c8) := by rw [Nat.add_assoc]; exact hc9 _ _ a1
      have HY1 : Hid (∀ w', Struck Y w' → w'.cell? ⟨hb, 2, none⟩ = some (.slice (some ⟨gr, or, none⟩) N d2) ∧ w'.cell? ⟨gr, or + i * 2 + 1, none⟩ = some (.slice p8 r.conj.length c8)) := fun w' s => ⟨(HFB.out w' s).2.2, s.cell _ _ y1 (fun b h => by cases h)⟩
      have HCJ : Hid (∀ j, j < r.conj.length → ∃ gc oc, p8 = some ⟨gc, oc, none⟩ ∧ F gc ∧ (∃ b, Y.cell? ⟨gc, oc + j * 2, none⟩ = some (.bool b)) ∧ Y.frozen? ⟨gc, oc + j * 2, none⟩ = false) := fun j hj => by
        obtain ⟨gc, oc, e1, e2, e3, e4, e5⟩ := hx8 (by omega)
        obtain ⟨c0, hc0⟩ : ∃ c0, r.conj[j]? = some c0 := ⟨_, List.getElem?_eq_getElem hj⟩
        obtain ⟨v0, hv0⟩ : ∃ v0, vs[j]? = some v0 := ⟨_, List.getElem?_eq_getElem (by omega)⟩
        obtain ⟨b1, b2⟩ := cnsV_at r.conj vs j c0 v0 hc0 hv0
        exact ⟨gc, oc, e1, e2, ⟨_, e4 _ _ b1⟩, e5 _ (by rw [cnsV_length _ _ hl8]; omega)⟩
      obtain ⟨M, hM⟩ : ∃ M, M = r.conj.length := ⟨_, rfl⟩
      have HM := hid_of hM
      rw [← hM] at HY1 HCJ hcl
      have HRU : Hid (g.rules[i]? = some r ∧ us[i]? = some (.slice p8 M c8)) := ⟨hr, by rw [hM]; exact hu⟩
      have t3 := (HY1.out wr HST.out).2
      clear hr hu a0 a1 hx9 hc9 icn hm8 hx8 hl8 y1 hM
      go_wp2
      go_loopw [5] (fun x wr => ∃ j : Nat, j ≤ M ∧ x = .int .i64 j ∧ Hid (Struck Y wr) ∧ Hid (∀ b, ¬ F b → wr.heap[b]? = Y.heap[b]?) ∧ Hid (Below B.heap.size B wr) ∧ Hid (Dn g us i j wr)) (fun x _ => M - (intOf x).toNat)
      case atStart => exact ⟨0, Nat.zero_le _, rfl, HST, HFR, HB, HD⟩
      case round =>
        clear t2 t3 HST HB HD HFR
        obtain ⟨j, hj, rfl, HST, HFR, HB, HD⟩ := hrel
        obtain ⟨t2, t3⟩ := HY1.out wr HST.out
        by_cases hlj : j < M
        · obtain ⟨gc, oc, hp8, hgc, ⟨b, hcb⟩, hfz⟩ := HCJ.out j hlj
          subst hp8
          obtain ⟨b', hcb'⟩ : ∃ b', wr.cell? ⟨gc, oc + j * 2, none⟩ = some (.bool b') := by
            rcases HST.out.neg _ _ hcb with h | h
            · exact ⟨_, h⟩
            · exact ⟨_, h⟩
          have hfz' : wr.frozen? ⟨gc, oc + j * 2, none⟩ = false := (HST.out.frz _).trans hfz
          have s1 := struck_set hcb'
          have HST2 : Hid (Struck Y (wr.setCell ⟨gc, oc + j * 2, none⟩ (.bool false))) := HST.out.trans s1
          have HB2 : Hid (Below B.heap.size B (wr.setCell ⟨gc, oc + j * 2, none⟩ (.bool false))) := bel_set HB.out (HGV0.out.m0.fl gc hgc).1
          have HFR2 : Hid (∀ b, ¬ F b → (wr.setCell ⟨gc, oc + j * 2, none⟩ (.bool false)).heap[b]? = Y.heap[b]?) := fun b hb => (Go.Deep.blk_setCell_other wr ⟨gc, oc + j * 2, none⟩ _ b (fun e => hb (by rw [e]; exact hgc))).trans (HFR.out b hb)
          have HD2 : Hid (Dn g us i (j + 1) (wr.setCell ⟨gc, oc + j * 2, none⟩ (.bool false))) := fun i' j' r' u' h h1 h2 h3 => by
            by_cases x : i' = i ∧ j' = j
            · obtain ⟨rfl, rfl⟩ := x
              rw [HRU.out.2] at h2
              obtain rfl := Option.some.inj h2
              intro g' o' n' c' e'
              simp only [Value.slice.injEq, Option.some.injEq, Addr.mk.injEq] at e'
              obtain ⟨⟨rfl, rfl, _⟩, _, _⟩ := e'
              exact World.cell?_setCell_same _ _ _ hcb'
            · exact (HD.out i' j' r' u' (by omega) h1 h2 h3).struck s1
          clear hcb hfz s1 hgc
          go_wp2
          go_roundw
          case rel => exact ⟨j + 1, by omega, by go_num, HST2, HFR2, HB2, HD2⟩
          case measure => simp [intOf]; omega
        · obtain rfl : j = M := by omega
          have HD2 : Hid (Dn g us (i + 1) 0 wr) := fun i' j' r' u' h h1 h2 h3 => by
            by_cases x : i' = i
            · subst x
              rw [HRU.out.1] at h1
              obtain rfl := Option.some.inj h1
              exact HD.out i' j' r u' (Or.inr ⟨rfl, by rw [HM.out]; exact h3⟩) HRU.out.1 h2 h3
            · exact HD.out i' j' r' u' (Or.inl (by omega)) h1 h2 h3
          go_wp2
          go_roundw
          case rel => exact ⟨i + 1, by omega, by go_num, HST, HFR, HB, HD2⟩
          case measure => simp [intOf]; omega
    · obtain rfl : i = N := by omega
      have GP := hid_of (GV.strike (by rw [HN.out] at HGV0; exact HGV0.out) HST.out HFR.out HB.out fun i' r' u' h1 h2 j' h3 => HD.out i' j' r' u' (Or.inl (by
        have := (List.getElem?_eq_some_iff.1 h1).1
        rw [HN.out]; exact this)) h1 h2 h3)
      obtain ⟨t0, t1, -⟩ := HFB.out wr HST.out
      have hzb : hb < wr.heap.size := by rw [HST.out.size]; exact HSB.out
      have HG : Hid (GrIs wr Any (.slice q1 n m1) (.slice q2 i d2) (posG g)) := by
        have h9 := GP.out.gr
        rw [HN.out]; exact h9
      have HBW : Hid (Below W.heap.size W wr) := HWB.out.trans (HB.out.mono HWB.out.size)
      rcases KH.out with ⟨h0, hn64, hrl2, KG, KM⟩ | KG
      · have KG1 := KG _ _ wr HG.out
        have HKM := hid_of KM
        clear KG KM
        have hi2 : i ≤ 256 := by rw [HN.out]; exact hrl2
        go_upto_region 12 with (go_at_call 8; refine KG1.mono ?_; rintro e wd ⟨b, M, rfl, hbb, HSM, HZD, bd⟩)
        have s0 := (bd.out.cell (p := ⟨hb, 0, none⟩) hzb).trans t0
        have s1 := (bd.out.cell (p := ⟨hb, 1, none⟩) hzb).trans t1
        have s2 := (bd.out.cell (p := ⟨hb, 2, none⟩) hzb).trans t2
        have hzd : hb < wd.heap.size := Nat.lt_of_lt_of_le hzb bd.out.size
        have GPD := hid_of (GP.out.keep bd.out)
        have HWD : Hid (Below W.heap.size W wd) := HBW.out.trans (bd.out.mono HBW.out.size)
        have HOB : Hid (∀ k, (Value.slice q2 i d2).ownBlock = some k → k < wr.heap.size) := fun k hk => by
          have h9 := GP.out.m0.oo
          exact (h9.lt k (by rw [HN.out] at hk; exact hk)).2
        have HHB : Hid (hb < wr.heap.size) := hzb
        clear t0 t1 t2 hzb HG KG1 HFR HST HB HD GP HFB HSB HRD
        by_cases hfull : i < 256
        · obtain ⟨k, rfl⟩ : ∃ k : Nat, n = k + 1 := ⟨n - 1, by omega⟩
          have hsub : ((k + 1 : Nat) : Int) - 1 = (k : Int) := by omega
          obtain ⟨Y2, hY2⟩ : ∃ Z, Z = wd.alloc (.cells #[.bool false, .slice none 0 0] 38) := ⟨_, rfl⟩
          have bY2 : Below wd.heap.size wd Y2 := by rw [hY2]; exact bel1 _ _
          have sY2 : Y2.heap.size = wd.heap.size + 1 := by rw [hY2]; simp
          have hc0 : Y2.heap[wd.heap.size]? = some (.cells #[.bool false, .slice none 0 0] 38) := by rw [hY2]; exact heap_alloc_new _ _
          have hcn : IsCns Y2 (fun b => wd.heap.size ≤ b) (.slice (some ⟨wd.heap.size, 0, none⟩) 1 1) [⟨false, []⟩] :=
            ⟨[_], reads_at (reads_laid hc0 le11 rfl) (Nat.le_refl _), (CnsIn.nil _ _).snoc (c := ⟨false, []⟩) (Reads.nil _ _)⟩
          have hpl : (posG g).rules.length = i := by rw [HN.out]; simp [posG]
          obtain ⟨g2, cap2, w2, F2, hr2, GV2, x2, y2, hst⟩ := GPD.out.appRule2 bY2 (h := (k : Int)) hcn (fun b h => h) rfl (by rw [hpl]; omega)
          rw [hpl] at hr2 GV2 hst
          rw [sY2] at hr2 hst
          rw [hY2, ← HN.out] at hr2
          rw [← HN.out] at x2
          obtain ⟨X3, hX3⟩ : ∃ X, X = w2.setCell ⟨hb, 2, none⟩ (.slice (some ⟨g2, 0, none⟩) (i + 1) cap2) := ⟨_, rfl⟩
          rw [← hX3] at GV2 hst
          have HZ3 : Hid (BlAt X3 b (k + 1) M) := by
            have h9 := HZD.out.keep bY2
            have hl9 := HZD.out.lt
            refine (hst b (by omega) (fun e => ?_) (fun e => ?_)).trans h9
            · have h8 := HOB.out b (by rw [HN.out]; exact e); omega
            · have h8 := HHB.out; omega
          have HW3 : Hid (Below W.heap.size W X3) := HWB.out.trans (GV2.m0.bl.mono HWB.out.size)
          have HG3 : Hid (GrIs X3 Any (.slice q1 (k + 1) m1) (.slice (some ⟨g2, 0, none⟩) (i + 1) cap2) (moreR (posG g))) := by
            have h9 := GV2.gr
            have e9 : ruE (posG g).names.length = ⟨(k : Int), [⟨false, []⟩]⟩ := by
              show ruE g.names.length = _
              rw [← HNL.out]
              unfold ruE
              rw [hsub]
            unfold moreR
            rw [e9]
            exact h9
          have t0 : X3.cell? ⟨hb, 0, none⟩ = some (.int .i64 g.start) := Lib.cell_of_heap GV2.vb 0
          have t1 : X3.cell? ⟨hb, 1, none⟩ = some (.slice q1 (k + 1) m1) := Lib.cell_of_heap GV2.vb 1
          have t2 : X3.cell? ⟨hb, 2, none⟩ = some (.slice (some ⟨g2, 0, none⟩) (i + 1) cap2) := Lib.cell_of_heap GV2.vb 2
          have zt : hb < X3.heap.size := block_lt GV2.vb
          have KN := HKM.out M _ _ X3 (by rw [← HN.out]; exact hfull) HSM.out HG3.out
          have hnf : ¬ (256 : Int) ≤ (i : Int) := by omega
          have hnf2 : decide ((256 : Int) ≤ (i : Int)) = false := by simp; omega
          rw [show k + 1 - 1 = k by omega] at KN
          clear GV2 hY2 bY2 sY2 hc0 hcn hst hpl GPD HKM
          go_upto_region 18 with (first
            | (go_at_call 9; refine (num_any _ _).mono ?_; rintro e wn ⟨rfl, rfl⟩)
            | (at_builtin; refine wpList_run_append rfl _ _ 23 rfl _ _ rfl rfl hr2 ?_))
          rw [← hX3]
          clear hX3 hr2 x2 y2 s0 s1 s2
          go_upto_region 21 with (first
            | (go_at_call 8; refine KN.mono ?_; rintro e we ⟨b2, N2, rfl, HLE, hNk, HZ4, be⟩; have cNk := HZ4.out.cell (show k < k + 1 by omega); rw [hNk] at cNk)
            | (go_at_call 9; refine (num_any _ _).mono ?_; rintro e wn ⟨rfl, rfl⟩))
          have HZ5 : Hid (BlAt we b (k + 1) M) := HZ3.out.keep be.out
          have HWE : Hid (Below W.heap.size W we) := HW3.out.trans (be.out.mono HW3.out.size)
          clear KN t0 t1 t2 cNk
          go_wp2
          go_loopw [11] (fun x wq => ∃ j : Nat, j ≤ k + 1 ∧ x = .int .i64 j ∧ Hid (Below we.heap.size we wq)) (fun x _ => k + 1 - (intOf x).toNat)
          case atStart => exact ⟨0, Nat.zero_le _, rfl, Below.refl _ _⟩
          case round =>
            obtain ⟨j, hj, rfl, HBJ⟩ := hrel
            by_cases hlj : j < k + 1
            · have c5 := (HZ5.out.keep HBJ.out).cell hlj
              have c4 := (HZ4.out.keep HBJ.out).cell hlj
              have hm5 : (j : Int) < ((k + 1 : Nat) : Int) := by omega
              cases hMj : M j with
              | false =>
                rw [hMj] at c5
                clear hMj
                go_wp2
                go_roundw
                case rel => exact ⟨j + 1, by omega, by go_num, HBJ⟩
                case measure => simp [intOf]; omega
              | true =>
                rw [hMj] at c5
                rw [HLE.out j hMj] at c4
                clear hMj
                go_wp2
                go_roundw
                case rel => exact ⟨j + 1, by omega, by go_num, HBJ⟩
                case measure => simp [intOf]; omega
            · obtain rfl : j = k + 1 := by omega
              go_wp2
              go_ret
              exact ⟨rfl, HWE.out.trans (HBJ.out.mono HWE.out.size)⟩
        · obtain rfl : i = 256 := by omega
          go_wp2_with (go_at_call 9; refine (num_any _ _).mono ?_; rintro e wn ⟨rfl, rfl⟩)
          go_ret
          exact ⟨rfl, HWD.out⟩
      · have KG1 := KG _ _ wr HG.out
        clear KG
        go_wp2_with (first
          | (go_at_call 8; refine KG1.mono ?_; rintro e wd ⟨rfl, bd⟩)
          | (go_at_call 9; refine (num_any _ _).mono ?_; rintro e wn ⟨rfl, rfl⟩))
        go_ret
        exact ⟨rfl, HBW.out.trans (bd.out.mono HBW.out.size)⟩
end Go.Proofs.Ytkihbgikdbaelaa
