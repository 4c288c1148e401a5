/- The rules of the rests (package bin). -/
import Derived.Test.YtgpklcpmabafmaaDoorBinC
import Derived.Test.YtgpklcpmabafmaaDoorGramAid
namespace Go.Proofs.YtgpklcpmabafmaaDoor
set_option linter.unusedVariables false
set_option linter.unusedSimpArgs false
open Go.ChangeShapes Go.WideShapes Go.ChangeAt Go.RowKit

theorem reads_atB {w : World} {F G : Nat → Prop} {b o n c : Nat} {cs : List Value} (h : Reads w F (.slice (some ⟨b, o, none⟩) n c) n cs) (hG : G b) : Reads w G (.slice (some ⟨b, o, none⟩) n c) n cs := by
  obtain ⟨p, c2, e, hm, hc⟩ := h
  refine ⟨p, c2, e, hm, fun h0 => ?_⟩
  obtain ⟨g', o', e1, e2, e3⟩ := hc h0
  have e9 := e
  simp only [Value.slice.injEq] at e9
  rw [← e9.1] at e1
  simp only [Option.some.injEq, Addr.mk.injEq] at e1
  exact ⟨g', o', by rw [← e9.1]; simp [e1], by rw [← e1.1]; exact hG, e3⟩
section
variable {W w w1 : World} {F Fc : Nat → Prop} {L : List Ru} {us : List Value} {o c u : Value} {k : Nat}
/-- A rule more, whose conjuncts lie in blocks of their own. -/
theorem Mk0.ruleG (m : Mk0 W F L us o w) {h : Int} {cs : List Cn} (hc : IsCns w Fc c cs) (hFc : ∀ b, Fc b → W.heap.size ≤ b ∧ b < w.heap.size ∧ o.ownBlock ≠ some b) (h1 : c.oneCell' = true) (hl : L.length ≤ 100000) :
    ∃ g cap w2, (Builtin.append_ #[25, 25] 25 #[o, .slice (some ⟨w.heap.size, 0, none⟩) 1 1]).run Tryd.prog (w.alloc (.cells #[.int .i64 h, c] 35)) = .ok (.slice (some ⟨g, 0, none⟩) (L.length + 1) cap) w2 ∧ Mk0 W (fun b => F b ∨ Fc b) (L ++ [⟨h, cs⟩]) (us ++ [c]) (.slice (some ⟨g, 0, none⟩) (L.length + 1) cap) w2 := by
  obtain ⟨i, hi, hz, hsz, hby⟩ := info_parts Tryd.infoRuB
  have hbs := m.bl.size
  obtain ⟨g, cap, w2, hr, hown, hgrow, hat, _⟩ := run_append_lies (P := Tryd.prog) (w.alloc (.cells #[.int .i64 h, c] 35)) 25 25 W.heap.size 35 i _ 2 32 Tryd.underlying25 hi hz hsz hby rfl (by omega) o L.length (rusV L us) (m.oo.alloc _) ⟨w.heap.size, 0, none⟩ 1 1 [.int .i64 h, c] rfl
    (World.news_of_block (cs := #[.int .i64 h, c]) (t := 35) (fr := (0, 0)) (heap_alloc_new w _)) (by intro u hu; simp at hu; rcases hu with rfl | rfl; rfl; exact h1) (by omega) (by unfold maxLen; omega) (by omega) (by simp; omega) (w.heap.size + 1) (by simp)
  have hz2 : w.heap.size ≤ w2.heap.size := by have := hgrow.size; simp at this; omega
  have hall : ∀ b, (F b ∨ Fc b) → b < w.heap.size ∧ o.ownBlock ≠ some b := fun b hb => by
    rcases hb with hb | hb
    · exact ⟨(m.fl b hb).2, fun e => m.no b e hb⟩
    · exact ⟨(hFc b hb).2.1, (hFc b hb).2.2⟩
  have hst : Stay (fun b => F b ∨ Fc b) w w2 := ⟨hz2, fun b hb => (hgrow.block b (by have := (hall b hb).1; simp; omega) (Ne.symm (hall b hb).2)).trans (heap_alloc_old _ (hall b hb).1)⟩
  refine ⟨g, cap, w2, hr, fun b hb => ?_, ?_, fun b e hb => ?_, ?_, ?_⟩
  · refine ⟨?_, Nat.lt_of_lt_of_le (hall b hb).1 hz2⟩
    rcases hb with hb | hb
    · exact (m.fl b hb).1
    · exact (hFc b hb).1
  · rw [List.length_append, rusV_append _ _ _ _ m.ri.1]
    exact hown
  · have eg : g = b := by injection e
    subst eg
    rcases hat with e1 | e1
    · exact (hall g hb).2 e1
    · have := (hall g hb).1; omega
  · exact (m.ri.keep (F' := fun b => F b ∨ Fc b) ⟨hst.size, fun b hb => hst.blk b (Or.inl hb)⟩ (fun b hb => Or.inl hb)).snoc (c := ⟨h, cs⟩) (hc.keep ⟨hst.size, fun b hb => hst.blk b (Or.inr hb)⟩ (fun b hb => Or.inr hb))
  · exact (m.bl.alloc hbs _).grown hgrow (by simp; omega) (fun b hb => (m.oo.lt b hb).1)
/-- A rest's rule more. -/
theorem stepQ {po : Option Addr} {co : Nat} {h : Int} {pt : List Sy} (m : Mk0 W F L us (.slice po k co) w) (hL : L.length = k) (hk : k ≤ 100000) (hb : Below w.heap.size w w1) (ho : w1.ownsRow w.heap.size 32 3 u pt.length (sysV pt)) :
    ∃ g cap w2, (Builtin.append_ #[25, 25] 25 #[.slice po k co, .slice (some ⟨w1.heap.size + 1, 0, none⟩) 1 1]).run Tryd.prog ((w1.alloc (.cells #[.bool false, u] 30)).alloc (.cells #[.int .i64 h, .slice (some ⟨w1.heap.size, 0, none⟩) 1 1] 35)) = .ok (.slice (some ⟨g, 0, none⟩) (k + 1) cap) w2 ∧ Hid (∃ (F' : Nat → Prop) (us' : List Value), Mk0 W F' (L ++ [⟨h, [⟨false, pt⟩]⟩]) us' (.slice (some ⟨g, 0, none⟩) (k + 1) cap) w2) := by
  obtain ⟨Y, hY⟩ : ∃ Y, Y = w1.alloc (.cells #[.bool false, u] 30) := ⟨_, rfl⟩
  have sY : Y.heap.size = w1.heap.size + 1 := by rw [hY]; simp
  have bY : Below w1.heap.size w1 Y := by rw [hY]; exact bel1 _ _
  have hwY : Below w.heap.size w Y := hb.trans (bY.mono hb.size)
  have hbw := hb.size
  have m1 := m.keep hwY
  have hoY := row_keep ho bY
  have hcb : Y.heap[w1.heap.size]? = some (.cells #[.bool false, u] 30) := by rw [hY]; exact heap_alloc_new _ _
  have hs : IsSys Y (fun b => w.heap.size ≤ b ∧ b < Y.heap.size) u pt := Reads.of hoY (fun b e => ⟨(hoY.lt b e).1, (hoY.lt b e).2⟩)
  have hc : IsCns Y (fun b => w.heap.size ≤ b ∧ b < Y.heap.size) (.slice (some ⟨w1.heap.size, 0, none⟩) 1 1) [⟨false, pt⟩] := ⟨[_], reads_atB (reads_laid hcb le11 rfl) ⟨hbw, by omega⟩, (CnsIn.nil _ _).snoc (c := ⟨false, pt⟩) hs⟩
  obtain ⟨g, cap, w2, hr, m2⟩ := m1.ruleG (h := h) hc (fun b hb2 => ⟨by have := m.bl.size; omega, hb2.2, fun e => by have := (m.oo.lt b e).2; omega⟩) rfl (by omega)
  rw [hL] at hr m2
  rw [sY, hY] at hr
  exact ⟨g, cap, w2, hr, _, _, m2⟩
end
set_option maxHeartbeats 8000000 in
set_option maxRecDepth 100000 in
theorem rules_any (W : World) (qb n : Nat) (rows : List (List Sy)) (vs : List Value) (q : Value) (w : World) (m : Qu W qb n rows vs q w) (hr : rows.length ≤ 2000) (hl : ∀ r, r ∈ rows → r.length ≤ 64) (hn : n ≤ 64) :
    Calls Tryd.prog 16 #[.pointer (some ⟨qb, 0, none⟩)] w fun e w' => ∃ (o : Value) (F : Nat → Prop) (us : List Value), e = .returned o ∧ Hid (Mk0 w F (restR n 0 rows) us o w') := by
  obtain ⟨pq, cq, hq⟩ : ∃ p c, q = .slice p rows.length c := row_slice m.oq
  subst hq
  have HQ : Hid (Qu W qb n rows vs (.slice pq rows.length cq) w) := m
  have HRD : Hid (Reads w Any (.slice pq rows.length cq) rows.length vs) := Reads.of m.oq (fun _ _ => trivial)
  have HLL : Hid (∀ r, r ∈ rows → r.length ≤ 64) := hl
  have q0 : w.cell? ⟨qb, 0, none⟩ = some (.int .i64 (n : Int)) := Lib.cell_of_heap m.qv 0
  have q1 : w.cell? ⟨qb, 1, none⟩ = some (.slice pq rows.length cq) := Lib.cell_of_heap m.qv 1
  have zq : qb < w.heap.size := block_lt m.qv
  have HQ0 : Hid (∀ w', Below w.heap.size w w' → w'.cell? ⟨qb, 0, none⟩ = some (.int .i64 (n : Int))) := fun w' hb => (hb.cell (p := ⟨qb, 0, none⟩) zq).trans q0
  have HVL : Hid (vs.length = rows.length) := by have := m.oq.1; show _ = _; omega
  obtain ⟨R, hR⟩ : ∃ R, R = rows.length := ⟨_, rfl⟩
  have HR : Hid (R = rows.length) := hR
  rw [← hR] at q1 hr
  clear m hl hR
  go_enter Tryd.func16, Tryd.ntmps16
  go_wp2
  clear q0 q1
  go_loopw [3, 12] (fun o x wr => ∃ (i : Nat) (po : Option Addr) (co : Nat) (L : List Ru) (us : List Value) (F : Nat → Prop), i ≤ R ∧ x = .int .i64 (i : Int) ∧ o = .slice po i co ∧ Hid (L.length = i) ∧ Hid (L ++ restR n i (rows.drop i) = restR n 0 rows) ∧ Hid (Mk0 w F L us (.slice po i co) wr)) (fun _ x _ => R - (intOf x).toNat)
  case atStart => exact ⟨0, none, 0, [], [], _, Nat.zero_le _, rfl, rfl, rfl, rfl, Mk0.new _⟩
  case round =>
    obtain ⟨i, po, co, L, us, F, hi, rfl, rfl, HLN, HE, MM⟩ := hrel
    by_cases hlt : i < R
    · obtain ⟨r, hri⟩ : ∃ r, rows[i]? = some r := ⟨_, List.getElem?_eq_getElem (by rw [← HR.out]; exact hlt)⟩
      obtain ⟨u, hu⟩ : ∃ u, vs[i]? = some u := ⟨_, List.getElem?_eq_getElem (by rw [HVL.out, ← HR.out]; exact hlt)⟩
      have HIS : Hid (IsSys W Any u r) := HQ.out.is i r u hri hu
      obtain ⟨p9, c9, e9, -, hx9⟩ := HRD.out
      simp only [Value.slice.injEq] at e9
      obtain ⟨rfl, -, rfl⟩ := e9
      obtain ⟨gq, oq, hp, -, hgq, hcq, -⟩ := hx9 (by have := HR.out; omega)
      subst hp
      have a0 := (MM.out.bl.cell (p := ⟨gq, oq + i, none⟩) hgq).trans (hcq i u hu)
      have q0 := HQ0.out wr MM.out.bl
      have hr64 := HLL.out r (List.mem_of_getElem? hri)
      have HE2 : Hid (L ++ (⟨((n + i : Nat) : Int), [⟨false, pairT r ((n + i + 1 : Nat) : Int)⟩]⟩ :: restR n (i + 1) (rows.drop (i + 1))) = restR n 0 rows) := by
        have h9 := HE.out
        rw [drop_atB hri] at h9
        exact h9
      obtain ⟨ps, cs, hu2⟩ : ∃ p c, u = .slice p r.length c := by obtain ⟨p, c, e, -⟩ := HIS.out; exact ⟨p, c, e⟩
      subst hu2
      obtain ⟨hd, hhd⟩ : ∃ hd : Nat, hd = n + i := ⟨_, rfl⟩
      have HHD : Hid (hd = n + i) := hhd
      have KP := pair_any r (((hd + 1 : Nat)) : Int) (.slice ps r.length cs) wr (IsSys.anyB HIS.out (HQ.out.bl.trans (MM.out.bl.mono HQ.out.bl.size))) (by omega)
      have HW1 : Hid ((n : Int) + (i : Int) = (hd : Int)) := by show _ = _; omega
      have HW0 : Hid (IntKind.i64.wrap ((n : Int) + (i : Int)) = (n : Int) + (i : Int)) := by show _ = _; rw [IntKind.wrap_i64]; omega
      have hd9 : hd ≤ 100000 := by omega
      have HW2 : Hid ((hd : Int) + 1 = ((hd + 1 : Nat) : Int)) := by show _ = _; omega
      have HW3 : Hid (IntKind.i64.wrap ((hd : Int) + 1) = (hd : Int) + 1) := by show _ = _; rw [IntKind.wrap_i64]; omega
      have e1 : decide ((i : Int) < (R : Int)) = true := decide_eq_true (by omega)
      have e1' : (i : Int) < (R : Int) := by omega
      have zq2 : qb < wr.heap.size := Nat.lt_of_lt_of_le zq MM.out.bl.size
      clear hcq hx9 hri hu HE hhd
      go_upto_region 6 with fail
      (try rw [HW0.out])
      rw [HW1.out]
      clear e1 e1' a0 q0
      go_wp2_with (first
        | (go_at_call 27; (try rw [HW3.out]); rw [HW2.out]; refine KP.mono ?_; rintro e w1 ⟨u, rfl, ho, hb⟩; obtain ⟨gg, cap1, w2, hr2, FIN⟩ := stepQ (h := (hd : Int)) MM.out HLN.out (by omega) hb.out ho.out; obtain ⟨pu, cu, hpu⟩ := row_slice ho.out; subst hpu)
        | (at_builtin; refine wpList_run_appB rfl _ _ 25 rfl _ _ rfl rfl hr2 ?_))
      obtain ⟨F', us', FIN⟩ := FIN.out
      have FIN2 : Hid (Mk0 w F' (L ++ [⟨(hd : Int), [⟨false, pairT r ((hd + 1 : Nat) : Int)⟩]⟩]) us' (.slice (some ⟨gg, 0, none⟩) (i + 1) cap1) w2) := FIN
      have HE3 : Hid (L ++ [⟨(hd : Int), [⟨false, pairT r ((hd + 1 : Nat) : Int)⟩]⟩] ++ restR n (i + 1) (rows.drop (i + 1)) = restR n 0 rows) := by
        show _ = _
        rw [← HE2.out, HHD.out, List.append_assoc]
        rfl
      have HLN2 : Hid ((L ++ [(⟨(hd : Int), [⟨false, pairT r ((hd + 1 : Nat) : Int)⟩]⟩ : Ru)]).length = i + 1) := by show _ = _; rw [List.length_append, HLN.out]; rfl
      clear FIN hr2 ho hb KP HE2 MM
      go_roundw
      case rel => exact ⟨i + 1, _, _, _, _, _, by omega, by go_num, rfl, HLN2, HE3, FIN2⟩
      case measure => simp [intOf]; omega
    · obtain rfl : i = R := by omega
      have H1 : Hid (L = restR n 0 rows) := by
        have h1 := HE.out
        rw [HR.out, List.drop_length] at h1
        have h4 : L ++ [] = restR n 0 rows := h1
        rw [List.append_nil] at h4
        exact h4
      go_wp2
      go_ret
      exact ⟨_, F, us, rfl, by rw [← H1.out]; exact MM⟩
end Go.Proofs.YtgpklcpmabafmaaDoor
