/- one of layer 11's statements: a grammar with a name and a rule more. -/
import Derived.Test.YtfjejnkjlnkkhaaGreatDoorCopyGrW
import Derived.Test.YtfjejnkjlnkkhaaGreatDoorGramVar2
import Derived.Test.YtfjejnkjlnkkhaaGreatDoorStrTop
import Derived.Test.YtfjejnkjlnkkhaaGreatDoorGi
import Derived.BigQuiet
namespace Go.Proofs.YtfjejnkjlnkkhaaGreatDoor
set_option linter.unusedVariables false
set_option linter.unusedSimpArgs false
open Go.ChangeShapes Go.WideShapes Go.ChangeAt Go.RowKit

def n1w : ByteArray := ⟨#[110, 49, 119]⟩
/-- The grammar with a name more, of one rule. -/
def extG (g : Gr) (cs : List Cn) : Gr := ⟨g.start, g.names ++ [n1w], g.rules ++ [⟨(g.names.length : Int), cs⟩]⟩
theorem gsz_may {g : Gr} (h : mayG g = true) : GSz reachBytes g := by
  have h1 := mayG_plIn h
  have h2 := mayG_names h
  unfold reachBytes
  exact ⟨by omega, by have := h1.1; omega, fun r hr => ⟨by have := (h1.2 r hr).1; omega, fun c hc => by have := (h1.2 r hr).2 c hc; omega⟩⟩
theorem Cp.gvO {w w' : World} {g : Gr} {u1 u2 : Value} (h : Cp w g u1 u2 w') : ∃ (B : World) (F : Nat → Prop) (us : List Value), Below w.heap.size w B ∧ GV B w'.heap.size F g.start g.names u1 g.rules us u2 (w'.alloc (.cells #[.int .i64 g.start, u1, u2] 25)) := by
  obtain ⟨B, F, us, hb, m0, on, nn⟩ := h
  exact ⟨B, F, us, hb, m0.keep (bel1 _ _), row_keep on (bel1 _ _), nn, heap_alloc_new _ _, fun hF => by have := (m0.fl _ hF).2; omega, m0.bl.size⟩
theorem owns_low {w : World} {base base' e size n : Nat} {v : Value} {xs : List Value} (h : w.ownsRow base e size v n xs) (hb : base' ≤ base) : w.ownsRow base' e size v n xs := by
  obtain ⟨h0, h1 | ⟨g, cap, cur, h1, h2, h3⟩⟩ := h
  · exact ⟨h0, Or.inl h1⟩
  · exact ⟨h0, Or.inr ⟨g, cap, cur, h1, Nat.le_trans hb h2, h3⟩⟩
/-- A row in a block that is known. -/
theorem reads_atM {w : World} {F G : Nat → Prop} {b o n c : Nat} {cs : List Value} (h : Reads w F (.slice (some ⟨b, o, none⟩) n c) n cs) (hG : G b) : Reads w G (.slice (some ⟨b, o, none⟩) n c) n cs := by
  obtain ⟨p, c2, e, hm, hc⟩ := h
  refine ⟨p, c2, e, hm, fun h0 => ?_⟩
  obtain ⟨g', o', e1, e2, e3⟩ := hc h0
  have e9 := e
  simp only [Value.slice.injEq] at e9
  rw [← e9.1] at e1
  simp only [Option.some.injEq, Addr.mk.injEq] at e1
  exact ⟨g', o', by rw [← e9.1]; simp [e1], by rw [← e1.1]; exact hG, e3⟩
section
variable {A B w w1 : World} {gb : Nat} {F Fc : Nat → Prop} {st : Int} {ns : List ByteArray} {nv o : Value} {L : List Ru} {us : List Value}
theorem GV.low (m : GV B gb F st ns nv L us o w) (hb : Below A.heap.size A B) : GV A gb F st ns nv L us o w :=
  ⟨⟨fun b hF => ⟨Nat.le_trans hb.size (m.m0.fl b hF).1, (m.m0.fl b hF).2⟩, owns_low m.m0.oo hb.size, m.m0.no, m.m0.ri, hb.trans (m.m0.bl.mono hb.size)⟩, owns_low m.on hb.size, m.nn, m.vb, m.gF, Nat.le_trans hb.size m.gg⟩
theorem Tryz.infoStrP : (Tryz.prog.info? 9).map (fun i => (i.zero, i.size, i.bytes)) = some (some (.string ⟨#[]⟩), 1, 16) := by kernel_rfl
theorem Tryz.infoRuleP : (Tryz.prog.info? 53).map (fun i => (i.zero, i.size, i.bytes)) = some (some (.agg #[.int .i64 0, .slice none 0 0]), 2, 32) := by kernel_rfl
/-- An append onto a grammar's names. -/
theorem GV.appNameO (m : GV B gb F st ns nv L us o w) (s : ByteArray) (hl : ns.length ≤ 1000) :
    ∃ g cap w2, (Builtin.append_ #[22, 22] 22 #[nv, .slice (some ⟨w.heap.size, 0, none⟩) 1 1]).run Tryz.prog (w.alloc (.cells #[.string s] 9)) = .ok (.slice (some ⟨g, 0, none⟩) (ns.length + 1) cap) w2 ∧ GV B gb F st (ns ++ [s]) (.slice (some ⟨g, 0, none⟩) (ns.length + 1) cap) L us o (w2.setCell ⟨gb, 1, none⟩ (.slice (some ⟨g, 0, none⟩) (ns.length + 1) cap)) ∧ w2.cell? ⟨gb, 1, none⟩ = some nv ∧ w2.frozen? ⟨gb, 1, none⟩ = false := by
  obtain ⟨i, hi, hz, hs, hb⟩ := info_parts Tryz.infoStrP
  have hbs := m.m0.bl.size
  obtain ⟨g, cap, w2, hr, hown, hgrow, hat, _⟩ := run_append_lies (P := Tryz.prog) (w.alloc (.cells #[.string s] 9)) 22 22 B.heap.size 9 i _ 1 16 Tryz.underlying22 hi hz hs hb rfl (by omega) nv ns.length (txV ns) (m.on.alloc _) ⟨w.heap.size, 0, none⟩ 1 1 [.string s] rfl
    (World.news_of_block (cs := #[.string s]) (t := 9) (fr := (0, 0)) (heap_alloc_new w _)) (by intro u hu; simp at hu; subst hu; rfl) (by omega) (by unfold maxLen; omega) (by omega) (by simp; omega) (w.heap.size + 1) (by simp)
  have hvb : w2.heap[gb]? = some (.cells #[.int .i64 st, nv, o] 25) := (hgrow.block gb (by have := block_lt m.vb; simp; omega) (Ne.symm (row_no m.on (by decide) m.vb))).trans ((heap_alloc_old _ (block_lt m.vb)).trans m.vb)
  exact ⟨g, cap, w2, hr, m.name (Below.refl _ _) rfl hgrow hown hat, Lib.cell_of_heap hvb 1, by unfold World.frozen?; rw [hvb]; simp⟩
/-- An append onto its rules, of a rule whose conjuncts lie in any blocks apart. -/
theorem GV.appRuleO (m : GV B gb F st ns nv L us o w) {h : Int} {c : Value} {cs : List Cn} (hc : IsCns w Fc c cs) (hFc : ∀ b, Fc b → B.heap.size ≤ b ∧ b < w.heap.size ∧ b ≠ gb ∧ nv.ownBlock ≠ some b ∧ o.ownBlock ≠ some b) (h1 : c.oneCell' = true) (hl : L.length ≤ 100000) :
    ∃ g cap w2, (Builtin.append_ #[23, 23] 23 #[o, .slice (some ⟨w.heap.size, 0, none⟩) 1 1]).run Tryz.prog (w.alloc (.cells #[.int .i64 h, c] 53)) = .ok (.slice (some ⟨g, 0, none⟩) (L.length + 1) cap) w2 ∧ GV B gb (fun b => F b ∨ Fc b) st ns nv (L ++ [⟨h, cs⟩]) (us ++ [c]) (.slice (some ⟨g, 0, none⟩) (L.length + 1) cap) (w2.setCell ⟨gb, 2, none⟩ (.slice (some ⟨g, 0, none⟩) (L.length + 1) cap)) ∧ w2.cell? ⟨gb, 2, none⟩ = some o ∧ w2.frozen? ⟨gb, 2, none⟩ = false ∧ ∀ C : World, Below C.heap.size C w → C.heap.size ≤ gb → (∀ b, o.ownBlock = some b → C.heap.size ≤ b) → Below C.heap.size C (w2.setCell ⟨gb, 2, none⟩ (.slice (some ⟨g, 0, none⟩) (L.length + 1) cap)) := by
  obtain ⟨i, hi, hz, hs, hb⟩ := info_parts Tryz.infoRuleP
  have hbs := m.m0.bl.size
  obtain ⟨g, cap, w2, hr, hown, hgrow, hat, _⟩ := run_append_lies (P := Tryz.prog) (w.alloc (.cells #[.int .i64 h, c] 53)) 23 23 B.heap.size 53 i _ 2 32 Tryz.underlying23 hi hz hs hb rfl (by omega) o L.length (rusV L us) (m.m0.oo.alloc _) ⟨w.heap.size, 0, none⟩ 1 1 [.int .i64 h, c] rfl
    (World.news_of_block (cs := #[.int .i64 h, c]) (t := 53) (fr := (0, 0)) (heap_alloc_new w _)) (by intro u hu; simp at hu; rcases hu with rfl | rfl; rfl; exact h1) (by omega) (by unfold maxLen; omega) (by omega) (by simp; omega) (w.heap.size + 1) (by simp)
  have hvb : w2.heap[gb]? = some (.cells #[.int .i64 st, nv, o] 25) := (hgrow.block gb (by have := block_lt m.vb; simp; omega) (Ne.symm (row_no m.m0.oo (by decide) m.vb))).trans ((heap_alloc_old _ (block_lt m.vb)).trans m.vb)
  exact ⟨g, cap, w2, hr, m.ruleG hc hFc rfl hgrow hown hat rfl, Lib.cell_of_heap hvb 2, by unfold World.frozen?; rw [hvb]; simp, fun C hC h2 h3 => ((hC.alloc hC.size _).grown hgrow (by have := hC.size; simp; omega) h3).setCell (p := ⟨gb, 2, none⟩) h2 _⟩
/-- Its blocks but one. -/
theorem GV.grNot (m : GV B gb F st ns nv L us o w) {rb : Nat} (h1 : ¬ F rb) (h2 : nv.ownBlock ≠ some rb) (h3 : o.ownBlock ≠ some rb) : GrIs w (fun i => i ≠ rb) nv o ⟨st, ns, L⟩ := by
  refine ⟨Reads.of m.on (fun b hb e => h2 (e ▸ hb)), us, ?_, ?_⟩
  · exact Reads.of m.m0.oo (fun b hb e => h3 (e ▸ hb))
  · exact m.m0.ri.keep ⟨Nat.le_refl _, fun b _ => rfl⟩ (fun b hF e => h1 (e ▸ hF))
end
set_option maxHeartbeats 8000000 in
set_option maxRecDepth 100000 in
theorem one_any (g : Gr) (v1 v2 cv : Value) (cs : List Cn) (A w : World) {F Fc : Nat → Prop} (hg : GrIs w F v1 v2 g) (hA : Below A.heap.size A w) (hc : IsCns w Fc cv cs) (hFc : ∀ b, Fc b → A.heap.size ≤ b ∧ b < w.heap.size) (hM : mayG g = true) :
    Calls Tryz.prog 23 #[cv, .agg #[.int .i64 g.start, v1, v2]] w fun e w' => ∃ u1 u2, e = .returned (.agg #[.int .i64 g.start, u1, u2]) ∧ Hid (GrIs w' Any u1 u2 (extG g cs)) ∧ Hid (Below w.heap.size w w') := by
  obtain ⟨V0, hV0⟩ : ∃ V0, V0 = w.alloc (.cells #[.int .i64 g.start, v1, v2] 25) := ⟨_, rfl⟩
  obtain ⟨V, hV⟩ : ∃ V, V = V0.alloc (.cells #[.int .i64 0, .slice none 0 0, .slice none 0 0] 25) := ⟨_, rfl⟩
  obtain ⟨pb, hpb⟩ : ∃ pb, pb = w.heap.size := ⟨_, rfl⟩
  have hs1 : V0.heap.size = w.heap.size + 1 := by rw [hV0]; simp
  have hs2 : V.heap.size = w.heap.size + 2 := by rw [hV]; simp [hs1]
  obtain ⟨rb, hrb⟩ : ∃ rb, rb = w.heap.size + 1 := ⟨_, rfl⟩
  have hb0 : Below w.heap.size w V0 := by rw [hV0]; exact bel1 _ _
  have hb1 : Below V0.heap.size V0 V := by rw [hV]; exact bel1 _ _
  have hVb : Below w.heap.size w V := hb0.trans (hb1.mono hb0.size)
  have u0 : V.cell? ⟨pb, 0, none⟩ = some (.int .i64 g.start) := (hb1.cell (p := ⟨pb, 0, none⟩) (by show pb < _; omega)).trans (by rw [hpb, hV0]; exact World.cell?_alloc_at _ _ _ _ rfl)
  have u1 : V.cell? ⟨pb, 1, none⟩ = some v1 := (hb1.cell (p := ⟨pb, 1, none⟩) (by show pb < _; omega)).trans (by rw [hpb, hV0]; exact World.cell?_alloc_at _ _ _ _ rfl)
  have u2 : V.cell? ⟨pb, 2, none⟩ = some v2 := (hb1.cell (p := ⟨pb, 2, none⟩) (by show pb < _; omega)).trans (by rw [hpb, hV0]; exact World.cell?_alloc_at _ _ _ _ rfl)
  have vr : V.heap[rb]? = some (.cells #[.int .i64 0, .slice none 0 0, .slice none 0 0] 25) := by
    rw [hV, hrb, ← hs1]; exact heap_alloc_new _ _
  have hrl : rb < V.heap.size := by omega
  have hrw : w.heap.size ≤ rb := by omega
  have KC := copyGr_own g v1 v2 V (hg.any hVb) (gsz_may hM)
  have HVB : Hid (Below w.heap.size w V) := hVb
  have HAW : Hid (Below A.heap.size A w) := hA
  have HCN : Hid (IsCns w Fc cv cs) := hc
  have HFC : Hid (∀ b, Fc b → A.heap.size ≤ b ∧ b < w.heap.size) := hFc
  have hN64 := mayG_names hM
  have hR256 := (mayG_plIn hM).1
  obtain ⟨n, hn⟩ : ∃ n, n = g.names.length := ⟨_, rfl⟩
  have HN : Hid (n = g.names.length) := hn
  obtain ⟨l, hl⟩ : ∃ l, l = g.rules.length := ⟨_, rfl⟩
  have HL : Hid (l = g.rules.length) := hl
  obtain ⟨p1, c1, e1, -⟩ := hg.1
  obtain ⟨p2, c2, e2⟩ := lngR hg.2
  obtain ⟨q, cq, e3⟩ := lngC hc
  obtain ⟨m, hm⟩ : ∃ m, m = cs.length := ⟨_, rfl⟩
  rw [← hn] at e1 hN64
  rw [← hl] at e2 hR256
  rw [← hm] at e3
  subst e1 e2 e3
  clear hg hA hc hFc hM hn hl hm hVb hb0 hb1
  go_enter Tryz.func23, Tryz.ntmps23
  go_upto_region 1 with fail
  rw [← hV0, ← hV, ← hrb, ← hpb]
  clear hV0 hV hrb hpb hs1
  go_upto_region 2 with (go_at_call 26; refine KC.mono ?_; rintro e wc ⟨y1, y2, rfl, -, BC, CP⟩; obtain ⟨B, F9, us, hBb, GV0⟩ := CP.out.gvO; obtain ⟨p1', l1', hu1⟩ := row_slice GV0.on; obtain ⟨p2', l2', hu2⟩ := row_slice GV0.m0.oo; rw [← HN.out] at hu1; rw [← HL.out] at hu2; subst hu1 hu2; have HGV0 : Hid _ := (show Hid _ from GV0); clear GV0)
  obtain ⟨Y0, hY0⟩ : ∃ Y, Y = wc.alloc (.cells #[.int .i64 g.start, .slice p1' n l1', .slice p2' l l2'] 25) := ⟨_, rfl⟩
  rw [← hY0] at HGV0 ⊢
  obtain ⟨g1, cap1, w1, hr1, GV1, x1, z1⟩ := HGV0.out.appNameO n1w (by rw [← HN.out]; omega)
  have q1 : Y0.cell? ⟨wc.heap.size, 1, none⟩ = some (.slice p1' n l1') := Lib.cell_of_heap HGV0.out.vb 1
  have hz0 : wc.heap.size < Y0.heap.size := block_lt HGV0.out.vb
  rw [← HN.out] at hr1 GV1
  obtain ⟨hb9, hhb⟩ : ∃ b, b = wc.heap.size := ⟨_, rfl⟩
  rw [← hhb] at GV1 x1 z1 q1 hz0 ⊢
  have HBB : Hid (Below V.heap.size V B) := hBb
  clear hY0 hhb CP HGV0 hBb KC BC
  go_upto_region 3 with (at_builtin; refine wpList_run_append rfl _ _ 22 rfl _ _ rfl rfl hr1 ?_)
  obtain ⟨X2, hX2⟩ : ∃ X, X = w1.setCell ⟨hb9, 1, none⟩ (.slice (some ⟨g1, 0, none⟩) (n + 1) cap1) := ⟨_, rfl⟩
  rw [← hX2] at GV1 ⊢
  have hVX : Below V.heap.size V X2 := HBB.out.trans (GV1.m0.bl.mono HBB.out.size)
  have hBV := HBB.out.size
  have hwX : Below w.heap.size w X2 := HVB.out.trans (hVX.mono HVB.out.size)
  have hAB : Below A.heap.size A B := (HAW.out.trans (HVB.out.mono HAW.out.size)).trans (HBB.out.mono (by have := HAW.out.size; have := HVB.out.size; omega))
  have q2 : X2.cell? ⟨hb9, 2, none⟩ = some (.slice p2' l l2') := Lib.cell_of_heap GV1.vb 2
  have zb : hb9 < X2.heap.size := block_lt GV1.vb
  have hg9 : B.heap.size ≤ hb9 := GV1.gg
  have v1' : X2.cell? ⟨pb, 1, none⟩ = some (.slice p1 n c1) := (hVX.cell (p := ⟨pb, 1, none⟩) (block_lt_of_cell u1)).trans u1
  have vr2 : X2.heap[rb]? = some (.cells #[.int .i64 0, .slice none 0 0, .slice none 0 0] 25) := (hVX.block rb hrl).trans vr
  have hof : ∀ b, (Value.slice p2' l l2').ownBlock = some b → B.heap.size ≤ b := fun b hb => (GV1.m0.oo.lt b hb).1
  have hnf : ∀ b, (Value.slice (some ⟨g1, 0, none⟩) (n + 1) cap1).ownBlock = some b → B.heap.size ≤ b := fun b hb => (GV1.on.lt b hb).1
  obtain ⟨g2, cap2, w2, hr2, GV2, x2, z2, hbl⟩ := (GV1.low hAB).appRuleO (h := (n : Int)) (HCN.out.any hwX) (fun b hb => by
    have h7 := HFC.out b hb
    have h8 := hVX.size
    refine ⟨h7.1, by omega, by omega, fun e => by have := hnf b e; omega, fun e => by have := hof b e; omega⟩) rfl (by rw [← HL.out]; omega)
  rw [← HL.out] at hr2 GV2 hbl
  obtain ⟨X3, hX3⟩ : ∃ X, X = w2.setCell ⟨hb9, 2, none⟩ (.slice (some ⟨g2, 0, none⟩) (l + 1) cap2) := ⟨_, rfl⟩
  rw [← hX3] at GV2 hbl
  have hVX3 : Below V.heap.size V X3 := hbl V hVX (by omega) (fun b hb => by have := hof b hb; omega)
  have t0 : X3.cell? ⟨hb9, 0, none⟩ = some (.int .i64 g.start) := Lib.cell_of_heap GV2.vb 0
  have t1 : X3.cell? ⟨hb9, 1, none⟩ = some (.slice (some ⟨g1, 0, none⟩) (n + 1) cap1) := Lib.cell_of_heap GV2.vb 1
  have t2 : X3.cell? ⟨hb9, 2, none⟩ = some (.slice (some ⟨g2, 0, none⟩) (l + 1) cap2) := Lib.cell_of_heap GV2.vb 2
  have zt : hb9 < X3.heap.size := block_lt GV2.vb
  have vr3 : X3.heap[rb]? = some (.cells #[.int .i64 0, .slice none 0 0, .slice none 0 0] 25) := (hVX3.block rb hrl).trans vr
  have s0 : X3.cell? ⟨rb, 0, none⟩ = some (.int .i64 0) := Lib.cell_of_heap vr3 0
  have s1 : X3.cell? ⟨rb, 1, none⟩ = some (.slice none 0 0) := Lib.cell_of_heap vr3 1
  have s2 : X3.cell? ⟨rb, 2, none⟩ = some (.slice none 0 0) := Lib.cell_of_heap vr3 2
  have ff : ∀ k, X3.frozen? ⟨rb, k, none⟩ = false := fun k => by unfold World.frozen?; rw [vr3]; simp
  have f0 := ff 0
  have f1 := ff 1
  have f2 := ff 2
  have hrne : rb ≠ hb9 := by omega
  have hbw : Below w.heap.size w X3 := HVB.out.trans (hVX3.mono HVB.out.size)
  have HGR : Hid (GrIs X3 (fun i => i ≠ rb) (.slice (some ⟨g1, 0, none⟩) (n + 1) cap1) (.slice (some ⟨g2, 0, none⟩) (l + 1) cap2) (extG g cs)) := by
    have := GV2.grNot (rb := rb) (fun hF => by
      rcases hF with hF | hF
      · have := (GV1.m0.fl rb hF).1; omega
      · have := (HFC.out rb hF).2; omega) (fun e => by have := hnf rb e; omega) (row_no GV2.m0.oo (by decide) vr3)
    unfold extG
    rw [← HN.out]
    exact this
  have HBW : Hid (Below w.heap.size w X3) := hbw
  have hag : (Value.slice q m cq).ownBlock = (Value.slice q m cq).ownBlock := rfl
  clear GV1 GV2 hX2 x1 z1 hr1 hz0 q1 hbl hVX hVX3 hwX hAB hof hnf ff vr vr2 vr3 hag hbw u0 u1 u2 HBB
  go_upto_region 4 with (at_builtin; refine wpList_run_append rfl _ _ 23 rfl _ _ rfl rfl hr2 ?_)
  rw [← hX3]
  clear hX3 hr2 x2 z2 q2 zb v1'
  obtain ⟨X4, hX4⟩ : ∃ X4, X4 = ((X3.setCell ⟨rb, 0, none⟩ (.int .i64 g.start)).setCell ⟨rb, 1, none⟩ (.slice (some ⟨g1, 0, none⟩) (n + 1) cap1)).setCell ⟨rb, 2, none⟩ (.slice (some ⟨g2, 0, none⟩) (l + 1) cap2) := ⟨_, rfl⟩
  have HB4 : Hid (Below w.heap.size w X4) := by
    show Below _ _ _
    rw [hX4]
    exact ((HBW.out.setCell (p := ⟨rb, 0, none⟩) hrw _).setCell (p := ⟨rb, 1, none⟩) hrw _).setCell (p := ⟨rb, 2, none⟩) hrw _
  have HG4 : Hid (GrIs X4 Any (.slice (some ⟨g1, 0, none⟩) (n + 1) cap1) (.slice (some ⟨g2, 0, none⟩) (l + 1) cap2) (extG g cs)) := by
    have hst : Stay (fun i => i ≠ rb) X3 X4 := by
      rw [hX4]
      refine ⟨by simp [World.setCell], fun b hb => ?_⟩
      rw [Go.Deep.blk_setCell_other _ ⟨rb, 2, none⟩ _ b hb, Go.Deep.blk_setCell_other _ ⟨rb, 1, none⟩ _ b hb, Go.Deep.blk_setCell_other _ ⟨rb, 0, none⟩ _ b hb]
    exact ⟨Reads.keep HGR.out.1 hst (fun _ _ => trivial), HGR.out.2.keep hst (fun _ _ => trivial)⟩
  go_wp2
  (try simp only [Exit.inBlock, Exit.then])
  refine bodyPost_ret (v := .agg #[.int .i64 g.start, .slice (some ⟨g1, 0, none⟩) (n + 1) cap1, .slice (some ⟨g2, 0, none⟩) (l + 1) cap2]) ?_ rfl ⟨_, _, rfl, by rw [← hX4]; exact HG4, by rw [← hX4]; exact HB4⟩
  rw [results_cell rfl]
  go_simp
end Go.Proofs.YtfjejnkjlnkkhaaGreatDoor
