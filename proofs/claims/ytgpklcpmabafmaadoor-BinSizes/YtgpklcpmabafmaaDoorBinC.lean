/- cutRules of package bin. -/
import Derived.Test.YtgpklcpmabafmaaDoorBinP
namespace Go.Proofs.YtgpklcpmabafmaaDoor
set_option linter.unusedVariables false
set_option linter.unusedSimpArgs false
open Go.ChangeShapes Go.WideShapes Go.ChangeAt Go.RowKit

section
variable {W w w' w1 w2 : World} {qb n rb k : Nat} {rows : List (List Sy)} {vs xs : List Value} {q c : Value}
/-- The queue stays while a conjunct is put to a rule. -/
theorem Qu.beside (m : Qu W qb n rows vs q w) (hb : Below w.heap.size w w1) (hc : w1.ownsRow W.heap.size 30 2 c k xs) {o' : Obj} (hg : (w1.alloc o').grownBy w2 c.ownBlock) {arr : Array Value} (hrb : w.heap[rb]? = some (.cells arr 35)) (rg : W.heap.size ≤ rb) (v : Value) : Qu W qb n rows vs q (w2.setCell ⟨rb, 1, none⟩ v) := by
  have m1 := (m.keep hb).keep (bel1 w1 o')
  have hc1 := hc.alloc o'
  have hrb1 : (w1.alloc o').heap[rb]? = some (.cells arr 35) := (heap_alloc_old _ (Nat.lt_of_lt_of_le (block_lt hrb) hb.size)).trans ((hb.block rb (block_lt hrb)).trans hrb)
  have hrb2 := row_other hc1 (by decide) hrb1 hg
  have hq2 := row_other hc1 (by decide) m1.qv hg
  have hne : qb ≠ rb := fun e => by
    rw [← e, m1.qv] at hrb1
    injection hrb1 with h1
    injection h1 with _ h2
    exact absurd h2 (by decide)
  have ho2 := row_grown m1.oq hc1 (by decide) hg
  refine ⟨(Go.Deep.blk_setCell_other w2 ⟨rb, 1, none⟩ _ qb hne).trans hq2, ownsRow_setCell_other (a := ⟨rb, 1, none⟩) ho2 (row_no ho2 (by decide) hrb2) _, m.is, ?_, m.qg⟩
  exact ((m1.bl.grown hg m1.bl.size (fun b hb => (hc1.lt b hb).1)).setCell (p := ⟨rb, 1, none⟩) rg _)
/-- And while a rule is put to the others. -/
theorem Qu.besideR (m : Qu W qb n rows vs q w) (hc : w.ownsRow W.heap.size 35 2 c k xs) {o' : Obj} (hg : (w.alloc o').grownBy w2 c.ownBlock) : Qu W qb n rows vs q w2 := by
  have m1 := m.keep (bel1 w o')
  have hc1 := hc.alloc o'
  exact ⟨row_other hc1 (by decide) m1.qv hg, row_grown m1.oq hc1 (by decide) hg, m.is, m1.bl.grown hg m1.bl.size (fun b hb => (hc1.lt b hb).1), m.qg⟩
end
theorem drop_atB {α : Type} {l : List α} {i : Nat} {x : α} (h : l[i]? = some x) : l.drop i = x :: l.drop (i + 1) := by
  obtain ⟨h1, h2⟩ := List.getElem?_eq_some_iff.1 h
  rw [List.drop_eq_getElem_cons h1, h2]
theorem owns_lowB {w : World} {base base' e size n : Nat} {v : Value} {xs : List Value} (h : w.ownsRow base e size v n xs) (hb : base' ≤ base) : w.ownsRow base' e size v n xs := by
  obtain ⟨h0, h1 | ⟨g, cap, cur, h1, h2, h3⟩⟩ := h
  · exact ⟨h0, Or.inl h1⟩
  · exact ⟨h0, Or.inr ⟨g, cap, cur, h1, Nat.le_trans hb h2, h3⟩⟩
theorem IsSys.anyB {W w : World} {v : Value} {l : List Sy} (h : IsSys W Any v l) (hb : Below W.heap.size W w) : IsSys w Any v l := Reads.any h hb
/-- What is asked of the sizes. -/
def BinZ (L : List Ru) : Prop := L.length ≤ 256 ∧ (rowsR L).length ≤ 2000 ∧ ∀ r, r ∈ L → r.conj.length ≤ 8 ∧ ∀ c, c ∈ r.conj → c.seq.length ≤ 64
theorem Tryd.infoCnB : (Tryd.prog.info? 30).map (fun i => (i.zero, i.size, i.bytes)) = some (some (.agg #[.bool false, .slice none 0 0]), 2, 32) := by kernel_rfl
theorem Tryd.infoRuB : (Tryd.prog.info? 35).map (fun i => (i.zero, i.size, i.bytes)) = some (some (.agg #[.int .i64 0, .slice none 0 0]), 2, 32) := by kernel_rfl
/-- A conjunct more: the append, and what stands behind it. -/
theorem stepB {W w w1 : World} {qb n rb k : Nat} {F : Nat → Prop} {L : List Ru} {us ws vs : List Value} {o q v' : Value} {pc : Option Addr} {cc : Nat} {h : Int} {M : List Cn} {rows : List (List Sy)} {pt : List Sy} {ng : Bool}
    (m : Mk W rb F L us o h M ws (.slice pc k cc) w) (mq : Qu W qb n rows vs q w) (dj : ∀ b, F b → b ≠ qb ∧ q.ownBlock ≠ some b) (hM : M.length = k) (hk : k ≤ 100000) (hb : Below w.heap.size w w1) (hs : w1.ownsRow w.heap.size 32 3 v' pt.length (sysV pt)) (h1 : v'.oneCell' = true) :
    ∃ g cap w2, (Builtin.append_ #[33, 33] 33 #[.slice pc k cc, .slice (some ⟨w1.heap.size, 0, none⟩) 1 1]).run Tryd.prog (w1.alloc (.cells #[.bool ng, v'] 30)) = .ok (.slice (some ⟨g, 0, none⟩) (k + 1) cap) w2 ∧ w2.cell? ⟨rb, 1, none⟩ = some (.slice pc k cc) ∧ w2.frozen? ⟨rb, 1, none⟩ = false ∧
      Hid (Mk W rb (fun b => F b ∨ v'.ownBlock = some b) L us o h (M ++ [⟨ng, pt⟩]) (ws ++ [v']) (.slice (some ⟨g, 0, none⟩) (k + 1) cap) (w2.setCell ⟨rb, 1, none⟩ (.slice (some ⟨g, 0, none⟩) (k + 1) cap))) ∧ Hid (Qu W qb n rows vs q (w2.setCell ⟨rb, 1, none⟩ (.slice (some ⟨g, 0, none⟩) (k + 1) cap))) ∧ Hid (∀ b, (F b ∨ v'.ownBlock = some b) → b ≠ qb ∧ q.ownBlock ≠ some b) ∧ (∀ b, b < w.heap.size → b ≠ rb → (Value.slice pc k cc).ownBlock ≠ some b → w2.heap[b]? = w.heap[b]? ∧ (w2.setCell ⟨rb, 1, none⟩ (.slice (some ⟨g, 0, none⟩) (k + 1) cap)).heap[b]? = w.heap[b]?) := by
  obtain ⟨i, hi, hz, hsz, hby⟩ := info_parts Tryd.infoCnB
  have hoc := (m.keep hb).oc
  rw [hM] at hoc
  have hbs := (m.keep hb).m0.bl.size
  obtain ⟨g, cap, w2, hr, hown, hgrow, hat, _⟩ := run_append_lies (P := Tryd.prog) (w1.alloc (.cells #[.bool ng, v'] 30)) 33 33 W.heap.size 30 i _ 2 32 Tryd.underlying33 hi hz hsz hby rfl (by omega) (.slice pc k cc) k (cnsV M ws) (hoc.alloc _) ⟨w1.heap.size, 0, none⟩ 1 1 [.bool ng, v'] rfl
    (World.news_of_block (cs := #[.bool ng, v']) (t := 30) (fr := (0, 0)) (heap_alloc_new w1 _)) (by intro u hu; simp at hu; rcases hu with rfl | rfl; rfl; exact h1) (by omega) (by unfold maxLen; omega) (by omega) (by simp; omega) (w1.heap.size + 1) (by simp)
  have hrb := (m.keep hb).rb
  have hvb : w2.heap[rb]? = some (.cells #[.int .i64 h, .slice pc k cc] 35) := row_other (hoc.alloc _) (by decide) ((heap_alloc_old _ (block_lt hrb)).trans hrb) hgrow
  refine ⟨g, cap, w2, hr, Lib.cell_of_heap hvb 1, by unfold World.frozen?; rw [hvb]; simp, m.conj' hM hb hs hgrow hown hat rfl, mq.beside hb hoc hgrow m.rb m.rg _, fun b hF => ?_, fun b h3 h4 h5 => ?_⟩
  · rcases hF with hF | hF
    · exact dj b hF
    · have h9 := (hs.lt b hF).1
      exact ⟨fun e => by have := block_lt mq.qv; omega, fun e => by have := (mq.oq.lt b e).2; omega⟩
  · have h6 : w2.heap[b]? = w.heap[b]? := (hgrow.block b (by have := hb.size; simp; omega) (Ne.symm h5)).trans ((heap_alloc_old _ (Nat.lt_of_lt_of_le h3 hb.size)).trans (hb.block b h3))
    exact ⟨h6, (Go.Deep.blk_setCell_other w2 ⟨rb, 1, none⟩ _ b h4).trans h6⟩
/-- A rule more. -/
theorem stepR {W w : World} {qb n rb k : Nat} {F : Nat → Prop} {L : List Ru} {us ws vs : List Value} {q c : Value} {po : Option Addr} {co : Nat} {h : Int} {M : List Cn} {rows : List (List Sy)}
    (m : Mk W rb F L us (.slice po k co) h M ws c w) (mq : Qu W qb n rows vs q w) (dj : ∀ b, F b → b ≠ qb ∧ q.ownBlock ≠ some b) (hL : L.length = k) (hk : k ≤ 100000) (h1 : c.oneCell' = true) :
    ∃ g cap w2, (Builtin.append_ #[25, 25] 25 #[.slice po k co, .slice (some ⟨w.heap.size, 0, none⟩) 1 1]).run Tryd.prog (w.alloc (.cells #[.int .i64 h, c] 35)) = .ok (.slice (some ⟨g, 0, none⟩) (k + 1) cap) w2 ∧
      Hid (Mk0 W (fun b => F b ∨ c.ownBlock = some b) (L ++ [⟨h, M⟩]) (us ++ [c]) (.slice (some ⟨g, 0, none⟩) (k + 1) cap) w2) ∧ Hid (Qu W qb n rows vs q w2) ∧ Hid (∀ b, (F b ∨ c.ownBlock = some b) → b ≠ qb ∧ q.ownBlock ≠ some b) := by
  obtain ⟨i, hi, hz, hsz, hby⟩ := info_parts Tryd.infoRuB
  have hoo := m.m0.oo
  rw [hL] at hoo
  have hbs := m.m0.bl.size
  obtain ⟨g, cap, w2, hr, hown, hgrow, hat, _⟩ := run_append_lies (P := Tryd.prog) (w.alloc (.cells #[.int .i64 h, c] 35)) 25 25 W.heap.size 35 i _ 2 32 Tryd.underlying25 hi hz hsz hby rfl (by omega) (.slice po k co) k (rusV L us) (hoo.alloc _) ⟨w.heap.size, 0, none⟩ 1 1 [.int .i64 h, c] rfl
    (World.news_of_block (cs := #[.int .i64 h, c]) (t := 35) (fr := (0, 0)) (heap_alloc_new w _)) (by intro u hu; simp at hu; rcases hu with rfl | rfl; rfl; exact h1) (by omega) (by unfold maxLen; omega) (by omega) (by simp; omega) (w.heap.size + 1) (by simp)
  refine ⟨g, cap, w2, hr, m.rule' hL hgrow hown hat rfl, mq.besideR hoo hgrow, fun b hF => ?_⟩
  rcases hF with hF | hF
  · exact dj b hF
  · exact ⟨fun e => row_no m.oc (by decide) mq.qv (e ▸ hF), fun e => own_two m.oc mq.oq (by decide) hF e⟩
set_option maxHeartbeats 16000000 in
set_option maxRecDepth 100000 in
theorem cut_any (W : World) (qb n : Nat) (L0 : List Ru) (v : Value) (w : World) (hs : IsRus W Any v L0) (m : Qu W qb n [] [] (.slice none 0 0) w) (hz : BinZ L0) (hn : n ≤ 64) :
    Calls Tryd.prog 14 #[.pointer (some ⟨qb, 0, none⟩), v] w fun e w' => ∃ (o q : Value) (F : Nat → Prop) (us vs : List Value), e = .returned o ∧ Hid (Mk0 W F (cutR n 0 L0) us o w') ∧ Hid (Qu W qb n (rowsR L0) vs q w') ∧ Hid (∀ b, F b → b ≠ qb ∧ q.ownBlock ≠ some b) := by
  obtain ⟨i9, hi0, hz0, hz1, hz2⟩ := info_parts Tryd.infoCnB
  have HI : Hid (Tryd.prog.info? 30 = some i9 ∧ i9.zero = some (.agg #[.bool false, .slice none 0 0]) ∧ i9.size = 2 ∧ i9.bytes = 32) := ⟨hi0, hz0, hz1, hz2⟩
  obtain ⟨ir, hr0, hr1, hr2, hr3⟩ := info_parts Tryd.infoRuB
  have HJ : Hid (Tryd.prog.info? 35 = some ir ∧ ir.zero = some (.agg #[.int .i64 0, .slice none 0 0]) ∧ ir.size = 2 ∧ ir.bytes = 32) := ⟨hr0, hr1, hr2, hr3⟩
  have HM : Hid (Qu W qb n [] [] (.slice none 0 0) w) := m
  have HZ : Hid (BinZ L0) := hz
  have hl256 : L0.length ≤ 256 := hz.1
  obtain ⟨us0, ⟨p, cp, rfl, -, hca⟩, hia⟩ := hs
  have HA : Hid (0 < L0.length → ∃ g o, p = some ⟨g, o, none⟩ ∧ Any g ∧ g < W.heap.size ∧ (∀ j c, (rusV L0 us0)[j]? = some c → W.cell? ⟨g, o + j, none⟩ = some c) ∧ ∀ j, j < (rusV L0 us0).length → W.frozen? ⟨g, o + j, none⟩ = false) := hca
  have IA : Hid (RusIn W Any L0 us0) := hia
  clear hca hia hi0 hz0 hz1 hz2 hr0 hr1 hr2 hr3 m hz
  go_enter Tryd.func14, Tryd.ntmps14
  go_wp2
  go_loopw [5, 14] (fun o x wr => ∃ (i : Nat) (po : Option Addr) (co : Nat) (L : List Ru) (us : List Value) (F : Nat → Prop) (rows : List (List Sy)) (vs : List Value) (q : Value), i ≤ L0.length ∧ x = .int .i64 (i : Int) ∧ o = .slice po i co ∧ Hid (L.length = i) ∧ Hid (L ++ cutR n rows.length (L0.drop i) = cutR n 0 L0) ∧ Hid (rows ++ rowsR (L0.drop i) = rowsR L0) ∧ Hid (Mk0 W F L us (.slice po i co) wr) ∧ Hid (Qu W qb n rows vs q wr) ∧ Hid (∀ b, F b → b ≠ qb ∧ q.ownBlock ≠ some b)) (fun _ x _ => L0.length - (intOf x).toNat)
  case atStart => exact ⟨0, none, 0, [], [], fun _ => False, [], [], .slice none 0 0, Nat.zero_le _, rfl, rfl, rfl, rfl, rfl, ⟨fun b hb => hb.elim, World.ownsRow_nil _ _ _ _, nil_not _, RusIn.nil _ _, HM.out.bl⟩, HM, fun b hb => hb.elim⟩
  case round =>
    obtain ⟨i, po, co, L, us, F, rows, vs, q, hi, rfl, rfl, HLL, HL, HR, MM, QQ, DJ⟩ := hrel
    by_cases hlt : i < L0.length
    · obtain ⟨r, hr⟩ : ∃ r, L0[i]? = some r := ⟨_, List.getElem?_eq_getElem hlt⟩
      obtain ⟨u, hu⟩ : ∃ u, us0[i]? = some u := ⟨_, List.getElem?_eq_getElem (by rw [IA.out.1]; exact hlt)⟩
      obtain ⟨g1, o1, hp, -, hg1, ca, -⟩ := HA.out (by omega)
      subst hp
      obtain ⟨i0, i1⟩ := rusV_at L0 us0 i r u hr hu
      have a0 := (MM.out.bl.cell (p := ⟨_, _, none⟩) hg1).trans (ca _ _ i0)
      have a1 := (MM.out.bl.cell (p := ⟨_, _, none⟩) hg1).trans (reas (ca _ _ i1))
      have hrz := HZ.out.2.2 r (List.mem_of_getElem? hr)
      have HRZ : Hid (∀ c, c ∈ r.conj → c.seq.length ≤ 64) := hrz.2
      have hc8 : r.conj.length ≤ 8 := hrz.1
      have icn := IA.out.2 i r u hr hu
      obtain ⟨ws0, ⟨pc0, cc0, rfl, -, hcc⟩, hic⟩ := icn
      have HC : Hid (0 < r.conj.length → ∃ g o, pc0 = some ⟨g, o, none⟩ ∧ Any g ∧ g < W.heap.size ∧ (∀ j c, (cnsV r.conj ws0)[j]? = some c → W.cell? ⟨g, o + j, none⟩ = some c) ∧ ∀ j, j < (cnsV r.conj ws0).length → W.frozen? ⟨g, o + j, none⟩ = false) := hcc
      have IC : Hid (CnsIn W Any r.conj ws0) := hic
      have HL2 : Hid (L ++ (⟨r.head, cutC n rows.length r.conj⟩ :: cutR n (rows.length + (rowsC r.conj).length) (L0.drop (i + 1))) = cutR n 0 L0) := by
        have h9 := HL.out
        rw [drop_atB hr] at h9
        exact h9
      have HR2 : Hid (rows ++ rowsC r.conj ++ rowsR (L0.drop (i + 1)) = rowsR L0) := by
        have h9 := HR.out
        rw [drop_atB hr] at h9
        rw [List.append_assoc]
        exact h9
      have HRL : Hid (rows.length + (rowsC r.conj).length ≤ 2000) := by
        have h9 := HZ.out.2.1
        rw [← HR2.out] at h9
        simp only [List.length_append] at h9
        show _ ≤ _
        omega
      have e1 : decide ((i : Int) < (L0.length : Int)) = true := decide_eq_true (by omega)
      have e1' : (i : Int) < (L0.length : Int) := by omega
      obtain ⟨hd, cj⟩ := r
      simp only at a0 a1 hc8 HRZ HC IC HL2 HR2 HRL
      go_upto_region 6 with fail
      obtain ⟨V1, hV1⟩ : ∃ V, V = wr.alloc (.cells #[.int .i64 hd, .slice pc0 cj.length cc0] 35) := ⟨_, rfl⟩
      obtain ⟨V2, hV2⟩ : ∃ V, V = V1.alloc (.cells #[.int .i64 hd, .slice none 0 0] 35) := ⟨_, rfl⟩
      have s1 : V1.heap.size = wr.heap.size + 1 := by rw [hV1]; simp
      obtain ⟨rb, hrb⟩ : ∃ rb, rb = wr.heap.size + 1 := ⟨_, rfl⟩
      have b1 : Below wr.heap.size wr V1 := by rw [hV1]; exact bel1 _ _
      have b2 : Below V1.heap.size V1 V2 := by rw [hV2]; exact bel1 _ _
      have MK0 : Hid (Mk W rb F L us (.slice po i co) hd [] [] (.slice none 0 0) V2) := by
        have h9 := (MM.out.keep b1).open hd
        rw [s1, ← hrb, ← hV2] at h9
        exact h9
      have QQ2 : Hid (Qu W qb n rows vs q V2) := (QQ.out.keep b1).keep b2
      have t1 : V2.cell? ⟨wr.heap.size, 1, none⟩ = some (.slice pc0 cj.length cc0) := (b2.cell (p := ⟨wr.heap.size, 1, none⟩) (by show wr.heap.size < _; omega)).trans (by rw [hV1]; exact World.cell?_alloc_at _ _ _ _ rfl)
      rw [← hV1, ← hV2, ← hrb]
      clear e1 e1' hV1 hV2 s1 b1 b2 a0 a1 i0 i1 ca hu hcc hic hrz hg1 HL HR QQ MM hrb
      go_wp2
      clear t1
      go_loopw [24] (fun x wz => ∃ (k : Nat) (pc : Option Addr) (cc : Nat) (M : List Cn) (ws : List Value) (F2 : Nat → Prop) (rows2 : List (List Sy)) (vs2 : List Value) (q2 : Value), k ≤ cj.length ∧ x = .int .i64 (k : Int) ∧ Hid (M.length = k) ∧ Hid (M ++ cutC n rows2.length (cj.drop k) = cutC n rows.length cj) ∧ Hid (rows2 ++ rowsC (cj.drop k) = rows ++ rowsC cj) ∧ Hid (Mk W rb F2 L us (.slice po i co) hd M ws (.slice pc k cc) wz) ∧ Hid (Qu W qb n rows2 vs2 q2 wz) ∧ Hid (∀ b, F2 b → b ≠ qb ∧ q2.ownBlock ≠ some b)) (fun x _ => cj.length - (intOf x).toNat)
      case atStart => exact ⟨0, none, 0, [], [], F, rows, vs, q, Nat.zero_le _, rfl, rfl, rfl, rfl, MK0, QQ2, DJ⟩
      case round =>
        obtain ⟨k, pc, cc, M, ws, F2, rows2, vs2, q2, hk, rfl, HML, HCT, HRW, MK, QK, DK⟩ := hrel
        clear MK0 QQ2 DJ
        by_cases hltk : k < cj.length
        · obtain ⟨c, hc⟩ : ∃ c, cj[k]? = some c := ⟨_, List.getElem?_eq_getElem hltk⟩
          obtain ⟨u, hu⟩ : ∃ u, ws0[k]? = some u := ⟨_, List.getElem?_eq_getElem (by rw [IC.out.1]; exact hltk)⟩
          obtain ⟨g3, o3, hp3, -, hg3, ca, -⟩ := HC.out (by omega)
          subst hp3
          obtain ⟨i0, i1⟩ := cnsV_at cj ws0 k c u hc hu
          have c0 := (MK.out.m0.bl.cell (p := ⟨_, _, none⟩) hg3).trans (ca _ _ i0)
          have c1 := (MK.out.m0.bl.cell (p := ⟨_, _, none⟩) hg3).trans (reas (ca _ _ i1))
          have HIS := (show Hid _ from IC.out.2 k c u hc hu)
          have hc64 := HRZ.out c (List.mem_of_getElem? hc)
          have HCT2 : Hid (M ++ (⟨c.neg, pairT c.seq ((n + rows2.length : Nat) : Int)⟩ :: cutC n (rows2.length + (addT c.seq).length) (cj.drop (k + 1))) = cutC n rows.length cj) := by
            have h9 := HCT.out
            rw [drop_atB hc] at h9
            exact h9
          have HRW2 : Hid (rows2 ++ addT c.seq ++ rowsC (cj.drop (k + 1)) = rows ++ rowsC cj) := by
            have h9 := HRW.out
            rw [drop_atB hc] at h9
            rw [List.append_assoc]
            exact h9
          have hrl : rows2.length ≤ 2000 := by
            have h9 := HRL.out
            rw [← List.length_append, ← HRW2.out] at h9
            simp only [List.length_append] at h9
            omega
          obtain ⟨ng, sq⟩ := c
          simp only at c0 c1 HIS hc64 HCT2 HRW2
          obtain ⟨ps, cs, hu2⟩ : ∃ p c, u = .slice p sq.length c := by obtain ⟨p, c, e, -⟩ := HIS.out; exact ⟨p, c, e⟩
          subst hu2
          obtain ⟨pq, cq, hq2⟩ : ∃ p c, q2 = .slice p rows2.length c := row_slice QK.out.oq
          subst hq2
          obtain ⟨R, hR⟩ : ∃ R, R = rows2.length := ⟨_, rfl⟩
          have HRR : Hid (R = rows2.length) := hR
          have e1 : decide ((k : Int) < (cj.length : Int)) = true := decide_eq_true (by omega)
          have e1' : (k : Int) < (cj.length : Int) := by omega
          have hR2 : R ≤ 2000 := by omega
          go_upto_region 9 with fail
          obtain ⟨X1, hX1⟩ : ∃ X, X = wr.alloc (.cells #[.bool ng, .slice ps sq.length cs] 30) := ⟨_, rfl⟩
          have bX1 : Below wr.heap.size wr X1 := by rw [hX1]; exact bel1 _ _
          have hb10 : X1.heap[wr.heap.size]? = some (.cells #[.bool ng, .slice ps sq.length cs] 30) := by rw [hX1]; exact heap_alloc_new _ _
          obtain ⟨b10, hb⟩ : ∃ b, b = wr.heap.size := ⟨_, rfl⟩
          have HNB : Hid (∀ b, (Value.slice pc k cc).ownBlock = some b → b < b10) := fun b e => by rw [hb]; exact (MK.out.oc.lt b e).2
          have HRB : Hid (rb < b10) := by show _ < _; rw [hb]; exact block_lt MK.out.rb
          rw [← hX1, ← hb]
          rw [← hb] at hb10
          have HB10 : Hid (X1.heap[b10]? = some (.cells #[.bool ng, .slice ps sq.length cs] 30)) := hb10
          have MK1 : Hid (Mk W rb F2 L us (.slice po i co) hd M ws (.slice pc k cc) X1) := MK.out.keep bX1
          have QK1 : Hid (Qu W qb n rows2 vs2 (.slice pq rows2.length cq) X1) := QK.out.keep bX1
          have HQC : Hid (∀ w', Below X1.heap.size X1 w' → w'.cell? ⟨qb, 0, none⟩ = some (.int .i64 (n : Int)) ∧ w'.cell? ⟨qb, 1, none⟩ = some (.slice pq R cq)) := fun w' hb => ⟨(hb.cell (p := ⟨qb, 0, none⟩) (block_lt QK1.out.qv)).trans (Lib.cell_of_heap QK1.out.qv 0), (hb.cell (p := ⟨qb, 1, none⟩) (block_lt QK1.out.qv)).trans (by rw [hR]; exact Lib.cell_of_heap QK1.out.qv 1)⟩
          clear e1 e1' c0 c1 i0 i1 ca hg3 hu hX1 bX1 hb10 hb MK QK HCT HRW hR hrl
          go_region_held3 (fun w' => Below X1.heap.size X1 w' ∧ w'.cell? ⟨qb, 0, none⟩ = some (.int .i64 (n : Int)) ∧ w'.cell? ⟨qb, 1, none⟩ = some (.slice pq R cq))
            ((refine (fun hb => ⟨hb, HQC.out _ hb⟩ : Below X1.heap.size X1 _ → _) ?_; repeat' (first | with_reducible assumption | with_reducible exact Below.refl _ _ | with_reducible apply Below.drew)))
            (fail)
          obtain ⟨X2, hX2⟩ : ∃ X, X = X1.drew := ⟨_, rfl⟩
          have bX2 : Below X1.heap.size X1 X2 := by rw [hX2]; exact (Below.refl _ _).drew
          rw [← hX2]
          have hwr : IntKind.i64.wrap ((n : Int) + (R : Int)) = (n : Int) + (R : Int) := by rw [IntKind.wrap_i64]; omega
          rw [hwr]
          clear hwr
          have MK2 : Hid (Mk W rb F2 L us (.slice po i co) hd M ws (.slice pc k cc) X2) := MK1.out.keep bX2
          have QK2 : Hid (Qu W qb n rows2 vs2 (.slice pq rows2.length cq) X2) := QK1.out.keep bX2
          have HB2 : Hid (X2.heap[b10]? = some (.cells #[.bool ng, .slice ps sq.length cs] 30)) := (bX2.block b10 (block_lt HB10.out)).trans HB10.out
          have t1 : X2.cell? ⟨b10, 1, none⟩ = some (.slice ps sq.length cs) := Lib.cell_of_heap HB2.out 1
          have KAD := addQ_any W qb n sq (.slice ps sq.length cs) X2 rows2 vs2 _ HIS.out QK2.out (by have := HRR.out; omega)
          clear hX2 bX2 HQC MK1 QK1 HB10
          go_upto_region 11 with (go_at_call 26; refine KAD.mono ?_; rintro e X3 ⟨rfl, vs3, q3, QK3, OQ3, QN3⟩)
          clear t1 KAD
          have MK3 : Hid (Mk W rb F2 L us (.slice po i co) hd M ws (.slice pc k cc) X3) := MK2.out.oq QK2.out DK.out OQ3.out QK3.out.bl
          have HB3 : Hid (X3.heap[b10]? = some (.cells #[.bool ng, .slice ps sq.length cs] 30)) := by
            refine (OQ3.out.2 b10 (block_lt HB2.out) (fun e => ?_) (row_no QK2.out.oq (by decide) HB2.out)).trans HB2.out
            have h9 := HB2.out
            rw [e, QK2.out.qv] at h9
            injection h9 with h9
            injection h9 with _ h9
            exact absurd h9 (by decide)
          have DK3 : Hid (∀ b, F2 b → b ≠ qb ∧ q3.ownBlock ≠ some b) := fun b hb => ⟨(DK.out b hb).1, fun e => by
            rcases QN3.out with e2 | e2
            · rw [e2] at e; exact (DK.out b hb).2 e
            · have := e2 b e; have := (MK2.out.m0.fl b hb).2; omega⟩
          clear MK2 QK2 HB2 OQ3 QN3 DK
          have hrl3 := block_lt MK3.out.rb
          have hb3 := block_lt HB3.out
          have hwz : W.heap.size ≤ X3.heap.size := MK3.out.m0.bl.size
          have MR : Calls Tryd.prog 27 #[.slice ps sq.length cs, .int .i64 ((n : Int) + (R : Int))] X3.drew fun e w' => ∃ p' c', e = .returned (.slice p' (pairT sq ((n : Int) + (R : Int))).length c') ∧ Hid (w'.ownsRow X3.heap.size 32 3 (.slice p' (pairT sq ((n : Int) + (R : Int))).length c') (pairT sq ((n : Int) + (R : Int))).length (sysV (pairT sq ((n : Int) + (R : Int))))) ∧ Hid (Below X3.heap.size X3 w') ∧ w'.cell? ⟨rb, 1, none⟩ = some (.slice pc k cc) ∧ w'.frozen? ⟨rb, 1, none⟩ = false ∧ w'.cell? ⟨b10, 0, none⟩ = some (.bool ng) ∧ w'.cell? ⟨b10, 1, none⟩ = some (.slice ps sq.length cs) := by
            have hb0 : Below X3.heap.size X3 X3.drew := (Below.refl _ _).drew
            have hb1 : Below W.heap.size W X3.drew := MK3.out.m0.bl.trans (hb0.mono hwz)
            refine (pair_any sq ((n : Int) + (R : Int)) _ X3.drew (IsSys.anyB HIS.out hb1) (by omega)).mono ?_
            rintro e w' ⟨v', rfl, ho, hb2⟩
            obtain ⟨p', c', hv⟩ := row_slice ho.out
            subst hv
            have hb4 := hb0.trans (hb2.out.mono hb0.size)
            refine ⟨p', c', rfl, owns_lowB ho.out hb0.size, hb4, (hb4.cell (p := ⟨_, _, none⟩) hrl3).trans (Lib.cell_of_heap MK3.out.rb 1), (hb4.frozen (p := ⟨_, _, none⟩) hrl3).trans (by simp [World.frozen?, MK3.out.rb]), (hb4.cell (p := ⟨_, _, none⟩) hb3).trans (Lib.cell_of_heap HB3.out 0), (hb4.cell (p := ⟨_, _, none⟩) hb3).trans (Lib.cell_of_heap HB3.out 1)⟩
          have r1 : X3.cell? ⟨rb, 1, none⟩ = some (.slice pc k cc) := Lib.cell_of_heap MK3.out.rb 1
          have f1 : X3.frozen? ⟨rb, 1, none⟩ = false := by simp [World.frozen?, MK3.out.rb]
          have j0 : X3.cell? ⟨b10, 0, none⟩ = some (.bool ng) := Lib.cell_of_heap HB3.out 0
          have j1 : X3.cell? ⟨b10, 1, none⟩ = some (.slice ps sq.length cs) := Lib.cell_of_heap HB3.out 1
          obtain ⟨pt, hpt⟩ : ∃ pt, pt = pairT sq ((n : Int) + (R : Int)) := ⟨_, rfl⟩
          have HPT : Hid (pt = pairT sq ((n : Int) + (R : Int))) := hpt
          rw [← hpt] at MR
          have HCN : Hid (M ++ [(⟨ng, pt⟩ : Cn)] ++ cutC n (rows2 ++ addT sq).length (cj.drop (k + 1)) = cutC n rows.length cj) := by
            show _ = _
            rw [← HCT2.out, HPT.out, HRR.out, List.length_append, List.append_assoc]
            push_cast
            rfl
          clear hpt hc HCT2
          have S0 : Hid (X3.drew.cell? ⟨b10, 0, none⟩ = some (.bool ng) ∧ X3.drew.cell? ⟨b10, 1, none⟩ = some (.slice ps sq.length cs)) := ⟨j0, j1⟩
          refine wp_region_noPanic ?_
          refine wp_region_held_drew (S := fun w' => w'.cell? ⟨b10, 0, none⟩ = some (.bool ng) ∧ w'.cell? ⟨b10, 1, none⟩ = some (.slice ps sq.length cs)) (by kernel_rfl) ?_ (fun hHeld => ?_)
          · (try dsimp only); (first | with_reducible exact S0.out | with_reducible exact S1.out | with_reducible exact S2.out _ | with_reducible exact S3.out | with_reducible exact S4.out | exact S0.out | exact S4.out)
          refine wpAnyH_take (i := 0) (oi := _) (v := ?_) rfl (by kernel_rfl) (by kernel_rfl) (by kernel_rfl) (fun _ _ _ h => h) (Or.inl ⟨by rfl, ?_⟩) (by assumption) ?_
          rotate_left
          · intro w' hSw; (try dsimp only at hSw); go_simp; (try with_reducible rfl)
          simp only [Act.put, List.setIfInBounds_toArray, List.set_cons_zero, List.set_cons_succ]
          refine wpAnyH_take (i := 2) (oi := _) (v := ?_) rfl (by kernel_rfl) (by kernel_rfl) (by kernel_rfl) (fun _ _ _ h => h) (Or.inl ⟨by rfl, ?_⟩) (by assumption) ?_
          rotate_left
          · intro w' hSw; (try dsimp only at hSw); go_simp; (try with_reducible rfl)
          simp only [Act.put, List.setIfInBounds_toArray, List.set_cons_zero, List.set_cons_succ]
          refine wpAnyH_take (i := 3) (oi := _) (v := ?_) rfl (by kernel_rfl) (by kernel_rfl) (by kernel_rfl) (fun _ _ _ h => h) (Or.inl ⟨by rfl, ?_⟩) (by assumption) ?_
          rotate_left
          · intro w' hSw; (try dsimp only at hSw); go_simp; (try with_reducible rfl)
          simp only [Act.put, List.setIfInBounds_toArray, List.set_cons_zero, List.set_cons_succ]
          refine wpAnyH_take (i := 4) (oi := _) (v := ?_) rfl (by kernel_rfl) (by kernel_rfl) (by kernel_rfl) (fun _ _ _ h => h) (Or.inl ⟨by rfl, ?_⟩) (by assumption) ?_
          rotate_left
          · intro w' hSw; (try dsimp only at hSw); go_simp; (try with_reducible rfl)
          simp only [Act.put, List.setIfInBounds_toArray, List.set_cons_zero, List.set_cons_succ]
          refine wpAnyH_take (i := 5) (oi := _) (v := ?_) rfl (by kernel_rfl) (by kernel_rfl) (by kernel_rfl) (fun _ _ _ h => h) (Or.inl ⟨by rfl, ?_⟩) (by assumption) ?_
          rotate_left
          · intro w' hSw; (try dsimp only at hSw); go_simp; (try with_reducible rfl)
          simp only [Act.put, List.setIfInBounds_toArray, List.set_cons_zero, List.set_cons_succ]
          refine wpAnyH_take (i := 6) (oi := _) (v := ?_) rfl (by kernel_rfl) (by kernel_rfl) (by kernel_rfl) (fun _ _ _ h => h) (Or.inl ⟨by rfl, ?_⟩) (by assumption) ?_
          rotate_left
          · intro w' hSw; (try dsimp only at hSw); go_simp; (try with_reducible rfl)
          simp only [Act.put, List.setIfInBounds_toArray, List.set_cons_zero, List.set_cons_succ]
          refine wpAnyH_ready (rs := [1, 7]) (by kernel_rfl) (by simp) ?_
          refine AllReadyH.cons rfl (fun K hK => ?_) ?_
          · go_simp
            refine hK.out _ _ ?_ (fun hHeld => ?_)
            · (try dsimp only); (first | with_reducible exact S0.out | with_reducible exact S1.out | with_reducible exact S2.out _ | with_reducible exact S3.out | with_reducible exact S4.out | exact S0.out | exact S4.out)
            clear hK K
            refine wpAnyH_ready (rs := [7]) (by kernel_rfl) (by simp) ?_
            refine AllReadyH.cons rfl (fun K hK => ?_) ?_
            · (go_simp; refine MR.mono ?_; rintro e w1 ⟨pz, cz, rfl, s1, b1, r1', f1', e0, e1⟩; obtain ⟨gg, cap1, w2, hr2, x1, y1, FIN, QF, DF, ST⟩ := stepB MK3.out QK3.out DK3.out HML.out (by omega) b1.out s1.out rfl (ng := ng); have LA := stepApp hr2; unfold StepApp at LA; have st := ST b10 hb3 (by have := HRB.out; omega) (fun e => by have := HNB.out _ e; omega); have S1 : Hid (w1.cell? ⟨b10, 0, none⟩ = some (.bool ng) ∧ w1.cell? ⟨b10, 1, none⟩ = some (.slice ps sq.length cs)) := ⟨e0, e1⟩; have S2 : Hid (∀ o, (w1.alloc o).cell? ⟨b10, 0, none⟩ = some (.bool ng) ∧ (w1.alloc o).cell? ⟨b10, 1, none⟩ = some (.slice ps sq.length cs)) := fun o => ⟨(World.cell?_alloc_past _ _ _ (cell_lt e0)).trans e0, (World.cell?_alloc_past _ _ _ (cell_lt e1)).trans e1⟩; have S3 : Hid (w2.cell? ⟨b10, 0, none⟩ = some (.bool ng) ∧ w2.cell? ⟨b10, 1, none⟩ = some (.slice ps sq.length cs)) := ⟨Lib.cell_of_heap (st.1.trans HB3.out) 0, Lib.cell_of_heap (st.1.trans HB3.out) 1⟩; have S4 : Hid ((w2.setCell ⟨rb, 1, none⟩ (.slice (some ⟨gg, 0, none⟩) (k + 1) cap1)).cell? ⟨b10, 0, none⟩ = some (.bool ng) ∧ (w2.setCell ⟨rb, 1, none⟩ (.slice (some ⟨gg, 0, none⟩) (k + 1) cap1)).cell? ⟨b10, 1, none⟩ = some (.slice ps sq.length cs)) := ⟨Lib.cell_of_heap (st.2.trans HB3.out) 0, Lib.cell_of_heap (st.2.trans HB3.out) 1⟩; clear ST st; have r9 : (w1.alloc (.cells #[.bool ng, .slice pz pt.length cz] 30)).cell? ⟨rb, 1, none⟩ = some (.slice pc k cc) := (World.cell?_alloc_past _ _ _ (cell_lt r1')).trans r1'; (try dsimp only))
              refine hK.out _ _ ?_ (fun hHeld => ?_)
              · (try dsimp only); (first | with_reducible exact S0.out | with_reducible exact S1.out | with_reducible exact S2.out _ | with_reducible exact S3.out | with_reducible exact S4.out | exact S0.out | exact S4.out)
              clear hK K
              refine wpAnyH_take (i := 8) (oi := _) (v := ?_) rfl (by kernel_rfl) (by kernel_rfl) (by kernel_rfl) (fun _ _ _ h => h) (Or.inl ⟨by rfl, ?_⟩) (by assumption) ?_
              rotate_left
              · intro w' hSw; (try dsimp only at hSw); go_simp; (try with_reducible rfl)
              simp only [Act.put, List.setIfInBounds_toArray, List.set_cons_zero, List.set_cons_succ]
              refine wpAnyH_ready (rs := [9]) (by kernel_rfl) (by simp) ?_
              refine AllReadyH.cons rfl (fun K hK => ?_) ?_
              · go_simp
                refine hK.out _ _ ?_ (fun hHeld => ?_)
                · (try dsimp only); (first | with_reducible exact S0.out | with_reducible exact S1.out | with_reducible exact S2.out _ | with_reducible exact S3.out | with_reducible exact S4.out | exact S0.out | exact S4.out)
                clear hK K
                refine wpAnyH_ready (rs := [10]) (by kernel_rfl) (by simp) ?_
                refine AllReadyH.cons rfl (fun K hK => ?_) ?_
                · ((with_reducible refine LA _ _ _ _ _ _ ?_ ?_ ?_ ?_); rfl; exact ⟨_, _, rfl, rfl, rfl⟩; rfl)
                  refine hK.out _ _ ?_ (fun hHeld => ?_)
                  · (try dsimp only); (first | with_reducible exact S0.out | with_reducible exact S1.out | with_reducible exact S2.out _ | with_reducible exact S3.out | with_reducible exact S4.out | exact S0.out | exact S4.out)
                  clear hK K
                  refine wpAnyH_take (i := 11) (oi := _) (v := ?_) rfl (by kernel_rfl) (by kernel_rfl) (by kernel_rfl) (fun _ _ _ h => h) (Or.inl ⟨by rfl, ?_⟩) (by assumption) ?_
                  rotate_left
                  · intro w' hSw; (try dsimp only at hSw); go_simp; (try with_reducible rfl)
                  simp only [Act.put, List.setIfInBounds_toArray, List.set_cons_zero, List.set_cons_succ]
                  refine wpAnyH_ready (rs := [12]) (by kernel_rfl) (by simp) ?_
                  refine AllReadyH.cons rfl (fun K hK => ?_) ?_
                  · go_simp
                    refine hK.out _ _ ?_ (fun hHeld => ?_)
                    · (try dsimp only); (first | with_reducible exact S0.out | with_reducible exact S1.out | with_reducible exact S2.out _ | with_reducible exact S3.out | with_reducible exact S4.out | exact S0.out | exact S4.out)
                    clear hK K
                    refine wpAnyH_done (by kernel_rfl) ?_ _
                    refine NoPanic.normal ?_
                    clear LA hr2 x1 y1 r1' f1' r9 e0 e1 s1 b1 r1 f1 j0 j1 S0 S1 S2 S3 S4
                    go_wp2
                    go_roundw
                    case rel => exact ⟨k + 1, _, _, _, _, _, _, _, _, by omega, by go_num, by show _ = _; rw [List.length_append, HML.out]; rfl, HCN, HRW2, FIN, QF, DF⟩
                    case measure => simp [intOf]; omega
                  exact AllReadyH.nil
                exact AllReadyH.nil
              exact AllReadyH.nil
            exact AllReadyH.nil
          refine AllReadyH.cons rfl (fun K hK => ?_) ?_
          · (go_simp; refine MR.mono ?_; rintro e w1 ⟨pz, cz, rfl, s1, b1, r1', f1', e0, e1⟩; obtain ⟨gg, cap1, w2, hr2, x1, y1, FIN, QF, DF, ST⟩ := stepB MK3.out QK3.out DK3.out HML.out (by omega) b1.out s1.out rfl (ng := ng); have LA := stepApp hr2; unfold StepApp at LA; have st := ST b10 hb3 (by have := HRB.out; omega) (fun e => by have := HNB.out _ e; omega); have S1 : Hid (w1.cell? ⟨b10, 0, none⟩ = some (.bool ng) ∧ w1.cell? ⟨b10, 1, none⟩ = some (.slice ps sq.length cs)) := ⟨e0, e1⟩; have S2 : Hid (∀ o, (w1.alloc o).cell? ⟨b10, 0, none⟩ = some (.bool ng) ∧ (w1.alloc o).cell? ⟨b10, 1, none⟩ = some (.slice ps sq.length cs)) := fun o => ⟨(World.cell?_alloc_past _ _ _ (cell_lt e0)).trans e0, (World.cell?_alloc_past _ _ _ (cell_lt e1)).trans e1⟩; have S3 : Hid (w2.cell? ⟨b10, 0, none⟩ = some (.bool ng) ∧ w2.cell? ⟨b10, 1, none⟩ = some (.slice ps sq.length cs)) := ⟨Lib.cell_of_heap (st.1.trans HB3.out) 0, Lib.cell_of_heap (st.1.trans HB3.out) 1⟩; have S4 : Hid ((w2.setCell ⟨rb, 1, none⟩ (.slice (some ⟨gg, 0, none⟩) (k + 1) cap1)).cell? ⟨b10, 0, none⟩ = some (.bool ng) ∧ (w2.setCell ⟨rb, 1, none⟩ (.slice (some ⟨gg, 0, none⟩) (k + 1) cap1)).cell? ⟨b10, 1, none⟩ = some (.slice ps sq.length cs)) := ⟨Lib.cell_of_heap (st.2.trans HB3.out) 0, Lib.cell_of_heap (st.2.trans HB3.out) 1⟩; clear ST st; have r9 : (w1.alloc (.cells #[.bool ng, .slice pz pt.length cz] 30)).cell? ⟨rb, 1, none⟩ = some (.slice pc k cc) := (World.cell?_alloc_past _ _ _ (cell_lt r1')).trans r1'; (try dsimp only))
            refine hK.out _ _ ?_ (fun hHeld => ?_)
            · (try dsimp only); (first | with_reducible exact S0.out | with_reducible exact S1.out | with_reducible exact S2.out _ | with_reducible exact S3.out | with_reducible exact S4.out | exact S0.out | exact S4.out)
            clear hK K
            refine wpAnyH_take (i := 8) (oi := _) (v := ?_) rfl (by kernel_rfl) (by kernel_rfl) (by kernel_rfl) (fun _ _ _ h => h) (Or.inl ⟨by rfl, ?_⟩) (by assumption) ?_
            rotate_left
            · intro w' hSw; (try dsimp only at hSw); go_simp; (try with_reducible rfl)
            simp only [Act.put, List.setIfInBounds_toArray, List.set_cons_zero, List.set_cons_succ]
            refine wpAnyH_ready (rs := [1, 9]) (by kernel_rfl) (by simp) ?_
            refine AllReadyH.cons rfl (fun K hK => ?_) ?_
            · go_simp
              refine hK.out _ _ ?_ (fun hHeld => ?_)
              · (try dsimp only); (first | with_reducible exact S0.out | with_reducible exact S1.out | with_reducible exact S2.out _ | with_reducible exact S3.out | with_reducible exact S4.out | exact S0.out | exact S4.out)
              clear hK K
              refine wpAnyH_ready (rs := [9]) (by kernel_rfl) (by simp) ?_
              refine AllReadyH.cons rfl (fun K hK => ?_) ?_
              · go_simp
                refine hK.out _ _ ?_ (fun hHeld => ?_)
                · (try dsimp only); (first | with_reducible exact S0.out | with_reducible exact S1.out | with_reducible exact S2.out _ | with_reducible exact S3.out | with_reducible exact S4.out | exact S0.out | exact S4.out)
                clear hK K
                refine wpAnyH_ready (rs := [10]) (by kernel_rfl) (by simp) ?_
                refine AllReadyH.cons rfl (fun K hK => ?_) ?_
                · ((with_reducible refine LA _ _ _ _ _ _ ?_ ?_ ?_ ?_); rfl; exact ⟨_, _, rfl, rfl, rfl⟩; rfl)
                  refine hK.out _ _ ?_ (fun hHeld => ?_)
                  · (try dsimp only); (first | with_reducible exact S0.out | with_reducible exact S1.out | with_reducible exact S2.out _ | with_reducible exact S3.out | with_reducible exact S4.out | exact S0.out | exact S4.out)
                  clear hK K
                  refine wpAnyH_take (i := 11) (oi := _) (v := ?_) rfl (by kernel_rfl) (by kernel_rfl) (by kernel_rfl) (fun _ _ _ h => h) (Or.inl ⟨by rfl, ?_⟩) (by assumption) ?_
                  rotate_left
                  · intro w' hSw; (try dsimp only at hSw); go_simp; (try with_reducible rfl)
                  simp only [Act.put, List.setIfInBounds_toArray, List.set_cons_zero, List.set_cons_succ]
                  refine wpAnyH_ready (rs := [12]) (by kernel_rfl) (by simp) ?_
                  refine AllReadyH.cons rfl (fun K hK => ?_) ?_
                  · go_simp
                    refine hK.out _ _ ?_ (fun hHeld => ?_)
                    · (try dsimp only); (first | with_reducible exact S0.out | with_reducible exact S1.out | with_reducible exact S2.out _ | with_reducible exact S3.out | with_reducible exact S4.out | exact S0.out | exact S4.out)
                    clear hK K
                    refine wpAnyH_done (by kernel_rfl) ?_ _
                    refine NoPanic.normal ?_
                    clear LA hr2 x1 y1 r1' f1' r9 e0 e1 s1 b1 r1 f1 j0 j1 S0 S1 S2 S3 S4
                    go_wp2
                    go_roundw
                    case rel => exact ⟨k + 1, _, _, _, _, _, _, _, _, by omega, by go_num, by show _ = _; rw [List.length_append, HML.out]; rfl, HCN, HRW2, FIN, QF, DF⟩
                    case measure => simp [intOf]; omega
                  exact AllReadyH.nil
                exact AllReadyH.nil
              exact AllReadyH.nil
            refine AllReadyH.cons rfl (fun K hK => ?_) ?_
            · go_simp
              refine hK.out _ _ ?_ (fun hHeld => ?_)
              · (try dsimp only); (first | with_reducible exact S0.out | with_reducible exact S1.out | with_reducible exact S2.out _ | with_reducible exact S3.out | with_reducible exact S4.out | exact S0.out | exact S4.out)
              clear hK K
              refine wpAnyH_ready (rs := [1]) (by kernel_rfl) (by simp) ?_
              refine AllReadyH.cons rfl (fun K hK => ?_) ?_
              · go_simp
                refine hK.out _ _ ?_ (fun hHeld => ?_)
                · (try dsimp only); (first | with_reducible exact S0.out | with_reducible exact S1.out | with_reducible exact S2.out _ | with_reducible exact S3.out | with_reducible exact S4.out | exact S0.out | exact S4.out)
                clear hK K
                refine wpAnyH_ready (rs := [10]) (by kernel_rfl) (by simp) ?_
                refine AllReadyH.cons rfl (fun K hK => ?_) ?_
                · ((with_reducible refine LA _ _ _ _ _ _ ?_ ?_ ?_ ?_); rfl; exact ⟨_, _, rfl, rfl, rfl⟩; rfl)
                  refine hK.out _ _ ?_ (fun hHeld => ?_)
                  · (try dsimp only); (first | with_reducible exact S0.out | with_reducible exact S1.out | with_reducible exact S2.out _ | with_reducible exact S3.out | with_reducible exact S4.out | exact S0.out | exact S4.out)
                  clear hK K
                  refine wpAnyH_take (i := 11) (oi := _) (v := ?_) rfl (by kernel_rfl) (by kernel_rfl) (by kernel_rfl) (fun _ _ _ h => h) (Or.inl ⟨by rfl, ?_⟩) (by assumption) ?_
                  rotate_left
                  · intro w' hSw; (try dsimp only at hSw); go_simp; (try with_reducible rfl)
                  simp only [Act.put, List.setIfInBounds_toArray, List.set_cons_zero, List.set_cons_succ]
                  refine wpAnyH_ready (rs := [12]) (by kernel_rfl) (by simp) ?_
                  refine AllReadyH.cons rfl (fun K hK => ?_) ?_
                  · go_simp
                    refine hK.out _ _ ?_ (fun hHeld => ?_)
                    · (try dsimp only); (first | with_reducible exact S0.out | with_reducible exact S1.out | with_reducible exact S2.out _ | with_reducible exact S3.out | with_reducible exact S4.out | exact S0.out | exact S4.out)
                    clear hK K
                    refine wpAnyH_done (by kernel_rfl) ?_ _
                    refine NoPanic.normal ?_
                    clear LA hr2 x1 y1 r1' f1' r9 e0 e1 s1 b1 r1 f1 j0 j1 S0 S1 S2 S3 S4
                    go_wp2
                    go_roundw
                    case rel => exact ⟨k + 1, _, _, _, _, _, _, _, _, by omega, by go_num, by show _ = _; rw [List.length_append, HML.out]; rfl, HCN, HRW2, FIN, QF, DF⟩
                    case measure => simp [intOf]; omega
                  exact AllReadyH.nil
                exact AllReadyH.nil
              exact AllReadyH.nil
            exact AllReadyH.nil
          exact AllReadyH.nil
        · obtain rfl : k = cj.length := by omega
          have r0 : wr.cell? ⟨rb, 0, none⟩ = some (.int .i64 hd) := Lib.cell_of_heap MK.out.rb 0
          have r1 : wr.cell? ⟨rb, 1, none⟩ = some (.slice pc cj.length cc) := Lib.cell_of_heap MK.out.rb 1
          have zr : rb < wr.heap.size := block_lt MK.out.rb
          obtain ⟨gg, cap1, w2, hr2, FIN, QF, DF⟩ := stepR MK.out QK.out DK.out HLL.out (by omega) rfl
          have HLN : Hid (L ++ [(⟨hd, M⟩ : Ru)] ++ cutR n rows2.length (L0.drop (i + 1)) = cutR n 0 L0) := by
            show _ = _
            have h1 := HCT.out
            have h2 := HRW.out
            rw [List.drop_length] at h1 h2
            have h3 : M = cutC n rows.length cj := by
              have h4 : M ++ [] = cutC n rows.length cj := h1
              rw [List.append_nil] at h4
              exact h4
            have h5 : rows2 = rows ++ rowsC cj := by
              have h4 : rows2 ++ [] = rows ++ rowsC cj := h2
              rw [List.append_nil] at h4
              exact h4
            rw [← HL2.out, h3, h5, List.length_append, List.append_assoc]
            rfl
          have HRN : Hid (rows2 ++ rowsR (L0.drop (i + 1)) = rowsR L0) := by
            show _ = _
            have h2 := HRW.out
            rw [List.drop_length] at h2
            have h5 : rows2 = rows ++ rowsC cj := by
              have h4 : rows2 ++ [] = rows ++ rowsC cj := h2
              rw [List.append_nil] at h4
              exact h4
            rw [h5]
            exact HR2.out
          have HLL2 : Hid ((L ++ [(⟨hd, M⟩ : Ru)]).length = i + 1) := by show _ = _; rw [List.length_append, HLL.out]; rfl
          clear MK QK DK HL2 HR2 HCT HRW
          go_wp2_with (at_builtin; refine wpList_run_appB rfl _ _ 25 rfl _ _ rfl rfl hr2 ?_)
          go_roundw
          case rel => exact ⟨i + 1, _, _, _, _, _, _, _, _, by omega, by go_num, rfl, HLL2, HLN, HRN, FIN, QF, DF⟩
          case measure => simp [intOf]; omega
    · obtain rfl : i = L0.length := by omega
      have H1 : Hid (L = cutR n 0 L0) := by
        have h1 := HL.out
        rw [List.drop_length] at h1
        have h4 : L ++ [] = cutR n 0 L0 := h1
        rw [List.append_nil] at h4
        exact h4
      have H2 : Hid (rows = rowsR L0) := by
        have h1 := HR.out
        rw [List.drop_length] at h1
        have h4 : rows ++ [] = rowsR L0 := h1
        rw [List.append_nil] at h4
        exact h4
      go_wp2
      go_ret
      exact ⟨_, q, F, us, vs, rfl, by rw [← H1.out]; exact MM, by rw [← H2.out]; exact QQ, DJ⟩
end Go.Proofs.YtgpklcpmabafmaaDoor
