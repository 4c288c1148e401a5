/- What the document's own quoted hands back. -/
import Derived.Test.YtdlpmefdeeokhaaLexRanged
namespace Go.Proofs.Ytdlpmefdeeokhaa
set_option linter.unusedVariables false
open Go.ChangeShapes Go.WideShapes Go.ChangeAt Go.RowKit

theorem T5.below {w w' : World} {n B : Nat} (h : T5 w n) (hb : Below B w w') (hn : n < B) : T5 w' n := by
  obtain ⟨⟨a0, a1, a2, a3, a4, h0, h1, h2, h3, h4⟩, hf⟩ := h
  exact ⟨⟨a0, a1, a2, a3, a4, (hb.cell (p := ⟨n, 0, none⟩) hn).trans h0, (hb.cell (p := ⟨n, 1, none⟩) hn).trans h1, (hb.cell (p := ⟨n, 2, none⟩) hn).trans h2, (hb.cell (p := ⟨n, 3, none⟩) hn).trans h3, (hb.cell (p := ⟨n, 4, none⟩) hn).trans h4⟩, fun j => (hb.frozen (p := ⟨n, j, none⟩) hn).trans (hf j)⟩
/-- The two tokens of quoted in memory: what it will hand back, what it builds. -/
structure QS (w : World) (k : Nat) (wr : World) : Prop where
  t : T5 wr w.heap.size
  c0 : wr.cell? ⟨w.heap.size + 1, 0, none⟩ = some (.int .i64 1)
  c1 : wr.cell? ⟨w.heap.size + 1, 1, none⟩ = some (.int .i64 (k : Int))
  c2 : wr.cell? ⟨w.heap.size + 1, 2, none⟩ = some (.string ⟨#[]⟩)
  c3 : wr.cell? ⟨w.heap.size + 1, 3, none⟩ = some (.int .i64 0)
  c4 : wr.cell? ⟨w.heap.size + 1, 4, none⟩ = some (.int .i64 0)
  fz : ∀ j, wr.frozen? ⟨w.heap.size + 1, j, none⟩ = false
  bl : Below w.heap.size w wr
  sz : w.heap.size + 2 ≤ wr.heap.size
theorem QS.below {w wr w' : World} {k : Nat} (h : QS w k wr) (hb : Below (w.heap.size + 2) wr w') : QS w k w' := by
  have hc : ∀ j, w'.cell? ⟨w.heap.size + 1, j, none⟩ = wr.cell? ⟨w.heap.size + 1, j, none⟩ := fun j => hb.cell (p := ⟨w.heap.size + 1, j, none⟩) (by show w.heap.size + 1 < _; omega)
  exact ⟨h.t.below hb (by omega), (hc 0).trans h.c0, (hc 1).trans h.c1, (hc 2).trans h.c2, (hc 3).trans h.c3, (hc 4).trans h.c4, fun j => (hb.frozen (p := ⟨w.heap.size + 1, j, none⟩) (by show w.heap.size + 1 < _; omega)).trans (h.fz j), h.bl.trans (hb.mono (by omega)), Nat.le_trans h.sz hb.size⟩
theorem QS.keep {w wr w' : World} {k : Nat} (h : QS w k wr) (hb : Below wr.heap.size wr w') : QS w k w' := h.below (hb.mono h.sz)
theorem QS.new (w : World) (k : Nat) (a0 a1 a2 a3 a4 : Value) (t : TypeId) : QS w k ((w.alloc (.cells #[a0, a1, a2, a3, a4] t)).alloc (.cells #[.int .i64 1, .int .i64 (k : Int), .string ⟨#[]⟩, .int .i64 0, .int .i64 0] t)) := by
  have hs : w.heap.size + 1 = (w.alloc (.cells #[a0, a1, a2, a3, a4] t)).heap.size := by simp
  have hc : ∀ j, ((w.alloc (.cells #[a0, a1, a2, a3, a4] t)).alloc (.cells #[.int .i64 1, .int .i64 (k : Int), .string ⟨#[]⟩, .int .i64 0, .int .i64 0] t)).cell? ⟨w.heap.size + 1, j, none⟩ = _ := fun j => World.cell?_alloc_at _ _ _ _ hs
  exact ⟨(T5.new w _ _ _ _ _ _).keep (bel1 _ _), hc 0, hc 1, hc 2, hc 3, hc 4, fun j => World.frozen?_alloc_at _ _ _ _ hs, bel2 _ _ _, by simp⟩

def textR (k : Nat) : Option (List Int × Nat) → Got
  | none => .noText
  | some (l, to) => .tok ⟨1, k, strOf l, 0, 0⟩ to
theorem textG_R (b : Nat → Int) (n k : Nat) : textG b n k = textR k (textF b n (k + 1) []) := by
  unfold textG
  cases textF b n (k + 1) [] with
  | none => rfl
  | some x => rfl

set_option maxRecDepth 100000 in
set_option maxHeartbeats 4000000 in
theorem quoted_any (s : ByteArray) (k : Nat) (w : World) (hs : s.size ≤ 65536) (hk : k < s.size) :
    Calls Try.prog 30 #[.string s, .int .i64 (k : Int)] w (GotEnd w (textG (PlainAid.bt s) s.size k)) := by
  have hb := PlainAid.get_bt s
  have hbb := fun j => (⟨PlainAid.bt_nonneg s j, PlainAid.bt_le s j⟩ : 0 ≤ PlainAid.bt s j ∧ PlainAid.bt s j ≤ 255)
  have HBB : Hid (∀ j, 0 ≤ PlainAid.bt s j ∧ PlainAid.bt s j ≤ 255) := hbb
  obtain ⟨i, hi0, hz0, hz1, hz2⟩ := info_parts Try.infoByte
  have HI : Hid (Try.prog.info? 5 = some i ∧ i.zero = some (.int .u8 0) ∧ i.size = 1 ∧ i.bytes = 1) := ⟨hi0, hz0, hz1, hz2⟩
  obtain ⟨R, hR⟩ : ∃ R, R = textF (PlainAid.bt s) s.size (k + 1) [] := ⟨_, rfl⟩
  have HR : Hid (R = textF (PlainAid.bt s) s.size (k + 1) []) := hR
  have HG : Hid (textG (PlainAid.bt s) s.size k = textR k R) := by show _ = _; rw [hR]; exact textG_R _ _ _
  clear hR hi0 hz0 hz1 hz2 hbb
  go_enter Try.func30, Try.ntmps30
  go_wp2
  go_loopw [7, 8] (fun o x wr => ∃ (j : Nat) (acc : List Int), j ≤ s.size ∧ x = .int .i64 j ∧ acc.length ≤ j ∧ (∃ po co, o = .slice po acc.length co) ∧ wr.ownsRow (w.heap.size + 2) 5 1 o acc.length (bytesV acc) ∧ QS w k wr ∧ R = textF (PlainAid.bt s) s.size j acc) (fun _ x _ => s.size - (intOf x).toNat)
  case atStart => exact ⟨k + 1, [], by omega, by go_num, by simp, ⟨none, 0, rfl⟩, World.ownsRow_nil _ _ _ _, QS.new w k _ _ _ _ _ _, HR.out⟩
  case round =>
    obtain ⟨j, acc, hj, rfl, hacc, ⟨po, co, rfl⟩, hown, hq, hrj⟩ := hrel
    have HJ : Hid (R = textF (PlainAid.bt s) s.size j acc) := hrj
    have OW : Hid (wr.ownsRow (w.heap.size + 2) 5 1 (.slice po acc.length co) acc.length (bytesV acc)) := hown
    have HQ : Hid (QS w k wr) := hq
    have u0 := (HBB.out j).1
    have u1 := (HBB.out j).2
    have ET := textF_eq (PlainAid.bt s) s.size j acc hj
    by_cases a1 : j < s.size
    · by_cases a2 : PlainAid.bt s j = 34
      · have a2' : (PlainAid.bt s j != 34) = false := by simp [a2]
        have GG : Hid (textG (PlainAid.bt s) s.size k = .tok ⟨1, k, strOf acc, 0, 0⟩ (j + 1)) := by
          show _ = _
          rw [HG.out, HJ.out, ET, if_pos ⟨a1, a2⟩]; rfl
        have cv := conv_row hown
        obtain ⟨⟨⟨y0, y1, y2, y3, y4, d0, d1, d2, d3, d4⟩, df⟩, c0, c1, c2, c3, c4, cf, cb, csz⟩ := hq
        have f0 := df 0
        have f1 := df 1
        have f2 := df 2
        have f3 := df 3
        have f4 := df 4
        have g2 := cf 2
        clear a2 ET hrj hown df cf
        go_wp2
        refine bodyPost_ret (v := .tuple #[.agg #[.int .i64 1, .int .i64 (k : Int), .string (strOf acc), .int .i64 0, .int .i64 0], .int .i64 ((j : Int) + 1)]) (by simp [results, Try.results30, go_sem, d0, d1, d2, d3, d4]) rfl ?_
        rw [GG.out]
        exact ⟨rfl, bput5 (HQ.out.bl.setCell (p := ⟨w.heap.size + 1, 2, none⟩) (by show w.heap.size ≤ w.heap.size + 1; omega) _) (Nat.le_refl _) _ _ _ _ _⟩
      · have a2' : (PlainAid.bt s j != 34) = true := by simpa using a2
        rw [if_neg (by omega)] at ET
        have SG := fun w => sign_any s j 34 w hs (by omega)
        cases h1 : signF (PlainAid.bt s) s.size j 34 with
        | none =>
          rw [h1] at SG ET
          simp only [signV] at SG
          have GG : Hid (textG (PlainAid.bt s) s.size k = .noText) := by show _ = _; rw [HG.out, HJ.out, ET]; rfl
          clear ET hrj hown h1 hq a2
          go_wp2_with (go_at_call 48; refine (SG _).mono ?_; rintro e w1 ⟨rfl, hb1⟩; have hq1 := HQ.out.keep hb1; have BB : Hid (Below w.heap.size w w1) := hq1.bl; obtain ⟨⟨y0, y1, y2, y3, y4, d0, d1, d2, d3, d4⟩, df⟩ := hq1.t; have f0 := df 0; have f1 := df 1; have f2 := df 2; have f3 := df 3; have f4 := df 4; clear hb1 df hq1)
          refine bodyPost_ret (v := .tuple #[.agg #[.int .i64 0, .int .i64 0, .string ⟨#[]⟩, .int .i64 0, .int .i64 0], .int .i64 (-1)]) (by simp [results, Try.results30, go_sem, d0, d1, d2, d3, d4]) rfl ?_
          rw [GG.out]
          exact ⟨rfl, bput5 BB.out (Nat.le_refl _) _ _ _ _ _⟩
        | some x =>
          obtain ⟨c, to⟩ := x
          obtain ⟨qc0, qc1, qt1, qt2⟩ := signF_some HBB.out h1
          rw [h1] at SG ET
          simp only [signV] at SG
          have RR : Hid (R = textF (PlainAid.bt s) s.size to (acc ++ [c])) := by show _ = _; rw [HJ.out, ET]
          have MX : Hid (acc.length + 1 ≤ maxLen) := by show _ ≤ _; unfold maxLen; omega
          have BY : Hid ((acc.length + 1) * 1 ≤ 140737488355328) := by show _ ≤ _; omega
          have ONE : Hid (∀ u, u ∈ [Value.int .u8 c] → u.oneCell' = true) := by show ∀ u, _ → _; simp [Value.oneCell']
          clear ET hrj hown h1 hq a2
          go_wp2_with (first | (go_at_call 48; refine (SG _).mono ?_; rintro e w1 ⟨rfl, hb1⟩; have HQ1 : Hid (QS w k w1) := HQ.out.keep hb1; have OW1 : Hid (w1.ownsRow (w.heap.size + 2) 5 1 (.slice po acc.length co) acc.length (bytesV acc)) := row_keep OW.out hb1; have hsz1 : w.heap.size + 2 ≤ w1.heap.size := HQ1.out.sz; clear hb1) | (at_builtin; refine wpList_append_own _ rfl _ _ 64 rfl (w.heap.size + 2) 5 i (.int .u8 0) 1 1 Try.underlying64 HI.out.1 HI.out.2.1 HI.out.2.2.1 HI.out.2.2.2 rfl (by decide) _ _ _ rfl (OW1.out.alloc _) ⟨w1.heap.size, 0, none⟩ 1 1 [.int .u8 c] rfl rfl (World.news_of_block (cs := #[.int .u8 c]) (t := 5) (fr := (0, 0)) (heap_alloc_new w1 _)) ONE.out MX.out BY.out (Nat.le_trans hsz1 (le_alloc _ _)) ?_))
          intro v' w2 hown' hgrow hnil
          clear hnil
          obtain ⟨po', co', hv'⟩ := row_slice hown'
          subst hv'
          have OW2 : Hid (w2.ownsRow (w.heap.size + 2) 5 1 (.slice po' (acc ++ [c]).length co') (acc ++ [c]).length (bytesV (acc ++ [c]))) := by
            show w2.ownsRow _ _ _ _ _ _
            rw [bytesV_append, List.length_append]; exact hown'
          have HQ2 : Hid (QS w k w2) := (HQ1.out.keep (bel1 _ _)).below ((Below.refl _ _).grown hgrow (Nat.le_trans hsz1 (le_alloc _ _)) (fun x hx => ((OW1.out.alloc (.cells #[] 0)).lt x hx).1))
          clear hown' hgrow
          go_wp2
          go_roundw
          case rel => exact ⟨to, acc ++ [c], qt2, rfl, by simp; omega, ⟨po', co', by simp⟩, by have := OW2.out; simpa using this, HQ2.out, RR.out⟩
          case measure => simp [intOf]; omega
    · obtain rfl : j = s.size := by omega
      rw [if_neg (by omega)] at ET
      have h1 : signF (PlainAid.bt s) s.size s.size 34 = none := by unfold signF; exact if_pos (by omega)
      rw [h1] at ET
      have GG : Hid (textG (PlainAid.bt s) s.size k = .noText) := by show _ = _; rw [HG.out, HJ.out, ET]; rfl
      obtain ⟨⟨⟨y0, y1, y2, y3, y4, d0, d1, d2, d3, d4⟩, df⟩, c0, c1, c2, c3, c4, cf, cb, csz⟩ := hq
      have f0 := df 0
      have f1 := df 1
      have f2 := df 2
      have f3 := df 3
      have f4 := df 4
      clear ET hrj hown df cf h1 u0 u1
      go_wp2
      refine bodyPost_ret (v := .tuple #[.agg #[.int .i64 0, .int .i64 0, .string ⟨#[]⟩, .int .i64 0, .int .i64 0], .int .i64 (-1)]) (by simp [results, Try.results30, go_sem, d0, d1, d2, d3, d4]) rfl ?_
      rw [GG.out]
      exact ⟨rfl, bput5 HQ.out.bl (Nat.le_refl _) _ _ _ _ _⟩
end Go.Proofs.Ytdlpmefdeeokhaa
