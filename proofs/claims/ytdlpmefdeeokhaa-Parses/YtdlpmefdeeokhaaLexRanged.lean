/- What the document's own ranged hands back. -/
import Derived.Test.YtdlpmefdeeokhaaLexNamed
namespace Go.Proofs.Ytdlpmefdeeokhaa
set_option linter.unusedVariables false
open Go.ChangeShapes Go.WideShapes Go.ChangeAt Go.RowKit

theorem half_bd {b : Nat → Int} {n k : Nat} {c : Int} {to : Nat} (hb : ∀ j, 0 ≤ b j ∧ b j ≤ 255) (h : half b n k = some (c, to)) : 0 ≤ c ∧ c ≤ 255 := by
  unfold half at h
  split at h
  · cases h
  · rename_i c' t hs
    obtain ⟨q0, q1, _, _⟩ := signF_some hb hs
    split at h
    · cases h
    · injection h with h; injection h with e1 e2; subst e1; exact ⟨q0, q1⟩
theorem oneF_to {b : Nat → Int} {n k : Nat} {c : Int} {to : Nat} (hb : ∀ j, 0 ≤ b j ∧ b j ≤ 255) (h : oneF b n k = some (c, to)) : 0 ≤ c ∧ c ≤ 255 ∧ to ≤ n ∧ k < to := by
  rw [oneF_half] at h
  split at h
  · cases h
  · have := half_bd hb h
    have := half_to h
    omega

theorem bput5 {B n : Nat} {w w' : World} (h : Below B w w') (hn : B ≤ n) (x0 x1 x2 x3 x4 : Value) :
    Below B w (((((w'.setCell ⟨n, 0, none⟩ x0).setCell ⟨n, 1, none⟩ x1).setCell ⟨n, 2, none⟩ x2).setCell ⟨n, 3, none⟩ x3).setCell ⟨n, 4, none⟩ x4) :=
  ((((h.setCell (p := ⟨n, 0, none⟩) hn _).setCell (p := ⟨n, 1, none⟩) hn _).setCell (p := ⟨n, 2, none⟩) hn _).setCell (p := ⟨n, 3, none⟩) hn _).setCell (p := ⟨n, 4, none⟩) hn _
/-- A token's cells in block n, which may be written. -/
def T5 (w : World) (n : Nat) : Prop := (∃ a0 a1 a2 a3 a4, w.cell? ⟨n, 0, none⟩ = some a0 ∧ w.cell? ⟨n, 1, none⟩ = some a1 ∧ w.cell? ⟨n, 2, none⟩ = some a2 ∧ w.cell? ⟨n, 3, none⟩ = some a3 ∧ w.cell? ⟨n, 4, none⟩ = some a4) ∧ ∀ j, w.frozen? ⟨n, j, none⟩ = false
theorem T5.new (w : World) (a0 a1 a2 a3 a4 : Value) (t : TypeId) : T5 (w.alloc (.cells #[a0, a1, a2, a3, a4] t)) w.heap.size := by
  have hc : ∀ j, (w.alloc (.cells #[a0, a1, a2, a3, a4] t)).cell? ⟨w.heap.size, j, none⟩ = _ := fun j => World.cell?_alloc_at _ _ _ _ rfl
  exact ⟨⟨_, _, _, _, _, hc 0, hc 1, hc 2, hc 3, hc 4⟩, fun j => World.frozen?_alloc_at _ _ _ _ rfl⟩
theorem T5.lt {w : World} {n : Nat} (h : T5 w n) : n < w.heap.size := by
  obtain ⟨⟨a0, _, _, _, _, h0, _⟩, _⟩ := h; exact cell_lt h0
theorem T5.keep {w w' : World} {n : Nat} (h : T5 w n) (hb : Below w.heap.size w w') : T5 w' n := by
  have hl := h.lt
  obtain ⟨⟨a0, a1, a2, a3, a4, h0, h1, h2, h3, h4⟩, hf⟩ := h
  exact ⟨⟨a0, a1, a2, a3, a4, (hb.cell (p := ⟨n, 0, none⟩) hl).trans h0, (hb.cell (p := ⟨n, 1, none⟩) hl).trans h1, (hb.cell (p := ⟨n, 2, none⟩) hl).trans h2, (hb.cell (p := ⟨n, 3, none⟩) hl).trans h3, (hb.cell (p := ⟨n, 4, none⟩) hl).trans h4⟩, fun j => (hb.frozen (p := ⟨n, j, none⟩) hl).trans (hf j)⟩

set_option maxHeartbeats 4000000 in
theorem ranged_any (s : ByteArray) (k : Nat) (w : World) (hs : s.size ≤ 65536) (hk : k < s.size) (hq : PlainAid.bt s k = 39) :
    Calls Try.prog 31 #[.string s, .int .i64 (k : Int)] w (GotEnd w (rangeG (PlainAid.bt s) s.size k)) := by
  have hb := PlainAid.get_bt s
  have hbb := fun j => (⟨PlainAid.bt_nonneg s j, PlainAid.bt_le s j⟩ : 0 ≤ PlainAid.bt s j ∧ PlainAid.bt s j ≤ 255)
  have E1 : oneF (PlainAid.bt s) s.size k = half (PlainAid.bt s) s.size (k + 1) := by rw [oneF_half]; exact if_neg (by omega)
  have O1 := fun w => one_any s k w (by omega) (by omega)
  clear hq
  cases h1 : oneF (PlainAid.bt s) s.size k with
  | none =>
    rw [h1] at O1
    simp only [oneV] at O1
    have GG : Hid (rangeG (PlainAid.bt s) s.size k = .noText) := by show _ = _; unfold rangeG rangeF; rw [← E1, h1]
    clear h1 E1 hbb
    go_enter Try.func31, Try.ntmps31
    go_wp2_with (go_at_call 49; refine (O1 _).mono ?_; rintro e w1 ⟨rfl, hb1⟩; have BB : Hid (Below w.heap.size w w1) := (bel1 w _).trans (hb1.mono (le_alloc _ _)); obtain ⟨⟨y0, y1, y2, y3, y4, d0, d1, d2, d3, d4⟩, df⟩ := (T5.new w _ _ _ _ _ _).keep hb1; have f0 := df 0; have f1 := df 1; have f2 := df 2; have f3 := df 3; have f4 := df 4; clear hb1 df)
    refine bodyPost_ret (v := .tuple #[.agg #[.int .i64 0, .int .i64 0, .string ⟨#[]⟩, .int .i64 0, .int .i64 0], .int .i64 (-1)]) (by simp [results, Try.results31, go_sem, d0, d1, d2, d3, d4]) rfl ?_
    rw [GG.out]
    exact ⟨rfl, bput5 BB.out (Nat.le_refl _) _ _ _ _ _⟩
  | some x =>
    obtain ⟨a, to⟩ := x
    obtain ⟨qa0, qa1, qto, qk⟩ := oneF_to hbb h1
    have u0 := (hbb to).1
    have u1 := (hbb to).2
    have v0 := (hbb (to + 1)).1
    have v1 := (hbb (to + 1)).2
    have hh : half (PlainAid.bt s) s.size (k + 1) = some (a, to) := by rw [← E1]; exact h1
    rw [h1] at O1
    simp only [oneV] at O1
    clear h1 E1
    by_cases hd : dots (PlainAid.bt s) s.size to
    · obtain ⟨hd1, hd2, hd3⟩ := dots_parts hd
      have c2 : (PlainAid.bt s to == 46) = true := by simpa using hd2
      have c3 : (PlainAid.bt s (to + 1) == 46) = true := by simpa using hd3
      have O2 : ∀ w, Calls Try.prog 49 #[.string s, .int .i64 ((to : Int) + 2)] w fun e w' => e = .returned (.tuple #[.int .i64 (oneV (oneF (PlainAid.bt s) s.size (to + 2))).1, .int .i64 (oneV (oneF (PlainAid.bt s) s.size (to + 2))).2]) ∧ Below w.heap.size w w' := fun w => one_any s (to + 2) w hs (by omega)
      cases h2 : oneF (PlainAid.bt s) s.size (to + 2) with
      | none =>
        rw [h2] at O2
        simp only [oneV] at O2
        have GG : Hid (rangeG (PlainAid.bt s) s.size k = .noText) := by
          show _ = _
          unfold rangeG rangeF
          rw [hh]
          simp only [if_pos hd, h2]
        clear h2 hh hbb hd hd2 hd3
        go_enter Try.func31, Try.ntmps31
        go_wp2_with (go_at_call 49; first | (have hh2 := TT; clear hh2; refine (O2 _).mono ?_; rintro e w2 ⟨rfl, hb2⟩; have BB2 : Hid (Below w.heap.size w w2) := BB.out.trans (hb2.mono BB.out.size); obtain ⟨⟨y0, y1, y2, y3, y4, d0, d1, d2, d3, d4⟩, df⟩ := TT.out.keep hb2; have f0 := df 0; have f1 := df 1; have f2 := df 2; have f3 := df 3; have f4 := df 4; clear hb2 df) | (refine (O1 _).mono ?_; rintro e w1 ⟨rfl, hb1⟩; have BB : Hid (Below w.heap.size w w1) := (bel1 w _).trans (hb1.mono (le_alloc _ _)); have tt := (T5.new w _ _ _ _ _ _).keep hb1; have TT : Hid (T5 w1 w.heap.size) := tt; clear hb1 tt))
        refine bodyPost_ret (v := .tuple #[.agg #[.int .i64 0, .int .i64 0, .string ⟨#[]⟩, .int .i64 0, .int .i64 0], .int .i64 (-1)]) (by simp [results, Try.results31, go_sem, d0, d1, d2, d3, d4]) rfl ?_
        rw [GG.out]
        exact ⟨rfl, bput5 BB2.out (Nat.le_refl _) _ _ _ _ _⟩
      | some y =>
        obtain ⟨c, to2⟩ := y
        obtain ⟨qc0, qc1, qt2, -⟩ := oneF_to hbb h2
        rw [h2] at O2
        simp only [oneV] at O2
        have GG : Hid (rangeG (PlainAid.bt s) s.size k = .tok ⟨2, k, ⟨#[]⟩, a, c⟩ to2) := by
          show _ = _
          unfold rangeG rangeF
          rw [hh]
          simp only [if_pos hd, h2]
        clear h2 hh hbb hd hd2 hd3
        go_enter Try.func31, Try.ntmps31
        go_wp2_with (go_at_call 49; first | (have hh2 := TT; clear hh2; refine (O2 _).mono ?_; rintro e w2 ⟨rfl, hb2⟩; have BB2 : Hid (Below w.heap.size w w2) := BB.out.trans (hb2.mono BB.out.size); obtain ⟨⟨y0, y1, y2, y3, y4, d0, d1, d2, d3, d4⟩, df⟩ := TT.out.keep hb2; have f0 := df 0; have f1 := df 1; have f2 := df 2; have f3 := df 3; have f4 := df 4; clear hb2 df) | (refine (O1 _).mono ?_; rintro e w1 ⟨rfl, hb1⟩; have BB : Hid (Below w.heap.size w w1) := (bel1 w _).trans (hb1.mono (le_alloc _ _)); have tt := (T5.new w _ _ _ _ _ _).keep hb1; have TT : Hid (T5 w1 w.heap.size) := tt; clear hb1 tt))
        refine bodyPost_ret (v := .tuple #[.agg #[.int .i64 2, .int .i64 (k : Int), .string ⟨#[]⟩, .int .i64 a, .int .i64 c], .int .i64 (to2 : Int)]) (by simp [results, Try.results31, go_sem, d0, d1, d2, d3, d4]) rfl ?_
        rw [GG.out]
        exact ⟨rfl, bput5 BB2.out (Nat.le_refl _) _ _ _ _ _⟩
    · have GG : Hid (rangeG (PlainAid.bt s) s.size k = .tok ⟨2, k, ⟨#[]⟩, a, a⟩ to) := by
        show _ = _
        unfold rangeG rangeF
        rw [hh]
        simp only [if_neg hd]
      have hd' : to + 1 < s.size → PlainAid.bt s to = 46 → PlainAid.bt s (to + 1) ≠ 46 := fun x y z => hd (dots_mk ⟨x, y, z⟩)
      clear hh hd hbb
      by_cases g1 : to + 1 < s.size
      · by_cases g2 : PlainAid.bt s to = 46
        · have c2 : (PlainAid.bt s to == 46) = true := by simpa using g2
          have c3 : (PlainAid.bt s (to + 1) == 46) = false := by simpa using hd' g1 g2
          clear hd' g2
          go_enter Try.func31, Try.ntmps31
          go_wp2_with (go_at_call 49; refine (O1 _).mono ?_; rintro e w1 ⟨rfl, hb1⟩; have BB : Hid (Below w.heap.size w w1) := (bel1 w _).trans (hb1.mono (le_alloc _ _)); obtain ⟨⟨y0, y1, y2, y3, y4, d0, d1, d2, d3, d4⟩, df⟩ := (T5.new w _ _ _ _ _ _).keep hb1; have f0 := df 0; have f1 := df 1; have f2 := df 2; have f3 := df 3; have f4 := df 4; clear hb1 df)
          refine bodyPost_ret (v := .tuple #[.agg #[.int .i64 2, .int .i64 (k : Int), .string ⟨#[]⟩, .int .i64 a, .int .i64 a], .int .i64 (to : Int)]) (by simp [results, Try.results31, go_sem, d0, d1, d2, d3, d4]) rfl ?_
          rw [GG.out]
          exact ⟨rfl, bput5 BB.out (Nat.le_refl _) _ _ _ _ _⟩
        · have c2 : (PlainAid.bt s to == 46) = false := by simpa using g2
          clear hd' g2
          go_enter Try.func31, Try.ntmps31
          go_wp2_with (go_at_call 49; refine (O1 _).mono ?_; rintro e w1 ⟨rfl, hb1⟩; have BB : Hid (Below w.heap.size w w1) := (bel1 w _).trans (hb1.mono (le_alloc _ _)); obtain ⟨⟨y0, y1, y2, y3, y4, d0, d1, d2, d3, d4⟩, df⟩ := (T5.new w _ _ _ _ _ _).keep hb1; have f0 := df 0; have f1 := df 1; have f2 := df 2; have f3 := df 3; have f4 := df 4; clear hb1 df)
          refine bodyPost_ret (v := .tuple #[.agg #[.int .i64 2, .int .i64 (k : Int), .string ⟨#[]⟩, .int .i64 a, .int .i64 a], .int .i64 (to : Int)]) (by simp [results, Try.results31, go_sem, d0, d1, d2, d3, d4]) rfl ?_
          rw [GG.out]
          exact ⟨rfl, bput5 BB.out (Nat.le_refl _) _ _ _ _ _⟩
      · clear hd'
        go_enter Try.func31, Try.ntmps31
        go_wp2_with (go_at_call 49; refine (O1 _).mono ?_; rintro e w1 ⟨rfl, hb1⟩; have BB : Hid (Below w.heap.size w w1) := (bel1 w _).trans (hb1.mono (le_alloc _ _)); obtain ⟨⟨y0, y1, y2, y3, y4, d0, d1, d2, d3, d4⟩, df⟩ := (T5.new w _ _ _ _ _ _).keep hb1; have f0 := df 0; have f1 := df 1; have f2 := df 2; have f3 := df 3; have f4 := df 4; clear hb1 df)
        refine bodyPost_ret (v := .tuple #[.agg #[.int .i64 2, .int .i64 (k : Int), .string ⟨#[]⟩, .int .i64 a, .int .i64 a], .int .i64 (to : Int)]) (by simp [results, Try.results31, go_sem, d0, d1, d2, d3, d4]) rfl ?_
        rw [GG.out]
        exact ⟨rfl, bput5 BB.out (Nat.le_refl _) _ _ _ _ _⟩
end Go.Proofs.Ytdlpmefdeeokhaa
