/- What the program's Parse hands back. -/
import Derived.Test.YtdlpmefdeeokhaaNoteTak3
import Derived.Test.YtdlpmefdeeokhaaGramAid
namespace Go.Proofs.Ytdlpmefdeeokhaa
set_option linter.unusedVariables false
open Go.ChangeShapes Go.WideShapes Go.ChangeAt Go.RowKit

theorem lexLenS (b : Nat → Int) (n : Nat) : ∀ f k l, lexS b n f k = .ok l → k ≤ n → l.length ≤ n - k
  | 0, k, l, h, _ => by injection h with h; subst h; simp
  | f + 1, k, l, h, hk => by
    have h' : (if n ≤ skp b n false k then Except.ok [] else match tokF b n (skp b n false k) with
      | .ok (t, to) => Res.cons t (lexS b n f to)
      | .error true => .error (skp b n false k, 201)
      | .error false => .error (skp b n false k, 200)) = .ok l := h
    by_cases h1 : n ≤ skp b n false k
    · rw [if_pos h1] at h'; injection h' with h'; subst h'; simp
    · rw [if_neg h1] at h'
      have hge := skp_ge b n false k
      rcases hg : tokF b n (skp b n false k) with (_ | _) | ⟨t, to⟩
      · rw [hg] at h'; cases h'
      · rw [hg] at h'; cases h'
      · rw [hg] at h'
        have hto := tokF_to (by omega) hg
        have h2 : Res.cons t (lexS b n f to) = .ok l := h'
        cases hg2 : lexS b n f to with
        | error e => rw [hg2] at h2; cases h2
        | ok l2 =>
          rw [hg2] at h2
          obtain rfl : t :: l2 = l := by injection h2
          have := lexLenS b n f to l2 hg2 hto.2
          simp only [List.length_cons]; omega
theorem lexLenT (s : ByteArray) : (lexAns (lexT s)).1.length ≤ 65536 := by
  cases h : lexT s with
  | error e => exact Nat.zero_le _
  | ok l =>
    show l.length ≤ 65536
    by_cases hs : 65536 < s.size
    · rw [lexT, lexB, if_pos hs] at h; cases h
    · rw [lexT, lexB, if_neg hs] at h
      have := lexLenS _ _ _ _ _ h (Nat.zero_le _)
      omega

theorem lexLenOk {s : ByteArray} {l : List Tok} (h : lexT s = .ok l) : l.length ≤ 65536 := by
  have := lexLenT s
  rw [h] at this
  exact this
/-- What Parse hands back: declarations, a place, an error's number. -/
def prAns : Pres → Rw × Nat × Nat
  | .ok r => (r, 0, 0)
  | .error (p, e) => (⟨[], []⟩, p, e)
def RawIs (w : World) (F : Nat → Prop) (v1 v2 : Value) (r : Rw) : Prop := IsTexts w F v1 r.starts ∧ IsDefs w F v2 r.defs
/-- What is said of a call of Parse. -/
def ParseEnd (w : World) (r : Pres) (e : Ending) (w' : World) : Prop :=
  ∃ v1 v2, ∃ F : Nat → Prop, e = .returned (.tuple #[.agg #[v1, v2], .int .i64 ((prAns r).2.1 : Int), .int .i64 ((prAns r).2.2 : Int)]) ∧ (∀ b, F b → w.heap.size ≤ b ∧ b < w'.heap.size) ∧ RawIs w' F v1 v2 (prAns r).1 ∧ Below w.heap.size w w'
theorem raw_nil (w : World) (F : Nat → Prop) : RawIs w F (.slice none 0 0) (.slice none 0 0) ⟨[], []⟩ :=
  ⟨⟨none, 0, rfl, ⟨Nat.zero_le _, Nat.zero_le _⟩, fun h => absurd h (Nat.lt_irrefl _)⟩, [], ⟨none, 0, rfl, ⟨Nat.zero_le _, Nat.zero_le _⟩, fun h => absurd h (Nat.lt_irrefl _)⟩, rfl, fun k d u h => by simp at h⟩
theorem feed_step {p q : Pm} {l : List Tok} {k : Nat} {t : Tok} (hk : l[k]? = some t) (h : take p t = some q) : feed p (l.drop k) = feed q (l.drop (k + 1)) := by
  have e : l.drop k = t :: l.drop (k + 1) := by
    obtain ⟨hlt, he⟩ := List.getElem?_eq_some_iff.1 hk
    rw [List.drop_eq_getElem_cons hlt, he]
  rw [e]
  show (match take p t with
    | none => Except.error t.pl
    | some q => feed q (l.drop (k + 1))) = _
  rw [h]
theorem feed_stop {p : Pm} {l : List Tok} {k : Nat} {t : Tok} (hk : l[k]? = some t) (h : take p t = none) : feed p (l.drop k) = .error t.pl := by
  have e : l.drop k = t :: l.drop (k + 1) := by
    obtain ⟨hlt, he⟩ := List.getElem?_eq_some_iff.1 hk
    rw [List.drop_eq_getElem_cons hlt, he]
  rw [e]
  show (match take p t with
    | none => Except.error t.pl
    | some q => feed q (l.drop (k + 1))) = _
  rw [h]
/-- What a parser holds at the end. -/
theorem Pr.raw {W w : World} {B : Nat} {p : Pm} (h : Pr W B p w) : ∃ v1 v2, ∃ F : Nat → Prop, w.cell? ⟨B, 1, none⟩ = some v1 ∧ w.cell? ⟨B, 2, none⟩ = some v2 ∧ (∀ b, F b → B < b ∧ b < w.heap.size) ∧ RawIs w F v1 v2 ⟨p.starts, p.defs⟩ ∧ (∃ q n c, v1 = .slice q n c) ∧ (∃ q n c, v2 = .slice q n c) := by
  obtain ⟨F, x, hc, hx⟩ := h
  obtain ⟨q1, c1, e1⟩ := row_slice hc.os
  obtain ⟨q2, c2, e2⟩ := row_slice hc.od
  refine ⟨x.vs, x.vd, fun b => F b ∨ x.vs.ownBlock = some b ∨ x.vd.ownBlock = some b, hx.c1, hx.c2, fun b hb => ?_, ⟨?_, x.dv, ?_, ?_⟩, ⟨_, _, _, e1⟩, ⟨_, _, _, e2⟩⟩
  · rcases hb with hb | hb | hb
    · exact hc.fl b hb
    · have := hc.os.lt b hb; omega
    · have := hc.od.lt b hb; omega
  · exact Reads.of hc.os fun b hb => Or.inr (Or.inl hb)
  · exact Reads.of hc.od fun b hb => Or.inr (Or.inr hb)
  · exact hc.id.keep ⟨Nat.le_refl _, fun _ _ => rfl⟩ fun b hb => Or.inl hb

set_option maxRecDepth 100000 in
set_option maxHeartbeats 4000000 in
theorem parse_any (s : ByteArray) (w : World) (hs0 : s.size ≤ maxLen) : Calls Try.prog 4 #[.string s] w (ParseEnd w (parseT s)) := by
  have hs1 := hs0
  unfold maxLen at hs1
  by_cases hs : s.size ≤ 65536
  · have E : parseT s = parseL s.size (lexT s) := if_neg (by omega)
    rw [E]
    cases hA : lexT s with
    | error e =>
      obtain ⟨at', x⟩ := e
      have hx : ((x : Int) != 0) = true := by
        have h := lexErrK hA
        rcases h with h | h <;> subst h <;> rfl
      have L1 := fun w => lex_err hA hs0 w
      clear hA E
      show Calls _ _ _ _ (ParseEnd w (.error (at', 300)))
      go_enter Try.func4, Try.ntmps4
      go_wp2_with (go_at_call 10; refine (L1 _).mono ?_; rintro e w1 ⟨q1, c1, rfl, b1⟩; have B1 : Hid (Below w.heap.size w w1) := (bel1 w _).trans (b1.mono (le_alloc _ _)); have n0 := b1.cell (p := ⟨w.heap.size, 0, none⟩) (by simp); have n1 := b1.cell (p := ⟨w.heap.size, 1, none⟩) (by simp); have g0 := b1.frozen (p := ⟨w.heap.size, 0, none⟩) (by simp); have g1 := b1.frozen (p := ⟨w.heap.size, 1, none⟩) (by simp); clear b1)
      refine bodyPost_ret (v := .tuple #[.agg #[.slice none 0 0, .slice none 0 0], .int .i64 (at' : Int), .int .i64 300]) (by simp [results, Try.results4, go_sem, n0, n1]) rfl ?_
      exact ⟨_, _, fun _ => False, rfl, fun b h => h.elim, raw_nil _ _, ((B1.out.setCell (p := ⟨w.heap.size, 0, none⟩) (Nat.le_refl _) _).setCell (p := ⟨w.heap.size, 1, none⟩) (Nat.le_refl _) _)⟩
    | ok l =>
      have L1 := fun w => lex_ok hA hs0 w
      have ll := lexLenOk hA
      show Calls _ _ _ _ (ParseEnd w (shutP s.size (feed pm0 l)))
      obtain ⟨R, hR⟩ : ∃ R, R = feed pm0 l := ⟨_, rfl⟩
      rw [← hR]
      have HR0 : Hid (feed pm0 (l.drop 0) = R) := hR.symm
      clear hA E hR
      go_enter Try.func4, Try.ntmps4
      go_wp2_with (go_at_call 10; refine (L1 _).mono ?_; rintro e w1 ⟨q1, c1, rfl, t1, b1⟩)
      have B1 : Hid (Below w.heap.size w w1) := (bel1 w _).trans (b1.mono (le_alloc _ _))
      have T1 : Hid (TRow w1 (.slice q1 l.length c1) l) := t1
      have N0 := b1.cell (p := ⟨w.heap.size, 0, none⟩) (by simp)
      have N1 := b1.cell (p := ⟨w.heap.size, 1, none⟩) (by simp)
      have G0 := b1.frozen (p := ⟨w.heap.size, 0, none⟩) (by simp)
      have G1 := b1.frozen (p := ⟨w.heap.size, 1, none⟩) (by simp)
      have hws : w.heap.size < w1.heap.size := by have h := b1.size; simp at h; omega
      clear b1 t1
      have n0 : w1.cell? ⟨w.heap.size, 0, none⟩ = some (.slice none 0 0) := N0.trans (World.cell?_alloc_at _ _ _ _ rfl)
      have n1 : w1.cell? ⟨w.heap.size, 1, none⟩ = some (.slice none 0 0) := N1.trans (World.cell?_alloc_at _ _ _ _ rfl)
      have g0 : w1.frozen? ⟨w.heap.size, 0, none⟩ = false := G0.trans (World.frozen?_alloc_at _ _ _ _ rfl)
      have g1 : w1.frozen? ⟨w.heap.size, 1, none⟩ = false := G1.trans (World.frozen?_alloc_at _ _ _ _ rfl)
      clear N0 N1 G0 G1
      go_loopw [27] (fun i wr => ∃ (k : Nat) (q : Pm), k ≤ l.length ∧ i = .int .i64 k ∧ Pr w1 w1.heap.size q wr ∧ Fits q k ∧ feed q (l.drop k) = R) (fun i _ => l.length - (intOf i).toNat)
      case atStart => exact ⟨0, pm0, Nat.zero_le _, rfl, Pr.new w1 _, fits0, HR0.out⟩
      case round =>
        obtain ⟨k, q, hk, rfl, hP, hf, hq⟩ := hrel
        have hB := hP.below
        have m0 : wr.cell? ⟨w.heap.size, 0, none⟩ = some (.slice none 0 0) := (hB.cell (p := ⟨_, _, none⟩) hws).trans n0
        have m1 : wr.cell? ⟨w.heap.size, 1, none⟩ = some (.slice none 0 0) := (hB.cell (p := ⟨_, _, none⟩) hws).trans n1
        have r0 : wr.frozen? ⟨w.heap.size, 0, none⟩ = false := (hB.frozen (p := ⟨_, _, none⟩) hws).trans g0
        have r1 : wr.frozen? ⟨w.heap.size, 1, none⟩ = false := (hB.frozen (p := ⟨_, _, none⟩) hws).trans g1
        have hsz : w1.heap.size ≤ wr.heap.size := hB.size
        have HB : Hid (Below w1.heap.size w1 wr) := hB
        have HP : Hid (Pr w1 w1.heap.size q wr) := hP
        have HQ : Hid (feed q (l.drop k) = R) := hq
        by_cases hlt : k < l.length
        · obtain ⟨t, ht⟩ : ∃ t, l[k]? = some t := ⟨_, List.getElem?_eq_getElem hlt⟩
          obtain ⟨g, hp, hg, a0, a1, a2, a3, a4⟩ := tok_at (T1.out.keep hB) ht
          subst hp
          obtain ⟨kind, pl, text, lo, hi⟩ := t
          simp only at a0 a1 a2 a3 a4
          have TK := fun o => take_any (hP.box o) hf (by omega) kind pl text lo hi
          cases hT : take q ⟨kind, pl, text, lo, hi⟩ with
          | some q' =>
            rw [hT] at TK
            have HF : Hid (Fits q' (k + 1)) := take_fits hf hT
            have HN : Hid (feed q' (l.drop (k + 1)) = R) := by show _ = _; rw [← feed_step ht hT]; exact HQ.out
            clear hT hq hf hP hB ht
            go_wp2_with (go_at_call 11; refine (TK _).mono ?_; rintro e w2 ⟨rfl, hP2⟩)
            go_roundw
            case rel => exact ⟨k + 1, q', by omega, by go_num, hP2, HF.out, HN.out⟩
            case measure => simp [intOf]; omega
          | none =>
            rw [hT] at TK
            have HN : Hid (R = .error pl) := by show _ = _; rw [← HQ.out]; exact feed_stop ht hT
            clear hT hq hf hP hB ht
            go_wp2_with (go_at_call 11; refine (TK _).mono ?_; rintro e w2 ⟨rfl, hb2⟩)
            have hwr : w.heap.size < wr.heap.size := Nat.lt_of_lt_of_le hws hsz
            have p1 : w2.cell? ⟨wr.heap.size, 1, none⟩ = some (.int .i64 (pl : Int)) := (hb2.cell (p := ⟨_, _, none⟩) (by simp)).trans (World.cell?_alloc_at _ _ _ _ rfl)
            have s0 : w2.cell? ⟨w.heap.size, 0, none⟩ = some (.slice none 0 0) := (hb2.cell (p := ⟨_, _, none⟩) (by simp; omega)).trans ((World.cell?_alloc_past _ _ _ hwr).trans m0)
            have s1 : w2.cell? ⟨w.heap.size, 1, none⟩ = some (.slice none 0 0) := (hb2.cell (p := ⟨_, _, none⟩) (by simp; omega)).trans ((World.cell?_alloc_past _ _ _ hwr).trans m1)
            have z0 : w2.frozen? ⟨w.heap.size, 0, none⟩ = false := (hb2.frozen (p := ⟨_, _, none⟩) (by simp; omega)).trans ((World.frozen?_alloc_past _ _ _ hwr).trans r0)
            have z1 : w2.frozen? ⟨w.heap.size, 1, none⟩ = false := (hb2.frozen (p := ⟨_, _, none⟩) (by simp; omega)).trans ((World.frozen?_alloc_past _ _ _ hwr).trans r1)
            have hn1 : w.heap.size ≠ wr.heap.size := Nat.ne_of_lt hwr
            have hn2 : wr.heap.size ≠ w.heap.size := Nat.ne_of_gt hwr
            have BF : Hid (Below w.heap.size w w2) := (B1.out.trans (HB.out.mono (Nat.le_of_lt hws))).trans ((bel1 wr _).trans (hb2.mono (le_alloc _ _)) |>.mono (Nat.le_of_lt hwr))
            clear hb2 a0 a1 a2 a3 a4 m0 m1 r0 r1 n0 n1 g0 g1
            go_region
            all_goals go_wp2
            all_goals
              refine bodyPost_ret (v := .tuple #[.agg #[.slice none 0 0, .slice none 0 0], .int .i64 (pl : Int), .int .i64 300]) (by simp [results, Try.results4, go_sem, s0, s1]) rfl ?_
              rw [HN.out]
              have hb := (BF.out.setCell (p := ⟨w.heap.size, 0, none⟩) (Nat.le_refl _) (.slice none 0 0)).setCell (p := ⟨w.heap.size, 1, none⟩) (Nat.le_refl _) (.slice none 0 0)
              exact ⟨_, _, fun _ => False, rfl, fun b h => h.elim, raw_nil _ _, ⟨hb.os, hb.tape, hb.output, hb.size, hb.block⟩⟩
        · obtain rfl : k = l.length := by omega
          have HQ2 : Hid (R = .ok q) := by show _ = _; rw [← HQ.out, List.drop_length]; rfl
          obtain ⟨c0, -, -, -, -, -⟩ := hP.plain
          have BF : Hid (Below w.heap.size w wr) := B1.out.trans (HB.out.mono (Nat.le_of_lt hws))
          by_cases e0 : q.st = 0
          · obtain ⟨v1, v2, F, k1, k2, hF, hraw, ⟨x1, y1, z1, rfl⟩, ⟨x2, y2, z2, rfl⟩⟩ := hP.raw
            have HF : Hid (∀ b, F b → w1.heap.size < b ∧ b < wr.heap.size) := hF
            have HW : Hid (RawIs wr F (.slice x1 y1 z1) (.slice x2 y2 z2) ⟨q.starts, q.defs⟩) := hraw
            rw [e0] at c0
            have hwr : w.heap.size < wr.heap.size := Nat.lt_of_lt_of_le hws hsz
            have hn1 : w.heap.size ≠ w1.heap.size := Nat.ne_of_lt hws
            have hn2 : w1.heap.size ≠ w.heap.size := Nat.ne_of_gt hws
            have E0 : Hid (q.st = 0) := e0
            clear hP hq hf hB hF hraw n0 n1 g0 g1 e0
            go_wp2
            refine bodyPost_ret (v := .tuple #[.agg #[.slice x1 y1 z1, .slice x2 y2 z2], .int .i64 0, .int .i64 0]) (by simp [results, Try.results4, go_sem, m0, m1]) rfl ?_
            rw [HQ2.out]
            have ER : shutP s.size (.ok q) = .ok ⟨q.starts, q.defs⟩ := if_pos E0.out
            rw [ER]
            have hst : Stay F wr ((wr.setCell ⟨w.heap.size, 0, none⟩ (.slice x1 y1 z1)).setCell ⟨w.heap.size, 1, none⟩ (.slice x2 y2 z2)) := by
              refine ⟨by simp [World.setCell], fun b hb => ?_⟩
              have := (HF.out b hb).1
              rw [Go.Deep.blk_setCell_other _ _ _ _ (by show b ≠ w.heap.size; omega), Go.Deep.blk_setCell_other _ _ _ _ (by show b ≠ w.heap.size; omega)]
            have hz : ((wr.setCell ⟨w.heap.size, 0, none⟩ (.slice x1 y1 z1)).setCell ⟨w.heap.size, 1, none⟩ (.slice x2 y2 z2)).heap.size = wr.heap.size := by simp [World.setCell]
            exact ⟨_, _, F, rfl, fun b hb => ⟨by have := (HF.out b hb).1; omega, by rw [hz]; exact (HF.out b hb).2⟩, ⟨HW.out.1.keep hst (fun b h => h), HW.out.2.keep hst (fun b h => h)⟩, (BF.out.setCell (p := ⟨w.heap.size, 0, none⟩) (Nat.le_refl _) _).setCell (p := ⟨w.heap.size, 1, none⟩) (Nat.le_refl _) _⟩
          · have e0' : ((q.st : Int) != 0) = true := by simp; omega
            have E0 : Hid (¬ q.st = 0) := e0
            clear hP hq hf hB n0 n1 g0 g1 e0
            go_wp2
            refine bodyPost_ret (v := .tuple #[.agg #[.slice none 0 0, .slice none 0 0], .int .i64 (s.size : Int), .int .i64 300]) (by simp [results, Try.results4, go_sem, m0, m1]) rfl ?_
            rw [HQ2.out]
            have ER : shutP s.size (.ok q) = .error (s.size, 300) := if_neg E0.out
            rw [ER]
            exact ⟨_, _, fun _ => False, rfl, fun b h => h.elim, raw_nil _ _, (BF.out.setCell (p := ⟨w.heap.size, 0, none⟩) (Nat.le_refl _) _).setCell (p := ⟨w.heap.size, 1, none⟩) (Nat.le_refl _) _⟩
  · have E : parseT s = .error (0, 301) := if_pos (by omega)
    rw [E]
    go_enter Try.func4, Try.ntmps4
    go_wp2
    refine bodyPost_ret (v := .tuple #[.agg #[.slice none 0 0, .slice none 0 0], .int .i64 0, .int .i64 301]) (by simp [results, Try.results4, go_sem]) rfl ?_
    exact ⟨_, _, fun _ => False, rfl, fun b h => h.elim, raw_nil _ _, bel1 _ _⟩
end Go.Proofs.Ytdlpmefdeeokhaa
