/- What the parser's methods do that take a token. -/
import Derived.Test.YtbpkpfnjgljilaaNoteShut2
namespace Go.Proofs.Ytbpkpfnjgljilaa
set_option linter.unusedVariables false
open Go.ChangeShapes Go.WideShapes Go.ChangeAt Go.RowKit

def TakeEnd (W : World) (B : Nat) (w : World) (o : Option Pm) (e : Ending) (w' : World) : Prop := match o with
  | some q => e = .returned (.bool true) ∧ Pr W B q w'
  | none => e = .returned (.bool false) ∧ Below w.heap.size w w'
theorem TakeEnd.out {W w : World} {B : Nat} {b : Obj} {o : Option Pm} {e : Ending} {w' : World} (h : TakeEnd W B (w.alloc b) o e w') : TakeEnd W B w o e w' := by
  cases o with
  | none => exact ⟨h.1, (bel1 w b).trans (h.2.mono (le_alloc _ _))⟩
  | some q => exact h
/-- A parser and a box. -/
theorem Pr.box {W w : World} {B : Nat} {p : Pm} (h : Pr W B p w) (o : Obj) : Pr W B p (w.alloc o) := h.keep (bel1 w o)
theorem Pr.to0 {W w : World} {B : Nat} {st : Nat} {starts : List ByteArray} {defs : List Df} {start name : ByteArray} {alts : List (List Cj)} {alt : List Cj} {neg : Bool} {items : List It} (h : Pr W B ⟨st, starts, defs, start, name, alts, alt, neg, items⟩ w) (k : Nat) (z : Int) (hz : z = (k : Int)) : Pr W B ⟨k, starts, defs, start, name, alts, alt, neg, items⟩ (w.setCell ⟨B, 0, none⟩ (.int .i64 z)) := by
  subst hz
  obtain ⟨F, x, hc, hx⟩ := h
  exact ⟨F, x, (hc.to k start name neg).set 0 _, hx.set0 k⟩
theorem Pr.to3 {W w : World} {B : Nat} {st : Nat} {starts : List ByteArray} {defs : List Df} {start name : ByteArray} {alts : List (List Cj)} {alt : List Cj} {neg : Bool} {items : List It} (h : Pr W B ⟨st, starts, defs, start, name, alts, alt, neg, items⟩ w) (t : ByteArray) : Pr W B ⟨st, starts, defs, t, name, alts, alt, neg, items⟩ (w.setCell ⟨B, 3, none⟩ (.string t)) := by
  obtain ⟨F, x, hc, hx⟩ := h
  exact ⟨F, x, (hc.to st t name neg).set 3 _, hx.set3 t⟩
theorem Pr.to4 {W w : World} {B : Nat} {st : Nat} {starts : List ByteArray} {defs : List Df} {start name : ByteArray} {alts : List (List Cj)} {alt : List Cj} {neg : Bool} {items : List It} (h : Pr W B ⟨st, starts, defs, start, name, alts, alt, neg, items⟩ w) (t : ByteArray) : Pr W B ⟨st, starts, defs, start, t, alts, alt, neg, items⟩ (w.setCell ⟨B, 4, none⟩ (.string t)) := by
  obtain ⟨F, x, hc, hx⟩ := h
  exact ⟨F, x, (hc.to st start t neg).set 4 _, hx.set4 t⟩
theorem Pr.to7 {W w : World} {B : Nat} {st : Nat} {starts : List ByteArray} {defs : List Df} {start name : ByteArray} {alts : List (List Cj)} {alt : List Cj} {neg : Bool} {items : List It} (h : Pr W B ⟨st, starts, defs, start, name, alts, alt, neg, items⟩ w) (b : Bool) : Pr W B ⟨st, starts, defs, start, name, alts, alt, b, items⟩ (w.setCell ⟨B, 7, none⟩ (.bool b)) := by
  obtain ⟨F, x, hc, hx⟩ := h
  exact ⟨F, x, (hc.to st start name b).set 7 _, hx.set7 b⟩
/-- The plain cells of a parser: there, and may be written. -/
theorem Pr.plain {W w : World} {B : Nat} {p : Pm} (h : Pr W B p w) : w.cell? ⟨B, 0, none⟩ = some (.int .i64 (p.st : Int)) ∧ w.cell? ⟨B, 3, none⟩ = some (.string p.start) ∧ w.cell? ⟨B, 4, none⟩ = some (.string p.name) ∧ w.cell? ⟨B, 7, none⟩ = some (.bool p.neg) ∧ (∀ j, w.frozen? ⟨B, j, none⟩ = false) ∧ B < w.heap.size := by
  obtain ⟨F, x, hc, hx⟩ := h
  exact ⟨hx.c0, hx.c3, hx.c4, hx.c7, hc.fz, hc.lt⟩
theorem Pr.below {W w : World} {B : Nat} {p : Pm} (h : Pr W B p w) : Below B W w := by
  obtain ⟨F, x, hc, hx⟩ := h
  exact hc.bl
theorem isItem_yes (k : Nat) (h : k ≤ 2) (w : World) : Calls Try.prog 28 #[.int .i64 (k : Int)] w fun e w' => e = .returned (.bool true) ∧ w = w' := by
  match k, h with
  | 0, _ | 1, _ | 2, _ =>
    go_enter Try.func28, Try.ntmps28
    go_wp2
    go_ret
    exact ⟨rfl, rfl⟩
  | k + 3, h => exact absurd h (by omega)
theorem isItem_no (k : Nat) (h : 2 < k) (w : World) : Calls Try.prog 28 #[.int .i64 (k : Int)] w fun e w' => e = .returned (.bool false) ∧ w = w' := by
  have h0 : ((k : Int) == 0) = false := by simp; omega
  have h1 : ((k : Int) == 1) = false := by simp; omega
  have h2 : ((k : Int) == 2) = false := by simp; omega
  go_enter Try.func28, Try.ntmps28
  go_wp2
  go_ret
  exact ⟨rfl, rfl⟩

section
variable {W w : World} {B : Nat} {st : Nat} {starts : List ByteArray} {defs : List Df} {start name : ByteArray} {alts : List (List Cj)} {alt : List Cj} {neg : Bool} {items : List It}

set_option maxHeartbeats 1600000 in
theorem takeDecl_any (hP : Pr W B ⟨st, starts, defs, start, name, alts, alt, neg, items⟩ w) (kind pl : Nat) (text : ByteArray) (lo hi : Int) :
    Calls Try.prog 14 #[.pointer (some ⟨B, 0, none⟩), .agg #[.int .i64 (kind : Int), .int .i64 (pl : Int), .string text, .int .i64 lo, .int .i64 hi]] w (TakeEnd W B w (take0 ⟨st, starts, defs, start, name, alts, alt, neg, items⟩ ⟨kind, pl, text, lo, hi⟩)) := by
  obtain ⟨c0, c3, c4, c7, fz, hlt⟩ := hP.plain
  have HK : Hid (Pr W B ⟨st, starts, defs, start, name, alts, alt, neg, items⟩ w) := hP
  have f0 := fz 0
  have f4 := fz 4
  clear hP fz c3 c7
  by_cases e3 : kind = 3
  · subst e3
    show Calls _ _ _ _ (TakeEnd W B _ (some ⟨1, starts, defs, start, name, alts, alt, neg, items⟩))
    go_enter Try.func14, Try.ntmps14
    go_wp2
    go_ret
    exact ⟨rfl, (HK.out.to0 1 _ rfl).box _⟩
  · by_cases e0 : kind = 0
    · subst e0
      show Calls _ _ _ _ (TakeEnd W B _ (some ⟨3, starts, defs, start, text, alts, alt, neg, items⟩))
      go_enter Try.func14, Try.ntmps14
      go_wp2
      go_ret
      exact ⟨rfl, ((HK.out.to4 text).to0 3 _ rfl).box _⟩
    · have h3 : ((kind : Int) == 3) = false := by simp; omega
      have h0 : ((kind : Int) == 0) = false := by simp; omega
      have E : take0 ⟨st, starts, defs, start, name, alts, alt, neg, items⟩ ⟨kind, pl, text, lo, hi⟩ = none := by unfold take0; rw [if_neg e3, if_neg e0]
      rw [E]
      clear E e3 e0
      go_enter Try.func14, Try.ntmps14
      go_wp2
      go_ret
      exact ⟨rfl, bel1 _ _⟩

set_option maxHeartbeats 1600000 in
theorem takeStartName_any (hP : Pr W B ⟨st, starts, defs, start, name, alts, alt, neg, items⟩ w) (kind pl : Nat) (text : ByteArray) (lo hi : Int) :
    Calls Try.prog 15 #[.pointer (some ⟨B, 0, none⟩), .agg #[.int .i64 (kind : Int), .int .i64 (pl : Int), .string text, .int .i64 lo, .int .i64 hi]] w (TakeEnd W B w (take1 ⟨st, starts, defs, start, name, alts, alt, neg, items⟩ ⟨kind, pl, text, lo, hi⟩)) := by
  obtain ⟨c0, c3, c4, c7, fz, hlt⟩ := hP.plain
  have HK : Hid (Pr W B ⟨st, starts, defs, start, name, alts, alt, neg, items⟩ w) := hP
  have f0 := fz 0
  have f3 := fz 3
  clear hP fz c4 c7
  by_cases e0 : kind = 0
  · subst e0
    show Calls _ _ _ _ (TakeEnd W B _ (some ⟨2, starts, defs, text, name, alts, alt, neg, items⟩))
    go_enter Try.func15, Try.ntmps15
    go_wp2
    go_ret
    exact ⟨rfl, ((HK.out.to3 text).to0 2 _ rfl).box _⟩
  · have h0 : ((kind : Int) != 0) = true := by simp; omega
    have E : take1 ⟨st, starts, defs, start, name, alts, alt, neg, items⟩ ⟨kind, pl, text, lo, hi⟩ = none := by unfold take1; rw [if_neg e0]
    rw [E]
    clear E e0
    go_enter Try.func15, Try.ntmps15
    go_wp2
    go_ret
    exact ⟨rfl, bel1 _ _⟩

set_option maxHeartbeats 1600000 in
theorem takeIs_any (hP : Pr W B ⟨st, starts, defs, start, name, alts, alt, neg, items⟩ w) (kind pl : Nat) (text : ByteArray) (lo hi : Int) :
    Calls Try.prog 17 #[.pointer (some ⟨B, 0, none⟩), .agg #[.int .i64 (kind : Int), .int .i64 (pl : Int), .string text, .int .i64 lo, .int .i64 hi]] w (TakeEnd W B w (take3 ⟨st, starts, defs, start, name, alts, alt, neg, items⟩ ⟨kind, pl, text, lo, hi⟩)) := by
  obtain ⟨c0, c3, c4, c7, fz, hlt⟩ := hP.plain
  have HK : Hid (Pr W B ⟨st, starts, defs, start, name, alts, alt, neg, items⟩ w) := hP
  have f0 := fz 0
  clear hP fz c3 c4 c7
  by_cases e4 : kind = 4
  · subst e4
    show Calls _ _ _ _ (TakeEnd W B _ (some ⟨4, starts, defs, start, name, alts, alt, neg, items⟩))
    go_enter Try.func17, Try.ntmps17
    go_wp2
    go_ret
    exact ⟨rfl, (HK.out.to0 4 _ rfl).box _⟩
  · have h0 : ((kind : Int) != 4) = true := by simp; omega
    have E : take3 ⟨st, starts, defs, start, name, alts, alt, neg, items⟩ ⟨kind, pl, text, lo, hi⟩ = none := by unfold take3; rw [if_neg e4]
    rw [E]
    clear E e4
    go_enter Try.func17, Try.ntmps17
    go_wp2
    go_ret
    exact ⟨rfl, bel1 _ _⟩
end
end Go.Proofs.Ytbpkpfnjgljilaa
