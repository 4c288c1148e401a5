/- The parser takes a token. -/
import Derived.Test.YtbpkpfnjgljilaaNoteTak2
namespace Go.Proofs.Ytbpkpfnjgljilaa
set_option linter.unusedVariables false
open Go.ChangeShapes Go.WideShapes Go.ChangeAt Go.RowKit

theorem TakeEnd.ways {W w : World} {B : Nat} {o : Option Pm} {e : Ending} {w' : World} (h : TakeEnd W B w o e w') : ∃ b, e = .returned (.bool b) ∧ TakeEnd W B w o (.returned (.bool b)) w' := by
  cases o with
  | none => exact ⟨false, h.1, rfl, h.2⟩
  | some q => exact ⟨true, h.1, rfl, h.2⟩
section
variable {W w : World} {B : Nat} {st : Nat} {starts : List ByteArray} {defs : List Df} {start name : ByteArray} {alts : List (List Cj)} {alt : List Cj} {neg : Bool} {items : List It}

set_option maxHeartbeats 1600000 in
theorem takeConj_any (hP : Pr W B ⟨st, starts, defs, start, name, alts, alt, neg, items⟩ w) (hl : items.length ≤ 65536) (kind pl : Nat) (text : ByteArray) (lo hi : Int) :
    Calls Try.prog 18 #[.pointer (some ⟨B, 0, none⟩), .agg #[.int .i64 (kind : Int), .int .i64 (pl : Int), .string text, .int .i64 lo, .int .i64 hi]] w (TakeEnd W B w (take4 ⟨st, starts, defs, start, name, alts, alt, neg, items⟩ ⟨kind, pl, text, lo, hi⟩)) := by
  obtain ⟨c0, c3, c4, c7, fz, hlt⟩ := hP.plain
  have HK : Hid (Pr W B ⟨st, starts, defs, start, name, alts, alt, neg, items⟩ w) := hP
  have f0 := fz 0
  have f7 := fz 7
  by_cases e7 : kind = 7
  · subst e7
    show Calls _ _ _ _ (TakeEnd W B _ (some ⟨5, starts, defs, start, name, alts, alt, true, items⟩))
    clear hP fz c3 c4
    go_enter Try.func18, Try.ntmps18
    go_wp2
    go_ret
    exact ⟨rfl, ((HK.out.to7 true).to0 5 _ rfl).box _⟩
  · have h7 : ((kind : Int) != 7) = true := by simp; omega
    have SUB := fun o => takeItem_any (hP.box o) hl kind pl text lo hi
    have E : take4 ⟨st, starts, defs, start, name, alts, alt, neg, items⟩ ⟨kind, pl, text, lo, hi⟩ = tItem ⟨st, starts, defs, start, name, alts, alt, neg, items⟩ ⟨kind, pl, text, lo, hi⟩ := by unfold take4; rw [if_neg e7]
    rw [E]
    generalize tItem ⟨st, starts, defs, start, name, alts, alt, neg, items⟩ ⟨kind, pl, text, lo, hi⟩ = R at SUB ⊢
    clear E e7 hP fz c3 c4 c7
    go_enter Try.func18, Try.ntmps18
    go_wp2_with (go_at_call 19; refine (SUB _).mono ?_; intro e w1 hT; obtain ⟨b, rfl, hT⟩ := hT.ways)
    go_ret
    exact hT.out

set_option maxHeartbeats 3200000 in
theorem takeBehind_any (hP : Pr W B ⟨st, starts, defs, start, name, alts, alt, neg, items⟩ w) (hl : items.length ≤ 65536) (hl2 : alt.length ≤ 65536) (hl3 : alts.length ≤ 65536) (hl4 : defs.length ≤ 65536) (kind pl : Nat) (text : ByteArray) (lo hi : Int) :
    Calls Try.prog 20 #[.pointer (some ⟨B, 0, none⟩), .agg #[.int .i64 (kind : Int), .int .i64 (pl : Int), .string text, .int .i64 lo, .int .i64 hi]] w (TakeEnd W B w (take6 ⟨st, starts, defs, start, name, alts, alt, neg, items⟩ ⟨kind, pl, text, lo, hi⟩)) := by
  by_cases e6 : kind = 6
  · subst e6
    have SUB := fun o => shutConj_any (hP.box o) hl2
    show Calls _ _ _ _ (TakeEnd W B _ (some ((sConj ⟨st, starts, defs, start, name, alts, alt, neg, items⟩).to 4)))
    generalize sConj ⟨st, starts, defs, start, name, alts, alt, neg, items⟩ = q at SUB ⊢
    clear hP
    go_enter Try.func20, Try.ntmps20
    go_wp2_with (go_at_call 29; refine (SUB _).mono ?_; rintro e w1 ⟨rfl, hq⟩; have HQ : Hid (Pr W B q w1) := hq; obtain ⟨d0, -, -, -, fz, -⟩ := hq.plain; have g0 := fz 0; clear hq fz)
    go_ret
    exact ⟨rfl, HQ.out.to0 4 _ rfl⟩
  by_cases e5 : kind = 5
  · subst e5
    have SUB := fun o => shutAlt_any (hP.box o) hl2 hl3
    show Calls _ _ _ _ (TakeEnd W B _ (some ((sAlt ⟨st, starts, defs, start, name, alts, alt, neg, items⟩).to 4)))
    generalize sAlt ⟨st, starts, defs, start, name, alts, alt, neg, items⟩ = q at SUB ⊢
    clear hP
    go_enter Try.func20, Try.ntmps20
    go_wp2_with (go_at_call 30; refine (SUB _).mono ?_; rintro e w1 ⟨rfl, hq⟩; have HQ : Hid (Pr W B q w1) := hq; obtain ⟨d0, -, -, -, fz, -⟩ := hq.plain; have g0 := fz 0; clear hq fz)
    go_ret
    exact ⟨rfl, HQ.out.to0 4 _ rfl⟩
  by_cases e8 : kind = 8
  · subst e8
    have SUB := fun o => shutDef_any (hP.box o) hl2 hl3 hl4
    show Calls _ _ _ _ (TakeEnd W B _ (some ((sDef ⟨st, starts, defs, start, name, alts, alt, neg, items⟩).to 0)))
    generalize sDef ⟨st, starts, defs, start, name, alts, alt, neg, items⟩ = q at SUB ⊢
    clear hP
    go_enter Try.func20, Try.ntmps20
    go_wp2_with (go_at_call 31; refine (SUB _).mono ?_; rintro e w1 ⟨rfl, hq⟩; have HQ : Hid (Pr W B q w1) := hq; obtain ⟨d0, -, -, -, fz, -⟩ := hq.plain; have g0 := fz 0; clear hq fz)
    go_ret
    exact ⟨rfl, HQ.out.to0 0 _ rfl⟩
  · have h6 : ((kind : Int) == 6) = false := by simp; omega
    have h5 : ((kind : Int) == 5) = false := by simp; omega
    have h8 : ((kind : Int) == 8) = false := by simp; omega
    have SUB := fun o => takeItem_any (hP.box o) hl kind pl text lo hi
    have E : take6 ⟨st, starts, defs, start, name, alts, alt, neg, items⟩ ⟨kind, pl, text, lo, hi⟩ = tItem ⟨st, starts, defs, start, name, alts, alt, neg, items⟩ ⟨kind, pl, text, lo, hi⟩ := by unfold take6; rw [if_neg e6, if_neg e5, if_neg e8]
    rw [E]
    generalize tItem ⟨st, starts, defs, start, name, alts, alt, neg, items⟩ ⟨kind, pl, text, lo, hi⟩ = R at SUB ⊢
    clear E e6 e5 e8 hP
    go_enter Try.func20, Try.ntmps20
    go_wp2_with (go_at_call 19; refine (SUB _).mono ?_; intro e w1 hT; obtain ⟨b, rfl, hT⟩ := hT.ways)
    go_ret
    exact hT.out
end

set_option maxHeartbeats 3200000 in
theorem take_any {W w : World} {B : Nat} {p : Pm} (hP : Pr W B p w) {k : Nat} (hf : Fits p k) (hk : k ≤ 65536) (kind pl : Nat) (text : ByteArray) (lo hi : Int) :
    Calls Try.prog 9 #[.pointer (some ⟨B, 0, none⟩), .agg #[.int .i64 (kind : Int), .int .i64 (pl : Int), .string text, .int .i64 lo, .int .i64 hi]] w (TakeEnd W B w (take p ⟨kind, pl, text, lo, hi⟩)) := by
  obtain ⟨c0, -, -, -, -, hlt⟩ := hP.plain
  have h1 := hf.starts; have h2 := hf.defs; have h3 := hf.alts; have h4 := hf.alt; have h5 := hf.items; have h6 := hf.st
  obtain ⟨st, starts, defs, start, name, alts, alt, neg, items⟩ := p
  simp only at h1 h2 h3 h4 h5 h6 c0
  unfold take
  have S0 := fun o => takeDecl_any (hP.box o) kind pl text lo hi
  have S1 := fun o => takeStartName_any (hP.box o) kind pl text lo hi
  have S2 := fun o => takeStartEnd_any (hP.box o) (by omega) kind pl text lo hi
  have S3 := fun o => takeIs_any (hP.box o) kind pl text lo hi
  have S4 := fun o => takeConj_any (hP.box o) (by omega) kind pl text lo hi
  have S5 := fun o => takeItem_any (hP.box o) (by omega) kind pl text lo hi
  have S6 := fun o => takeBehind_any (hP.box o) (by omega) (by omega) (by omega) (by omega) kind pl text lo hi
  clear hP hf hk h1 h2 h3 h4 h5
  match st, h6 with
  | 0, _ =>
    show Calls _ _ _ _ (TakeEnd W B _ (take0 ⟨0, starts, defs, start, name, alts, alt, neg, items⟩ ⟨kind, pl, text, lo, hi⟩))
    generalize take0 ⟨0, starts, defs, start, name, alts, alt, neg, items⟩ ⟨kind, pl, text, lo, hi⟩ = R at S0 ⊢
    go_enter Try.func9, Try.ntmps9
    go_wp2_with (go_at_call 14; refine (S0 _).mono ?_; intro e w1 hT; obtain ⟨b, rfl, hT⟩ := hT.ways)
    go_ret
    exact hT.out
  | 1, _ =>
    show Calls _ _ _ _ (TakeEnd W B _ (take1 ⟨1, starts, defs, start, name, alts, alt, neg, items⟩ ⟨kind, pl, text, lo, hi⟩))
    generalize take1 ⟨1, starts, defs, start, name, alts, alt, neg, items⟩ ⟨kind, pl, text, lo, hi⟩ = R at S1 ⊢
    go_enter Try.func9, Try.ntmps9
    go_wp2_with (go_at_call 15; refine (S1 _).mono ?_; intro e w1 hT; obtain ⟨b, rfl, hT⟩ := hT.ways)
    go_ret
    exact hT.out
  | 2, _ =>
    show Calls _ _ _ _ (TakeEnd W B _ (take2 ⟨2, starts, defs, start, name, alts, alt, neg, items⟩ ⟨kind, pl, text, lo, hi⟩))
    generalize take2 ⟨2, starts, defs, start, name, alts, alt, neg, items⟩ ⟨kind, pl, text, lo, hi⟩ = R at S2 ⊢
    go_enter Try.func9, Try.ntmps9
    go_wp2_with (go_at_call 16; refine (S2 _).mono ?_; intro e w1 hT; obtain ⟨b, rfl, hT⟩ := hT.ways)
    go_ret
    exact hT.out
  | 3, _ =>
    show Calls _ _ _ _ (TakeEnd W B _ (take3 ⟨3, starts, defs, start, name, alts, alt, neg, items⟩ ⟨kind, pl, text, lo, hi⟩))
    generalize take3 ⟨3, starts, defs, start, name, alts, alt, neg, items⟩ ⟨kind, pl, text, lo, hi⟩ = R at S3 ⊢
    go_enter Try.func9, Try.ntmps9
    go_wp2_with (go_at_call 17; refine (S3 _).mono ?_; intro e w1 hT; obtain ⟨b, rfl, hT⟩ := hT.ways)
    go_ret
    exact hT.out
  | 4, _ =>
    show Calls _ _ _ _ (TakeEnd W B _ (take4 ⟨4, starts, defs, start, name, alts, alt, neg, items⟩ ⟨kind, pl, text, lo, hi⟩))
    generalize take4 ⟨4, starts, defs, start, name, alts, alt, neg, items⟩ ⟨kind, pl, text, lo, hi⟩ = R at S4 ⊢
    go_enter Try.func9, Try.ntmps9
    go_wp2_with (go_at_call 18; refine (S4 _).mono ?_; intro e w1 hT; obtain ⟨b, rfl, hT⟩ := hT.ways)
    go_ret
    exact hT.out
  | 5, _ =>
    show Calls _ _ _ _ (TakeEnd W B _ (tItem ⟨5, starts, defs, start, name, alts, alt, neg, items⟩ ⟨kind, pl, text, lo, hi⟩))
    generalize tItem ⟨5, starts, defs, start, name, alts, alt, neg, items⟩ ⟨kind, pl, text, lo, hi⟩ = R at S5 ⊢
    go_enter Try.func9, Try.ntmps9
    go_wp2_with (go_at_call 19; refine (S5 _).mono ?_; intro e w1 hT; obtain ⟨b, rfl, hT⟩ := hT.ways)
    go_ret
    exact hT.out
  | 6, _ =>
    show Calls _ _ _ _ (TakeEnd W B _ (take6 ⟨6, starts, defs, start, name, alts, alt, neg, items⟩ ⟨kind, pl, text, lo, hi⟩))
    generalize take6 ⟨6, starts, defs, start, name, alts, alt, neg, items⟩ ⟨kind, pl, text, lo, hi⟩ = R at S6 ⊢
    go_enter Try.func9, Try.ntmps9
    go_wp2_with (go_at_call 20; refine (S6 _).mono ?_; intro e w1 hT; obtain ⟨b, rfl, hT⟩ := hT.ways)
    go_ret
    exact hT.out
  | m + 7, h => exact absurd h (by omega)
end Go.Proofs.Ytbpkpfnjgljilaa
