/- What a step of the program's reader does; how its pieces become tokens. -/
import Derived.Test.YtopnhbgialbicaaLexTwo
import Derived.RegionTactic
namespace Go.Proofs.Ytopnhbgialbicaa
set_option linter.unusedVariables false
open Go.ChangeShapes Go.WideShapes Go.ChangeAt Go.RowKit

set_option maxHeartbeats 2000000 in
theorem step0 {W : World} {B : Nat} {s : ByteArray} {nx bg : Nat} {rd : List Int} {ps : List Pc} {ft : Nat} {w : World} (hR : Rd W B s ⟨0, nx, bg, rd, ps, ft⟩ w) (g : Good (PlainAid.bt s) s.size ⟨0, nx, bg, rd, ps, ft⟩) (hs : s.size ≤ 65536) :
    Calls Try.prog 40 #[.pointer (some ⟨B, 0, none⟩)] w (Done W B s ⟨0, nx, bg, rd, ps, ft⟩) := by
  have O := open_any hR g hs
  have q1 : w.cell? ⟨B, 1, none⟩ = some (.int .i64 0) := hR.c1
  clear hR g
  go_enter Try.func40, Try.ntmps40
  go_wp2_with (go_at_call 42; refine O.mono ?_; rintro e w1 ⟨rfl, hD⟩)
  all_goals go_end0
  all_goals exact ⟨rfl, hD⟩
set_option maxHeartbeats 2000000 in
theorem step1 {W : World} {B : Nat} {s : ByteArray} {nx bg : Nat} {rd : List Int} {ps : List Pc} {ft : Nat} {w : World} (hR : Rd W B s ⟨1, nx, bg, rd, ps, ft⟩ w) (g : Good (PlainAid.bt s) s.size ⟨1, nx, bg, rd, ps, ft⟩) (hs : s.size ≤ 65536) :
    Calls Try.prog 40 #[.pointer (some ⟨B, 0, none⟩)] w (Done W B s ⟨1, nx, bg, rd, ps, ft⟩) := by
  have O := comment_any hR g hs
  have q1 : w.cell? ⟨B, 1, none⟩ = some (.int .i64 1) := hR.c1
  clear hR g
  go_enter Try.func40, Try.ntmps40
  go_wp2_with (go_at_call 43; refine O.mono ?_; rintro e w1 ⟨rfl, hD⟩)
  all_goals go_end0
  all_goals exact ⟨rfl, hD⟩
set_option maxHeartbeats 2000000 in
theorem step2 {W : World} {B : Nat} {s : ByteArray} {nx bg : Nat} {rd : List Int} {ps : List Pc} {ft : Nat} {w : World} (hR : Rd W B s ⟨2, nx, bg, rd, ps, ft⟩ w) (g : Good (PlainAid.bt s) s.size ⟨2, nx, bg, rd, ps, ft⟩) (hs : s.size ≤ 65536) :
    Calls Try.prog 40 #[.pointer (some ⟨B, 0, none⟩)] w (Done W B s ⟨2, nx, bg, rd, ps, ft⟩) := by
  have O := name_any hR g hs
  have q1 : w.cell? ⟨B, 1, none⟩ = some (.int .i64 2) := hR.c1
  clear hR g
  go_enter Try.func40, Try.ntmps40
  go_wp2_with (go_at_call 44; refine O.mono ?_; rintro e w1 ⟨rfl, hD⟩)
  all_goals go_end0
  all_goals exact ⟨rfl, hD⟩
set_option maxHeartbeats 2000000 in
theorem step3 {W : World} {B : Nat} {s : ByteArray} {nx bg : Nat} {rd : List Int} {ps : List Pc} {ft : Nat} {w : World} (hR : Rd W B s ⟨3, nx, bg, rd, ps, ft⟩ w) (g : Good (PlainAid.bt s) s.size ⟨3, nx, bg, rd, ps, ft⟩) (hs : s.size ≤ 65536) :
    Calls Try.prog 40 #[.pointer (some ⟨B, 0, none⟩)] w (Done W B s ⟨3, nx, bg, rd, ps, ft⟩) := by
  have O := text_any hR g hs
  have q1 : w.cell? ⟨B, 1, none⟩ = some (.int .i64 3) := hR.c1
  clear hR g
  go_enter Try.func40, Try.ntmps40
  go_wp2_with (go_at_call 45; refine O.mono ?_; rintro e w1 ⟨rfl, hD⟩)
  all_goals go_end0
  all_goals exact ⟨rfl, hD⟩
set_option maxHeartbeats 2000000 in
theorem step4 {W : World} {B : Nat} {s : ByteArray} {nx bg : Nat} {rd : List Int} {ps : List Pc} {ft : Nat} {w : World} (hR : Rd W B s ⟨4, nx, bg, rd, ps, ft⟩ w) (g : Good (PlainAid.bt s) s.size ⟨4, nx, bg, rd, ps, ft⟩) (hs : s.size ≤ 65536) :
    Calls Try.prog 40 #[.pointer (some ⟨B, 0, none⟩)] w (Done W B s ⟨4, nx, bg, rd, ps, ft⟩) := by
  have O := side_any hR g hs
  have q1 : w.cell? ⟨B, 1, none⟩ = some (.int .i64 4) := hR.c1
  clear hR g
  go_enter Try.func40, Try.ntmps40
  go_wp2_with (go_at_call 46; refine O.mono ?_; rintro e w1 ⟨rfl, hD⟩)
  all_goals go_end0
  all_goals exact ⟨rfl, hD⟩
theorem step_any {W : World} {B : Nat} {s : ByteArray} {m : Mc} {w : World} (hR : Rd W B s m w) (g : Good (PlainAid.bt s) s.size m) (h5 : m.st ≠ 5) (hs : s.size ≤ 65536) :
    Calls Try.prog 40 #[.pointer (some ⟨B, 0, none⟩)] w (Done W B s m) := by
  have hst := g.st
  obtain ⟨st, nx, bg, rd, ps, ft⟩ := m
  match st, hst, h5, hR, g with
  | 0, _, _, hR, g => exact step0 hR g hs
  | 1, _, _, hR, g => exact step1 hR g hs
  | 2, _, _, hR, g => exact step2 hR g hs
  | 3, _, _, hR, g => exact step3 hR g hs
  | 4, _, _, hR, g => exact step4 hR g hs
  | 5, _, h5, _, _ => exact absurd rfl h5

/-- A token as a value, as cells. -/
def tokC (t : Tok) : List Value := [.int .i64 (t.kind : Int), .int .i64 (t.pl : Int), .string t.text, .int .i64 t.lo, .int .i64 t.hi]
def tokV (t : Tok) : Value := .agg #[.int .i64 (t.kind : Int), .int .i64 (t.pl : Int), .string t.text, .int .i64 t.lo, .int .i64 t.hi]
def toksV : List Tok → List Value
  | [] => []
  | t :: l => tokC t ++ toksV l
theorem toksV_append : ∀ l m : List Tok, toksV (l ++ m) = toksV l ++ toksV m
  | [], _ => rfl
  | t :: l, m => by simp [toksV, toksV_append l m]
theorem toksV_length : ∀ l : List Tok, (toksV l).length = l.length * 5
  | [] => rfl
  | t :: l => by simp [toksV, tokC, toksV_length l]; omega

theorem bel1 (w : World) (o : Obj) : Below w.heap.size w (w.alloc o) := (Below.refl _ _).alloc (Nat.le_refl _) o
theorem bel2 (w : World) (o o' : Obj) : Below w.heap.size w ((w.alloc o).alloc o') := (bel1 w o).alloc (by simp) o'
theorem bel3 (w : World) (o o' o'' : Obj) : Below w.heap.size w (((w.alloc o).alloc o').alloc o'') := (bel2 w o o').alloc (by simp; omega) o''
theorem bel4 (w : World) (o o' o'' o3 : Obj) : Below w.heap.size w ((((w.alloc o).alloc o').alloc o'').alloc o3) := (bel3 w o o' o'').alloc (by simp; omega) o3

theorem assert_str (t : ByteArray) (w : World) : (Instr.typeAssert (.iface 9 (.string t)) 20 9 false).run Try.prog w = .ok (.string t) w := by kernel_rfl
theorem assert_ends (a c : Int) (w : World) : (Instr.typeAssert (.iface 106 (.agg #[.int .i64 a, .int .i64 c])) 20 106 false).run Try.prog w = .ok (.agg #[.int .i64 a, .int .i64 c]) w := by kernel_rfl

set_option maxHeartbeats 2000000 in
theorem token_any (p : Pc) (hf : p.fit) (w : World) :
    Calls Try.prog 47 #[.agg #[.int .i64 (p.kind : Int), .int .i64 (p.pl : Int), payV p.pay]] w fun e w' => e = .returned (tokV p.tok) ∧ Below w.heap.size w w' := by
  obtain ⟨kind, pl, pay⟩ := p
  rcases pay with _ | t | ⟨lo, hi⟩
  · obtain ⟨k1, k2⟩ : 3 ≤ kind ∧ kind ≤ 8 := hf
    have b0 : ((kind : Int) == 0) = false := by simp; omega
    have b1 : ((kind : Int) == 1) = false := by simp; omega
    have b2 : ((kind : Int) == 2) = false := by simp; omega
    show Calls Try.prog 47 #[.agg #[.int .i64 (kind : Int), .int .i64 (pl : Int), .nilIface]] w fun e w' => e = .returned (.agg #[.int .i64 (kind : Int), .int .i64 (pl : Int), .string ⟨#[]⟩, .int .i64 0, .int .i64 0]) ∧ Below w.heap.size w w'
    go_enter Try.func47, Try.ntmps47
    go_wp2
    exact bodyPost_ret (v := .agg #[.int .i64 (kind : Int), .int .i64 (pl : Int), .string ⟨#[]⟩, .int .i64 0, .int .i64 0]) (by simp [results, Try.results47, go_sem]) rfl ⟨rfl, bel3 _ _ _ _⟩
  · have k1 : kind ≤ 1 := hf
    by_cases e0 : kind = 0
    · subst e0
      show Calls Try.prog 47 #[.agg #[.int .i64 0, .int .i64 (pl : Int), .iface 9 (.string t)]] w fun e w' => e = .returned (.agg #[.int .i64 0, .int .i64 (pl : Int), .string t, .int .i64 0, .int .i64 0]) ∧ Below w.heap.size w w'
      have ta := assert_str t
      go_enter Try.func47, Try.ntmps47
      go_wp2
      exact bodyPost_ret (v := .agg #[.int .i64 0, .int .i64 (pl : Int), .string t, .int .i64 0, .int .i64 0]) (by simp [results, Try.results47, go_sem]) rfl ⟨rfl, bel3 _ _ _ _⟩
    · obtain rfl : kind = 1 := by omega
      show Calls Try.prog 47 #[.agg #[.int .i64 1, .int .i64 (pl : Int), .iface 9 (.string t)]] w fun e w' => e = .returned (.agg #[.int .i64 1, .int .i64 (pl : Int), .string t, .int .i64 0, .int .i64 0]) ∧ Below w.heap.size w w'
      have ta := assert_str t
      go_enter Try.func47, Try.ntmps47
      go_wp2
      exact bodyPost_ret (v := .agg #[.int .i64 1, .int .i64 (pl : Int), .string t, .int .i64 0, .int .i64 0]) (by simp [results, Try.results47, go_sem]) rfl ⟨rfl, bel3 _ _ _ _⟩
  · obtain rfl : kind = 2 := hf
    show Calls Try.prog 47 #[.agg #[.int .i64 2, .int .i64 (pl : Int), .iface 106 (.agg #[.int .i64 lo, .int .i64 hi])]] w fun e w' => e = .returned (.agg #[.int .i64 2, .int .i64 (pl : Int), .string ⟨#[]⟩, .int .i64 lo, .int .i64 hi]) ∧ Below w.heap.size w w'
    have ta := assert_ends lo hi
    go_enter Try.func47, Try.ntmps47
    go_wp2
    go_region
    all_goals go_wp2
    all_goals refine bodyPost_ret (v := .agg #[.int .i64 2, .int .i64 (pl : Int), .string ⟨#[]⟩, .int .i64 lo, .int .i64 hi]) (by simp [results, Try.results47, go_sem]) rfl ⟨rfl, ?_⟩
    all_goals exact (bel4 _ _ _ _ _).drew
end Go.Proofs.Ytopnhbgialbicaa
