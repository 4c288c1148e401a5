/- ShowUnlike, walked. -/
import Derived.Test.YteanhhehjlhhbaaShowAwake
import Derived.Test.YteanhhehjlhhbaaShowBackT
import Derived.Test.YteanhhehjlhhbaaGramSame
namespace Go.Proofs.Yteanhhehjlhhbaa
set_option linter.unusedVariables false
open Go.ChangeShapes Go.WideShapes Go.ChangeAt Go.RowKit

/-- Show at a grammar that is an argument, whether it may be or not. -/
theorem show_arg (g : Gr) (v1 v2 : Value) (w : World) {F : Nat → Prop} (hg : GrIs w F v1 v2 g) (hn : ∀ s, s ∈ g.names → s.size ≤ maxLen ∧ s.size ≤ reachBytes) (hs : ∀ r, r ∈ g.rules → ∀ c, c ∈ r.conj → c.seq.length * 24 ≤ reachBytes) :
    Calls Try.prog 5 #[.agg #[.int .i64 g.start, v1, v2]] w fun e w' => e = .returned (.tuple #[.string (if mayG g then showT g else ⟨#[]⟩), .int .i64 (if mayG g then 0 else 500)]) ∧ Hid (Below w.heap.size w w') := by
  have hS : Short g.rules := fun r hr c hc => by have := hs r hr c hc; unfold reachBytes at this; omega
  cases hM : mayG g with
  | true => exact show_ok g v1 v2 w hg (fun s h => (hn s h).1) hS hM (by have := show_len hM; omega)
  | false => exact show_no g v1 v2 w hg (fun s h => (hn s h).1) hS hM
theorem same_gram (g g' : Gr) (a1 a2 b1 b2 : Value) (w : World) {Fa Fb : Nat → Prop} (ha : GrIs w Fa a1 a2 g) (hb : GrIs w Fb b1 b2 g') (b : Bool) (e : b = true ↔ g = g') :
    Calls Try.prog 8 #[.agg #[.int .i64 g.start, a1, a2], .agg #[.int .i64 g'.start, b1, b2]] w fun e w' => e = .returned (.bool b) ∧ Hid (Below w.heap.size w w') := by
  cases b with
  | true =>
    have := e.1 rfl
    subst this
    exact sameGram_yes g a1 a2 b1 b2 w ha hb
  | false => exact sameGram_no g g' a1 a2 b1 b2 w ha hb (fun h => by simpa using e.2 h)
theorem hid_mk {p : Prop} (h : p) : Hid p := h
/-- Two boxes of three cells each. -/
def Box6 (n : Nat) (w : World) (a b c d e f : Value) : Prop :=
  n + 1 < w.heap.size ∧ w.cell? ⟨n, 0, none⟩ = some a ∧ w.cell? ⟨n, 1, none⟩ = some b ∧ w.cell? ⟨n, 2, none⟩ = some c ∧ w.cell? ⟨n + 1, 0, none⟩ = some d ∧ w.cell? ⟨n + 1, 1, none⟩ = some e ∧ w.cell? ⟨n + 1, 2, none⟩ = some f
theorem Box6.go {n : Nat} {w w' : World} {a b c d e f : Value} (h : Box6 n w a b c d e f) (k : Below w.heap.size w w') : Box6 n w' a b c d e f := by
  obtain ⟨h0, h1, h2, h3, h4, h5, h6⟩ := h
  have l1 : n < w.heap.size := by omega
  have := k.size
  exact ⟨by omega, (k.cell (p := ⟨n, 0, none⟩) l1).trans h1, (k.cell (p := ⟨n, 1, none⟩) l1).trans h2, (k.cell (p := ⟨n, 2, none⟩) l1).trans h3, (k.cell (p := ⟨n + 1, 0, none⟩) h0).trans h4, (k.cell (p := ⟨n + 1, 1, none⟩) h0).trans h5, (k.cell (p := ⟨n + 1, 2, none⟩) h0).trans h6⟩
theorem box6 {w w1 : World} {a b c d e f : Value} {t t' : TypeId} (hb : Below ((w.alloc (.cells #[a, b, c] t)).alloc (.cells #[d, e, f] t')).heap.size ((w.alloc (.cells #[a, b, c] t)).alloc (.cells #[d, e, f] t')) w1) : Box6 w.heap.size w1 a b c d e f ∧ Below w.heap.size w w1 := by
  obtain ⟨q1, q2, hs1, hbw⟩ := box2_cells hb
  exact ⟨⟨hs1, q1 0, q1 1, q1 2, q2 0, q2 1, q2 2⟩, hbw⟩
end Go.Proofs.Yteanhhehjlhhbaa
