/- ShowUnlike, walked. -/
import Derived.Test.YtkkmjgohjaedkaaShowAwake
import Derived.Test.YtkkmjgohjaedkaaShowBackT
import Derived.Test.YtkkmjgohjaedkaaGramSame
namespace Go.Proofs.Ytkkmjgohjaedkaa
set_option linter.unusedVariables false
open Go.ChangeShapes Go.WideShapes Go.ChangeAt Go.RowKit

/-- Show at a grammar that is an argument, whether it may be or not. -/
theorem show_arg (g : Gr) (v1 v2 : Value) (w : World) {F : Nat → Prop} (hg : GrIs w F v1 v2 g) (hn : ∀ s, s ∈ g.names → s.size ≤ maxLen ∧ s.size ≤ reachBytes) (hs : ∀ r, r ∈ g.rules → ∀ c, c ∈ r.conj → c.seq.length * 24 ≤ reachBytes) :
    Calls Try.prog 51 #[.agg #[.int .i64 g.start, v1, v2]] w fun e w' => e = .returned (.tuple #[.string (if mayG g then showT g else ⟨#[]⟩), .int .i64 (if mayG g then 0 else 500)]) ∧ Hid (Below w.heap.size w w') := by
  have hS : Short g.rules := fun r hr c hc => by have := hs r hr c hc; unfold reachBytes at this; omega
  cases hM : mayG g with
  | true => exact show_ok g v1 v2 w hg (fun s h => (hn s h).1) hS hM (by have := show_len hM; omega)
  | false => exact show_no g v1 v2 w hg (fun s h => (hn s h).1) hS hM
theorem same_gram (g g' : Gr) (a1 a2 b1 b2 : Value) (w : World) {Fa Fb : Nat → Prop} (ha : GrIs w Fa a1 a2 g) (hb : GrIs w Fb b1 b2 g') (b : Bool) (e : b = true ↔ g = g') :
    Calls Try.prog 43 #[.agg #[.int .i64 g.start, a1, a2], .agg #[.int .i64 g'.start, b1, b2]] w fun e w' => e = .returned (.bool b) ∧ Hid (Below w.heap.size w w') := by
  cases b with
  | true =>
    have := e.1 rfl
    subst this
    exact sameGram_yes g a1 a2 b1 b2 w ha hb
  | false => exact sameGram_no g g' a1 a2 b1 b2 w ha hb (fun h => by simpa using e.2 h)
theorem hid_mk {p : Prop} (h : p) : Hid p := h
/-- Two boxes of three cells each. -/
def Box6 (n : Nat) (w : World) (a b c d e f : Value) : Prop :=
  n + 1 < w.heap.size ∧ w.cell? ⟨n, 0, none⟩ = some a ∧ w.cell? ⟨n, 1, none⟩ = some b ∧ w.cell? ⟨n, 2, none⟩ = some c ∧ w.cell? ⟨n + 1, 0, none⟩ = some d ∧ w.cell? ⟨n + 1, 1, none⟩ = some e ∧ w.cell? ⟨n + 1, 2, none⟩ = some f
theorem Box6.go {n : Nat} {w w' : World} {a b c d e f : Value} (h : Box6 n w a b c d e f) (k : Below w.heap.size w w') : Box6 n w' a b c d e f := by
  obtain ⟨h0, h1, h2, h3, h4, h5, h6⟩ := h
  have l1 : n < w.heap.size := by omega
  have := k.size
  exact ⟨by omega, (k.cell (p := ⟨n, 0, none⟩) l1).trans h1, (k.cell (p := ⟨n, 1, none⟩) l1).trans h2, (k.cell (p := ⟨n, 2, none⟩) l1).trans h3, (k.cell (p := ⟨n + 1, 0, none⟩) h0).trans h4, (k.cell (p := ⟨n + 1, 1, none⟩) h0).trans h5, (k.cell (p := ⟨n + 1, 2, none⟩) h0).trans h6⟩
theorem box6 {w w1 : World} {a b c d e f : Value} {t t' : TypeId} (hb : Below ((w.alloc (.cells #[a, b, c] t)).alloc (.cells #[d, e, f] t')).heap.size ((w.alloc (.cells #[a, b, c] t)).alloc (.cells #[d, e, f] t')) w1) : Box6 w.heap.size w1 a b c d e f ∧ Below w.heap.size w w1 := by
  obtain ⟨q1, q2, hs1, hbw⟩ := box2_cells hb
  exact ⟨⟨hs1, q1 0, q1 1, q1 2, q2 0, q2 1, q2 2⟩, hbw⟩
set_option maxHeartbeats 4000000 in
set_option maxRecDepth 100000 in
theorem showUnlike_walk (W : World) (g : Gr) (a1 a2 : Value) (ga : GrIs W Any a1 a2 g) (gn : ∀ s, s ∈ g.names → s.size ≤ maxLen ∧ s.size ≤ reachBytes) (gs : ∀ r, r ∈ g.rules → ∀ c, c ∈ r.conj → c.seq.length * 24 ≤ reachBytes) (w0 : (Lit.int .i64 g.start).wf = true)
    (h : Gr) (b1 b2 : Value) (ha : GrIs W Any b1 b2 h) (hn : ∀ s, s ∈ h.names → s.size ≤ maxLen ∧ s.size ≤ reachBytes) (hs : ∀ r, r ∈ h.rules → ∀ c, c ∈ r.conj → c.seq.length * 24 ≤ reachBytes) (w1 : (Lit.int .i64 h.start).wf = true) :
    Calls Try.prog 28 #[.agg #[.int .i64 g.start, a1, a2], .agg #[.int .i64 h.start, b1, b2]] W fun e W' => e = .returned (.bool true) ∧ Below W.heap.size W W' := by
  have KG : Hid (∀ w2, Below W.heap.size W w2 → Calls Try.prog 51 #[.agg #[.int .i64 g.start, a1, a2]] w2 fun e w' => e = .returned (.tuple #[.string (if mayG g then showT g else ⟨#[]⟩), .int .i64 (if mayG g then 0 else 500)]) ∧ Hid (Below w2.heap.size w2 w')) := fun w2 hb => show_arg g a1 a2 w2 (ga.any hb) gn gs
  have KH : Hid (∀ w2, Below W.heap.size W w2 → Calls Try.prog 51 #[.agg #[.int .i64 h.start, b1, b2]] w2 fun e w' => e = .returned (.tuple #[.string (if mayG h then showT h else ⟨#[]⟩), .int .i64 (if mayG h then 0 else 500)]) ∧ Hid (Below w2.heap.size w2 w')) := fun w2 hb => show_arg h b1 b2 w2 (ha.any hb) hn hs
  have KS : Hid (∀ w2 b, Below W.heap.size W w2 → (b = true ↔ g = h) → Calls Try.prog 43 #[.agg #[.int .i64 g.start, a1, a2], .agg #[.int .i64 h.start, b1, b2]] w2 fun e w' => e = .returned (.bool b) ∧ Hid (Below w2.heap.size w2 w')) := fun w2 b hb e => same_gram g h a1 a2 b1 b2 w2 (ga.any hb) (ha.any hb) b e
  have HI : Hid (mayG g = true → mayG h = true → ((showT g).toList == (showT h).toList) = true → g = h) := fun m1 m2 e => show_inj m1 m2 (ba_inj (by simpa using e))
  obtain ⟨p1, c1, l1, hv1⟩ : ∃ p n c, a1 = .slice p n c := by obtain ⟨p, c, e, _⟩ := ga.1; exact ⟨_, _, _, e⟩
  obtain ⟨p2, c2, hv2⟩ := ga.2.slc
  obtain ⟨p3, c3, l3, hv3⟩ : ∃ p n c, b1 = .slice p n c := by obtain ⟨p, c, e, _⟩ := ha.1; exact ⟨_, _, _, e⟩
  obtain ⟨p4, c4, hv4⟩ := ha.2.slc
  subst hv1 hv2 hv3 hv4
  clear gn gs hn hs w0 w1 ga ha
  go_enter Try.func28, Try.ntmps28
  cases hMg : mayG g <;> cases hMh : mayG h <;> rw [hMg] at KG HI <;> rw [hMh] at KH HI
  case true.true =>
    have HSL : Hid (g = h → ((showT g).toList == (showT h).toList) = true) := fun e => by rw [e]; simp
    replace HI : Hid (((showT g).toList == (showT h).toList) = true → g = h) := HI.out rfl rfl
    simp only [if_true] at KG KH
    generalize (showT g) = tg at *
    generalize (showT h) = th at *
    cases hb : (tg.toList == th.toList)
    all_goals
      rw [hb] at HI HSL
      have KS2 := fun w2 (hb2 : Below W.heap.size W w2) => KS.out w2 _ hb2 (Iff.intro HI.out HSL.out)
      have HK2 := hid_mk KS2
      clear KS2 KS HI HSL
      go_wp2_with (first
        | (go_at_call 53; refine (awake5_any _).mono ?_; rintro e wa ⟨rfl, ba⟩; obtain ⟨b6, hbw⟩ := box6 ba; have HA : Hid (Below W.heap.size W wa) := hbw; have HB6 : Hid (Box6 W.heap.size wa _ _ _ _ _ _) := b6; obtain ⟨z0, x0, x1, x2, y0, y1, y2⟩ := b6; clear ba hbw z0)
        | (go_at_call 51; first
          | (have hh := HA2; clear hh; refine (KH.out _ HA2.out).mono ?_; rintro e wc ⟨rfl, bc⟩; have HA3 : Hid (Below W.heap.size W wc) := HA2.out.trans (bc.out.mono HA2.out.size); have HD6 : Hid (Box6 W.heap.size wc _ _ _ _ _ _) := HC6.out.go bc.out; clear x0 x1 x2 y0 y1 y2; obtain ⟨z0, x0, x1, x2, y0, y1, y2⟩ := HD6.out; clear bc HC6 z0)
          | (refine (KG.out _ HA.out).mono ?_; rintro e wb ⟨rfl, bb⟩; have HA2 : Hid (Below W.heap.size W wb) := HA.out.trans (bb.out.mono HA.out.size); have HC6 : Hid (Box6 W.heap.size wb _ _ _ _ _ _) := HB6.out.go bb.out; clear x0 x1 x2 y0 y1 y2; obtain ⟨z0, x0, x1, x2, y0, y1, y2⟩ := HC6.out; clear bb HB6 z0))
        | (go_at_call 33; refine (num_any _ _).mono ?_; rintro e wn ⟨rfl, rfl⟩)
        | (go_at_call 43; refine (HK2.out _ HA3.out).mono ?_; rintro e wd ⟨rfl, bd⟩))
      go_ret
      exact ⟨rfl, HA3.out.trans (bd.out.mono HA3.out.size)⟩
  all_goals
    simp only [if_true, if_false, Bool.false_eq_true] at KG KH
    clear HI KS
    go_wp2_with (first
      | (go_at_call 53; refine (awake5_any _).mono ?_; rintro e wa ⟨rfl, ba⟩; obtain ⟨b6, hbw⟩ := box6 ba; have HA : Hid (Below W.heap.size W wa) := hbw; have HB6 : Hid (Box6 W.heap.size wa _ _ _ _ _ _) := b6; obtain ⟨z0, x0, x1, x2, y0, y1, y2⟩ := b6; clear ba hbw z0)
      | (go_at_call 51; first
        | (have hh := HA2; clear hh; refine (KH.out _ HA2.out).mono ?_; rintro e wc ⟨rfl, bc⟩; have HA3 : Hid (Below W.heap.size W wc) := HA2.out.trans (bc.out.mono HA2.out.size); have HD6 : Hid (Box6 W.heap.size wc _ _ _ _ _ _) := HC6.out.go bc.out; clear x0 x1 x2 y0 y1 y2; obtain ⟨z0, x0, x1, x2, y0, y1, y2⟩ := HD6.out; clear bc HC6 z0)
        | (refine (KG.out _ HA.out).mono ?_; rintro e wb ⟨rfl, bb⟩; have HA2 : Hid (Below W.heap.size W wb) := HA.out.trans (bb.out.mono HA.out.size); have HC6 : Hid (Box6 W.heap.size wb _ _ _ _ _ _) := HB6.out.go bb.out; clear x0 x1 x2 y0 y1 y2; obtain ⟨z0, x0, x1, x2, y0, y1, y2⟩ := HC6.out; clear bb HB6 z0))
      | (go_at_call 33; refine (num_any _ _).mono ?_; rintro e wn ⟨rfl, rfl⟩))
    go_ret
    exact ⟨rfl, HA3.out⟩
end Go.Proofs.Ytkkmjgohjaedkaa
