/- Whose name is unknown, whose range is crossed, what is too long; the names that are defined. -/
import Derived.Test.YteafdfalgeeheaaGramSeek2
namespace Go.Proofs.Yteafdfalgeeheaa
set_option linter.unusedVariables false
open Go.ChangeShapes Go.WideShapes Go.ChangeAt Go.RowKit Go.Maps

def retS : Option ByteArray → Value
  | none => .tuple #[.string ⟨#[]⟩, .bool false]
  | some n => .tuple #[.string n, .bool true]
theorem lt_self {w : World} {F : Nat → Prop} {v : Value} {l : List Df} (h : IsDefs w F v l) : IsDefs w (fun b => b < w.heap.size) v l := h.mono fun b _ hb => hb
set_option maxRecDepth 100000 in
set_option maxHeartbeats 2000000 in
theorem crossed_any (v : Value) (l : List Df) (w : World) {F : Nat → Prop} (hd : IsDefs w F v l) (hT : Fit l) : Calls Try.prog 26 #[v] w fun e w' => e = .returned (retS (crossedT l)) ∧ Below w.heap.size w w' := by
  have FD := findRange stopR (fun _ _ => ()) (fun _ w' => Below w.heap.size w w') none w.heap.size 0 w (fun s w' i h _ => (wantRange_any i w').mono fun e w2 ⟨h1, h2⟩ => ⟨h1, grown_of _ h2, fun _ => h.trans (h2.mono h.size)⟩) (fun s w1 w2 h1 h2 => h1.trans (h2.mono h1.size)) (fun b hb => by cases hb) (Nat.le_refl _) v l (lt_self hd) hT () (Below.refl _ _)
  obtain ⟨p, c, hv⟩ := hd.slc
  subst hv
  unfold crossedT
  cases hr : findS stopR (fun _ _ => ()) () (flat l) with
  | none =>
    rw [hr] at FD
    have FE : Calls Try.prog 46 #[.slice p l.length c, .func (.func 48) #[] #[]] w fun e w' => e = .returned (.tuple #[.string ⟨#[]⟩, .agg #[.int .i64 0, .string ⟨#[]⟩, .int .i64 0, .int .i64 0], .bool false]) ∧ Hid (Below w.heap.size w w') := FD.mono fun e w' ⟨h1, h2⟩ => ⟨h1, below_of h2⟩
    clear FD hd
    go_enter Try.func26, Try.ntmps26
    go_wp2_with (go_at_call 46; refine FE.mono ?_; rintro e w1 ⟨rfl, b1⟩)
    refine bodyPost_ret (v := retS none) (by simp [results, Try.results26, go_sem, retS]) rfl ?_
    exact ⟨rfl, b1.out.alloc b1.out.size _⟩
  | some x =>
    obtain ⟨nm, kd, tx, lo, hi⟩ := x
    rw [hr] at FD
    have FE : Calls Try.prog 46 #[.slice p l.length c, .func (.func 48) #[] #[]] w fun e w' => e = .returned (.tuple #[.string nm, .agg #[.int .i64 kd, .string tx, .int .i64 lo, .int .i64 hi], .bool true]) ∧ Hid (Below w.heap.size w w') := FD.mono fun e w' ⟨h1, h2⟩ => ⟨h1, below_of h2⟩
    clear FD hd
    go_enter Try.func26, Try.ntmps26
    go_wp2_with (go_at_call 46; refine FE.mono ?_; rintro e w1 ⟨rfl, b1⟩)
    refine bodyPost_ret (v := retS (some nm)) (by simp [results, Try.results26, go_sem, retS]) rfl ?_
    exact ⟨rfl, b1.out.alloc b1.out.size _⟩

set_option maxRecDepth 100000 in
set_option maxHeartbeats 2000000 in
theorem tooLong_any (v : Value) (l : List Df) (w : World) {F : Nat → Prop} (hd : IsDefs w F v l) (hT : Fit l) : Calls Try.prog 27 #[v] w fun e w' => e = .returned (.bool (tooLongT l)) ∧ Below w.heap.size w w' := by
  have hmf : ∀ (fn : Fn) (first cap : Array Value) (w : World), (Instr.makeFunc fn first cap).run Try.prog w = .ok (.func fn first cap) w := fun _ _ _ _ => rfl
  have hz : (w.alloc (.cells #[.int .i64 0] 3)).heap.size = w.heap.size + 1 := by simp
  have FD := findLong stopL stepL (fun n w' => n ≤ 1024 ∧ w'.cell? ⟨w.heap.size, 0, none⟩ = some (.int .i64 ((n : Nat) : Int)) ∧ w'.frozen? ⟨w.heap.size, 0, none⟩ = false) (some w.heap.size) w.heap.size w.heap.size (w.alloc (.cells #[.int .i64 0] 3))
    (fun n w' i h ht => (wantLong_any i ht n h.1 w.heap.size w' h.2.1 h.2.2).mono fun e w2 ⟨h1, h2, h3, h4⟩ => ⟨h1, h2, fun hs => ⟨by simpa [stopL, stepL] using hs, h3, h4⟩⟩)
    (fun n w1 w2 h1 h2 => ⟨h1.1, (h2.cell (p := ⟨_, _, none⟩) (cell_lt h1.2.1)).trans h1.2.1, (h2.frozen (p := ⟨_, _, none⟩) (cell_lt h1.2.1)).trans h1.2.2⟩)
    (fun b hb => by cases hb; rw [hz]; omega) (by rw [hz]; omega) v l (((lt_self hd).keep (F' := fun b => b < w.heap.size) ⟨by rw [hz]; omega, fun b hb => (bel1 w _).block b hb⟩ (fun b hb => hb))) hT 0 ⟨by omega, World.cell?_alloc_at _ _ _ _ rfl, World.frozen?_alloc_at _ _ _ _ rfl⟩
  obtain ⟨p, c, hv⟩ := hd.slc
  subst hv
  unfold tooLongT
  have fin : ∀ w', (w.alloc (.cells #[.int .i64 0] 3)).grownBy w' (some w.heap.size) → Below w.heap.size w w' := fun w' h => (bel1 w _).grown h (by rw [hz]; omega) (fun k hk => by cases hk; exact Nat.le_refl _)
  cases hr : findS stopL stepL 0 (flat l) with
  | none =>
    rw [hr] at FD
    have FE : Calls Try.prog 46 #[.slice p l.length c, .func (.func 49) #[] #[.pointer (some ⟨w.heap.size, 0, none⟩)]] (w.alloc (.cells #[.int .i64 0] 3)) fun e w' => e = .returned (.tuple #[.string ⟨#[]⟩, .agg #[.int .i64 0, .string ⟨#[]⟩, .int .i64 0, .int .i64 0], .bool false]) ∧ Hid (Below w.heap.size w w') := FD.mono fun e w' ⟨h1, h2⟩ => ⟨h1, fin _ h2⟩
    clear FD hd fin
    go_enter Try.func27, Try.ntmps27
    go_wp2_with (go_at_call 46; refine FE.mono ?_; rintro e w1 ⟨rfl, b1⟩)
    go_ret
    exact ⟨rfl, b1.out.alloc b1.out.size _⟩
  | some x =>
    obtain ⟨nm, kd, tx, lo, hi⟩ := x
    rw [hr] at FD
    have FE : Calls Try.prog 46 #[.slice p l.length c, .func (.func 49) #[] #[.pointer (some ⟨w.heap.size, 0, none⟩)]] (w.alloc (.cells #[.int .i64 0] 3)) fun e w' => e = .returned (.tuple #[.string nm, .agg #[.int .i64 kd, .string tx, .int .i64 lo, .int .i64 hi], .bool true]) ∧ Hid (Below w.heap.size w w') := FD.mono fun e w' ⟨h1, h2⟩ => ⟨h1, fin _ h2⟩
    clear FD hd fin
    go_enter Try.func27, Try.ntmps27
    go_wp2_with (go_at_call 46; refine FE.mono ?_; rintro e w1 ⟨rfl, b1⟩)
    go_ret
    exact ⟨rfl, b1.out.alloc b1.out.size _⟩
end Go.Proofs.Yteafdfalgeeheaa
