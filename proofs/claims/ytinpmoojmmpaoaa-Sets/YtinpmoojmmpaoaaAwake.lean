/- awake answers true. -/
import Derived.Test.YtinpmoojmmpaoaaJoin
import Derived.Test.YtinpmoojmmpaoaaRange
import Derived.Test.YtinpmoojmmpaoaaCount
import Derived.Test.YtinpmoojmmpaoaaRuns
import Derived.Test.YtinpmoojmmpaoaaSame
namespace Go.Proofs.Ytinpmoojmmpaoaa
open Go.ChangeShapes Go.WideShapes Go.ChangeAt Go.RowKit

/-- Two sets in memory; nothing old has turned. -/
def Two (w : World) (p q : Nat) (A B : Nat → Nat) (wc : World) : Prop := Lies wc p A ∧ Lies wc q B ∧ Below w.heap.size w wc
theorem Two.keep {w wc w1 : World} {p q : Nat} {A B : Nat → Nat} (h : Two w p q A B wc) (hb : Below wc.heap.size wc w1) : Two w p q A B w1 :=
  ⟨h.1.keep hb, h.2.1.keep hb, h.2.2.trans (hb.mono h.2.2.size)⟩
theorem Two.drew {w wc : World} {p q : Nat} {A B : Nat → Nat} (h : Two w p q A B wc) : Two w p q A B wc.drew := ⟨h.1.drew, h.2.1.drew, h.2.2.drew⟩
theorem Two.alloc {w wc : World} {p q : Nat} {A B : Nat → Nat} (h : Two w p q A B wc) (o : Obj) : Two w p q A B (wc.alloc o) := h.keep (below1 _ _)

set_option maxHeartbeats 4000000 in
theorem awake_core (A B : Nat → Nat) (w : World) (okA : okB A) (okB' : okB B)
    (R1 : ∀ w, Calls Try.prog 9 #[.int .i64 60, .int .i64 70] w fun e w' => e = .returned (.tuple #[.agg #[.int .u64 ((A 0 : Nat) : Int), .int .u64 ((A 1 : Nat) : Int), .int .u64 ((A 2 : Nat) : Int), .int .u64 ((A 3 : Nat) : Int)], .int .i64 0]) ∧ Below w.heap.size w w')
    (R2 : ∀ w, Calls Try.prog 9 #[.int .i64 70, .int .i64 255] w fun e w' => e = .returned (.tuple #[.agg #[.int .u64 ((B 0 : Nat) : Int), .int .u64 ((B 1 : Nat) : Int), .int .u64 ((B 2 : Nat) : Int), .int .u64 ((B 3 : Nat) : Int)], .int .i64 0]) ∧ Below w.heap.size w w')
    (h63 : hasZ A 63 = true) (h64 : hasZ A 64 = true) (h71 : hasZ A 71 = false) (c1 : cntB (orB A B) = 196) (c2 : cntB (andB A B) = 1) (c3 : cntB (minB A B) = 10) (HR : Hid (runsB (minB B A) = [(71, 255)])) :
    Calls Try.prog 23 #[] w fun e w' => e = .returned (.bool true) ∧ Below w.heap.size w w' := by
  have ok1 : okB (orB A B) := okB_or okA okB'
  have ok2 : okB (andB A B) := okB_and okA
  have ok3 : okB (minB A B) := okB_min okA
  have ok4 : okB (minB B A) := okB_min okB'
  have R3 := fun w => range_no 5 4 w (by omega)
  go_enter Try.func23, Try.ntmps23
  go_wp2_with fail
  refine (R1 _).mono ?_
  rintro e w1 ⟨rfl, hb1⟩
  go_wp2_with fail
  refine (R2 _).mono ?_
  rintro e w2 ⟨rfl, hb2⟩
  have hL2 := (Lies.new w1 A 24 _ rfl).keep hb2
  have hB2 : Below w.heap.size w w2 := (hb1.trans ((below1 w1 _).mono hb1.size)).trans (hb2.mono (by have := hb1.size; simp; omega))
  clear hb2
  go_wp2_with fail
  refine (R3 _).mono ?_
  rintro e w3 ⟨rfl, hb3⟩
  have hS : Two w w1.heap.size w2.heap.size A B w3 :=
    ⟨(hL2.alloc _).keep hb3, (Lies.new w2 B 24 _ rfl).keep hb3, (hB2.trans ((below1 w2 _).mono hB2.size)).trans (hb3.mono (by have := hB2.size; simp; omega))⟩
  replace hS := hS.alloc (.cells #[.int .u64 0, .int .u64 0, .int .u64 0, .int .u64 0] 24)
  clear hb3 hL2 hB2 hb1 R1 R2 R3
  obtain ⟨⟨a0, a1, a2, a3⟩, -⟩ := hS.1.all
  obtain ⟨⟨b0, b1, b2, b3⟩, -⟩ := hS.2.1.all
  go_wp2_with (first | (go_at_call 11; refine (num_any _ _).mono ?_; rintro e w1 ⟨rfl, rfl⟩) | (go_at_call 12; refine (has_any A _ _ okA).mono ?_; rintro e w1 ⟨rfl, hb1⟩; clear a0 a1 a2 a3 b0 b1 b2 b3; replace hS := hS.keep hb1; obtain ⟨⟨a0, a1, a2, a3⟩, -⟩ := hS.1.all; obtain ⟨⟨b0, b1, b2, b3⟩, -⟩ := hS.2.1.all; clear hb1) | (go_at_call 18; refine (count_any _ _ ?_).mono ?_; assumption; rintro e w1 ⟨rfl, hb1⟩; clear a0 a1 a2 a3 b0 b1 b2 b3; replace hS := hS.keep hb1; obtain ⟨⟨a0, a1, a2, a3⟩, -⟩ := hS.1.all; obtain ⟨⟨b0, b1, b2, b3⟩, -⟩ := hS.2.1.all; clear hb1) | (go_at_call 14; refine (or_any A B _ okA okB').mono ?_; rintro e w1 ⟨rfl, hb1⟩; clear a0 a1 a2 a3 b0 b1 b2 b3; replace hS := hS.keep hb1; obtain ⟨⟨a0, a1, a2, a3⟩, -⟩ := hS.1.all; obtain ⟨⟨b0, b1, b2, b3⟩, -⟩ := hS.2.1.all; clear hb1) | (go_at_call 16; refine (and_any A B _ okA okB').mono ?_; rintro e w1 ⟨rfl, hb1⟩; clear a0 a1 a2 a3 b0 b1 b2 b3; replace hS := hS.keep hb1; obtain ⟨⟨a0, a1, a2, a3⟩, -⟩ := hS.1.all; obtain ⟨⟨b0, b1, b2, b3⟩, -⟩ := hS.2.1.all; clear hb1) | (go_at_call 17; (first | refine (min_any A B _ okA okB').mono ?_ | refine (min_any B A _ okB' okA).mono ?_); rintro e w1 ⟨rfl, hb1⟩; clear a0 a1 a2 a3 b0 b1 b2 b3; replace hS := hS.keep hb1; obtain ⟨⟨a0, a1, a2, a3⟩, -⟩ := hS.1.all; obtain ⟨⟨b0, b1, b2, b3⟩, -⟩ := hS.2.1.all; clear hb1))
  refine (ranges_any (minB B A) _ ok4).mono ?_
  rintro e w4 ⟨v, rfl, hown, hb4⟩
  rw [HR.out] at hown
  replace hS := hS.keep hb4
  obtain ⟨p, cap, rfl⟩ := owns_slice hown
  clear a0 a1 a2 a3 b0 b1 b2 b3 hb4
  go_wp2_with fail
  refine (same_any _ _ 1 1 _ 0 [(71, 255)] [(71, 255)] _ (by omega) (by omega) (hown.alloc _) (World.ownsRow_lit (base := 0) (e := 40) (size := 2) w4 #[.int .i64 71, .int .i64 255] 1 (by omega) (by unfold maxLen; omega) rfl)).mono ?_
  rintro e w5 ⟨rfl, hb5⟩
  have hB : Below w.heap.size w w5 := (hS.alloc _).2.2.trans (hb5.mono (hS.alloc _).2.2.size)
  clear hS hown
  go_wp2
  go_ret
  exact ⟨rfl, hB⟩

theorem awake_any (w : World) : Calls Try.prog 23 #[] w fun e w' => e = .returned (.bool true) ∧ Below w.heap.size w w' :=
  awake_core (rngB 60 70) (rngB 70 255) w (okB_gat _ _) (okB_gat _ _) (fun w => range_yes 60 70 w (by omega) (by omega) (by omega)) (fun w => range_yes 70 255 w (by omega) (by omega) (by omega))
    (by decide +kernel) (by decide +kernel) (by decide +kernel) (by decide +kernel) (by decide +kernel) (by decide +kernel) (by show _ = _; decide +kernel)
end Go.Proofs.Ytinpmoojmmpaoaa
