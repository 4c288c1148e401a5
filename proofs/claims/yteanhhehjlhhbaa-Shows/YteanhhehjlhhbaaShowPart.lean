/- What a writer writes: a part; things in a row. -/
import Derived.Test.YteanhhehjlhhbaaShowQuo
namespace Go.Proofs.Yteanhhehjlhhbaa
set_option linter.unusedVariables false
open Go.ChangeShapes Go.WideShapes Go.ChangeAt Go.RowKit

/-- The value u is the part p; a text's bytes lie in a block of F. -/
def PartIn (w : World) (F : Nat → Prop) : Part → Value → Prop
  | .inl l, u => ∃ v, u = .iface 97 v ∧ Reads w F v l.length (Lib.byteCells l)
  | .inr (.inl (a, c)), u => u = .iface 100 (.agg #[.int .u8 (a.toNat : Int), .int .u8 (c.toNat : Int)])
  | .inr (.inr s), u => u = .iface 98 (.string s)
theorem PartIn.keep {w w' : World} {F F' : Nat → Prop} {p : Part} {u : Value} (h : PartIn w F p u) (hs : Stay F w w') (hm : ∀ b, F b → F' b) : PartIn w' F' p u := by
  match p, h with
  | .inl l, ⟨v, h1, h2⟩ => exact ⟨v, h1, h2.keep hs hm⟩
  | .inr (.inl (a, c)), h => exact h
  | .inr (.inr s), h => exact h
theorem reads_one (w : World) (z : Int) : Reads (w.alloc (.cells #[.int .u8 z] 5)) (fun i => i = w.heap.size) (.slice (some ⟨w.heap.size, 0, none⟩) 1 1) 1 [.int .u8 z] := by
  have h := heap_alloc_new w (.cells #[.int .u8 z] 5)
  refine ⟨_, _, rfl, ⟨by unfold maxLen; omega, Nat.le_refl _⟩, fun _ => ⟨w.heap.size, 0, rfl, rfl, heap_lt h, fun j c hj => ?_, fun j _ => Lib.frozen_of_heap h _⟩⟩
  rw [Nat.zero_add, Lib.cell_of_heap h]
  simpa using hj
theorem partT_len (p : Part) : (partT p).length ≤ (match p with | .inl l => l.length * 4 + 2 | .inr (.inl _) => 14 | .inr (.inr s) => s.size) := by
  match p with
  | .inl l => exact quoT_len 34 l
  | .inr (.inl (a, c)) =>
    have h1 := quoT_len 39 [a]
    have h2 := quoT_len 39 [c]
    show (quoT 39 [a] ++ [46, 46] ++ quoT 39 [c]).length ≤ 14
    simp only [List.length_append, List.length_cons, List.length_nil] at h1 h2 ⊢
    omega
  | .inr (.inr s) => exact Nat.le_of_eq (Array.length_toList ..)
/-- How much room a part wants. -/
def roomP : Part → Nat
  | .inl l => l.length * 4 + 16
  | .inr (.inl _) => 64
  | .inr (.inr s) => s.size
theorem as_tt (p : Option Addr) (n c : Nat) (w : World) : (Instr.typeAssert (.iface 97 (.slice p n c)) 20 97 true).run Try.prog w = .ok (.tuple #[.slice p n c, .bool true]) w := by kernel_rfl
theorem as_st (a c : Int) (w : World) : (Instr.typeAssert (.iface 100 (.agg #[.int .u8 a, .int .u8 c])) 20 97 true).run Try.prog w = .ok (.tuple #[.slice none 0 0, .bool false]) w := by kernel_rfl
theorem as_ss (a c : Int) (w : World) : (Instr.typeAssert (.iface 100 (.agg #[.int .u8 a, .int .u8 c])) 20 100 true).run Try.prog w = .ok (.tuple #[.agg #[.int .u8 a, .int .u8 c], .bool true]) w := by kernel_rfl
theorem as_nt (s : ByteArray) (w : World) : (Instr.typeAssert (.iface 98 (.string s)) 20 97 true).run Try.prog w = .ok (.tuple #[.slice none 0 0, .bool false]) w := by kernel_rfl
theorem as_ns (s : ByteArray) (w : World) : (Instr.typeAssert (.iface 98 (.string s)) 20 100 true).run Try.prog w = .ok (.tuple #[.agg #[.int .u8 0, .int .u8 0], .bool false]) w := by kernel_rfl
theorem as_nn (s : ByteArray) (w : World) : (Instr.typeAssert (.iface 98 (.string s)) 20 98 true).run Try.prog w = .ok (.tuple #[.string s, .bool true]) w := by kernel_rfl
set_option maxHeartbeats 4000000 in
set_option maxRecDepth 100000 in
theorem part_any {B b : Nat} {nv : Value} {acc : List UInt8} {w : World} (h : Wr B b nv acc w) (p : Part) (u : Value) {F : Nat → Prop} (hp : PartIn w F p u) (ho : Off b F w) (hs : acc.length + roomP p ≤ 1099511627776) :
    Calls Try.prog 47 #[.pointer (some ⟨b, 0, none⟩), u] w fun e w' => e = .returned (.tuple #[]) ∧ Wr B b nv (acc ++ partT p) w' ∧ Wk b w w' := by
  have A1 := as_tt
  have A2 := as_st
  have A3 := as_ss
  have A4 := as_nt
  have A5 := as_ns
  have A6 := as_nn
  match p, hp, hs with
  | .inl l, ⟨v, e1, h2⟩, hs =>
    subst e1
    have hs' : acc.length + (l.length * 4 + 16) ≤ 1099511627776 := hs
    have Q := quo_any h 34 v l h2 ho (by omega)
    have Q' : Calls Try.prog 51 #[.pointer (some ⟨b, 0, none⟩), .int .u8 34, v] w fun e w' => e = .returned (.tuple #[]) ∧ Wr B b nv (acc ++ quoT 34 l) w' ∧ Wk b w w' := Q
    obtain ⟨pp, cc, hv⟩ : ∃ pp cc, v = .slice pp l.length cc := by
      obtain ⟨pp, cc, hv, _⟩ := h2
      exact ⟨pp, cc, hv⟩
    subst hv
    show Calls _ _ _ _ fun e w' => e = .returned (.tuple #[]) ∧ Wr B b nv (acc ++ quoT 34 l) w' ∧ Wk b w w'
    clear h2 Q hs hs'
    generalize l.length = n at Q'
    go_enter Try.func47, Try.ntmps47
    go_wp2_with (go_at_call 51; refine Q'.mono ?_; rintro e w1 ⟨rfl, k1, b1⟩)
    go_end0
    exact ⟨rfl, k1, b1⟩
  | .inr (.inl (a, c)), e1, hs =>
    have e1' : u = .iface 100 (.agg #[.int .u8 (a.toNat : Int), .int .u8 (c.toNat : Int)]) := e1
    subst e1'
    have hs' : acc.length + 64 ≤ 1099511627776 := hs
    have hlt := h.lt
    have B1 : Below w.heap.size w (w.alloc (.cells #[.int .u8 (a.toNat : Int), .int .u8 (c.toNat : Int)] 100)) := (Below.refl _ _).alloc (Nat.le_refl _) _
    have h1 := h.keep B1
    have B2 : Below (w.alloc (.cells #[.int .u8 (a.toNat : Int), .int .u8 (c.toNat : Int)] 100)).heap.size (w.alloc (.cells #[.int .u8 (a.toNat : Int), .int .u8 (c.toNat : Int)] 100)) ((w.alloc (.cells #[.int .u8 (a.toNat : Int), .int .u8 (c.toNat : Int)] 100)).alloc (.cells #[.int .u8 (a.toNat : Int)] 5)) := (Below.refl _ _).alloc (Nat.le_refl _) _
    have hz1 : (w.alloc (.cells #[.int .u8 (a.toNat : Int), .int .u8 (c.toNat : Int)] 100)).heap.size = w.heap.size + 1 := by simp
    have o1 : Off b (fun i => i = w.heap.size) ((w.alloc (.cells #[.int .u8 (a.toNat : Int), .int .u8 (c.toNat : Int)] 100)).alloc (.cells #[.int .u8 (a.toNat : Int)] 5)) := Off.bel h1 (Off.fresh h B1 (fun i hi => ⟨by omega, by rw [hz1]; omega⟩)) B2
    have hsp : ((w.alloc (.cells #[.int .u8 (a.toNat : Int), .int .u8 (c.toNat : Int)] 100)).alloc (.cells #[.int .u8 (a.toNat : Int)] 5)).heap[w.heap.size]? = some (.cells #[.int .u8 (a.toNat : Int), .int .u8 (c.toNat : Int)] 100) := (B2.block _ (by rw [hz1]; omega)).trans (heap_alloc_new _ _)
    have o2 : Off b (fun i => i = w.heap.size + 1) ((w.alloc (.cells #[.int .u8 (a.toNat : Int), .int .u8 (c.toNat : Int)] 100)).alloc (.cells #[.int .u8 (a.toNat : Int)] 5)) := Off.fresh h1 B2 (fun i hi => ⟨by rw [hz1]; omega, by simp; omega⟩)
    have r2 := reads_one (w.alloc (.cells #[.int .u8 (a.toNat : Int), .int .u8 (c.toNat : Int)] 100)) (a.toNat : Int)
    rw [hz1] at r2
    have Q1 : Calls Try.prog 51 #[.pointer (some ⟨b, 0, none⟩), .int .u8 39, .slice (some ⟨w.heap.size + 1, 0, none⟩) 1 1] ((w.alloc (.cells #[.int .u8 (a.toNat : Int), .int .u8 (c.toNat : Int)] 100)).alloc (.cells #[.int .u8 (a.toNat : Int)] 5)) fun e w' => e = .returned (.tuple #[]) ∧ Hid (Wr B b nv (acc ++ quoT 39 [a]) w' ∧ Wk b w w' ∧ Off b (fun i => i = w.heap.size) w' ∧ w'.heap[w.heap.size]? = some (.cells #[.int .u8 (a.toNat : Int), .int .u8 (c.toNat : Int)] 100)) := by
      refine (quo_any (h1.keep B2) 39 _ [a] r2 o2 (by simp; omega)).mono ?_
      rintro e w' ⟨rfl, k, bb⟩
      exact ⟨rfl, k, ((Wk.below B1 hlt).trans (Wk.below B2 h1.lt)).trans bb, o1.next bb, ((o1.stay bb).blk _ rfl).trans hsp⟩
    clear h1 o1 o2 r2 hsp B2 hz1
    have l1 := quoT_len 39 [a]
    have L2 : Hid ((acc ++ quoT 39 [a]).length + (⟨#[46, 46]⟩ : ByteArray).size ≤ 1099511627776) := by show (acc ++ quoT 39 [a]).length + 2 ≤ _; simp only [List.length_append, List.length_cons, List.length_nil] at l1 ⊢; omega
    have L3 : Hid (((acc ++ quoT 39 [a]) ++ (⟨#[46, 46]⟩ : ByteArray).data.toList).length + [c].length * 4 + 8 ≤ 1099511627776) := by show _ ≤ _; simp only [List.length_append, List.length_cons, List.length_nil] at l1 ⊢; omega
    clear l1 B1 hs hs'
    show Calls _ _ _ _ fun e w' => e = .returned (.tuple #[]) ∧ Wr B b nv (acc ++ (quoT 39 [a] ++ [46, 46] ++ quoT 39 [c])) w' ∧ Wk b w w'
    have Q2 : ∀ w4, Wr B b nv ((acc ++ quoT 39 [a]) ++ (⟨#[46, 46]⟩ : ByteArray).data.toList) w4 → Calls Try.prog 51 #[.pointer (some ⟨b, 0, none⟩), .int .u8 39, .slice (some ⟨w4.heap.size, 0, none⟩) 1 1] (w4.alloc (.cells #[.int .u8 (c.toNat : Int)] 5)) fun e w' => e = .returned (.tuple #[]) ∧ Hid (Wr B b nv (((acc ++ quoT 39 [a]) ++ (⟨#[46, 46]⟩ : ByteArray).data.toList) ++ quoT 39 [c]) w' ∧ Wk b w4 w') := fun w4 k4 => by
      have B4 : Below w4.heap.size w4 (w4.alloc (.cells #[.int .u8 (c.toNat : Int)] 5)) := (Below.refl _ _).alloc (Nat.le_refl _) _
      refine (quo_any (k4.keep B4) 39 _ [c] (reads_one w4 (c.toNat : Int)) (Off.fresh k4 B4 (fun i hi => ⟨by omega, by simp; omega⟩)) L3.out).mono ?_
      rintro e w' ⟨rfl, k, bb⟩
      exact ⟨rfl, k, (Wk.below B4 k4.lt).trans bb⟩
    have HQ2 : Hid (∀ w4, Wr B b nv ((acc ++ quoT 39 [a]) ++ (⟨#[46, 46]⟩ : ByteArray).data.toList) w4 → Calls Try.prog 51 #[.pointer (some ⟨b, 0, none⟩), .int .u8 39, .slice (some ⟨w4.heap.size, 0, none⟩) 1 1] (w4.alloc (.cells #[.int .u8 (c.toNat : Int)] 5)) fun e w' => e = .returned (.tuple #[]) ∧ Hid (Wr B b nv (((acc ++ quoT 39 [a]) ++ (⟨#[46, 46]⟩ : ByteArray).data.toList) ++ quoT 39 [c]) w' ∧ Wk b w4 w')) := Q2
    clear Q2
    go_enter Try.func47, Try.ntmps47
    go_wp2_with (first
      | (go_at_call 51; first
        | (have hh := K4; clear hh; refine (HQ2.out _ K4.out.1).mono ?_; rintro e w5 ⟨rfl, K5⟩)
        | (refine Q1.mono ?_; rintro e w3 ⟨rfl, K3⟩))
      | (go_at_call 11; refine (wStr_any K3.out.1 _ L2.out).mono ?_; rintro e w4 ⟨rfl, k4, b4⟩; have K4 : Hid (Wr B b nv ((acc ++ quoT 39 [a]) ++ (⟨#[46, 46]⟩ : ByteArray).data.toList) w4 ∧ Wk b w w4) := ⟨k4, K3.out.2.1.trans b4⟩; have x1 : w4.cell? ⟨w.heap.size, 1, none⟩ = some (.int .u8 (c.toNat : Int)) := (Lib.cell_of_heap (((K3.out.2.2.1.stay b4).blk _ rfl).trans K3.out.2.2.2) 1); clear k4 b4))
    go_end0
    exact ⟨rfl, by simpa using K5.out.1, K4.out.2.trans K5.out.2⟩
  | .inr (.inr s), e1, hs =>
    have e1' : u = .iface 98 (.string s) := e1
    subst e1'
    have hs' : acc.length + s.size ≤ 1099511627776 := hs
    show Calls _ _ _ _ fun e w' => e = .returned (.tuple #[]) ∧ Wr B b nv (acc ++ s.data.toList) w' ∧ Wk b w w'
    go_enter Try.func47, Try.ntmps47
    go_wp2_with (go_at_call 11; refine (wStr_any h s hs').mono ?_; rintro e w1 ⟨rfl, k1, b1⟩)
    go_end0
    exact ⟨rfl, k1, b1⟩
end Go.Proofs.Yteanhhehjlhhbaa
