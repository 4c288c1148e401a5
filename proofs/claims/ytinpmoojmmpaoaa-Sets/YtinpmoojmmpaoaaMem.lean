/- Several sets in memory; nothing old has turned. -/
import Derived.Test.YtinpmoojmmpaoaaClass
namespace Go.Proofs.Ytinpmoojmmpaoaa
open Go.RowKit

def Mem (w : World) (L : List (Nat × (Nat → Nat))) (wc : World) : Prop := (∀ x, x ∈ L → Lies wc x.1 x.2) ∧ Below w.heap.size w wc
theorem Mem.keep {w wc w1 : World} {L : List (Nat × (Nat → Nat))} (h : Mem w L wc) (hb : Below wc.heap.size wc w1) : Mem w L w1 :=
  ⟨fun x hx => (h.1 x hx).keep hb, h.2.trans (hb.mono h.2.size)⟩
theorem Mem.drew {w wc : World} {L : List (Nat × (Nat → Nat))} (h : Mem w L wc) : Mem w L wc.drew := ⟨fun x hx => (h.1 x hx).drew, h.2.drew⟩
theorem Mem.alloc {w wc : World} {L : List (Nat × (Nat → Nat))} (h : Mem w L wc) (o : Obj) : Mem w L (wc.alloc o) := h.keep (below1 _ _)
theorem Mem.add {w wc : World} {L : List (Nat × (Nat → Nat))} (h : Mem w L wc) {n : Nat} {A : Nat → Nat} (hl : Lies wc n A) : Mem w ((n, A) :: L) wc :=
  ⟨fun x hx => by
    rcases List.mem_cons.1 hx with rfl | hx
    · exact hl
    · exact h.1 x hx, h.2⟩
theorem Mem.none {w wc : World} (h : Below w.heap.size w wc) : Mem w [] wc := ⟨fun x hx => (by cases hx), h⟩
theorem Mem.at0 {w wc : World} {n : Nat} {A : Nat → Nat} {L : List (Nat × (Nat → Nat))} (h : Mem w ((n, A) :: L) wc) : Lies wc n A := h.1 (n, A) (List.mem_cons_self)
theorem Mem.rest {w wc : World} {x : Nat × (Nat → Nat)} {L : List (Nat × (Nat → Nat))} (h : Mem w (x :: L) wc) : Mem w L wc := ⟨fun y hy => h.1 y (List.mem_cons_of_mem _ hy), h.2⟩

end Go.Proofs.Ytinpmoojmmpaoaa
