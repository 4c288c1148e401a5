/- A table of a grammar and one of the same with a name more. -/
import Derived.Test.YtfjejnkjlnkkhaaGreatDoorMlW
import Derived.Test.YtfjejnkjlnkkhaaGreatDoorOneW
namespace Go.Proofs.YtfjejnkjlnkkhaaGreatDoor
set_option linter.unusedVariables false
open Go.ChangeShapes Go.WideShapes Go.ChangeAt Go.RowKit Go.Maps

theorem frM_may {g : Gr} (hM : mayG g = true) : FrM g.rules g.names.length := fun r hr => ⟨by have := mayG_head hM r hr; omega, fun c hc s hs hn => by have := (mayG_sym hM r hr c hc s hs).resolve_left hn; omega⟩
theorem tb_ext {g : Gr} {T : ByteArray} {M M2 : SpM} {n n2 tb tb2 : Nat} {w w2 : World} {cs : List Cn} (hM : mayG g = true) (h : TbM g T M n tb w) (h2 : TbM (extG g cs) T M2 n2 tb2 w2) {f : Nat → Nat} (hf : Str g.rules f) :
    (∀ x i j, x < g.names.length → M2 x i j = M x i j) ∧ ∀ i j, i ≤ j → j ≤ T.size → M2 g.names.length i j = holB3 (btsW T) M2 ⟨(g.names.length : Int), cs⟩ i j := by
  have hs : Stb3 (btsW T) T.size (g.rules ++ [⟨(g.names.length : Int), cs⟩]) M2 := h2.stb
  have e := stb3_uniq hf h.stb (stb_ext hs (m := g.names.length) (by simp) (frM_may hM))
  refine ⟨fun x i j hx => ?_, fun i j hi hj => stb_new hs (m := g.names.length) (by simp) (frM_may hM) hi hj⟩
  rw [e]
  unfold dropM
  rw [if_neg (by omega)]
/-- A row of two names. -/
def rowC (x y : Nat) : List Cn := [⟨false, [⟨(x : Int), 0, 0⟩, ⟨(y : Int), 0, 0⟩]⟩]
theorem restB_one {b : Nat → Nat} {M : SpM} {y k j : Nat} (h : k ≤ j) : restB b M [⟨(y : Int), 0, 0⟩] k j = M y k j := by
  show (if (y : Int) = -1 then _ else (List.range (j + 1)).any fun k2 => decide (k ≤ k2) && (M ((y : Int)).toNat k k2 && restB b M [] k2 j)) = _
  rw [if_neg (by omega), Bool.eq_iff_iff, List.any_eq_true]
  simp only [Bool.and_eq_true, decide_eq_true_eq, List.mem_range, Int.toNat_natCast]
  constructor
  · rintro ⟨k2, h1, h2, h3, h4⟩
    have : k2 = j := of_decide_eq_true h4
    subst this; exact h3
  · intro h1
    exact ⟨j, by omega, h, h1, decide_eq_true rfl⟩
theorem holB3_row {b : Nat → Nat} {M : SpM} {N x y i j : Nat} : holB3 b M ⟨(N : Int), rowC x y⟩ i j = (List.range (j + 1)).any fun k => decide (i ≤ k) && (M x i k && M y k j) := by
  have e : holB3 b M ⟨(N : Int), rowC x y⟩ i j = restB b M [⟨(x : Int), 0, 0⟩, ⟨(y : Int), 0, 0⟩] i j := by
    unfold holB3 rowC conB3
    simp only [List.all_cons, List.all_nil, Bool.and_true]
    cases restB b M [⟨(x : Int), 0, 0⟩, ⟨(y : Int), 0, 0⟩] i j <;> rfl
  rw [e]
  show (if (x : Int) = -1 then _ else (List.range (j + 1)).any fun k => decide (i ≤ k) && (M ((x : Int)).toNat i k && restB b M [⟨(y : Int), 0, 0⟩] k j)) = _
  rw [if_neg (by omega), Bool.eq_iff_iff, List.any_eq_true, List.any_eq_true]
  refine exists_congr fun k => and_congr_right fun hk => ?_
  have hk2 := List.mem_range.1 hk
  rw [restB_one (by omega), Int.toNat_natCast]
end Go.Proofs.YtfjejnkjlnkkhaaGreatDoor
