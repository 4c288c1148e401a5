/- Two tables of one grammar, one of a text within the other's. -/
import Derived.Test.YtclceeghjgeplaaGreatDoorMlW
import Derived.Test.YtclceeghjgeplaaGreatDoorMnT
namespace Go.Proofs.YtclceeghjgeplaaGreatDoor
set_option linter.unusedVariables false
open Go.ChangeShapes Go.WideShapes Go.ChangeAt Go.RowKit Go.Maps

theorem fstAt_same {f : Nat → Bool} (hf : ∀ n, f n = true → f (n + 1) = true) (h0 : f 0 = false) {n m : Nat} (hnm : f n = f m) : fstAt f n = fstAt f m := by
  cases h : f n with
  | true =>
    have h2 : f m = true := by rw [← hnm]; exact h
    have p1 := (fstAt_pos hf h0 n).2 h
    have p2 := (fstAt_pos hf h0 m).2 h2
    have a1 := fstAt_le (n := n) hf h0 (fstAt_is hf h0 m p2).1
    have a2 := fstAt_le (n := m) hf h0 (fstAt_is hf h0 n p1).1
    omega
  | false =>
    have h2 : f m = false := by rw [← hnm]; exact h
    have p1 : fstAt f n = 0 := by
      by_cases e : fstAt f n = 0
      · exact e
      · have := (fstAt_pos hf h0 n).1 e; rw [h] at this; cases this
    have p2 : fstAt f m = 0 := by
      by_cases e : fstAt f m = 0
      · exact e
      · have := (fstAt_pos hf h0 m).1 e; rw [h2] at this; cases this
    omega
theorem tb_cut {g : Gr} {T T2 : ByteArray} {M M2 : SpM} {n n2 tb tb2 : Nat} {w w2 : World} (h : TbM g T M n tb w) (h2 : TbM g T2 M2 n2 tb2 w2) {f : Nat → Nat} (hf : Str g.rules f) {k : Nat} (hk : k + T.size ≤ T2.size) (hb : ∀ i, i < T.size → btsW T2 (k + i) = btsW T i) {x i j : Nat} (hx : x < g.names.length) (hi : i ≤ j) (hj : j ≤ T.size) :
    M2 x (k + i) (k + j) = M x i j ∧ rnkN (btsW T2) g.rules M2 n2 x (k + i) (k + j) = rnkN (btsW T) g.rules M n x i j := by
  have hM : M = cutM M2 k T.size := stb3_uniq hf h.stb (stb_cut h2.stb hk hb)
  have hat : ∀ x i j, i ≤ j → j ≤ T.size → M x i j = M2 x (k + i) (k + j) := fun x i j h1 h3 => by rw [hM]; exact cutM_at h1 h3
  refine ⟨(hat x i j hi hj).symm, ?_⟩
  have hrk : ∀ m, (rkS (btsW T) g.rules M m).1 x i j = (rkS (btsW T2) g.rules M2 m).1 x (k + i) (k + j) := fun m => (rkS_cut hat hb m).1 x i j hi hj
  have e1 : (rkS (btsW T) g.rules M n).1 x i j = M x i j := h.full.nm x i j hx hi hj
  have e2 : (rkS (btsW T2) g.rules M2 n2).1 x (k + i) (k + j) = M2 x (k + i) (k + j) := h2.full.nm x (k + i) (k + j) hx (by omega) (by omega)
  unfold rnkN
  have ef : (fun k' => (rkS (btsW T2) g.rules M2 k').1 x (k + i) (k + j)) = fun k' => (rkS (btsW T) g.rules M k').1 x i j := funext fun m => (hrk m).symm
  rw [ef]
  refine fstAt_same (rkN_up x i j) rfl ?_
  show (rkS (btsW T) g.rules M n2).1 x i j = (rkS (btsW T) g.rules M n).1 x i j
  rw [hrk n2, e2, e1, hat x i j hi hj]
theorem bt_app (A T : ByteArray) (i : Nat) (hi : i < T.size) : btsW (A ++ T) (A.size + i) = btsW T i := by
  unfold btsW PlainAid.bt
  rw [dif_pos (by rw [ByteArray.size_append]; omega), dif_pos hi, ByteArray.getElem_append_right (by omega)]
  simp
theorem bt_app2 (A T : ByteArray) (i : Nat) (hi : i < A.size) : btsW (A ++ T) i = btsW A i := by
  unfold btsW PlainAid.bt
  rw [dif_pos (by rw [ByteArray.size_append]; omega), dif_pos hi, ByteArray.getElem_append_left hi]
end Go.Proofs.YtclceeghjgeplaaGreatDoor
