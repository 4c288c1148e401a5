/- awake of layer 18. -/
import Derived.Test.YtgeajdfajfdjcaaPkC
import Derived.Test.YtgeajdfajfdjcaaPkS
import Derived.Test.YtgeajdfajfdjcaaPkE
namespace Go.Proofs.Ytgeajdfajfdjcaa
set_option linter.unusedVariables false
set_option linter.unusedSimpArgs false
open Go.ChangeShapes Go.WideShapes Go.ChangeAt Go.RowKit

theorem laidP {w : World} {g n c : Nat} {arr : Array Value} {t : TypeId} (h : w.heap[g]? = some (.cells arr t)) (hn : n ≤ maxLen ∧ n ≤ c) {cs : List Value} (hcs : cs = arr.toList) : Reads w Any (.slice (some ⟨g, 0, none⟩) n c) n cs :=
  ⟨_, c, rfl, hn, fun _ => ⟨g, 0, rfl, trivial, heap_lt h, fun j x hj => by rw [Nat.zero_add, Lib.cell_of_heap h, ← Array.getElem?_toList, ← hcs]; exact hj, fun j _ => Lib.frozen_of_heap h _⟩⟩
theorem zs_noneP (w : World) : IsZs w Any (.slice none 0 0) [] := ⟨none, 0, rfl, ⟨Nat.zero_le _, Nat.zero_le _⟩, fun h => absurd h (Nat.lt_irrefl _)⟩
theorem pks_noneP (w : World) : IsPks w Any (.slice none 0 0) [] := ⟨[], ⟨none, 0, rfl, ⟨Nat.zero_le _, Nat.zero_le _⟩, fun h => absurd h (Nat.lt_irrefl _)⟩, rfl, fun _ _ _ h _ => by simp at h⟩
theorem num18_any (x : Int) (w : World) : Calls Try.prog 14 #[.int .i64 x] w fun e w' => e = .returned (.int .i64 x) ∧ w' = w := by
  go_enter Try.func14, Try.ntmps14
  go_wp2
  go_ret
  exact ⟨rfl, rfl⟩
theorem aw_chain {w3 w4 w5 : World} {x y : Obj} (h4 : Below (w3.alloc x).heap.size (w3.alloc x) w4) (h5 : Below (w4.alloc y).heap.size (w4.alloc y) w5) : Hid (Below w3.heap.size w3 w5 ∧ w5.heap[w3.heap.size]? = some x) := by
  have s1 : (w3.alloc x).heap.size = w3.heap.size + 1 := by simp
  have s2 : (w4.alloc y).heap.size = w4.heap.size + 1 := by simp
  have h4s := h4.size
  refine ⟨(bel1 w3 x).trans ((h4.mono (by omega)).trans (((bel1 w4 y).mono (by omega)).trans (h5.mono (by omega)))), ?_⟩
  exact (h5.block _ (by omega)).trans (((bel1 w4 y).block _ (by omega)).trans ((h4.block _ (by omega)).trans (heap_alloc_new _ _)))
def c18 : Ct := ⟨1, [⟨true, 1, 0, 1, 2, 3, 4, 5, 6, [⟨7, 8, [9]⟩]⟩, ⟨false, 0, 2, 0, 0, 0, 0, 0, 0, []⟩]⟩
theorem c18_ok : ctOk c18 = true := by decide +kernel
theorem c18_put : putT c18 = (ctB c18, 0) := by
  unfold putT
  rw [c18_ok, if_pos rfl, if_neg (by decide +kernel)]
theorem c18_len : (ctB c18).length = 50 := by decide +kernel
theorem c18_get : getT (ctB c18) = (c18, 0) := by
  unfold getT
  rw [if_neg (by rw [c18_len]; omega), ctR_there c18 c18_ok (by decide)]
theorem tc_get : getT [84, 67] = (⟨0, []⟩, 1800) := by
  have h : ctR [84, 67] = none := rfl
  unfold getT
  rw [if_neg (by decide), h]
theorem no_put : putT ⟨-1, []⟩ = ([], 1800) := by
  have h : ctOk ⟨-1, []⟩ = false := by decide +kernel
  unfold putT; rw [h]; rfl
theorem wfz_small {z : Int} (h : 0 ≤ z ∧ z ≤ 1000) : wfz z := ⟨by omega, by omega⟩
theorem c18_wf : wfC c18 := by
  refine ⟨wfz_small (by decide), ?_, by decide⟩
  intro n hn
  simp only [c18, List.mem_cons, List.not_mem_nil, or_false] at hn
  rcases hn with rfl | rfl
  · refine ⟨⟨wfz_small (by decide), wfz_small (by decide), wfz_small (by decide), wfz_small (by decide), wfz_small (by decide), wfz_small (by decide), wfz_small (by decide), wfz_small (by decide)⟩, ?_, by decide⟩
    intro p hp
    simp only [List.mem_cons, List.not_mem_nil, or_false] at hp
    subst hp
    refine ⟨wfz_small (by decide), wfz_small (by decide), ?_, by decide⟩
    intro z hz
    simp only [List.mem_cons, List.not_mem_nil, or_false] at hz
    subst hz
    exact wfz_small (by decide)
  · exact ⟨⟨wfz_small (by decide), wfz_small (by decide), wfz_small (by decide), wfz_small (by decide), wfz_small (by decide), wfz_small (by decide), wfz_small (by decide), wfz_small (by decide)⟩, fun _ h => by simp at h, by decide⟩
theorem c18_sizes : ∀ x ∈ c18.nodes, (x.picks.length : Int) ≤ 1152921504606846976 ∧ ∀ p ∈ x.picks, (p.kids.length : Int) ≤ 1152921504606846976 := fun x hx => by
  have h := c18_wf.2.1 x hx
  exact ⟨by have := h.2.2; omega, fun p hp => by have := (h.2.1 p hp).2.2.2; omega⟩
set_option maxHeartbeats 8000000 in
set_option maxRecDepth 100000 in
theorem awake18_any (w : World) : Calls Try.prog 17 #[] w fun e w' => e = .returned (.bool true) ∧ Hid (Below w.heap.size w w') := by
  obtain ⟨A, hA⟩ : ∃ A, A = w.alloc (.cells #[.int .i64 9] 3) := ⟨_, rfl⟩
  obtain ⟨B, hB⟩ : ∃ B, B = A.alloc (.cells #[.int .i64 7, .int .i64 8, .slice (some ⟨w.heap.size, 0, none⟩) 1 1] 49) := ⟨_, rfl⟩
  obtain ⟨C, hC⟩ : ∃ C, C = B.alloc (.cells #[.bool true, .int .i64 1, .int .i64 0, .int .i64 1, .int .i64 2, .int .i64 3, .int .i64 4, .int .i64 5, .int .i64 6, .slice (some ⟨w.heap.size + 1, 0, none⟩) 1 1, .bool false, .int .i64 0, .int .i64 2, .int .i64 0, .int .i64 0, .int .i64 0, .int .i64 0, .int .i64 0, .int .i64 0, .slice none 0 0] 46) := ⟨_, rfl⟩
  obtain ⟨X, hX⟩ : ∃ X, X = C.alloc (.cells #[.int .i64 1, .slice (some ⟨w.heap.size + 1 + 1, 0, none⟩) 2 2] 24) := ⟨_, rfl⟩
  have sA : A.heap.size = w.heap.size + 1 := by rw [hA]; simp
  have sB : B.heap.size = w.heap.size + 1 + 1 := by rw [hB]; simp [sA]
  have sC : C.heap.size = w.heap.size + 1 + 1 + 1 := by rw [hC]; simp [sB]
  have sX : X.heap.size = w.heap.size + 1 + 1 + 1 + 1 := by rw [hX]; simp [sC]
  have bA : Below w.heap.size w A := by rw [hA]; exact bel1 _ _
  have bB : Below A.heap.size A B := by rw [hB]; exact bel1 _ _
  have bC : Below B.heap.size B C := by rw [hC]; exact bel1 _ _
  have bX : Below C.heap.size C X := by rw [hX]; exact bel1 _ _
  have nA : A.heap[w.heap.size]? = some (.cells #[.int .i64 9] 3) := by rw [hA]; exact heap_alloc_new _ _
  have nB : B.heap[w.heap.size + 1]? = some (.cells #[.int .i64 7, .int .i64 8, .slice (some ⟨w.heap.size, 0, none⟩) 1 1] 49) := by rw [hB, ← sA]; exact heap_alloc_new _ _
  have nC : C.heap[w.heap.size + 1 + 1]? = some (.cells #[.bool true, .int .i64 1, .int .i64 0, .int .i64 1, .int .i64 2, .int .i64 3, .int .i64 4, .int .i64 5, .int .i64 6, .slice (some ⟨w.heap.size + 1, 0, none⟩) 1 1, .bool false, .int .i64 0, .int .i64 2, .int .i64 0, .int .i64 0, .int .i64 0, .int .i64 0, .int .i64 0, .int .i64 0, .slice none 0 0] 46) := by rw [hC, ← sB]; exact heap_alloc_new _ _
  have nX : X.heap[w.heap.size + 1 + 1 + 1]? = some (.cells #[.int .i64 1, .slice (some ⟨w.heap.size + 1 + 1, 0, none⟩) 2 2] 24) := by rw [hX, ← sC]; exact heap_alloc_new _ _
  have nA2 := (bX.block _ (by omega)).trans ((bC.block _ (by omega)).trans ((bB.block _ (by omega)).trans nA))
  have nB2 := (bX.block _ (by omega)).trans ((bC.block _ (by omega)).trans nB)
  have nC2 := (bX.block _ (by omega)).trans nC
  have HN : Hid (IsNds X Any (.slice (some ⟨w.heap.size + 1 + 1, 0, none⟩) 2 2) c18.nodes) := by
    have z9 : IsZs X Any (.slice (some ⟨w.heap.size, 0, none⟩) 1 1) [9] := laidP nA2 ⟨by unfold maxLen; omega, Nat.le_refl _⟩ rfl
    have p7 : IsPks X Any (.slice (some ⟨w.heap.size + 1, 0, none⟩) 1 1) [⟨7, 8, [9]⟩] := by
      refine ⟨[.slice (some ⟨w.heap.size, 0, none⟩) 1 1], laidP nB2 ⟨by unfold maxLen; simp, Nat.le_refl _⟩ rfl, rfl, fun k p u h1 h2 => ?_⟩
      match k with
      | 0 =>
        obtain rfl : (⟨7, 8, [9]⟩ : Pk) = p := by simpa using h1
        obtain rfl : (.slice (some ⟨w.heap.size, 0, none⟩) 1 1 : Value) = u := by simpa using h2
        exact z9
      | k + 1 => simp at h1
    refine ⟨[.slice (some ⟨w.heap.size + 1, 0, none⟩) 1 1, .slice none 0 0], laidP nC2 ⟨by unfold maxLen; show 2 ≤ _; omega, Nat.le_refl _⟩ rfl, rfl, fun k n u h1 h2 => ?_⟩
    match k with
    | 0 =>
      obtain rfl : (⟨true, 1, 0, 1, 2, 3, 4, 5, 6, [⟨7, 8, [9]⟩]⟩ : Nd) = n := by simpa [c18] using h1
      obtain rfl : (.slice (some ⟨w.heap.size + 1, 0, none⟩) 1 1 : Value) = u := by simpa using h2
      exact p7
    | 1 =>
      obtain rfl : (⟨false, 0, 2, 0, 0, 0, 0, 0, 0, []⟩ : Nd) = n := by simpa [c18] using h1
      obtain rfl : (.slice none 0 0 : Value) = u := by simpa using h2
      exact pks_noneP X
    | k + 2 => simp [c18] at h1
  have HWX : Hid (Below w.heap.size w X) := bA.trans ((bB.mono (by omega)).trans ((bC.mono (by omega)).trans (bX.mono (by omega))))
  obtain ⟨S, hS⟩ : ∃ S : ByteArray, S = ⟨(ctB c18).toArray⟩ := ⟨_, rfl⟩
  have hS1 : S.size = 50 := by rw [hS]; show (ctB c18).toArray.size = 50; simp [c18_len]
  have hS2 : ((S.extract 0 2).toList == [84, 67]) = true := by
    rw [hS, ext_front]
    have e : (ctB c18).take 2 = [84, 67] := by unfold ctB; simp
    rw [e, two_list]; rfl
  have K1 : Hid (Calls Try.prog 10 #[.agg #[.int .i64 1, .slice (some ⟨w.heap.size + 1 + 1, 0, none⟩) 2 2]] X fun e w2 => e = .returned (.tuple #[.string S, .int .i64 0]) ∧ Hid (Below X.heap.size X w2)) := by
    have h := put_any c18 (.slice (some ⟨w.heap.size + 1 + 1, 0, none⟩) 2 2) X HN.out c18_wf
    rw [c18_put] at h
    rw [hS]; exact h
  have K2 : Hid (∀ w2, Calls Try.prog 12 #[.string S] w2 fun e w3 => ∃ pv cv, e = .returned (.tuple #[.agg #[.int .i64 1, .slice pv 2 cv], .int .i64 0]) ∧ Hid (IsNds w3 Any (.slice pv 2 cv) c18.nodes) ∧ Hid (Below w2.heap.size w2 w3)) := fun w2 => by
    rw [hS]
    refine (get_any w2 (ctB c18)).mono ?_
    rintro e w3 ⟨h1, pv, cv, h2, h3⟩
    rw [c18_get] at h2 h3
    exact ⟨pv, cv, h2, h3.out.low (fun _ _ _ => trivial), h1⟩
  have K3 : Hid (∀ w2, Calls Try.prog 12 #[.string ⟨#[84, 67]⟩] w2 fun e w3 => ∃ pv cv, e = .returned (.tuple #[.agg #[.int .i64 0, .slice pv 0 cv], .int .i64 1800]) ∧ Hid (Below w2.heap.size w2 w3)) := fun w2 => by
    refine (get_any w2 [84, 67]).mono ?_
    rintro e w3 ⟨h1, pv, cv, h2, h3⟩
    rw [tc_get] at h2
    exact ⟨pv, cv, h2, h1⟩
  have K4 : Hid (∀ w2, Calls Try.prog 10 #[.agg #[.int .i64 (-1), .slice none 0 0]] w2 fun e w3 => e = .returned (.tuple #[.string ⟨#[]⟩, .int .i64 1800]) ∧ Hid (Below w2.heap.size w2 w3)) := fun w2 => by
    have h := put_any ⟨-1, []⟩ (.slice none 0 0) w2 (F := Any) (nds_none _ _) ⟨⟨by decide, by decide⟩, fun _ h => by simp at h, by decide⟩
    rw [no_put] at h
    exact h
  have K5 : Hid (∀ w2 pv cv, IsNds w2 Any (.slice (some ⟨w.heap.size + 1 + 1, 0, none⟩) 2 2) c18.nodes → IsNds w2 Any (.slice pv 2 cv) c18.nodes → Calls Try.prog 15 #[.agg #[.int .i64 1, .slice (some ⟨w.heap.size + 1 + 1, 0, none⟩) 2 2], .agg #[.int .i64 1, .slice pv 2 cv]] w2 fun e w3 => e = .returned (.bool true) ∧ Hid (Below w2.heap.size w2 w3)) := fun w2 pv cv h1 h2 => sameCt_yes c18 _ _ w2 h1 h2 (by decide) c18_sizes
  have HNX : Hid (X.heap[w.heap.size + 1 + 1 + 1]? = some (.cells #[.int .i64 1, .slice (some ⟨w.heap.size + 1 + 1, 0, none⟩) 2 2] 24)) := nX
  have f0 : X.cell? ⟨w.heap.size + 1 + 1 + 1, 0, none⟩ = some (.int .i64 1) := Lib.cell_of_heap nX 0
  have f1 : X.cell? ⟨w.heap.size + 1 + 1 + 1, 1, none⟩ = some (.slice (some ⟨w.heap.size + 1 + 1, 0, none⟩) 2 2) := Lib.cell_of_heap nX 1
  have KN := num18_any
  clear sA sB sC sX bA bB bC bX nA nB nC nX nA2 nB2 nC2 hS
  go_enter Try.func17, Try.ntmps17
  go_upto_region 2 with fail
  rw [← hA, ← hB, ← hC, ← hX]
  clear hA hB hC hX
  go_upto_region 3 with (go_at_call 10; refine K1.out.mono ?_; rintro e w2 ⟨rfl, B2⟩)
  go_upto_region 4 with (go_at_call 12; refine (K2.out w2).mono ?_; rintro e w3 ⟨pv, cv, rfl, N3, B3⟩)
  go_upto_region 5 with (go_at_call 12; refine (K3.out _).mono ?_; rintro e w4 ⟨pv4, cv4, rfl, B4⟩)
  go_upto_region 6 with (go_at_call 10; refine (K4.out _).mono ?_; rintro e w5 ⟨rfl, B5⟩; have BD : Hid (Below w3.heap.size w3 w5 ∧ w5.heap[w3.heap.size]? = some (.cells #[.int .i64 1, .slice pv 2 cv] 24)) := aw_chain B4.out B5.out; have BX5 : Hid (Below X.heap.size X w5) := B2.out.trans ((B3.out.mono B2.out.size).trans (BD.out.1.mono (Nat.le_trans B2.out.size B3.out.size))); have y0 : w5.cell? ⟨w3.heap.size, 0, none⟩ = some (.int .i64 1) := Lib.cell_of_heap BD.out.2 0; have y1 : w5.cell? ⟨w3.heap.size, 1, none⟩ = some (.slice pv 2 cv) := Lib.cell_of_heap BD.out.2 1; have x0 : w5.cell? ⟨w.heap.size + 1 + 1 + 1, 0, none⟩ = some (.int .i64 1) := (BX5.out.cell (p := ⟨w.heap.size + 1 + 1 + 1, 0, none⟩) (cell_lt f0)).trans f0; have x1 : w5.cell? ⟨w.heap.size + 1 + 1 + 1, 1, none⟩ = some (.slice (some ⟨w.heap.size + 1 + 1, 0, none⟩) 2 2) := (BX5.out.cell (p := ⟨w.heap.size + 1 + 1 + 1, 1, none⟩) (cell_lt f1)).trans f1)
  go_wp2_with (first
    | (go_at_call 14; refine (KN _ _).mono ?_; rintro e wn ⟨rfl, rfl⟩)
    | (go_at_call 15; refine (K5.out _ pv cv (HN.out.any BX5.out) (N3.out.any BD.out.1)).mono ?_; rintro e w6 ⟨rfl, B6⟩))
  go_ret
  exact ⟨rfl, HWX.out.trans ((BX5.out.trans (B6.out.mono BX5.out.size)).mono HWX.out.size)⟩
end Go.Proofs.Ytgeajdfajfdjcaa
