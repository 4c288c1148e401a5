/- The whole grammar with conjuncts of two: sizes, and the two rows of rules put together. -/
import Derived.Test.YtgpklcpmabafmaaDoorBinR
import Derived.Test.YtgpklcpmabafmaaDoorBinN
import Derived.Test.YtgpklcpmabafmaaDoorSeqT
namespace Go.Proofs.YtgpklcpmabafmaaDoor
set_option linter.unusedVariables false
set_option linter.unusedSimpArgs false
open Go.ChangeShapes Go.WideShapes Go.ChangeAt Go.RowKit

theorem binZ_of {g : Gr} (h : mayG g = true) : BinZ g.rules ∧ ∀ r, r ∈ rowsR g.rules → r.length ≤ 64 := by
  have hp := mayG_plIn h
  have hr : (rowsR g.rules).length ≤ 1024 := by
    unfold mayG mayRules at h
    simp only [Bool.and_eq_true] at h
    have := mayRs_rows _ g.rules 0 h.2.2.2.2.2 (by omega)
    omega
  exact ⟨⟨hp.1, by omega, fun r hr => ⟨(hp.2 r hr).1, fun c hc => (hp.2 r hr).2 c hc⟩⟩, rowsR_le g.rules (fun r hr c hc => (hp.2 r hr).2 c hc)⟩
section
variable {W w w1 w2 : World} {F F' : Nat → Prop} {L L' : List Ru} {us us' : List Value} {o o' : Value}
theorem rusV_app : ∀ (L : List Ru) (us : List Value) (L' : List Ru) (us' : List Value), us.length = L.length → rusV (L ++ L') (us ++ us') = rusV L us ++ rusV L' us'
  | [], [], L', us', _ => rfl
  | [], _ :: _, _, _, h => by simp at h
  | _ :: _, [], _, _, h => by simp at h
  | r :: L, u :: us, L', us', h => by
    show .int .i64 r.head :: u :: rusV (L ++ L') (us ++ us') = _
    rw [rusV_app L us L' us' (by simpa using h)]
    rfl
theorem rusV_oneB : ∀ (L : List Ru) (us : List Value), (∀ u ∈ us, u.oneCell' = true) → ∀ x ∈ rusV L us, x.oneCell' = true
  | [], _, _, x, h => by simp [rusV] at h
  | _ :: _, [], _, x, h => by simp [rusV] at h
  | r :: L, u :: us, hu, x, h => by
    have h1 : x ∈ (.int .i64 r.head :: u :: rusV L us : List Value) := h
    simp only [List.mem_cons] at h1
    rcases h1 with rfl | rfl | h1
    · rfl
    · exact hu _ (by simp)
    · exact rusV_oneB L us (fun y hy => hu y (by simp [hy])) x h1
theorem rusV_lenB : ∀ (L : List Ru) (us : List Value), us.length = L.length → (rusV L us).length = L.length * 2
  | [], [], _ => rfl
  | [], _ :: _, h => by simp at h
  | _ :: _, [], h => by simp at h
  | r :: L, u :: us, h => by
    show (.int .i64 r.head :: u :: rusV L us).length = _
    simp only [List.length_cons]
    rw [rusV_lenB L us (by simpa using h)]
    omega
/-- Two rows of rules in one. -/
theorem Mk0.join (m : Mk0 W F L us o w) (m' : Mk0 w1 F' L' us' o' w2) (h1 : Below w.heap.size w w1) (hone : ∀ u ∈ us', u.oneCell' = true) (hl : L.length + L'.length ≤ 100000) :
    ∃ v' w3, (Builtin.append_ #[25, 25] 25 #[o, o']).run Tryd.prog w2 = .ok v' w3 ∧ IsRus w3 Any v' (L ++ L') ∧ w2.grownBy w3 o.ownBlock ∧ (∃ p c, v' = .slice p (L.length + L'.length) c) := by
  obtain ⟨i, hi, hz, hsz, hby⟩ := info_parts Tryd.infoRuB
  have hw2 : Below w.heap.size w w2 := h1.trans (m'.bl.mono h1.size)
  have m2 := m.keep hw2
  obtain ⟨v', w3, hr, ho, hg⟩ := run_append_reads (P := Tryd.prog) (w := w2) W.heap.size 25 25 35 i _ 2 32 Tryd.underlying25 hi hz hsz hby rfl (by omega) o L.length (rusV L us) m2.oo o' L'.length (rusV L' us') (Reads.of m'.oo (F := Any) (fun _ _ => trivial)) (rusV_lenB _ _ m'.ri.1) (rusV_oneB _ _ hone) (by unfold maxLen; omega) (by omega) m2.bl.size
  refine ⟨v', w3, hr, ⟨us ++ us', ?_, ?_⟩, hg, ?_⟩
  · rw [List.length_append, rusV_app _ _ _ _ m.ri.1]
    exact Reads.of ho (fun _ _ => trivial)
  · have hkeep : ∀ b, (F b ∨ F' b) → w3.heap[b]? = w2.heap[b]? := fun b hb => by
      rcases hb with hb | hb
      · exact hg.block b (m2.fl b hb).2 (fun e => m2.no b e.symm hb)
      · have h9 := m'.fl b hb
        refine hg.block b h9.2 (fun e => ?_)
        have := (m.oo.lt b e.symm).2
        have := h1.size
        omega
    refine ⟨by rw [List.length_append, List.length_append, m.ri.1, m'.ri.1], fun k c u hc hu => ?_⟩
    by_cases hk : k < L.length
    · rw [List.getElem?_append_left hk] at hc
      rw [List.getElem?_append_left (by rw [m.ri.1]; exact hk)] at hu
      exact (m2.ri.2 k c u hc hu).keep ⟨hg.size, fun b hb => hkeep b (Or.inl hb)⟩ (fun _ _ => trivial)
    · rw [List.getElem?_append_right (by omega)] at hc
      rw [List.getElem?_append_right (by rw [m.ri.1]; omega), m.ri.1] at hu
      exact (m'.ri.2 _ c u hc hu).keep ⟨hg.size, fun b hb => hkeep b (Or.inr hb)⟩ (fun _ _ => trivial)
  · obtain ⟨p, c, e⟩ := row_slice ho
    exact ⟨p, c, e⟩
end
end Go.Proofs.YtgpklcpmabafmaaDoor
