/- Arguments of a law: a text, a row of numbers: opened. -/
import Derived.Test.YtkkmjgohjaedkaaRows
import Derived.SizedLaws
import Derived.ChangeMaps5
import Derived.ChangeSlices
import Derived.Carry
import Derived.ProofKit
import Derived.OpenShut
namespace Go.Proofs.Ytkkmjgohjaedkaa
open Go.ChangeShapes Go.WideShapes Go.ChangeAt Go.RowKit

theorem Try.laidOutB : laidOutB Try.prog = true := by kernel_rfl
theorem Try.cellsInt : Try.prog.cellsOf 3 = 1 := by kernel_rfl
theorem Try.bytesInt : Try.prog.bytesOf 3 = 8 := by kernel_rfl

/-- Slice v of w is the numbers zs. -/
def IRow (w : World) (v : Value) (zs : List Int) : Prop :=
  ∃ p cap, v = .slice p zs.length cap ∧ zs.length ≤ cap ∧ ∀ k z, zs[k]? = some z → ∃ g o, p = some ⟨g, o, none⟩ ∧ g < w.heap.size ∧ w.cell? ⟨g, o + k, none⟩ = some (.int .i64 z)
theorem cell_in {w : World} {b j : Nat} {v : Value} (h : w.cell? ⟨b, j, none⟩ = some v) : b < w.heap.size := by
  by_cases hb : b < w.heap.size
  · exact hb
  · exfalso
    have e : w.heap[b]? = none := Array.getElem?_eq_none (by omega)
    simp [World.cell?, e] at h
theorem IRow.keep {w w' : World} {v : Value} {zs : List Int} (h : IRow w v zs) (hb : Below w.heap.size w w') : IRow w' v zs := by
  obtain ⟨p, cap, hv, hl, hc⟩ := h
  refine ⟨p, cap, hv, hl, fun k z hk => ?_⟩
  obtain ⟨g, o, hp, hg, c⟩ := hc k z hk
  exact ⟨g, o, hp, Nat.lt_of_lt_of_le hg hb.size, (hb.cell (p := ⟨g, _, none⟩) hg).trans c⟩

set_option maxRecDepth 100000 in
theorem open_irow {H : Type} {enc : TypeId × Value → H} {W : World} {base : Nat} {t : TypeId} {v : Value} {d : DataW H} {p : List MemPlace} (ht : Try.prog.underlying t = some (.slice 3))
    (hv : Value.okWide Try.prog W .any base t v) (h : DataW.Trod enc Try.prog W 0 (fun _ => true) true t v d p) :
    ∃ zs : List Int, IRow W v zs ∧ (∀ z ∈ zs, (Lit.int .i64 z).wf = true) ∧ (d = .nil ∧ zs = [] ∨ ∃ ys : List Int, d = .slice (lits .i64 zs) (lits .i64 ys)) := by
  obtain ⟨a, len, cap, rfl⟩ := okWide_slice ht hv
  obtain ⟨fuel, hf⟩ := h
  rcases open_ints ht Try.underlying3 Try.cellsInt hf with ⟨hcs, hx⟩ | ⟨a', len', cap', ys, hcs, _, hl, hm, hz, hx, hcell, hws⟩
  · simp [Value.cells] at hcs
    obtain ⟨rfl, rfl, rfl⟩ := hcs
    simp only [Prod.mk.injEq] at hx
    exact ⟨[], ⟨none, 0, rfl, Nat.le_refl _, fun k z hk => by simp at hk⟩, fun z hz => by simp at hz, Or.inl ⟨hx.1, rfl⟩⟩
  · simp [Value.cells] at hcs
    obtain ⟨rfl, rfl, rfl⟩ := hcs
    simp only [Prod.mk.injEq] at hx
    simp only [if_true] at hz
    have hlen : (ys.take len).length = len := by rw [List.length_take]; omega
    refine ⟨ys.take len, ⟨some a', cap, by rw [hlen], by omega, fun k z hk => ?_⟩, fun z hz => hws z (List.mem_of_mem_take hz), Or.inr ⟨ys.drop len, hx.1⟩⟩
    have hkl : k < len := by have := (List.getElem?_eq_some_iff.1 hk).1; omega
    have hc := hcell k (by omega)
    have e : ys.getD k 0 = z := by
      rw [List.getElem?_take_of_lt hkl] at hk
      rw [List.getD, hk]; rfl
    rw [e] at hc
    obtain ⟨g, o, spot⟩ := a'
    have hspot : spot = none := by simpa [Addr.add] using World.cell?_spot (hcell 0 (by omega))
    subst hspot
    have hc' : W.cell? ⟨g, o + k, none⟩ = some (.int .i64 z) := by rw [← add_plain]; exact hc
    exact ⟨g, o, rfl, cell_in hc', hc'⟩
theorem irow_reach {H : Type} {ts : List TypeId} {ds : List (DataW H)} {t : TypeId} {j : Nat} {zs : List Int} {d : DataW H} (h : (DataW.weightsEach Try.prog ts ds).all (· ≤ reachBytes) = true) (ht : ts[j]? = some t) (hd : ds[j]? = some d)
    (hu : Try.prog.underlying t = some (.slice 3)) (hz : d = .nil ∧ zs = [] ∨ ∃ ys : List Int, d = .slice (lits .i64 zs) (lits .i64 ys)) : zs.length * 8 ≤ 140737488351232 := by
  rcases hz with ⟨_, rfl⟩ | ⟨ys, rfl⟩
  · simp
  · have := sized_slice h ht hd hu
    rw [Try.bytesInt] at this
    simp only [lits, List.length_map, reachBytes] at this
    omega
theorem str_reach {H : Type} {ts : List TypeId} {ds : List (DataW H)} {t : TypeId} {j : Nat} {s : ByteArray} (h : (DataW.weightsEach Try.prog ts ds).all (· ≤ reachBytes) = true) (ht : ts[j]? = some t) (hd : ds[j]? = some (.lit (.string s.data.toList))) : s.size ≤ 140737488351232 := by
  have := sized_string h ht hd
  rw [Array.length_toList] at this
  simp only [reachBytes] at this
  exact this
end Go.Proofs.Ytkkmjgohjaedkaa
