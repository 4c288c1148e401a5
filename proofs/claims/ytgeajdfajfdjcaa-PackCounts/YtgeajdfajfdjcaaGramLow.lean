/- Rows within a grammar in memory. No program in sight. -/
import Derived.Test.YtgeajdfajfdjcaaGramMem
namespace Go.Proofs.Ytgeajdfajfdjcaa
set_option linter.unusedVariables false
open Go.RowKit

theorem IsRus.row {w : World} {F : Nat → Prop} {p : Option Addr} {n c : Nat} {l : List Ru} (h : IsRus w F (.slice p n c) l) {k : Nat} {r : Ru} (hk : l[k]? = some r) : ∃ g o u, p = some ⟨g, o, none⟩ ∧ w.cell? ⟨g, o + k * 2, none⟩ = some (.int .i64 r.head) ∧ w.cell? ⟨g, o + k * 2 + 1, none⟩ = some u ∧ IsCns w F u r.conj := by
  obtain ⟨vs, ⟨p2, c2, e2, _, hc⟩, hl, hi⟩ := h
  injection e2 with e3
  subst e3
  have hlt := (List.getElem?_eq_some_iff.1 hk).1
  obtain ⟨g, o, e, _, _, cc, _⟩ := hc (by omega)
  obtain ⟨u, hu⟩ : ∃ u, vs[k]? = some u := ⟨_, List.getElem?_eq_getElem (by omega)⟩
  obtain ⟨a0, a1⟩ := rusV_at l vs k r u hk hu
  exact ⟨g, o, u, e, cc _ _ a0, by rw [Nat.add_assoc]; exact cc _ _ a1, hi k r u hk hu⟩
theorem IsCns.row {w : World} {F : Nat → Prop} {p : Option Addr} {n c : Nat} {l : List Cn} (h : IsCns w F (.slice p n c) l) {k : Nat} {r : Cn} (hk : l[k]? = some r) : ∃ g o u, p = some ⟨g, o, none⟩ ∧ w.cell? ⟨g, o + k * 2, none⟩ = some (.bool r.neg) ∧ w.cell? ⟨g, o + k * 2 + 1, none⟩ = some u ∧ IsSys w F u r.seq := by
  obtain ⟨vs, ⟨p2, c2, e2, _, hc⟩, hl, hi⟩ := h
  injection e2 with e3
  subst e3
  have hlt := (List.getElem?_eq_some_iff.1 hk).1
  obtain ⟨g, o, e, _, _, cc, _⟩ := hc (by omega)
  obtain ⟨u, hu⟩ : ∃ u, vs[k]? = some u := ⟨_, List.getElem?_eq_getElem (by omega)⟩
  obtain ⟨a0, a1⟩ := cnsV_at l vs k r u hk hu
  exact ⟨g, o, u, e, cc _ _ a0, by rw [Nat.add_assoc]; exact cc _ _ a1, hi k r u hk hu⟩
theorem IsSys.slc {w : World} {F : Nat → Prop} {v : Value} {l : List Sy} (h : IsSys w F v l) : ∃ p c, v = .slice p l.length c := by
  obtain ⟨p, c, e, _⟩ := h
  exact ⟨p, c, e⟩
theorem Reads.low {w : World} {F F' : Nat → Prop} {v : Value} {n : Nat} {cs : List Value} (h : Reads w F v n cs) (hm : ∀ b, F b → b < w.heap.size → F' b) : Reads w F' v n cs := by
  obtain ⟨p, c, e, hn, hc⟩ := h
  exact ⟨p, c, e, hn, fun h0 => by obtain ⟨g, o, e1, e2, e3, e4⟩ := hc h0; exact ⟨g, o, e1, hm g e2 e3, e3, e4⟩⟩
theorem IsCns.low {w : World} {F F' : Nat → Prop} {v : Value} {l : List Cn} (h : IsCns w F v l) (hm : ∀ b, F b → b < w.heap.size → F' b) : IsCns w F' v l := by
  obtain ⟨vs, h1, h2, h3⟩ := h
  exact ⟨vs, Reads.low h1 hm, h2, fun k c u e1 e2 => Reads.low (h3 k c u e1 e2) hm⟩
theorem IsRus.low {w : World} {F F' : Nat → Prop} {v : Value} {l : List Ru} (h : IsRus w F v l) (hm : ∀ b, F b → b < w.heap.size → F' b) : IsRus w F' v l := by
  obtain ⟨vs, h1, h2, h3⟩ := h
  exact ⟨vs, Reads.low h1 hm, h2, fun k c u e1 e2 => (h3 k c u e1 e2).low hm⟩
theorem own_neL {w : World} {B s n c : Nat} {v : Value} {e t : TypeId} {cs : Array Value} {fr : Nat × Nat} {xs : List Value} (h : w.ownsRow B e s v n xs) (hc : w.heap[c]? = some (.cells cs t fr)) (hne : e ≠ t) : v.ownBlock ≠ some c := by
  intro hk
  obtain ⟨_, ⟨h1, _⟩ | ⟨g, cap, cur, h1, _, h3, _⟩⟩ := h
  · rw [h1] at hk; cases hk
  · rw [h1] at hk
    injection hk with hk
    have hk : g = c := hk
    subst hk
    rw [hc] at h3
    injection h3 with h3
    injection h3 with _ h4
    exact hne h4.symm
end Go.Proofs.Ytgeajdfajfdjcaa
