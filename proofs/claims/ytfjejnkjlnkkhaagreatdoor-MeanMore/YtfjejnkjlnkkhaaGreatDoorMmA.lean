import Derived.Test.YtfjejnkjlnkkhaaGreatDoorOneW
import Derived.Test.YtfjejnkjlnkkhaaGreatDoorStrPos
namespace Go.Proofs.YtfjejnkjlnkkhaaGreatDoor
set_option linter.unusedVariables false
open Go.ChangeShapes Go.WideShapes Go.ChangeAt Go.RowKit

/-- What is struck so far. -/
def DnS (g : Gr) (us : List Value) (i0 j0 : Nat) (w : World) : Prop := ∀ (i j : Nat) (r : Ru) (u : Value), (i < i0 ∨ i = i0 ∧ j < j0) → g.rules[i]? = some r → us[i]? = some u → j < r.conj.length → NegF w u j
theorem row_blk {w w' : World} {base e size n : Nat} {v : Value} {xs : List Value} (h : w.ownsRow base e size v n xs) (hb : ∀ b, v.ownBlock = some b → w'.heap[b]? = w.heap[b]?) : w'.ownsRow base e size v n xs := by
  obtain ⟨h1, h2⟩ := h
  refine ⟨h1, ?_⟩
  rcases h2 with h2 | ⟨g, cap, cur, hv, hg, hh, r⟩
  · exact Or.inl h2
  · exact Or.inr ⟨g, cap, cur, hv, hg, (hb g (by rw [hv]; rfl)).trans hh, r⟩
theorem GV.strike {B w w' : World} {gb : Nat} {F : Nat → Prop} {g : Gr} {nv o : Value} {us : List Value} (m : GV B gb F g.start g.names nv g.rules us o w) (s : Struck w w') (hF : ∀ b, ¬ F b → w'.heap[b]? = w.heap[b]?) (hb : Below B.heap.size B w')
    (hd : ∀ (i : Nat) (r : Ru) (u : Value), g.rules[i]? = some r → us[i]? = some u → ∀ j, j < r.conj.length → NegF w' u j) : GV B gb F g.start g.names nv (posG g).rules us o w' := by
  have hri : RusIn w' F (posG g).rules us := by
    refine ⟨by rw [m.m0.ri.1]; simp [posG], fun k c u h1 h2 => ?_⟩
    unfold posG at h1
    simp only [List.getElem?_map] at h1
    cases hk : g.rules[k]? with
    | none => rw [hk] at h1; cases h1
    | some r =>
      rw [hk] at h1
      injection h1 with h1
      subst h1
      exact cns_pos (m.m0.ri.2 k r u hk h2) s (hd k r u hk h2)
  refine ⟨⟨fun b h => ⟨(m.m0.fl b h).1, by rw [s.size]; exact (m.m0.fl b h).2⟩, ?_, m.m0.no, hri, hb⟩, row_blk m.on (fun b h => hF b (m.nn b h)), m.nn, (hF gb m.gF).trans m.vb, m.gF, m.gg⟩
  have h9 := row_blk m.m0.oo (fun b h => hF b (m.m0.no b h))
  have hl : (posG g).rules.length = g.rules.length := by simp [posG]
  rw [hl, show rusV (posG g).rules us = rusV g.rules us from rusV_pos _ _]
  exact h9
section
variable {B w w1 : World} {gb : Nat} {F : Nat → Prop} {st : Int} {ns : List ByteArray} {nv o : Value} {L : List Ru} {us : List Value}
end
end Go.Proofs.YtfjejnkjlnkkhaaGreatDoor

