/- A copied grammar whose rule gets one conjunct more: in memory. -/
import Derived.Test.YtopokicdgdjgkaaCopyO
import Derived.Test.YtopokicdgdjgkaaBinV
namespace Go.Proofs.Ytopokicdgdjgkaa
set_option linter.unusedVariables false
set_option linter.unusedSimpArgs false
open Go.RowKit

/-- The rules with one conjunct more. -/
def moreL (L : List Ru) (k : Nat) (r : Ru) (c : Cn) : List Ru := L.set k ⟨r.head, r.conj ++ [c]⟩
/-- Row o's cell k*2+1 gets another slice; the new conjuncts lie in a row apart. -/
theorem more_rus {B V w2 : World} {F Fp : Nat → Prop} {L : List Ru} {us : List Value} {o : Value} {k gr co q : Nat} {r : Ru} {pc : Value} {c : Cn} {u nw : Value}
    (m : Mk0 B F L us o V) {G : Nat → Prop} {vs : List Value} (s1 : V.ownsRow B.heap.size 30 2 pc r.conj.length (cnsV r.conj vs)) (s2 : CnsIn V G r.conj vs) (s3 : ∀ b, pc.ownBlock = some b → F b ∧ ¬ G b) (s4 : ∀ b, G b → F b) (s5 : ∀ (j : Nat) (q : Ru) (d : Value), j ≠ k → L[j]? = some q → us[j]? = some d → IsCns V G d q.conj) (hr : L[k]? = some r) (hu : us[k]? = some pc) (ho : o = .slice (some ⟨gr, 0, none⟩) L.length co) {X : World} (hb : Below V.heap.size V X) (hg : X.grownBy w2 pc.ownBlock) (hq : r.conj.length = q)
    {gg cap : Nat} (hnw : nw = .slice (some ⟨gg, 0, none⟩) (q + 1) cap) (hnwo : w2.ownsRow B.heap.size 30 2 nw (q + 1) (cnsV r.conj vs ++ [.bool c.neg, u]))
    (hc : IsSys V Fp u c.seq) (hFp : ∀ b, Fp b → b < B.heap.size) :
    IsRus (w2.setCell ⟨gr, k * 2 + 1, none⟩ nw) Any o (moreL L k r c) := by
  have hkl : k < L.length := (List.getElem?_eq_some_iff.1 hr).1
  have hul : us.length = L.length := m.ri.1
  have hz : (w2.setCell ⟨gr, k * 2 + 1, none⟩ nw).heap.size = w2.heap.size := by simp [World.setCell]
  have hgr : o.ownBlock = some gr := by rw [ho]; rfl
  have hnF : ¬ F gr := m.no gr hgr
  have hsz : V.heap.size ≤ w2.heap.size := Nat.le_trans hb.size hg.size
  have hst : Stay G V (w2.setCell ⟨gr, k * 2 + 1, none⟩ nw) := ⟨by rw [hz]; exact hsz, fun b hG => by
    have hF := s4 b hG
    have hlt := (m.fl b hF).2
    have h1 : b ≠ gr := fun e => hnF (by rw [← e]; exact hF)
    have h2 : some b ≠ pc.ownBlock := fun e => (s3 b e.symm).2 hG
    exact (Go.Deep.blk_setCell_other w2 ⟨gr, k * 2 + 1, none⟩ _ b h1).trans ((hg.block b (Nat.lt_of_lt_of_le hlt hb.size) h2).trans (hb.block b hlt))⟩
  have hstP : Stay Fp V (w2.setCell ⟨gr, k * 2 + 1, none⟩ nw) := ⟨by rw [hz]; exact hsz, fun b hG => by
    have hlb := hFp b hG
    have hbl := m.bl.size
    have h1 : b ≠ gr := fun e => by have := (m.oo.lt gr hgr).1; omega
    have h2 : some b ≠ pc.ownBlock := fun e => by have := (m.fl b (s3 b e.symm).1).1; omega
    exact (Go.Deep.blk_setCell_other w2 ⟨gr, k * 2 + 1, none⟩ _ b h1).trans ((hg.block b (by have := hb.size; omega) h2).trans (hb.block b (by omega)))⟩
  have oo1 : w2.ownsRow B.heap.size 33 2 o L.length (rusV L us) := row_grown (row_keep m.oo hb) (row_keep s1 hb) (by decide) hg
  -- the row of rules
  obtain ⟨_, ⟨h1, h2⟩ | ⟨g2, c2, cur, h1, h2, h3, h4, h5, h6⟩⟩ := id oo1
  · rw [h2] at hkl; omega
  have hg2 : g2 = gr := by rw [ho] at h1; injection h1 with h1; injection h1 with h1; injection h1 with h1; exact h1.symm
  subst hg2
  have cellsAt : ∀ j v, (rusV L us)[j]? = some v → w2.cell? ⟨g2, j, none⟩ = some v := fun j v hj => by
    have hlt : j < (rusV L us).length := (List.getElem?_eq_some_iff.1 hj).1
    rw [ho] at oo1
    exact (oo1.cellAt j (by rw [rusV_length L us hul] at hlt; omega)).trans hj
  have hmx : L.length ≤ maxLen ∧ L.length ≤ co := by
    have hR := Reads.of (F := Any) oo1 (fun _ _ => trivial)
    obtain ⟨p, cap', e1, e2, _⟩ := hR
    rw [ho] at e1
    injection e1 with _ _ e1
    rw [e1]; exact e2
  have hlen : (moreL L k r c).length = L.length := by unfold moreL; rw [List.length_set]
  have hus : (us.set k nw).length = (moreL L k r c).length := by rw [List.length_set, hlen, hul]
  refine ⟨us.set k nw, ⟨some ⟨g2, 0, none⟩, co, by rw [ho, hlen], by rw [hlen]; exact hmx, fun _ => ⟨g2, 0, rfl, trivial, ?_, fun j v hj => ?_, fun j hj => ?_⟩⟩, hus, fun i q' d hi hd => ?_⟩
  · rw [hz]; exact (Array.getElem?_eq_some_iff.1 h3).1
  · rw [Nat.zero_add]
    have hlt : j < (rusV (moreL L k r c) (us.set k nw)).length := (List.getElem?_eq_some_iff.1 hj).1
    rw [rusV_length _ _ hus, hlen] at hlt
    obtain ⟨i, hi⟩ : ∃ i, i = j / 2 := ⟨_, rfl⟩
    have hil : i < L.length := by omega
    obtain ⟨ri, hri⟩ : ∃ x, L[i]? = some x := ⟨_, List.getElem?_eq_getElem hil⟩
    obtain ⟨ui, hui⟩ : ∃ x, us[i]? = some x := ⟨_, List.getElem?_eq_getElem (by omega)⟩
    have o1 := rusV_at L us i ri ui hri hui
    have hpar : j = i * 2 ∨ j = i * 2 + 1 := by omega
    by_cases hik : i = k
    · subst hik
      rw [hr] at hri; injection hri with hri; subst hri
      have n1 := rusV_at (moreL L i r c) (us.set i nw) i ⟨r.head, r.conj ++ [c]⟩ nw (by unfold moreL; rw [List.getElem?_set_self hil]) (by rw [List.getElem?_set_self (by omega)])
      rcases hpar with e | e
      · rw [e] at hj ⊢
        rw [n1.1] at hj
        rw [← hj]
        rw [World.cell?_setCell_other _ _ _ _ (by intro h; injection h with _ h; omega)]
        exact cellsAt _ _ o1.1
      · rw [e] at hj ⊢
        rw [n1.2] at hj
        rw [← hj]
        exact World.cell?_setCell_same _ _ _ (cellsAt _ _ o1.2)
    · have n1 := rusV_at (moreL L k r c) (us.set k nw) i ri ui (by unfold moreL; rw [List.getElem?_set_ne (Ne.symm hik)]; exact hri) (by rw [List.getElem?_set_ne (Ne.symm hik)]; exact hui)
      rcases hpar with e | e
      · rw [e] at hj ⊢
        rw [n1.1] at hj
        rw [← hj, World.cell?_setCell_other _ _ _ _ (by intro h; injection h with _ h; omega)]
        exact cellsAt _ _ o1.1
      · rw [e] at hj ⊢
        rw [n1.2] at hj
        rw [← hj, World.cell?_setCell_other _ _ _ _ (by intro h; injection h with _ h; omega)]
        exact cellsAt _ _ o1.2
  · rw [World.frozen?_setCell]
    simp [World.frozen?, h3]
  · by_cases hik : i = k
    · subst hik
      have e1 : (moreL L i r c)[i]? = some ⟨r.head, r.conj ++ [c]⟩ := by unfold moreL; rw [List.getElem?_set_self hkl]
      rw [e1] at hi
      injection hi with hi
      subst hi
      rw [List.getElem?_set_self (by omega)] at hd
      injection hd with hd
      subst hd
      have hno : nw.ownBlock ≠ some g2 := fun e => row_apart hnwo oo1 (by decide) g2 e hgr
      have hn3 := ownsRow_setCell_other (a := ⟨g2, i * 2 + 1, none⟩) hnwo hno nw
      refine ⟨vs ++ [u], ?_, ?_⟩
      · have h9 := Reads.of (F := Any) hn3 (fun _ _ => trivial)
        have e2 : cnsV (r.conj ++ [c]) (vs ++ [u]) = cnsV r.conj vs ++ [.bool c.neg, u] := cnsV_append _ _ _ _ s2.1
        show Reads _ _ _ (r.conj ++ [c]).length _
        rw [e2, List.length_append, List.length_singleton, hq]
        exact h9
      · exact (s2.keep hst (fun _ _ => trivial)).snoc (c := c) (hc.keep hstP (fun _ _ => trivial))
    · have e1 : (moreL L k r c)[i]? = L[i]? := by unfold moreL; rw [List.getElem?_set_ne (Ne.symm hik)]
      rw [e1] at hi
      rw [List.getElem?_set_ne (Ne.symm hik)] at hd
      exact (s5 i q' d hik hi hd).keep hst (fun _ _ => trivial)
end Go.Proofs.Ytopokicdgdjgkaa
