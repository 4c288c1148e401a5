/- A deep copy of a grammar, one conjunct's symbols of which are written anew: in memory. -/
import Derived.Test.YtdoibpgkfdpbdaaCopyD0
namespace Go.Proofs.Ytdoibpgkfdpbdaa
set_option linter.unusedVariables false
set_option linter.unusedSimpArgs false
open Go.RowKit

theorem row_set {w : World} {B e size n g c j : Nat} {xs : List Value} (h : w.ownsRow B e size (.slice (some ⟨g, 0, none⟩) n c) n xs) (hj : j < n * size) (v : Value) : (w.setCell ⟨g, j, none⟩ v).ownsRow B e size (.slice (some ⟨g, 0, none⟩) n c) n (xs.set j v) := by
  obtain ⟨h0, ⟨h1, _⟩ | ⟨g', cap, cur, h1, h2, h3, h4, h5, h6, h7⟩⟩ := h
  · cases h1
  · injection h1 with h1 _ hcap
    injection h1 with h1
    injection h1 with h1
    subst h1 hcap
    refine ⟨by rw [List.length_set]; exact h0, Or.inr ⟨g, c, cur.setIfInBounds j v, rfl, h2, ?_, h4, h5, by simpa using h6, ?_⟩⟩
    · have hs : g < w.heap.size := (Array.getElem?_eq_some_iff.1 h3).1
      have e0 : (w.setCell ⟨g, j, none⟩ v).heap[g]? = (w.heap[g]?).map (fun o => match o with | .cells c elem frozen => .cells (c.setIfInBounds j v) elem frozen | o => o) := by
        simp [World.setCell, Array.getElem?_modify]
        cases w.heap[g]? with
        | none => rfl
        | some o => cases o <;> rfl
      rw [e0, h3]
      rfl
    · rw [Array.toList_setIfInBounds, List.take_set, h7]
theorem row_at {w : World} {B e size n : Nat} {v : Value} {xs : List Value} (h : w.ownsRow B e size v n xs) {j : Nat} (hj : j < n * size) : ∃ g c, v = .slice (some ⟨g, 0, none⟩) n c ∧ B ≤ g ∧ g < w.heap.size ∧ w.frozen? ⟨g, j, none⟩ = false ∧ w.cell? ⟨g, j, none⟩ = xs[j]? := by
  obtain ⟨h0, ⟨_, h1⟩ | ⟨g, c, cur, h1, h2, h3, h4⟩⟩ := id h
  · subst h1; omega
  · subst h1
    exact ⟨g, c, rfl, h2, (Array.getElem?_eq_some_iff.1 h3).1, by simp [World.frozen?, h3], h.cellAt j hj⟩
theorem rusV_conj : ∀ (L : List Ru) (us : List Value) (i : Nat) (ru ru' : Ru), L[i]? = some ru → ru'.head = ru.head → rusV (L.set i ru') us = rusV L us
  | [], _, i, _, _, h, _ => by simp at h
  | r :: L, [], i, _, _, _, _ => by cases i <;> rfl
  | r :: L, u :: us, 0, ru, ru', h, e => by
    obtain rfl : r = ru := by simpa using h
    show (_ :: _ :: rusV L us) = (_ :: _ :: rusV L us)
    rw [e]
  | r :: L, u :: us, i + 1, ru, ru', h, e => by
    show (_ :: _ :: rusV (L.set i ru') us) = (_ :: _ :: rusV L us)
    rw [rusV_conj L us i ru ru' (by simpa using h) e]
theorem cnsV_set : ∀ (l : List Cn) (vs : List Value) (c : Nat) (cn cn' : Cn) (nv : Value), l[c]? = some cn → cn'.neg = cn.neg → vs.length = l.length → cnsV (l.set c cn') (vs.set c nv) = (cnsV l vs).set (c * 2 + 1) nv
  | [], _, c, _, _, _, h, _, _ => by simp at h
  | d :: l, [], c, _, _, _, _, _, h => by simp at h
  | d :: l, v :: vs, 0, cn, cn', nv, h, e, _ => by
    obtain rfl : d = cn := by simpa using h
    show (_ :: _ :: cnsV l vs) = (_ :: nv :: cnsV l vs)
    rw [e]
  | d :: l, v :: vs, c + 1, cn, cn', nv, h, e, hl => by
    show (_ :: _ :: cnsV (l.set c cn') (vs.set c nv)) = (_ :: _ :: cnsV l vs).set ((c + 1) * 2 + 1) nv
    rw [cnsV_set l vs c cn cn' nv (by simpa using h) e (by simpa using hl), show (c + 1) * 2 + 1 = (c * 2 + 1) + 1 + 1 by omega]
    rfl
/-- Conjunct c of rule i gets other symbols, in the row nv: what reads as rules then. -/
theorem deep_rus {B Y X w2 : World} {F : Nat → Prop} {L : List Ru} {us vs : List Value} {vss : List (List Value)} {o cv uv nv : Value} {i c q q' : Nat} {ru : Ru} {cn cn' : Cn} {cb cc : Nat}
    (m : Mk0 B F L us o Y) (d : Dp Y B.heap.size L us vss) (hi : L[i]? = some ru) (hcv : us[i]? = some cv) (hvs : vss[i]? = some vs) (hc : ru.conj[c]? = some cn) (hu : vs[c]? = some uv)
    (hq : ru.conj.length = q) (hcb : cv = .slice (some ⟨cb, 0, none⟩) q cc) (hn : cn'.neg = cn.neg) (hb : Below Y.heap.size Y X) (hg : X.grownBy w2 uv.ownBlock)
    (hown : w2.ownsRow B.heap.size 44 3 nv q' (sysV cn'.seq)) (hq' : q' = cn'.seq.length) :
    IsRus (w2.setCell ⟨cb, c * 2 + 1, none⟩ nv) Any o (L.set i ⟨ru.head, ru.conj.set c cn'⟩) := by
  subst hq' hq
  obtain ⟨r1, r2⟩ := d.row i ru cv vs hi hcv hvs
  have ru0 := r2.row c cn uv hc hu
  have cvb : cv.ownBlock = some cb := by rw [hcb]; rfl
  have hcl : c < ru.conj.length := (List.getElem?_eq_some_iff.1 hc).1
  have cb2 : ∀ (n : Nat) (v : Value) (e size : Nat) (xs : List Value), Y.ownsRow B.heap.size e size v n xs → e ≠ 40 → v.ownBlock ≠ some cb := fun n v e size xs h he e2 => row_apart h r1 he cb e2 cvb
  -- a row of another type
  have k1 : ∀ (n : Nat) (v : Value) (e size : Nat) (xs : List Value), Y.ownsRow B.heap.size e size v n xs → e ≠ 44 → v.ownBlock ≠ some cb → (w2.setCell ⟨cb, c * 2 + 1, none⟩ nv).ownsRow B.heap.size e size v n xs := fun n v e size xs h he hne =>
    ownsRow_setCell_other (a := ⟨cb, c * 2 + 1, none⟩) (row_grown (row_keep h hb) (row_keep ru0 hb) he hg) hne _
  -- a row of symbols that lies apart
  have k2 : ∀ (n : Nat) (v : Value) (xs : List Value), Y.ownsRow B.heap.size 44 3 v n xs → (∀ b, v.ownBlock = some b → uv.ownBlock ≠ some b) → (w2.setCell ⟨cb, c * 2 + 1, none⟩ nv).ownsRow B.heap.size 44 3 v n xs := fun n v xs h hne =>
    ownsRow_setCell_other (a := ⟨cb, c * 2 + 1, none⟩) (row_stay (row_keep h hb) (fun g e => hg.block g (Nat.lt_of_lt_of_le (h.lt g e).2 hb.size) (fun e2 => hne g e e2.symm))) (cb2 _ _ _ _ _ h (by decide)) _
  refine ⟨us, ?_, by rw [List.length_set]; exact d.l1, fun k q u h1 h2 => ?_⟩
  · rw [rusV_conj L us i ru ⟨ru.head, ru.conj.set c cn'⟩ hi rfl, List.length_set]
    exact Reads.of (k1 _ _ _ _ _ m.oo (by decide) (cb2 _ _ _ _ _ m.oo (by decide))) (fun _ _ => trivial)
  · by_cases hk : k = i
    · subst hk
      have hkl : k < L.length := (List.getElem?_eq_some_iff.1 hi).1
      rw [List.getElem?_set_self hkl] at h1
      injection h1 with h1
      subst h1
      rw [hcv] at h2
      injection h2 with h2
      subst h2
      have g1 : w2.ownsRow B.heap.size 40 2 cv ru.conj.length (cnsV ru.conj vs) := row_grown (row_keep r1 hb) (row_keep ru0 hb) (by decide) hg
      rw [hcb] at g1
      have g2 := row_set g1 (j := c * 2 + 1) (by omega) nv
      refine ⟨vs.set c nv, ?_, ?_, fun j d' u' e1 e2 => ?_⟩
      · show Reads _ _ _ (ru.conj.set c cn').length _
        rw [cnsV_set _ _ _ cn cn' nv hc hn r2.len, List.length_set, hcb]
        exact Reads.of g2 (fun _ _ => trivial)
      · rw [List.length_set, List.length_set]; exact r2.len
      · by_cases hj : j = c
        · subst hj
          rw [List.getElem?_set_self hcl] at e1
          rw [List.getElem?_set_self (by rw [r2.len]; exact hcl)] at e2
          injection e1 with e1
          injection e2 with e2
          subst e1 e2
          have hno : nv.ownBlock ≠ some cb := fun e => row_apart hown g1 (by decide) cb e (by rfl)
          exact Reads.of (ownsRow_setCell_other (a := ⟨cb, j * 2 + 1, none⟩) hown hno nv) (fun _ _ => trivial)
        · rw [List.getElem?_set_ne (Ne.symm hj)] at e1
          rw [List.getElem?_set_ne (Ne.symm hj)] at e2
          exact Reads.of (k2 _ _ _ (r2.row j d' u' e1 e2) (fun b e3 => r2.ap j c u' uv b hj e2 hu e3)) (fun _ _ => trivial)
    · rw [List.getElem?_set_ne (Ne.symm hk)] at h1
      have hkl := (List.getElem?_eq_some_iff.1 h1).1
      obtain ⟨ws, hws⟩ : ∃ x, vss[k]? = some x := ⟨_, List.getElem?_eq_getElem (by rw [d.l2]; exact hkl)⟩
      obtain ⟨s1, s2⟩ := d.row k q u ws h1 h2 hws
      refine ⟨ws, Reads.of (k1 _ _ _ _ _ s1 (by decide) (fun e => d.ap k i u cv cb hk h2 hcv e cvb)) (fun _ _ => trivial), s2.len, fun j d' u' e1 e2 => ?_⟩
      exact Reads.of (k2 _ _ _ (s2.row j d' u' e1 e2) (fun b e3 => d.apS k i j c ws vs u' uv b hk hws hvs e2 hu e3)) (fun _ _ => trivial)
end Go.Proofs.Ytdoibpgkfdpbdaa
