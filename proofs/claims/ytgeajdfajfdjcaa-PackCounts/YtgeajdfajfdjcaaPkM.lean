/- Proofs in memory: rows of nodes, of picks, of numbers. -/
import Derived.Test.YtgeajdfajfdjcaaPkT
import Derived.Test.YtgeajdfajfdjcaaGramLow
namespace Go.Proofs.Ytgeajdfajfdjcaa
set_option linter.unusedVariables false
open Go.RowKit

def wfz (z : Int) : Prop := -9223372036854775808 ≤ z ∧ z ≤ 9223372036854775807
def zsV (l : List Int) : List Value := l.map (Value.int .i64)
def IsZs (w : World) (F : Nat → Prop) (v : Value) (l : List Int) : Prop := Reads w F v l.length (zsV l)
def pksV : List Pk → List Value → List Value
  | p :: l, u :: us => .int .i64 p.at_ :: .int .i64 p.conj :: u :: pksV l us
  | _, _ => []
def ndsV : List Nd → List Value → List Value
  | n :: l, u :: us => .bool n.sign :: .int .i64 n.kind :: .int .i64 n.name :: .int .i64 n.rule :: .int .i64 n.conj :: .int .i64 n.pos :: .int .i64 n.i :: .int .i64 n.j :: .int .i64 n.rank :: u :: ndsV l us
  | _, _ => []
theorem zsV_app (l m : List Int) : zsV (l ++ m) = zsV l ++ zsV m := by simp [zsV]
theorem zsV_len (l : List Int) : (zsV l).length = l.length := by simp [zsV]
theorem zsV_at {l : List Int} {k : Nat} {z : Int} (h : l[k]? = some z) : (zsV l)[k]? = some (.int .i64 z) := by simp [zsV, h]
theorem pksV_app : ∀ (l : List Pk) (us : List Value) (p : Pk) (u : Value), us.length = l.length → pksV (l ++ [p]) (us ++ [u]) = pksV l us ++ [.int .i64 p.at_, .int .i64 p.conj, u]
  | [], [], p, u, _ => rfl
  | [], _ :: _, _, _, h => by simp at h
  | _ :: _, [], _, _, h => by simp at h
  | q :: l, v :: us, p, u, h => by
    show _ :: _ :: _ :: pksV (l ++ [p]) (us ++ [u]) = _
    rw [pksV_app l us p u (by simpa using h)]; rfl
theorem pksV_len : ∀ (l : List Pk) (us : List Value), us.length = l.length → (pksV l us).length = l.length * 3
  | [], [], _ => rfl
  | [], _ :: _, h => by simp at h
  | _ :: _, [], h => by simp at h
  | q :: l, v :: us, h => by
    show (_ :: _ :: _ :: pksV l us).length = _
    simp only [List.length_cons, pksV_len l us (by simpa using h)]; omega
theorem pksV_at : ∀ (l : List Pk) (us : List Value) (k : Nat) (p : Pk) (u : Value), l[k]? = some p → us[k]? = some u → (pksV l us)[k * 3]? = some (.int .i64 p.at_) ∧ (pksV l us)[k * 3 + 1]? = some (.int .i64 p.conj) ∧ (pksV l us)[k * 3 + 2]? = some u
  | [], _, k, p, u, h, _ => by simp at h
  | _ :: _, [], k, p, u, _, h => by simp at h
  | q :: l, v :: us, 0, p, u, h, h' => by
    obtain rfl : q = p := by simpa using h
    obtain rfl : v = u := by simpa using h'
    exact ⟨rfl, rfl, rfl⟩
  | q :: l, v :: us, k + 1, p, u, h, h' => by
    have := pksV_at l us k p u (by simpa using h) (by simpa using h')
    rw [show (k + 1) * 3 = k * 3 + 1 + 1 + 1 by omega]
    simpa [pksV] using this
theorem ndsV_app : ∀ (l : List Nd) (us : List Value) (p : Nd) (u : Value), us.length = l.length → ndsV (l ++ [p]) (us ++ [u]) = ndsV l us ++ [.bool p.sign, .int .i64 p.kind, .int .i64 p.name, .int .i64 p.rule, .int .i64 p.conj, .int .i64 p.pos, .int .i64 p.i, .int .i64 p.j, .int .i64 p.rank, u]
  | [], [], p, u, _ => rfl
  | [], _ :: _, _, _, h => by simp at h
  | _ :: _, [], _, _, h => by simp at h
  | q :: l, v :: us, p, u, h => by
    show _ :: _ :: _ :: _ :: _ :: _ :: _ :: _ :: _ :: _ :: ndsV (l ++ [p]) (us ++ [u]) = _
    rw [ndsV_app l us p u (by simpa using h)]; rfl
theorem ndsV_len : ∀ (l : List Nd) (us : List Value), us.length = l.length → (ndsV l us).length = l.length * 10
  | [], [], _ => rfl
  | [], _ :: _, h => by simp at h
  | _ :: _, [], h => by simp at h
  | q :: l, v :: us, h => by
    show (_ :: _ :: _ :: _ :: _ :: _ :: _ :: _ :: _ :: _ :: ndsV l us).length = _
    simp only [List.length_cons, ndsV_len l us (by simpa using h)]; omega
theorem ndsV_at : ∀ (l : List Nd) (us : List Value) (k : Nat) (p : Nd) (u : Value), l[k]? = some p → us[k]? = some u → (ndsV l us)[k * 10]? = some (.bool p.sign) ∧ (ndsV l us)[k * 10 + 1]? = some (.int .i64 p.kind) ∧ (ndsV l us)[k * 10 + 2]? = some (.int .i64 p.name) ∧ (ndsV l us)[k * 10 + 3]? = some (.int .i64 p.rule) ∧ (ndsV l us)[k * 10 + 4]? = some (.int .i64 p.conj) ∧ (ndsV l us)[k * 10 + 5]? = some (.int .i64 p.pos) ∧ (ndsV l us)[k * 10 + 6]? = some (.int .i64 p.i) ∧ (ndsV l us)[k * 10 + 7]? = some (.int .i64 p.j) ∧ (ndsV l us)[k * 10 + 8]? = some (.int .i64 p.rank) ∧ (ndsV l us)[k * 10 + 9]? = some u
  | [], _, k, p, u, h, _ => by simp at h
  | _ :: _, [], k, p, u, _, h => by simp at h
  | q :: l, v :: us, 0, p, u, h, h' => by
    obtain rfl : q = p := by simpa using h
    obtain rfl : v = u := by simpa using h'
    exact ⟨rfl, rfl, rfl, rfl, rfl, rfl, rfl, rfl, rfl, rfl⟩
  | q :: l, v :: us, k + 1, p, u, h, h' => by
    have := ndsV_at l us k p u (by simpa using h) (by simpa using h')
    rw [show (k + 1) * 10 = k * 10 + 1 + 1 + 1 + 1 + 1 + 1 + 1 + 1 + 1 + 1 by omega]
    simpa [ndsV] using this
def PksIn (w : World) (F : Nat → Prop) (l : List Pk) (us : List Value) : Prop := us.length = l.length ∧ ∀ (k : Nat) (p : Pk) (u : Value), l[k]? = some p → us[k]? = some u → IsZs w F u p.kids
def IsPks (w : World) (F : Nat → Prop) (v : Value) (l : List Pk) : Prop := ∃ us, Reads w F v l.length (pksV l us) ∧ PksIn w F l us
def NdsIn (w : World) (F : Nat → Prop) (l : List Nd) (us : List Value) : Prop := us.length = l.length ∧ ∀ (k : Nat) (n : Nd) (u : Value), l[k]? = some n → us[k]? = some u → IsPks w F u n.picks
def IsNds (w : World) (F : Nat → Prop) (v : Value) (l : List Nd) : Prop := ∃ us, Reads w F v l.length (ndsV l us) ∧ NdsIn w F l us
section
variable {w w' : World} {F F' : Nat → Prop} {v : Value}
theorem PksIn.keep {l : List Pk} {us : List Value} (h : PksIn w F l us) (hs : Stay F w w') (hm : ∀ b, F b → F' b) : PksIn w' F' l us := ⟨h.1, fun k p u h1 h2 => Reads.keep (h.2 k p u h1 h2) hs hm⟩
theorem IsPks.keep {l : List Pk} (h : IsPks w F v l) (hs : Stay F w w') (hm : ∀ b, F b → F' b) : IsPks w' F' v l := by
  obtain ⟨us, h1, h2⟩ := h
  exact ⟨us, Reads.keep h1 hs hm, h2.keep hs hm⟩
theorem NdsIn.keep {l : List Nd} {us : List Value} (h : NdsIn w F l us) (hs : Stay F w w') (hm : ∀ b, F b → F' b) : NdsIn w' F' l us := ⟨h.1, fun k p u h1 h2 => (h.2 k p u h1 h2).keep hs hm⟩
theorem IsNds.keep {l : List Nd} (h : IsNds w F v l) (hs : Stay F w w') (hm : ∀ b, F b → F' b) : IsNds w' F' v l := by
  obtain ⟨us, h1, h2⟩ := h
  exact ⟨us, Reads.keep h1 hs hm, h2.keep hs hm⟩
theorem IsZs.any {l : List Int} (h : IsZs w F v l) (hb : Below w.heap.size w w') : IsZs w' F v l := Reads.any h hb
theorem IsPks.any {l : List Pk} (h : IsPks w F v l) (hb : Below w.heap.size w w') : IsPks w' F v l := by
  obtain ⟨us, h1, h2, h3⟩ := h
  exact ⟨us, Reads.any h1 hb, h2, fun k p u e1 e2 => Reads.any (h3 k p u e1 e2) hb⟩
theorem IsNds.any {l : List Nd} (h : IsNds w F v l) (hb : Below w.heap.size w w') : IsNds w' F v l := by
  obtain ⟨us, h1, h2, h3⟩ := h
  exact ⟨us, Reads.any h1 hb, h2, fun k p u e1 e2 => (h3 k p u e1 e2).any hb⟩
theorem IsPks.low {l : List Pk} (h : IsPks w F v l) (hm : ∀ b, F b → b < w.heap.size → F' b) : IsPks w F' v l := by
  obtain ⟨us, h1, h2, h3⟩ := h
  exact ⟨us, Reads.low h1 hm, h2, fun k p u e1 e2 => Reads.low (h3 k p u e1 e2) hm⟩
theorem IsNds.low {l : List Nd} (h : IsNds w F v l) (hm : ∀ b, F b → b < w.heap.size → F' b) : IsNds w F' v l := by
  obtain ⟨us, h1, h2, h3⟩ := h
  exact ⟨us, Reads.low h1 hm, h2, fun k p u e1 e2 => (h3 k p u e1 e2).low hm⟩
theorem Reads.slcP {n : Nat} {cs : List Value} (h : Reads w F v n cs) : ∃ p c, v = .slice p n c := by
  obtain ⟨p, c, e, _⟩ := h
  exact ⟨p, c, e⟩
theorem IsZs.slc {l : List Int} (h : IsZs w F v l) : ∃ p c, v = .slice p l.length c := Reads.slcP h
theorem IsPks.slc {l : List Pk} (h : IsPks w F v l) : ∃ p c, v = .slice p l.length c := by
  obtain ⟨us, h1, _⟩ := h
  exact Reads.slcP h1
theorem IsNds.slc {l : List Nd} (h : IsNds w F v l) : ∃ p c, v = .slice p l.length c := by
  obtain ⟨us, h1, _⟩ := h
  exact Reads.slcP h1
theorem IsZs.at {p : Option Addr} {n c : Nat} {l : List Int} (h : IsZs w F (.slice p n c) l) {k : Nat} {z : Int} (hk : l[k]? = some z) : ∃ g o, p = some ⟨g, o, none⟩ ∧ w.cell? ⟨g, o + k, none⟩ = some (.int .i64 z) ∧ g < w.heap.size ∧ w.frozen? ⟨g, o + k, none⟩ = false := by
  obtain ⟨p2, c2, e2, _, hc⟩ := h
  injection e2 with e3
  subst e3
  have hlt := (List.getElem?_eq_some_iff.1 hk).1
  obtain ⟨g, o, e, _, hg, cc, fz⟩ := hc (by omega)
  exact ⟨g, o, e, cc _ _ (zsV_at hk), hg, fz k (by rw [zsV_len]; exact hlt)⟩
theorem IsPks.at {p : Option Addr} {n c : Nat} {l : List Pk} (h : IsPks w F (.slice p n c) l) {k : Nat} {x : Pk} (hk : l[k]? = some x) : ∃ g o u, p = some ⟨g, o, none⟩ ∧ w.cell? ⟨g, o + k * 3, none⟩ = some (.int .i64 x.at_) ∧ w.cell? ⟨g, o + k * 3 + 1, none⟩ = some (.int .i64 x.conj) ∧ w.cell? ⟨g, o + k * 3 + 2, none⟩ = some u ∧ IsZs w F u x.kids ∧ g < w.heap.size := by
  obtain ⟨us, ⟨p2, c2, e2, _, hc⟩, hl, hi⟩ := h
  injection e2 with e3
  subst e3
  have hlt := (List.getElem?_eq_some_iff.1 hk).1
  obtain ⟨g, o, e, _, hg, cc, _⟩ := hc (by omega)
  obtain ⟨u, hu⟩ : ∃ u, us[k]? = some u := ⟨_, List.getElem?_eq_getElem (by omega)⟩
  obtain ⟨a0, a1, a2⟩ := pksV_at l us k x u hk hu
  exact ⟨g, o, u, e, cc _ _ a0, reas (cc _ _ a1), reas (cc _ _ a2), hi k x u hk hu, hg⟩
theorem IsNds.at {p : Option Addr} {n c : Nat} {l : List Nd} (h : IsNds w F (.slice p n c) l) {k : Nat} {x : Nd} (hk : l[k]? = some x) : ∃ g o u, p = some ⟨g, o, none⟩ ∧ w.cell? ⟨g, o + k * 10, none⟩ = some (.bool x.sign) ∧ w.cell? ⟨g, o + k * 10 + 1, none⟩ = some (.int .i64 x.kind) ∧ w.cell? ⟨g, o + k * 10 + 2, none⟩ = some (.int .i64 x.name) ∧ w.cell? ⟨g, o + k * 10 + 3, none⟩ = some (.int .i64 x.rule) ∧ w.cell? ⟨g, o + k * 10 + 4, none⟩ = some (.int .i64 x.conj) ∧ w.cell? ⟨g, o + k * 10 + 5, none⟩ = some (.int .i64 x.pos) ∧ w.cell? ⟨g, o + k * 10 + 6, none⟩ = some (.int .i64 x.i) ∧ w.cell? ⟨g, o + k * 10 + 7, none⟩ = some (.int .i64 x.j) ∧ w.cell? ⟨g, o + k * 10 + 8, none⟩ = some (.int .i64 x.rank) ∧ w.cell? ⟨g, o + k * 10 + 9, none⟩ = some u ∧ IsPks w F u x.picks ∧ g < w.heap.size := by
  obtain ⟨us, ⟨p2, c2, e2, _, hc⟩, hl, hi⟩ := h
  injection e2 with e3
  subst e3
  have hlt := (List.getElem?_eq_some_iff.1 hk).1
  obtain ⟨g, o, e, _, hg, cc, _⟩ := hc (by omega)
  obtain ⟨u, hu⟩ : ∃ u, us[k]? = some u := ⟨_, List.getElem?_eq_getElem (by omega)⟩
  obtain ⟨a0, a1, a2, a3, a4, a5, a6, a7, a8, a9⟩ := ndsV_at l us k x u hk hu
  exact ⟨g, o, u, e, cc _ _ a0, reas (cc _ _ a1), reas (cc _ _ a2), reas (cc _ _ a3), reas (cc _ _ a4), reas (cc _ _ a5), reas (cc _ _ a6), reas (cc _ _ a7), reas (cc _ _ a8), reas (cc _ _ a9), hi k x u hk hu, hg⟩
end
end Go.Proofs.Ytgeajdfajfdjcaa
