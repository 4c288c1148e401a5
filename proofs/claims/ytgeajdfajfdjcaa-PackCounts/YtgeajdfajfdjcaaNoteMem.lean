/- Declarations in memory: rows of rows, each in blocks of its own; the parser's nine cells. No program in sight. -/
import Derived.Test.YtgeajdfajfdjcaaNotePl
import Derived.Test.YtgeajdfajfdjcaaLexMem
import Derived.Deep.Heap
namespace Go.Proofs.Ytgeajdfajfdjcaa
open Go.RowKit

def itV (i : It) : List Value := [.int .i64 i.kind, .string i.text, .int .i64 i.lo, .int .i64 i.hi]
def itsV : List It → List Value
  | [] => []
  | i :: l => itV i ++ itsV l
theorem itsV_append : ∀ l m : List It, itsV (l ++ m) = itsV l ++ itsV m
  | [], _ => rfl
  | i :: l, m => by simp [itsV, itsV_append l m]
theorem itsV_length : ∀ l : List It, (itsV l).length = l.length * 4
  | [] => rfl
  | i :: l => by simp [itsV, itV, itsV_length l]; omega
theorem itsV_at : ∀ (l : List It) (k : Nat) (i : It), l[k]? = some i → (itsV l)[k * 4]? = some (.int .i64 i.kind) ∧ (itsV l)[k * 4 + 1]? = some (.string i.text) ∧ (itsV l)[k * 4 + 2]? = some (.int .i64 i.lo) ∧ (itsV l)[k * 4 + 3]? = some (.int .i64 i.hi)
  | [], k, i, h => by simp at h
  | q :: l, 0, i, h => by
    obtain rfl : q = i := by simpa using h
    exact ⟨rfl, rfl, rfl, rfl⟩
  | q :: l, k + 1, i, h => by
    have := itsV_at l k i (by simpa using h)
    rw [show (k + 1) * 4 = k * 4 + 1 + 1 + 1 + 1 by omega]
    simpa [itsV, itV] using this
def cjsV : List Cj → List Value → List Value
  | c :: l, v :: vs => .bool c.neg :: v :: cjsV l vs
  | _, _ => []
theorem cjsV_append : ∀ (l : List Cj) (vs : List Value) (c : Cj) (v : Value), vs.length = l.length → cjsV (l ++ [c]) (vs ++ [v]) = cjsV l vs ++ [.bool c.neg, v]
  | [], [], c, v, _ => rfl
  | [], _ :: _, _, _, h => by simp at h
  | _ :: _, [], _, _, h => by simp at h
  | d :: l, u :: vs, c, v, h => by
    show .bool d.neg :: u :: cjsV (l ++ [c]) (vs ++ [v]) = _
    rw [cjsV_append l vs c v (by simpa using h)]; rfl
theorem cjsV_length : ∀ (l : List Cj) (vs : List Value), vs.length = l.length → (cjsV l vs).length = l.length * 2
  | [], [], _ => rfl
  | [], _ :: _, h => by simp at h
  | _ :: _, [], h => by simp at h
  | d :: l, u :: vs, h => by
    show (_ :: _ :: cjsV l vs).length = _
    simp only [List.length_cons, cjsV_length l vs (by simpa using h)]; omega
theorem cjsV_at : ∀ (l : List Cj) (vs : List Value) (k : Nat) (c : Cj) (u : Value), l[k]? = some c → vs[k]? = some u → (cjsV l vs)[k * 2]? = some (.bool c.neg) ∧ (cjsV l vs)[k * 2 + 1]? = some u
  | [], _, k, c, u, h, _ => by simp at h
  | _ :: _, [], k, c, u, _, h => by simp at h
  | d :: l, v :: vs, 0, c, u, h, h' => by
    obtain rfl : d = c := by simpa using h
    obtain rfl : v = u := by simpa using h'
    exact ⟨rfl, rfl⟩
  | d :: l, v :: vs, k + 1, c, u, h, h' => by
    have := cjsV_at l vs k c u (by simpa using h) (by simpa using h')
    rw [show (k + 1) * 2 = k * 2 + 1 + 1 by omega]
    simpa [cjsV] using this
def dfsV : List Df → List Value → List Value
  | d :: l, v :: vs => .string d.name :: v :: dfsV l vs
  | _, _ => []
theorem dfsV_append : ∀ (l : List Df) (vs : List Value) (c : Df) (v : Value), vs.length = l.length → dfsV (l ++ [c]) (vs ++ [v]) = dfsV l vs ++ [.string c.name, v]
  | [], [], c, v, _ => rfl
  | [], _ :: _, _, _, h => by simp at h
  | _ :: _, [], _, _, h => by simp at h
  | d :: l, u :: vs, c, v, h => by
    show .string d.name :: u :: dfsV (l ++ [c]) (vs ++ [v]) = _
    rw [dfsV_append l vs c v (by simpa using h)]; rfl
theorem dfsV_length : ∀ (l : List Df) (vs : List Value), vs.length = l.length → (dfsV l vs).length = l.length * 2
  | [], [], _ => rfl
  | [], _ :: _, h => by simp at h
  | _ :: _, [], h => by simp at h
  | d :: l, u :: vs, h => by
    show (_ :: _ :: dfsV l vs).length = _
    simp only [List.length_cons, dfsV_length l vs (by simpa using h)]; omega
theorem dfsV_at : ∀ (l : List Df) (vs : List Value) (k : Nat) (c : Df) (u : Value), l[k]? = some c → vs[k]? = some u → (dfsV l vs)[k * 2]? = some (.string c.name) ∧ (dfsV l vs)[k * 2 + 1]? = some u
  | [], _, k, c, u, h, _ => by simp at h
  | _ :: _, [], k, c, u, _, h => by simp at h
  | d :: l, v :: vs, 0, c, u, h, h' => by
    obtain rfl : d = c := by simpa using h
    obtain rfl : v = u := by simpa using h'
    exact ⟨rfl, rfl⟩
  | d :: l, v :: vs, k + 1, c, u, h, h' => by
    have := dfsV_at l vs k c u (by simpa using h) (by simpa using h')
    rw [show (k + 1) * 2 = k * 2 + 1 + 1 by omega]
    simpa [dfsV] using this
def txV (l : List ByteArray) : List Value := l.map Value.string

/-- The blocks F are as they were. -/
structure Stay (F : Nat → Prop) (w w' : World) : Prop where
  size : w.heap.size ≤ w'.heap.size
  blk : ∀ b, F b → w'.heap[b]? = w.heap[b]?
theorem reas {w : World} {g o a b : Nat} {v : Value} (h : w.cell? ⟨g, o + (a + b), none⟩ = some v) : w.cell? ⟨g, o + a + b, none⟩ = some v := by rw [Nat.add_assoc]; exact h
/-- Slice v holds n elements, their cells cs, in a block of F. -/
def Reads (w : World) (F : Nat → Prop) (v : Value) (n : Nat) (cs : List Value) : Prop :=
  ∃ p cap, v = .slice p n cap ∧ (n ≤ maxLen ∧ n ≤ cap) ∧ (0 < n → ∃ g o, p = some ⟨g, o, none⟩ ∧ F g ∧ g < w.heap.size ∧ (∀ j c, cs[j]? = some c → w.cell? ⟨g, o + j, none⟩ = some c) ∧ ∀ j, j < (cs).length → w.frozen? ⟨g, o + j, none⟩ = false)
theorem Reads.keep {w w' : World} {F F' : Nat → Prop} {v : Value} {n : Nat} {cs : List Value} (h : Reads w F v n cs) (hs : Stay F w w') (hm : ∀ b, F b → F' b) : Reads w' F' v n cs := by
  obtain ⟨p, cap, hv, hmx, hc⟩ := h
  refine ⟨p, cap, hv, hmx, fun hn => ?_⟩
  obtain ⟨g, o, hp, hF, hg, hx, hz⟩ := hc hn
  exact ⟨g, o, hp, hm g hF, Nat.lt_of_lt_of_le hg hs.size, fun j c hj => (World.cell?_of_block (a := ⟨g, _, none⟩) (hs.blk g hF)).trans (hx j c hj), fun j hj => (World.frozen?_of_block (a := ⟨g, _, none⟩) (hs.blk g hF)).trans (hz j hj)⟩
theorem Reads.of {w : World} {F : Nat → Prop} {base e size n : Nat} {v : Value} {cs : List Value} (h : w.ownsRow base e size v n cs) (hF : ∀ b, v.ownBlock = some b → F b) : Reads w F v n cs := by
  obtain ⟨p, cap, hv⟩ := row_slice h
  subst hv
  have hmx : n ≤ maxLen ∧ n ≤ cap := by
    obtain ⟨_, ⟨_, h2⟩ | ⟨g, c', cur, h1, h2, h3, h4, h5, _⟩⟩ := id h
    · rw [h2]; exact ⟨Nat.zero_le _, Nat.zero_le _⟩
    · injection h1 with _ _ h1
      subst h1
      exact ⟨Nat.le_trans h4 h5, h4⟩
  refine ⟨p, cap, rfl, hmx, fun hn => ?_⟩
  obtain ⟨hl, ⟨_, h2⟩ | ⟨g, c', cur, h1, h2, h3⟩⟩ := id h
  · omega
  · injection h1 with e1
    subst e1
    refine ⟨g, 0, rfl, hF g rfl, (h.lt g rfl).2, fun j c hj => ?_, fun j _ => ?_⟩
    · have hlt : j < cs.length := (List.getElem?_eq_some_iff.1 hj).1
      rw [Nat.zero_add]; exact (h.cellAt j (by omega)).trans hj
    · simp [World.frozen?, h3.1]
def IsIts (w : World) (F : Nat → Prop) (v : Value) (l : List It) : Prop := Reads w F v l.length (itsV l)
def CjsIn (w : World) (F : Nat → Prop) (l : List Cj) (vs : List Value) : Prop := vs.length = l.length ∧ ∀ (k : Nat) (c : Cj) (u : Value), l[k]? = some c → vs[k]? = some u → IsIts w F u c.items
def IsCjs (w : World) (F : Nat → Prop) (v : Value) (l : List Cj) : Prop := ∃ vs, Reads w F v l.length (cjsV l vs) ∧ CjsIn w F l vs
def AltsIn (w : World) (F : Nat → Prop) (l : List (List Cj)) (vs : List Value) : Prop := vs.length = l.length ∧ ∀ (k : Nat) (a : List Cj) (u : Value), l[k]? = some a → vs[k]? = some u → IsCjs w F u a
def IsAlts (w : World) (F : Nat → Prop) (v : Value) (l : List (List Cj)) : Prop := ∃ vs, Reads w F v l.length vs ∧ AltsIn w F l vs
def DefsIn (w : World) (F : Nat → Prop) (l : List Df) (vs : List Value) : Prop := vs.length = l.length ∧ ∀ (k : Nat) (d : Df) (u : Value), l[k]? = some d → vs[k]? = some u → IsAlts w F u d.alts
def IsDefs (w : World) (F : Nat → Prop) (v : Value) (l : List Df) : Prop := ∃ vs, Reads w F v l.length (dfsV l vs) ∧ DefsIn w F l vs
def IsTexts (w : World) (F : Nat → Prop) (v : Value) (l : List ByteArray) : Prop := Reads w F v l.length (txV l)
section
variable {w w' : World} {F F' : Nat → Prop}
theorem IsIts.keep {v : Value} {l : List It} (h : IsIts w F v l) (hs : Stay F w w') (hm : ∀ b, F b → F' b) : IsIts w' F' v l := Reads.keep h hs hm
theorem CjsIn.keep {l : List Cj} {vs : List Value} (h : CjsIn w F l vs) (hs : Stay F w w') (hm : ∀ b, F b → F' b) : CjsIn w' F' l vs := ⟨h.1, fun k c u h1 h2 => (h.2 k c u h1 h2).keep hs hm⟩
theorem IsCjs.keep {v : Value} {l : List Cj} (h : IsCjs w F v l) (hs : Stay F w w') (hm : ∀ b, F b → F' b) : IsCjs w' F' v l := by
  obtain ⟨vs, h1, h2⟩ := h
  exact ⟨vs, h1.keep hs hm, h2.keep hs hm⟩
theorem AltsIn.keep {l : List (List Cj)} {vs : List Value} (h : AltsIn w F l vs) (hs : Stay F w w') (hm : ∀ b, F b → F' b) : AltsIn w' F' l vs := ⟨h.1, fun k c u h1 h2 => (h.2 k c u h1 h2).keep hs hm⟩
theorem IsAlts.keep {v : Value} {l : List (List Cj)} (h : IsAlts w F v l) (hs : Stay F w w') (hm : ∀ b, F b → F' b) : IsAlts w' F' v l := by
  obtain ⟨vs, h1, h2⟩ := h
  exact ⟨vs, h1.keep hs hm, h2.keep hs hm⟩
theorem DefsIn.keep {l : List Df} {vs : List Value} (h : DefsIn w F l vs) (hs : Stay F w w') (hm : ∀ b, F b → F' b) : DefsIn w' F' l vs := ⟨h.1, fun k c u h1 h2 => (h.2 k c u h1 h2).keep hs hm⟩
theorem IsDefs.keep {v : Value} {l : List Df} (h : IsDefs w F v l) (hs : Stay F w w') (hm : ∀ b, F b → F' b) : IsDefs w' F' v l := by
  obtain ⟨vs, h1, h2⟩ := h
  exact ⟨vs, h1.keep hs hm, h2.keep hs hm⟩
theorem IsTexts.keep {v : Value} {l : List ByteArray} (h : IsTexts w F v l) (hs : Stay F w w') (hm : ∀ b, F b → F' b) : IsTexts w' F' v l := Reads.keep h hs hm
end
theorem in_snoc {α : Type} {l : List α} {vs : List Value} {a : α} {v : Value} {P : α → Value → Prop} (hl : vs.length = l.length) (h : ∀ (k : Nat) (c : α) (u : Value), l[k]? = some c → vs[k]? = some u → P c u) (hp : P a v) :
    (vs ++ [v]).length = (l ++ [a]).length ∧ ∀ (k : Nat) (c : α) (u : Value), (l ++ [a])[k]? = some c → (vs ++ [v])[k]? = some u → P c u := by
  refine ⟨by simp [hl], fun k c u h1 h2 => ?_⟩
  by_cases e : k < l.length
  · rw [List.getElem?_append_left e] at h1
    rw [List.getElem?_append_left (by omega)] at h2
    exact h k c u h1 h2
  · rw [List.getElem?_append_right (by omega)] at h1
    rw [List.getElem?_append_right (by omega)] at h2
    have hk : k - l.length = 0 := by
      have := (List.getElem?_eq_some_iff.1 h1).1
      simp at this; omega
    rw [hk] at h1
    rw [show k - vs.length = 0 by omega] at h2
    obtain rfl : a = c := by simpa using h1
    obtain rfl : v = u := by simpa using h2
    exact hp

structure Px where
  vs : Value
  vd : Value
  va : Value
  vl : Value
  vi : Value
  dv : List Value
  av : List Value
  cv : List Value
section
variable {W w w' : World} {B : Nat} {F : Nat → Prop} {p : Pm} {x : Px}
theorem row_out {e size n : Nat} {v : Value} {cs : List Value} (o : w.ownsRow (B + 1) e size v n cs) (hn : ∀ b, v.ownBlock = some b → ¬ F b) : ∀ b, v.ownBlock = some b → B < b ∧ ¬ F b := fun b hb => ⟨by have := (o.lt b hb).1; omega, hn b hb⟩
end
end Go.Proofs.Ytgeajdfajfdjcaa
