/- The parts of a conjunct in memory; a byte more. -/
import Derived.Test.YtkkmjgohjaedkaaShowPart
namespace Go.Proofs.Ytkkmjgohjaedkaa
set_option linter.unusedVariables false
open Go.ChangeShapes Go.WideShapes Go.ChangeAt Go.RowKit

/-- The last part: a text is owned still. -/
def PartLast (W : World) (w : World) (F : Nat → Prop) : Part → Value → Prop
  | .inl l, u => ∃ v, u = .iface 198 v ∧ w.ownsRow W.heap.size 5 1 v l.length (Lib.byteCells l) ∧ ∀ b, v.ownBlock = some b → ¬ F b
  | .inr (.inl (a, c)), u => u = .iface 201 (.agg #[.int .u8 (a.toNat : Int), .int .u8 (c.toNat : Int)])
  | .inr (.inr s), u => u = .iface 199 (.string s)
/-- The parts ps, their values us, in the row o. -/
structure PS (W : World) (F : Nat → Prop) (ps : List Part) (us : List Value) (o : Value) (w : World) : Prop where
  fl : ∀ b, F b → W.heap.size ≤ b ∧ b < w.heap.size
  oo : w.ownsRow W.heap.size 20 1 o ps.length us
  no : ∀ b, o.ownBlock = some b → ¬ F b
  ri : ∀ (k : Nat) (p : Part) (u : Value), ps[k]? = some p → us[k]? = some u → k + 1 < ps.length → PartIn w F p u
  rl : ∀ (k : Nat) (p : Part) (u : Value), ps[k]? = some p → us[k]? = some u → k + 1 = ps.length → PartLast W w F p u
  bl : Below W.heap.size W w
section
variable {W w w' w1 w2 : World} {F : Nat → Prop} {ps : List Part} {us : List Value} {o : Value}
theorem PS.new (w : World) : PS w (fun _ => False) [] [] (.slice none 0 0) w :=
  ⟨fun b h => h.elim, World.ownsRow_nil _ _ _ _, fun b h => by simp [Value.ownBlock] at h, fun k p u h => by simp at h, fun k p u h => by simp at h, Below.refl _ _⟩
theorem PS.len (m : PS W F ps us o w) : us.length = ps.length := by simpa using m.oo.1
theorem PartLast.keep {p : Part} {u : Value} (h : PartLast W w F p u) (hb : Below w.heap.size w w') : PartLast W w' F p u := by
  match p, h with
  | .inl l, ⟨v, h1, h2, h3⟩ => exact ⟨v, h1, row_keep h2 hb, h3⟩
  | .inr (.inl (a, c)), h => exact h
  | .inr (.inr s), h => exact h
theorem PS.stays (m : PS W F ps us o w) (hb : Below w.heap.size w w') : Stay F w w' := ⟨hb.size, fun b hF => hb.block b (m.fl b hF).2⟩
theorem PS.keep (m : PS W F ps us o w) (hb : Below w.heap.size w w') : PS W F ps us o w' :=
  ⟨fun b hF => ⟨(m.fl b hF).1, Nat.lt_of_lt_of_le (m.fl b hF).2 hb.size⟩, row_keep m.oo hb, m.no, fun k p u e1 e2 e3 => (m.ri k p u e1 e2 e3).keep (m.stays hb) (fun _ h => h), fun k p u e1 e2 e3 => (m.rl k p u e1 e2 e3).keep hb, m.bl.trans (hb.mono m.bl.size)⟩
/-- The blocks of the last part. -/
def lastB (us : List Value) (b : Nat) : Prop := ∃ v, us.getLast? = some (.iface 198 v) ∧ v.ownBlock = some b
theorem getLast_at {α : Type} {l : List α} {k : Nat} {a : α} (h : l[k]? = some a) (hk : k + 1 = l.length) : l.getLast? = some a := by
  rw [List.getLast?_eq_getElem?, show l.length - 1 = k by omega]; exact h
theorem last_at {α : Type} {l : List α} {a : α} (h : l.getLast? = some a) : ∃ k, l[k]? = some a ∧ k + 1 = l.length := by
  rw [List.getLast?_eq_getElem?] at h
  have := (List.getElem?_eq_some_iff.1 h).1
  exact ⟨l.length - 1, h, by omega⟩
theorem PS.lastF (m : PS W F ps us o w) {b : Nat} (h : lastB us b) : ¬ F b ∧ W.heap.size ≤ b ∧ b < w.heap.size ∧ o.ownBlock ≠ some b := by
  obtain ⟨v, h1, h2⟩ := h
  obtain ⟨k, h3, h4⟩ := last_at h1
  have hl := m.len
  obtain ⟨p, hp⟩ : ∃ p, ps[k]? = some p := ⟨_, List.getElem?_eq_getElem (by omega)⟩
  have h5 := m.rl k p _ hp h3 (by omega)
  match p, h5 with
  | .inl l, ⟨v', e1, h6, h7⟩ =>
    injection e1 with _ e1
    subst e1
    exact ⟨h7 b h2, (h6.lt b h2).1, (h6.lt b h2).2, fun e => row_apart h6 m.oo (by decide) b h2 e⟩
  | .inr (.inl (a, c)), h5 => injection (show Value.iface _ _ = Value.iface _ _ from h5) with e1; exact absurd e1 (by decide)
  | .inr (.inr s), h5 => injection (show Value.iface _ _ = Value.iface _ _ from h5) with e1; exact absurd e1 (by decide)
/-- A part just made: a text's bytes in a new block. -/
def PartNew (W w w1 : World) : Part → Value → Prop
  | .inl l, u => ∃ v, u = .iface 198 v ∧ w1.ownsRow W.heap.size 5 1 v l.length (Lib.byteCells l) ∧ ∀ b, v.ownBlock = some b → w.heap.size ≤ b
  | .inr (.inl (a, c)), u => u = .iface 201 (.agg #[.int .u8 (a.toNat : Int), .int .u8 (c.toNat : Int)])
  | .inr (.inr s), u => u = .iface 199 (.string s)
/-- One part more, in a row that grew: what stood last is done. -/
theorem PS.push (m : PS W F ps us o w) (hb : Below w.heap.size w w1) {p : Part} {u : Value} (hp : PartNew W w w1 p u) {g cap : Nat}
    (hg : w1.grownBy w2 o.ownBlock) (hown : w2.ownsRow W.heap.size 20 1 (.slice (some ⟨g, 0, none⟩) (ps.length + 1) cap) (ps.length + 1) (us ++ [u])) (hat : o.ownBlock = some g ∨ g = w1.heap.size) :
    PS W (fun b => F b ∨ lastB us b) (ps ++ [p]) (us ++ [u]) (.slice (some ⟨g, 0, none⟩) (ps.length + 1) cap) w2 := by
  have m1 := m.keep hb
  have hs := hb.size
  have hgs := hg.size
  have hlen := m.len
  have hF : ∀ b, (F b ∨ lastB us b) → W.heap.size ≤ b ∧ b < w.heap.size ∧ o.ownBlock ≠ some b := fun b h => by
    rcases h with h | h
    · exact ⟨(m.fl b h).1, (m.fl b h).2, fun e => m.no b e h⟩
    · exact ⟨(m.lastF h).2.1, (m.lastF h).2.2.1, (m.lastF h).2.2.2⟩
  have hst : Stay (fun b => F b ∨ lastB us b) w1 w2 := ⟨hgs, fun b h => hg.block b (by have := (hF b h).2.1; omega) (fun e => (hF b h).2.2 e.symm)⟩
  refine ⟨fun b h => ⟨(hF b h).1, by have := (hF b h).2.1; omega⟩, by rw [List.length_append]; exact hown, fun b e h => ?_, fun k q x e1 e2 e3 => ?_, fun k q x e1 e2 e3 => ?_, ?_⟩
  · obtain rfl : g = b := by injection e
    rcases hat with e' | e'
    · exact (hF g h).2.2 e'
    · have := (hF g h).2.1; omega
  · rw [List.length_append] at e3
    have hk : k < ps.length := by simpa using e3
    rw [List.getElem?_append_left hk] at e1
    rw [List.getElem?_append_left (by omega)] at e2
    by_cases hl : k + 1 < ps.length
    · exact (m1.ri k q x e1 e2 hl).keep ⟨hst.size, fun b h => hst.blk b (Or.inl h)⟩ (fun b h => Or.inl h)
    · have h5 := m1.rl k q x e1 e2 (by omega)
      match q, h5 with
      | .inl l, ⟨v, h6, h7, h8⟩ =>
        refine ⟨v, h6, (Reads.of h7 (F := fun b => F b ∨ lastB us b) (fun b h9 => Or.inr ⟨v, ?_, h9⟩)).keep hst (fun b h => h)⟩
        rw [← h6]
        exact getLast_at e2 (by omega)
      | .inr (.inl (a, c)), h5 => exact h5
      | .inr (.inr s), h5 => exact h5
  · rw [List.length_append] at e3
    have hk : k = ps.length := by simpa using e3
    subst hk
    rw [List.getElem?_append_right (Nat.le_refl _)] at e1
    rw [List.getElem?_append_right (by omega), hlen] at e2
    obtain rfl : p = q := by simpa using e1
    obtain rfl : u = x := by simpa using e2
    match p, hp with
    | .inl l, ⟨v, h6, h7, h8⟩ =>
      exact ⟨v, h6, row_grown h7 m1.oo (by decide) hg, fun b e h => by have := h8 b e; have := (hF b h).2.1; omega⟩
    | .inr (.inl (a, c)), h5 => exact h5
    | .inr (.inr s), h5 => exact h5
  · exact m1.bl.grown hg (by have := m.bl.size; omega) (fun k hk => (m.oo.lt k hk).1)
theorem row_set {base e go n cap : Nat} {xs : List Value} (h : w.ownsRow base e 1 (.slice (some ⟨go, 0, none⟩) n cap) n xs) (k : Nat) (x : Value) : (w.setCell ⟨go, k, none⟩ x).ownsRow base e 1 (.slice (some ⟨go, 0, none⟩) n cap) n (xs.set k x) := by
  obtain ⟨h1, ⟨h2, _⟩ | ⟨g, c, cur, h2, h3, h4, h5, h6, h7, h8⟩⟩ := h
  · cases h2
  · injection h2 with e1 _ e2
    injection e1 with e1
    injection e1 with e1
    subst e1 e2
    refine ⟨by rw [List.length_set]; exact h1, Or.inr ⟨go, cap, cur.setIfInBounds k x, rfl, h3, ?_, h5, h6, by rw [Array.size_setIfInBounds]; exact h7, ?_⟩⟩
    · simp [World.setCell, Array.getElem?_modify, h4]
    · rw [Array.toList_setIfInBounds, List.take_set, h8]
/-- The last text has a byte more. -/
theorem PS.more {l : List UInt8} {vs : List Value} {v v' : Value} {n go cap : Nat} {c : UInt8} (m : PS W F (ps ++ [.inl l]) (vs ++ [.iface 198 v]) (.slice (some ⟨go, 0, none⟩) n cap) w) (hn : n = ps.length + 1) (hb : Below w.heap.size w w1)
    (hg : w1.grownBy w2 v.ownBlock) (hown : w2.ownsRow W.heap.size 5 1 v' (l.length + 1) (Lib.byteCells l ++ [.int .u8 (c.toNat : Int)])) (hat : v'.ownBlock = v.ownBlock ∨ v'.ownBlock = some w1.heap.size) :
    PS W F (ps ++ [.inl (l ++ [c])]) (vs ++ [.iface 198 v']) (.slice (some ⟨go, 0, none⟩) n cap) (w2.setCell ⟨go, ps.length, none⟩ (.iface 198 v')) := by
  have m1 := m.keep hb
  have hlen : vs.length = ps.length := by have := m.len; simpa using this
  have hvl : ∀ b, v.ownBlock = some b → lastB (vs ++ [.iface 198 v]) b := fun b e => ⟨v, by simp, e⟩
  have hgs := hg.size
  have hs := hb.size
  have hbs := m.bl.size
  have hgo : W.heap.size ≤ go ∧ go < w.heap.size := m.oo.lt go rfl
  have hov : ∀ b, v.ownBlock = some b → b ≠ go := fun b e e' => (m.lastF (hvl b e)).2.2.2 (by rw [e']; rfl)
  have hz : (w2.setCell ⟨go, ps.length, none⟩ (.iface 198 v')).heap.size = w2.heap.size := by simp [World.setCell]
  have hvgo : v'.ownBlock ≠ some go := by
    rcases hat with e | e
    · rw [e]; intro e'; exact hov go e' rfl
    · rw [e]; intro e'; injection e' with e'; omega
  have hst : Stay F w1 (w2.setCell ⟨go, ps.length, none⟩ (.iface 198 v')) := by
    refine ⟨by rw [hz]; exact hgs, fun b hF => ?_⟩
    have h1 : b ≠ go := fun e => m.no go rfl (e ▸ hF)
    exact (Go.Deep.blk_setCell_other w2 ⟨go, ps.length, none⟩ _ b h1).trans (hg.block b (m1.fl b hF).2 (fun e => (m.lastF (hvl b e.symm)).1 hF))
  have hoo : w2.ownsRow W.heap.size 20 1 (.slice (some ⟨go, 0, none⟩) n cap) n (vs ++ [.iface 198 v]) := by
    have h1 : w1.ownsRow W.heap.size 20 1 (.slice (some ⟨go, 0, none⟩) n cap) n (vs ++ [.iface 198 v]) := by
      have := m1.oo
      rwa [List.length_append, ← (by simpa using hn : n = ps.length + [(Sum.inl l : Part)].length)] at this
    refine h1.kept hg ?_
    right
    intro e
    exact hov go e.symm rfl
  refine ⟨fun b hF => ⟨(m.fl b hF).1, by rw [hz]; have := (m.fl b hF).2; omega⟩, ?_, m.no, fun k q x e1 e2 e3 => ?_, fun k q x e1 e2 e3 => ?_, ?_⟩
  · have h2 := row_set hoo ps.length (.iface 198 v')
    rw [List.length_append, List.length_cons, List.length_nil, Nat.zero_add, ← hn]
    rw [List.set_append_right _ _ (by omega), hlen, Nat.sub_self] at h2
    exact h2
  · rw [List.length_append] at e3
    have hk : k < ps.length := by simpa using e3
    rw [List.getElem?_append_left hk] at e1
    rw [List.getElem?_append_left (by omega)] at e2
    exact (m1.ri k q x (by rw [List.getElem?_append_left hk]; exact e1) (by rw [List.getElem?_append_left (by omega)]; exact e2) (by simp; omega)).keep hst (fun b h => h)
  · rw [List.length_append] at e3
    have hk : k = ps.length := by simpa using e3
    subst hk
    rw [List.getElem?_append_right (Nat.le_refl _)] at e1
    rw [List.getElem?_append_right (by omega), hlen] at e2
    obtain rfl : (Sum.inl (l ++ [c]) : Part) = q := by simpa using e1
    obtain rfl : Value.iface 198 v' = x := by simpa using e2
    refine ⟨v', rfl, ?_, fun b e hF => ?_⟩
    · rw [List.length_append]
      have : Lib.byteCells (l ++ [c]) = Lib.byteCells l ++ [.int .u8 (c.toNat : Int)] := by simp [Lib.byteCells]
      rw [this]
      exact ownsRow_setCell_other hown (a := ⟨go, ps.length, none⟩) hvgo _
    · rcases hat with e' | e'
      · rw [e'] at e; exact (m.lastF (hvl b e)).1 hF
      · rw [e'] at e; injection e with e; have := (m.fl b hF).2; omega
  · refine (m1.bl.grown hg (by omega) (fun k hk => (m.lastF (hvl k hk)).2.1)).setCell (p := ⟨go, ps.length, none⟩) hgo.1 _
end
end Go.Proofs.Ytkkmjgohjaedkaa
