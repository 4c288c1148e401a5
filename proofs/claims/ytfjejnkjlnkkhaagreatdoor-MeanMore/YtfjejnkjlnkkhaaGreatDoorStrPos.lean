/- A grammar whose negations are being struck: each write is of false onto a Boolean, so all else stays. No program in sight. -/
import Derived.Test.YtfjejnkjlnkkhaaGreatDoorStrTop
import Derived.Test.YtfjejnkjlnkkhaaGreatDoorGb
namespace Go.Proofs.YtfjejnkjlnkkhaaGreatDoor
set_option linter.unusedVariables false
open Go.ChangeShapes Go.WideShapes Go.ChangeAt Go.RowKit

/-- All cells stay but one that was a Boolean and is false now. -/
structure Struck (w w' : World) : Prop where
  size : w'.heap.size = w.heap.size
  cell : ∀ a v, w.cell? a = some v → (∀ b, v ≠ .bool b) → w'.cell? a = some v
  neg : ∀ a b, w.cell? a = some (.bool b) → w'.cell? a = some (.bool b) ∨ w'.cell? a = some (.bool false)
  frz : ∀ a, w'.frozen? a = w.frozen? a
theorem Struck.refl (w : World) : Struck w w := ⟨rfl, fun _ _ h _ => h, fun _ _ h => Or.inl h, fun _ => rfl⟩
theorem Struck.trans {a b c : World} (h : Struck a b) (k : Struck b c) : Struck a c :=
  ⟨k.size.trans h.size, fun x v e n => k.cell x v (h.cell x v e n) n, fun x y e => by
    rcases h.neg x y e with h1 | h1
    · exact k.neg x y h1
    · rcases k.neg x false h1 with h2 | h2 <;> exact Or.inr h2, fun x => (k.frz x).trans (h.frz x)⟩
theorem struck_set {w : World} {g o : Nat} {b : Bool} (h : w.cell? ⟨g, o, none⟩ = some (.bool b)) : Struck w (w.setCell ⟨g, o, none⟩ (.bool false)) := by
  refine ⟨Go.Deep.nblk_setCell _ _ _, fun a v e hn => ?_, fun a b' e => ?_, fun a => World.frozen?_setCell _ _ _ _⟩
  · by_cases x : (⟨g, o, none⟩ : Addr) = a
    · subst x
      rw [h] at e
      exact absurd (Option.some.inj e).symm (hn b)
    · rw [World.cell?_setCell_other _ _ _ _ x]; exact e
  · by_cases x : (⟨g, o, none⟩ : Addr) = a
    · subst x
      exact Or.inr (World.cell?_setCell_same _ _ _ h)
    · left
      rw [World.cell?_setCell_other _ _ _ _ x]; exact e
theorem Reads.struck {w w' : World} {F : Nat → Prop} {v : Value} {n : Nat} {cs : List Value} (h : Reads w F v n cs) (s : Struck w w') (hc : ∀ c, c ∈ cs → ∀ b, c ≠ .bool b) : Reads w' F v n cs := by
  obtain ⟨p, c, e, hm, hx⟩ := h
  refine ⟨p, c, e, hm, fun h0 => ?_⟩
  obtain ⟨g, o, e1, e2, e3, e4, e5⟩ := hx h0
  exact ⟨g, o, e1, e2, by rw [s.size]; exact e3, fun j x hj => s.cell _ _ (e4 j x hj) (hc x (List.mem_of_getElem? hj)), fun j hj => (s.frz _).trans (e5 j hj)⟩
theorem slice_not_bool {p : Option Addr} {n c : Nat} (b : Bool) : Value.slice p n c ≠ .bool b := fun h => by cases h
theorem sysV_not_bool : ∀ (l : List Sy) (c : Value), c ∈ sysV l → ∀ b, c ≠ .bool b
  | [], c, h, _ => by simp [sysV] at h
  | s :: l, c, h, b => by
    simp only [sysV, syV, List.mem_append, List.mem_cons, List.not_mem_nil, or_false] at h
    rcases h with (rfl | rfl | rfl) | h
    · intro h; cases h
    · intro h; cases h
    · intro h; cases h
    · exact sysV_not_bool l c h b
/-- The neg cell of the conjunct j of the row u is false. -/
def NegF (w : World) (u : Value) (j : Nat) : Prop := ∀ g o n c, u = .slice (some ⟨g, o, none⟩) n c → w.cell? ⟨g, o + j * 2, none⟩ = some (.bool false)
theorem NegF.struck {w w' : World} {u : Value} {j : Nat} (h : NegF w u j) (s : Struck w w') : NegF w' u j := fun g o n c e => by
  rcases s.neg _ _ (h g o n c e) with h1 | h1 <;> exact h1
/-- A row of conjuncts, all of whose negations are struck. -/
theorem cns_pos {w w' : World} {F : Nat → Prop} {u : Value} {l : List Cn} (h : IsCns w F u l) (s : Struck w w') (hd : ∀ j, j < l.length → NegF w' u j) : IsCns w' F u (l.map posC) := by
  obtain ⟨vs, ⟨p, c, e, hm, hx⟩, hl, hi⟩ := h
  have hsl : ∀ (k : Nat) (c0 : Cn) (v0 : Value), l[k]? = some c0 → vs[k]? = some v0 → ∀ b, v0 ≠ Value.bool b := fun k c0 v0 h1 h2 b => by
    obtain ⟨p', c', e', _⟩ := hi k c0 v0 h1 h2
    rw [e']; exact slice_not_bool b
  refine ⟨vs, ⟨p, c, by rw [List.length_map]; exact e, by rw [List.length_map]; exact hm, fun h0 => ?_⟩, by rw [List.length_map]; exact hl, fun k c0 v0 h1 h2 => ?_⟩
  · rw [List.length_map] at h0
    obtain ⟨g, o, e1, e2, e3, e4, e5⟩ := hx h0
    refine ⟨g, o, e1, e2, by rw [s.size]; exact e3, fun j x hj => ?_, fun j hj => (s.frz _).trans (e5 j (by rw [cnsV_length _ _ (by rw [List.length_map]; exact hl), List.length_map] at hj; rw [cnsV_length _ _ hl]; exact hj))⟩
    have hjl := (List.getElem?_eq_some_iff.1 hj).1
    rw [cnsV_length _ _ (by rw [List.length_map]; exact hl), List.length_map] at hjl
    have hk : j / 2 < l.length := by omega
    obtain ⟨c0, hc0⟩ : ∃ c0, l[j / 2]? = some c0 := ⟨_, List.getElem?_eq_getElem hk⟩
    obtain ⟨v0, hv0⟩ : ∃ v0, vs[j / 2]? = some v0 := ⟨_, List.getElem?_eq_getElem (by omega)⟩
    obtain ⟨a1, a2⟩ := cnsV_at (l.map posC) vs (j / 2) (posC c0) v0 (by rw [List.getElem?_map, hc0]; rfl) hv0
    obtain ⟨b1, b2⟩ := cnsV_at l vs (j / 2) c0 v0 hc0 hv0
    have hr : j % 2 = 0 ∨ j % 2 = 1 := by omega
    rcases hr with hr | hr
    · have ej : j / 2 * 2 = j := by omega
      rw [ej] at a1
      rw [a1] at hj
      obtain rfl := Option.some.inj hj
      have := hd (j / 2) hk g o l.length c (by rw [e, e1])
      rw [ej] at this
      exact this
    · have ej : j / 2 * 2 + 1 = j := by omega
      rw [ej] at a2 b2
      rw [a2] at hj
      obtain rfl := Option.some.inj hj
      exact s.cell _ _ (e4 j _ b2) (hsl _ _ _ hc0 hv0)
  · rw [List.getElem?_map] at h1
    obtain ⟨c1, hc1, rfl⟩ := Option.map_eq_some_iff.1 h1
    exact Reads.struck (hi k c1 v0 hc1 h2) s (sysV_not_bool _)
theorem rusV_pos : ∀ (l : List Ru) (vs : List Value), rusV (l.map posR) vs = rusV l vs
  | [], _ => rfl
  | _ :: _, [] => rfl
  | r :: l, v :: vs => by
    show .int .i64 r.head :: v :: rusV (l.map posR) vs = _
    rw [rusV_pos l vs]; rfl
end Go.Proofs.YtfjejnkjlnkkhaaGreatDoor
