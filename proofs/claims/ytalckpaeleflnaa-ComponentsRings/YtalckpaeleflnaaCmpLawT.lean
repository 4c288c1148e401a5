/- What hangs together: an equivalence, and the least of each; plain facts for the laws of layer 7. No program in sight. -/
import Derived.Test.YtalckpaeleflnaaCmpRefT
namespace Go.Proofs.Ytalckpaeleflnaa
set_option linter.unusedVariables false

section
variable {n : Nat} {l : List Ed}
theorem both_iff (hl : edsB (n : Int) l = true) {i j : Nat} (hi : i < n) (hj : j < n) : both n l i j = true ↔ Way l i j ∧ Way l j i := by
  unfold both
  rw [Bool.and_eq_true, way_iff hl hi, way_iff hl hj]
theorem both_symm (i j : Nat) : both n l i j = both n l j i := by unfold both; rw [Bool.and_comm]
theorem both_trans (hl : edsB (n : Int) l = true) {i j k : Nat} (hi : i < n) (hj : j < n) (hk : k < n) (h1 : both n l i j = true) (h2 : both n l j k = true) : both n l i k = true := by
  rw [both_iff hl hi hj] at h1
  rw [both_iff hl hj hk] at h2
  rw [both_iff hl hi hk]
  exact ⟨h1.1.trans h2.1, h2.2.trans h1.2⟩
theorem comp_idem (hl : edsB (n : Int) l = true) {i : Nat} (hi : i < n) : comp n l (comp n l i) = comp n l i := by
  obtain ⟨h1, h2, h3⟩ := comp_spec hl hi
  refine lst_eq (Nat.le_refl _) (fun h => absurd h (Nat.lt_irrefl _)) fun j hj => ?_
  rw [← Bool.not_eq_true]
  intro h
  have := both_trans hl hi (by omega) (by omega) h2 h
  rw [h3 j hj] at this; cases this
theorem comp_eq (hl : edsB (n : Int) l = true) {i j : Nat} (hi : i < n) (hj : j < n) : comp n l i = comp n l j ↔ both n l i j = true := by
  obtain ⟨a1, a2, a3⟩ := comp_spec hl hi
  obtain ⟨b1, b2, b3⟩ := comp_spec hl hj
  constructor
  · intro e
    rw [← e] at b2
    exact both_trans hl hi (by omega) hj a2 (by rw [both_symm]; exact b2)
  · intro h
    have c1 : ¬ comp n l j < comp n l i := fun hlt => by
      have := both_trans hl hi hj (by omega) h b2
      rw [a3 _ hlt] at this; cases this
    have c2 : ¬ comp n l i < comp n l j := fun hlt => by
      have := both_trans hl hj hi (by omega) (by rw [both_symm]; exact h) a2
      rw [b3 _ hlt] at this; cases this
    omega
theorem way_more (hl : edsB (n : Int) l = true) {i : Nat} (hi : i < n) {e : Ed} (he : e ∈ l) (h : wayB n l i e.1.toNat = true) : wayB n l i e.2.1.toNat = true :=
  way_full hl hi ((way_sound h).trans (Way.edge he))
theorem reach_way (hm : mayE (n : Int) l = true) {i j : Nat} (hi : i < n) (hj : j < n) : reachT (n : Int) l (i : Int) (j : Int) = wayB n l i j := by
  unfold reachT endB
  rw [hm]; simp [hi, hj]
end
/-- Edges with an edge more. -/
theorem way_snoc {l : List Ed} {e : Ed} {i j : Nat} : Way (l ++ [e]) i j ↔ Way l i j ∨ Way l i e.1.toNat ∧ Way l e.2.1.toNat j := by
  constructor
  · intro h
    refine Way.ind (l := l ++ [e]) (S := fun x => Way l i x ∨ Way l i e.1.toNat ∧ Way l e.2.1.toNat x) (fun d hd hx => ?_) h (Or.inl (Way.refl _ _))
    rcases List.mem_append.1 hd with hd | hd
    · rcases hx with hx | hx
      · exact Or.inl (hx.trans (Way.edge hd))
      · exact Or.inr ⟨hx.1, hx.2.trans (Way.edge hd)⟩
    · obtain rfl : d = e := by simpa using hd
      rcases hx with hx | hx
      · exact Or.inr ⟨hx, Way.refl _ _⟩
      · exact Or.inr ⟨hx.1, Way.refl _ _⟩
  · rintro (h | h)
    · exact h.mono fun d hd => List.mem_append_left _ hd
    · exact (h.1.mono fun d hd => List.mem_append_left _ hd).trans ((Way.edge (List.mem_append_right _ List.mem_cons_self)).trans (h.2.mono fun d hd => List.mem_append_left _ hd))
end Go.Proofs.Ytalckpaeleflnaa
