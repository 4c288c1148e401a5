/- New of any grammar, in one wording; a grammar with a name more is small if it was. -/
import Derived.Test.YtclceeghjgeplaaGreatDoorMaw
import Derived.Test.YtclceeghjgeplaaGreatDoorMlX
namespace Go.Proofs.YtclceeghjgeplaaGreatDoor
set_option linter.unusedVariables false
open Go.ChangeShapes Go.WideShapes Go.ChangeAt Go.RowKit Go.Maps

theorem new_two (g : Gr) (T : ByteArray) (u1 u2 : Value) (w : World) {F : Nat → Prop} (hg : GrIs w F u1 u2 g) (hn : ∀ s, s ∈ g.names → s.size ≤ maxLen) (hS : Short g.rules) (hG : TabG w) :
    Calls Tryz.prog 14 #[.agg #[.int .i64 g.start, u1, u2], .string T] w fun e w' => ∃ pt z, e = .returned (.tuple #[.pointer pt, .int .i64 z]) ∧ Hid ((z = 1100 ∧ pt = none) ∨ ∃ ub, z = 0 ∧ pt = some ⟨ub, 0, none⟩ ∧ TmIs g T ub w') ∧ Hid (Below w.heap.size w w') := by
  by_cases hM : mayG g = true ∧ (edgesT g).find? (badE g.names.length (edgesT g)) = none ∧ T.size ≤ 32
  · exact (new_any g T u1 u2 w hg hn hS hM.1 hM.2.1 hM.2.2 hG).mono fun e w' ⟨tb, h1, h2, h3⟩ => ⟨_, _, h1, Or.inr ⟨tb, rfl, rfl, h2.out⟩, h3⟩
  · exact (new_all g T u1 u2 w hg hn hS hM).mono fun e w' ⟨h1, h2⟩ => ⟨_, _, h1, Or.inl ⟨rfl, rfl⟩, h2⟩
theorem small_ext {g : Gr} {cs : List Cn} (hn : ∀ s, s ∈ g.names → s.size ≤ maxLen) : ∀ s, s ∈ (extG g cs).names → s.size ≤ maxLen := fun s hs => by
  rcases List.mem_append.1 hs with h | h
  · exact hn s h
  · rw [List.mem_singleton.1 h]; decide
theorem short_ext {g : Gr} {cs : List Cn} (hS : Short g.rules) (hc : ∀ c, c ∈ cs → c.seq.length ≤ 64) : Short (extG g cs).rules := fun r hr c hcc => by
  rcases List.mem_append.1 hr with h | h
  · exact hS r h c hcc
  · rw [List.mem_singleton.1 h] at hcc
    have := hc c hcc
    omega
end Go.Proofs.YtclceeghjgeplaaGreatDoor
