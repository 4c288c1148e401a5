/- A name that is another one and its negation: if that grammar may be, so may each alone; plain. No program in sight. -/
import Derived.Test.YtfjejnkjlnkkhaaGreatDoorMzG
namespace Go.Proofs.YtfjejnkjlnkkhaaGreatDoor
set_option linter.unusedVariables false

section
variable {st : Int} {ns : List ByteArray} {m : Int} {k : Nat}
theorem heads_same (n : Nat) (a c : List Cn) : ∀ (L : List Ru) (z : Int), mayHeads n z (L ++ [⟨m, a⟩]) = mayHeads n z (L ++ [⟨m, c⟩])
  | [], z => rfl
  | r :: L, z => by
    show (isNum r.head n && ((decide (r.head = z) || decide (r.head = z + 1)) && mayHeads n r.head (L ++ [⟨m, a⟩]))) = (isNum r.head n && ((decide (r.head = z) || decide (r.head = z + 1)) && mayHeads n r.head (L ++ [⟨m, c⟩])))
    rw [heads_same n a c L r.head]
theorem cs_one (n t : Nat) {b : Bool} (h1 : t + 1 ≤ 1024) (h2 : mayRow n [⟨(k : Int), 0, 0⟩] = true) : mayRs n t [⟨m, [⟨b, [⟨(k : Int), 0, 0⟩]⟩]⟩] = true := by
  show (if 1 ≤ 1 ∧ 1 ≤ 8 then (match (if t + 1 ≤ 1024 ∧ mayRow n [⟨(k : Int), 0, 0⟩] = true then some (t + 1) else none) with | none => false | some m => true) else false) = true
  rw [if_pos ⟨by omega, by omega⟩, if_pos ⟨h1, h2⟩]
theorem cs_two (n t : Nat) (h : mayRs n t [⟨m, sgB k⟩] = true) : t + 1 ≤ 1024 ∧ mayRow n [⟨(k : Int), 0, 0⟩] = true := by
  have h1 : (if 1 ≤ 2 ∧ 2 ≤ 8 then (match (if t + 1 ≤ 1024 ∧ mayRow n [⟨(k : Int), 0, 0⟩] = true then (if t + 1 + 1 ≤ 1024 ∧ mayRow n [⟨(k : Int), 0, 0⟩] = true then some (t + 1 + 1) else none) else none) with | none => false | some m => true) else false) = true := h
  rw [if_pos ⟨by omega, by omega⟩] at h1
  by_cases hc : t + 1 ≤ 1024 ∧ mayRow n [⟨(k : Int), 0, 0⟩] = true
  · exact hc
  · rw [if_neg hc] at h1; cases h1
theorem rs_less (n : Nat) {b : Bool} : ∀ (L : List Ru) (t : Nat), mayRs n t (L ++ [⟨m, sgB k⟩]) = true → mayRs n t (L ++ [⟨m, [⟨b, [⟨(k : Int), 0, 0⟩]⟩]⟩]) = true
  | [], t, h => by
    obtain ⟨h1, h2⟩ := cs_two n t h
    exact cs_one n t h1 h2
  | r :: L, t, h => by
    have h1 : (if 1 ≤ r.conj.length ∧ r.conj.length ≤ 8 then (match mayCs n t r.conj with | none => false | some m' => mayRs n m' (L ++ [⟨m, sgB k⟩])) else false) = true := h
    show (if 1 ≤ r.conj.length ∧ r.conj.length ≤ 8 then (match mayCs n t r.conj with | none => false | some m' => mayRs n m' (L ++ [⟨m, [⟨b, [⟨(k : Int), 0, 0⟩]⟩]⟩])) else false) = true
    by_cases hc : 1 ≤ r.conj.length ∧ r.conj.length ≤ 8
    · rw [if_pos hc] at h1 ⊢
      cases hm : mayCs n t r.conj with
      | none => rw [hm] at h1; cases h1
      | some m' =>
        rw [hm] at h1
        exact rs_less n L m' h1
    · rw [if_neg hc] at h1; cases h1
theorem may_less {L : List Ru} {b : Bool} (h : mayG ⟨st, ns, L ++ [⟨m, sgB k⟩]⟩ = true) : mayG ⟨st, ns, L ++ [⟨m, [⟨b, [⟨(k : Int), 0, 0⟩]⟩]⟩]⟩ = true := by
  unfold mayG mayRules at h ⊢
  simp only [Bool.and_eq_true, decide_eq_true_eq, List.length_append, List.length_cons, List.length_nil] at h ⊢
  obtain ⟨h1, h2, h3, h4, h5, h6⟩ := h
  exact ⟨h1, h2, by rw [heads_same _ _ (sgB k)]; exact h3, h4, h5, rs_less _ L 0 h6⟩
theorem edges_less {L : List Ru} {b : Bool} (x : Ed) (h : x ∈ edgesT ⟨st, ns, L ++ [⟨m, [⟨b, [⟨(k : Int), 0, 0⟩]⟩]⟩]⟩) : x ∈ edgesT ⟨st, ns, L ++ [⟨m, sgB k⟩]⟩ := by
  rw [mem_edgesT] at h ⊢
  rw [mem_allE] at h ⊢
  obtain ⟨r, hr, hx⟩ := h
  rcases List.mem_append.1 hr with hr | hr
  · exact ⟨r, List.mem_append_left _ hr, hx⟩
  · rw [List.mem_singleton.1 hr] at hx
    refine ⟨⟨m, sgB k⟩, by simp, ?_⟩
    rw [mem_cnsE] at hx ⊢
    obtain ⟨c, hc, hs⟩ := hx
    rw [List.mem_singleton.1 hc] at hs
    refine ⟨⟨b, [⟨(k : Int), 0, 0⟩]⟩, ?_, hs⟩
    unfold sgB
    cases b <;> simp
theorem clean_less {l l' : List Ed} (hs : ∀ e, e ∈ l → e ∈ l') (h : Clean l') : Clean l := fun e he hn hw => h e (hs e he) hn (hw.mono hs)
end
end Go.Proofs.YtfjejnkjlnkkhaaGreatDoor
