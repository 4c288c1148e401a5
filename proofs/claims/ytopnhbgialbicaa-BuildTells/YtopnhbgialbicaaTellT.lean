/- What Build tells, as plain functions: whose fault it is stands in the declarations. No program in sight. -/
import Derived.Test.YtopnhbgialbicaaGramPl
namespace Go.Proofs.Ytopnhbgialbicaa
set_option linter.unusedVariables false

def cntT (s : ByteArray) : List ByteArray → Nat
  | [] => 0
  | a :: l => (if a = s then 1 else 0) + cntT s l
theorem cntT_app (s : ByteArray) : ∀ l m, cntT s (l ++ m) = cntT s l + cntT s m
  | [], m => by simp [cntT]
  | a :: l, m => by simp only [List.cons_append, cntT, cntT_app s l m]; omega
theorem cntT_mem {s : ByteArray} : ∀ {l : List ByteArray}, s ∈ l → 1 ≤ cntT s l
  | [], h => by simp at h
  | a :: l, h => by
    simp only [cntT]
    rcases List.mem_cons.1 h with e | e
    · subst e; rw [if_pos rfl]; omega
    · have := cntT_mem e; omega
theorem cntT_no {s : ByteArray} : ∀ {l : List ByteArray}, s ∉ l → cntT s l = 0
  | [], _ => rfl
  | a :: l, h => by
    simp only [cntT]
    rw [if_neg (fun e => h (by rw [e]; exact List.mem_cons_self)), cntT_no (fun e => h (List.mem_cons_of_mem _ e))]
theorem cntT_nodup {s : ByteArray} : ∀ {l : List ByteArray}, l.Nodup → cntT s l ≤ 1
  | [], _ => by simp [cntT]
  | a :: l, h => by
    have h1 := List.nodup_cons.1 h
    simp only [cntT]
    by_cases e : a = s
    · subst e; rw [if_pos rfl, cntT_no h1.1]; omega
    · rw [if_neg e]; have := cntT_nodup (s := s) h1.2; omega
theorem cntT_le (s : ByteArray) : ∀ l : List ByteArray, cntT s l ≤ l.length
  | [] => by simp [cntT]
  | a :: l => by have := cntT_le s l; simp only [cntT, List.length_cons]; split <;> omega
theorem cntT_take (s : ByteArray) (l : List ByteArray) (i : Nat) (x : ByteArray) (h : l[i]? = some x) : cntT s (l.take (i + 1)) = cntT s (l.take i) + (if x = s then 1 else 0) := by
  have hi := (List.getElem?_eq_some_iff.1 h).1
  have e : l.take (i + 1) = l.take i ++ [x] := by rw [List.take_add_one, h]; rfl
  rw [e, cntT_app]
  simp [cntT]
theorem place_mem : ∀ (l : List ByteArray) (s : ByteArray) (i : Nat), place l s = some i → l[i]? = some s
  | [], s, i, h => by simp [place] at h
  | a :: l, s, i, h => by
    unfold place at h
    split at h
    · next e => cases h; rw [e]; rfl
    · obtain ⟨j, h1, h2⟩ := Option.map_eq_some_iff.1 h
      subst h2
      rw [List.getElem?_cons_succ]; exact place_mem l s j h1
theorem place_some : ∀ (l : List ByteArray) (s : ByteArray), s ∈ l → ∃ i, place l s = some i
  | [], s, h => by simp at h
  | a :: l, s, h => by
    unfold place
    split
    · exact ⟨0, rfl⟩
    · next e =>
      rcases List.mem_cons.1 h with k | k
      · exact absurd k.symm e
      · obtain ⟨i, hi⟩ := place_some l s k
        exact ⟨i + 1, by rw [hi]; rfl⟩
theorem known_mem {l : List ByteArray} {s : ByteArray} (h : known l s = true) : s ∈ l := by
  unfold known at h
  obtain ⟨i, hi⟩ := Option.isSome_iff_exists.1 h
  exact List.mem_of_getElem? (place_mem l s i hi)
theorem known_no {l : List ByteArray} {s : ByteArray} (h : known l s = false) : s ∉ l := fun hm => by
  obtain ⟨i, hi⟩ := place_some l s hm
  unfold known at h
  rw [hi] at h
  simp at h
theorem againT_twice : ∀ (l seen : List ByteArray) (i : Nat), againT seen l i < i + l.length → ∃ j s, againT seen l i = i + j ∧ l[j]? = some s ∧ s ∈ seen ++ l.take j
  | [], seen, i, h => by simp [againT] at h
  | s :: l, seen, i, h => by
    unfold againT at h ⊢
    split at h
    · next hk => rw [if_pos hk]; exact ⟨0, s, rfl, rfl, by simpa using known_mem hk⟩
    · next hk =>
      rw [if_neg hk]
      obtain ⟨j, x, h1, h2, h3⟩ := againT_twice l (seen ++ [s]) (i + 1) (by simp only [List.length_cons] at h; omega)
      refine ⟨j + 1, x, by omega, by rw [List.getElem?_cons_succ]; exact h2, ?_⟩
      rw [List.take_succ_cons]
      simpa using h3
theorem againT_no : ∀ (l seen : List ByteArray) (i : Nat), i + l.length ≤ againT seen l i → l.Nodup ∧ ∀ s, s ∈ l → s ∉ seen
  | [], seen, i, _ => ⟨List.nodup_nil, fun s h => by simp at h⟩
  | a :: l, seen, i, h => by
    unfold againT at h
    split at h
    · simp only [List.length_cons] at h; omega
    · next hk =>
      obtain ⟨h1, h2⟩ := againT_no l (seen ++ [a]) (i + 1) (by simp only [List.length_cons] at h; omega)
      have hk' : known seen a = false := by simpa using hk
      refine ⟨List.nodup_cons.2 ⟨fun hm => (h2 a hm) (by simp), h1⟩, fun s hs => ?_⟩
      rcases List.mem_cons.1 hs with e | e
      · subst e; exact known_no hk'
      · exact fun hm => (h2 s e) (by simp [hm])
theorem findS_sat {σ : Type} {stop : σ → It → Bool} {step : σ → It → σ} : ∀ (l : List (ByteArray × It)) (s : σ) (x : ByteArray × It), findS stop step s l = some x → x ∈ l ∧ ∃ s', stop s' x.2 = true
  | [], s, x, h => by simp [findS] at h
  | y :: l, s, x, h => by
    unfold findS at h
    split at h
    · next hs => cases h; exact ⟨List.mem_cons_self, s, hs⟩
    · obtain ⟨h1, h2⟩ := findS_sat l _ x h
      exact ⟨List.mem_cons_of_mem _ h1, h2⟩
theorem flat_name {l : List Df} {x : ByteArray × It} (h : x ∈ flat l) : x.1 ∈ namesT l := by
  obtain ⟨d, hd, h1⟩ := List.mem_flatMap.1 h
  obtain ⟨a, ha, h2⟩ := List.mem_flatMap.1 h1
  obtain ⟨c, hc, h3⟩ := List.mem_flatMap.1 h2
  obtain ⟨i, hi, rfl⟩ := List.mem_map.1 h3
  exact List.mem_map.2 ⟨d, hd, rfl⟩
/-- What an answer of Build tells of the declarations. -/
def tells (r : Rw) : Bres → Prop
  | .error (n, k) => (k = 401 ∧ 1 < cntT n (namesT r.defs)) ∨ (k = 400 ∧ r.starts.length ≠ 1 ∧ n = ⟨#[]⟩) ∨ (k = 402 ∧ cntT n (namesT r.defs) = 0) ∨ (k = 403 ∧ cntT n (namesT r.defs) = 1) ∨ (k = 404 ∧ n = ⟨#[]⟩)
  | .ok g => mayG g = true ∧ r.starts.length = 1 ∧ g.names = namesT r.defs ∧ ∃ i : Nat, g.start = (i : Int) ∧ ∃ s, (namesT r.defs)[i]? = some s ∧ r.starts[0]? = some s
theorem tells_build (r : Rw) : tells r (buildT r) := by
  unfold buildT
  split
  · next h =>
    left
    refine ⟨rfl, ?_⟩
    obtain ⟨j, s, h1, h2, h3⟩ := againT_twice (namesT r.defs) [] 0 (by rw [Nat.zero_add]; exact h)
    have e : again (namesT r.defs) = j := by unfold again; rw [h1, Nat.zero_add]
    rw [e, List.getD_eq_getElem?_getD, h2]
    show 1 < cntT s _
    have h4 := cntT_mem (show s ∈ (namesT r.defs).take j by simpa using h3)
    have h5 := cntT_take s _ j s h2
    rw [if_pos rfl] at h5
    have h6 := cntT_app s ((namesT r.defs).take (j + 1)) ((namesT r.defs).drop (j + 1))
    rw [List.take_append_drop] at h6
    omega
  · next h =>
    have hn : (namesT r.defs).Nodup := (againT_no (namesT r.defs) [] 0 (by rw [Nat.zero_add]; exact Nat.not_lt.1 h)).1
    split
    · next hs => exact Or.inr (Or.inl ⟨rfl, hs, rfl⟩)
    · next hs =>
      have hs1 : r.starts.length = 1 := by omega
      split
      · next n hu =>
        refine Or.inr (Or.inr (Or.inl ⟨rfl, cntT_no ?_⟩))
        unfold unknownT at hu
        split at hu
        · next s hf =>
          cases hu
          have := List.find?_some hf
          exact known_no (by simpa using this)
        · obtain ⟨x, h1, rfl⟩ := Option.map_eq_some_iff.1 hu
          obtain ⟨_, _, h2⟩ := findS_sat _ _ _ h1
          unfold stopN at h2
          rw [Bool.and_eq_true] at h2
          exact known_no (by simpa using h2.2)
      · next hu =>
        split
        · next n hc =>
          refine Or.inr (Or.inr (Or.inr (Or.inl ⟨rfl, ?_⟩)))
          unfold crossedT at hc
          obtain ⟨x, h1, rfl⟩ := Option.map_eq_some_iff.1 hc
          have h2 := cntT_mem (flat_name (findS_sat _ _ _ h1).1)
          have h3 := cntT_nodup (s := x.1) hn
          omega
        · split
          · exact Or.inr (Or.inr (Or.inr (Or.inr ⟨rfl, rfl⟩)))
          · split
            · next hm =>
              refine ⟨hm, hs1, rfl, ?_⟩
              obtain ⟨s, hS⟩ : ∃ s, r.starts = [s] := List.length_eq_one_iff.1 hs1
              have hk : known (namesT r.defs) s = true := by
                unfold unknownT at hu
                split at hu
                · cases hu
                · next hf =>
                  have := List.find?_eq_none.1 hf s (by rw [hS]; exact List.mem_cons_self)
                  simpa using this
              obtain ⟨i, hi⟩ := place_some _ _ (known_mem hk)
              refine ⟨i, ?_, s, place_mem _ _ _ hi, by rw [hS]; rfl⟩
              show numOf (namesT r.defs) (startT r) = _
              unfold numOf startT
              rw [hS]
              show (((place (namesT r.defs) s).getD 0 : Nat) : Int) = _
              rw [hi]; rfl
            · exact Or.inr (Or.inr (Or.inr (Or.inr ⟨rfl, rfl⟩)))
end Go.Proofs.Ytopnhbgialbicaa
