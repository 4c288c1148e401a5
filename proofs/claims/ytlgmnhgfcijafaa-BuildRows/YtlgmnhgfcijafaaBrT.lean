/- BuildRows, plain: three definitions and their rules. No program in sight. -/
import Derived.Test.YtlgmnhgfcijafaaGramPl
namespace Go.Proofs.Ytlgmnhgfcijafaa
set_option linter.unusedVariables false
set_option linter.unusedSimpArgs false

def nmQ : Nat → ByteArray
  | 0 => ⟨#[98]⟩
  | 1 => ⟨#[97]⟩
  | _ => ⟨#[99]⟩
def ngQ (j : Nat) : Bool := j % 2 == 1
def itsQ (T : ByteArray) (i j : Nat) : List It := [⟨1, T, 0, 0⟩, ⟨0, nmQ ((i + j) % 3), 0, 0⟩, ⟨2, ⟨#[]⟩, (j : Int), 9⟩]
def altQ (T : ByteArray) (i j : Nat) : List Cj := [⟨ngQ j, itsQ T i j⟩]
def defQ (T : ByteArray) (i k : Nat) : Df := ⟨nmQ i, (List.range k).map (altQ T i)⟩
def sysQ (T : ByteArray) (i j : Nat) : List Sy := bytesT T ++ [⟨(((i + j) % 3 : Nat) : Int), 0, 0⟩, ⟨-1, (j : Int), 9⟩]
def rulQ (T : ByteArray) (i j : Nat) : Ru := ⟨(i : Int), [⟨ngQ j, sysQ T i j⟩]⟩
def defsQ (T : ByteArray) (K : Nat → Nat) (n : Nat) : List Df := (List.range n).map fun i => defQ T i (K i)
def rusQ (T : ByteArray) (K : Nat → Nat) : Nat → List Ru
  | 0 => []
  | n + 1 => rusQ T K n ++ (List.range (K n)).map (rulQ T n)
def nmsQ : List ByteArray := [nmQ 0, nmQ 1, nmQ 2]
def rawQ (T : ByteArray) (K : Nat → Nat) (s : Nat) : Rw := ⟨[nmQ s], defsQ T K 3⟩
def grQ (T : ByteArray) (K : Nat → Nat) (s : Nat) : Gr := ⟨(s : Int), nmsQ, rusQ T K 3⟩
theorem namesQ (T : ByteArray) (K : Nat → Nat) : namesT (defsQ T K 3) = nmsQ := rfl
theorem numQ : ∀ m, m < 3 → numOf nmsQ (nmQ m) = (m : Int) := by decide +kernel
theorem knownQ : ∀ m, m < 3 → known nmsQ (nmQ m) = true := by decide +kernel
theorem mayNmsQ : mayNames nmsQ = true := by decide +kernel
theorem againQ : again nmsQ = 3 := by decide +kernel
theorem sysQ_len (T : ByteArray) (i j : Nat) : (sysQ T i j).length = T.size + 2 := by
  unfold sysQ bytesT
  rw [List.length_append, List.length_map]
  rfl
theorem findS_none {σ : Type} {stop : σ → It → Bool} {step : σ → It → σ} : ∀ (l : List (ByteArray × It)) (s : σ), (∀ x, x ∈ l → ∀ s, stop s x.2 = false) → findS stop step s l = none
  | [], _, _ => rfl
  | x :: l, s, h => by
    show (if stop s x.2 = true then _ else _) = _
    rw [if_neg (by rw [h x (List.mem_cons_self)]; decide)]
    exact findS_none l _ (fun y hy => h y (List.mem_cons_of_mem _ hy))
theorem findS_long : ∀ (l : List (ByteArray × It)) (n : Nat), (∀ x, x ∈ l → width x.2 ≤ 20) → n + 20 * l.length ≤ 1024 → findS stopL stepL n l = none
  | [], _, _, _ => rfl
  | x :: l, n, h, hn => by
    have h1 := h x (List.mem_cons_self)
    rw [List.length_cons] at hn
    show (if stopL n x.2 = true then _ else _) = _
    rw [if_neg (by unfold stopL; simp; omega)]
    exact findS_long l _ (fun y hy => h y (List.mem_cons_of_mem _ hy)) (by unfold stepL; omega)
theorem flatQ_mem {T : ByteArray} {K : Nat → Nat} (hK : ∀ i, 1 ≤ K i ∧ K i ≤ 4) {n : Nat} : ∀ x, x ∈ flat (defsQ T K n) → x.2 = ⟨1, T, 0, 0⟩ ∨ (∃ m, m < 3 ∧ x.2 = ⟨0, nmQ m, 0, 0⟩) ∨ ∃ j : Nat, j < 4 ∧ x.2 = ⟨2, ⟨#[]⟩, (j : Int), 9⟩ := fun x hx => by
  unfold flat defsQ at hx
  rw [List.mem_flatMap] at hx
  obtain ⟨d, hd, hx⟩ := hx
  rw [List.mem_map] at hd
  obtain ⟨i, _, rfl⟩ := hd
  unfold flatD at hx
  rw [List.mem_flatMap] at hx
  obtain ⟨a, ha, hx⟩ := hx
  have ha' : a ∈ (List.range (K i)).map (altQ T i) := ha
  rw [List.mem_map] at ha'
  obtain ⟨j, hj, rfl⟩ := ha'
  rw [List.mem_range] at hj
  have h4 := (hK i).2
  have hx' : x ∈ [(nmQ i, (⟨1, T, 0, 0⟩ : It)), (nmQ i, ⟨0, nmQ ((i + j) % 3), 0, 0⟩), (nmQ i, ⟨2, ⟨#[]⟩, (j : Int), 9⟩)] := by simpa [flatA, flatC, altQ, itsQ, defQ] using hx
  simp only [List.mem_cons, List.not_mem_nil, or_false] at hx'
  rcases hx' with rfl | rfl | rfl
  · exact Or.inl rfl
  · exact Or.inr (Or.inl ⟨_, Nat.mod_lt _ (by decide), rfl⟩)
  · exact Or.inr (Or.inr ⟨j, by omega, rfl⟩)
theorem flatD_len (T : ByteArray) (i : Nat) : ∀ k, (flatD (defQ T i k)).length = 3 * k
  | 0 => rfl
  | k + 1 => by
    have h := flatD_len T i k
    unfold flatD defQ at h ⊢
    rw [List.range_succ, List.map_append, List.flatMap_append, List.length_append, h]
    rfl
theorem flatQ_len (T : ByteArray) {K : Nat → Nat} (hK : ∀ i, 1 ≤ K i ∧ K i ≤ 4) : (flat (defsQ T K 3)).length ≤ 36 := by
  have e : flat (defsQ T K 3) = flatD (defQ T 0 (K 0)) ++ (flatD (defQ T 1 (K 1)) ++ (flatD (defQ T 2 (K 2)) ++ [])) := rfl
  rw [e]
  simp only [List.length_append, flatD_len, List.length_nil]
  have := (hK 0).2
  have := (hK 1).2
  have := (hK 2).2
  omega
theorem rulesQ (T : ByteArray) (K : Nat → Nat) (hK : ∀ i, 1 ≤ K i ∧ K i ≤ 4) : rulesT nmsQ (defsQ T K 3) = rusQ T K 3 := by
  have row : ∀ i, i < 3 → rulesD nmsQ (defQ T i (K i)) = (List.range (K i)).map (rulQ T i) := fun i hi => by
    unfold rulesD defQ
    simp only [List.map_map]
    refine List.map_congr_left fun j hj => ?_
    show Ru.mk (numOf nmsQ (nmQ i)) ((altQ T i j).map (cnT nmsQ)) = _
    rw [numQ i hi]
    have e : rowT nmsQ (itsQ T i j) = sysQ T i j := by
      show bytesT T ++ ([⟨numOf nmsQ (nmQ ((i + j) % 3)), 0, 0⟩] ++ ([⟨-1, (j : Int), 9⟩] ++ [])) = _
      rw [numQ _ (Nat.mod_lt _ (by decide))]
      rfl
    show Ru.mk _ [⟨ngQ j, rowT nmsQ (itsQ T i j)⟩] = _
    rw [e]
    rfl
  have e : rulesT nmsQ (defsQ T K 3) = rulesD nmsQ (defQ T 0 (K 0)) ++ (rulesD nmsQ (defQ T 1 (K 1)) ++ (rulesD nmsQ (defQ T 2 (K 2)) ++ [])) := rfl
  rw [e, row 0 (by decide), row 1 (by decide), row 2 (by decide)]
  simp [rusQ]
theorem heads_row {k i : Nat} (hk : i < k) (f : Nat → Ru) (hf : ∀ j, (f j).head = (i : Int)) (rest : List Ru) : ∀ (l : List Nat) (last : Int), l ≠ [] → (last = (i : Int) ∨ last + 1 = (i : Int)) → mayHeads k last (l.map f ++ rest) = mayHeads k (i : Int) rest
  | [], _, h, _ => absurd rfl h
  | a :: l, last, _, h => by
    have e1 : isNum (f a).head k = true := by rw [hf]; unfold isNum; simp; omega
    have e2 : (decide ((f a).head = last) || decide ((f a).head = last + 1)) = true := by rw [hf]; simp; omega
    have e3 : mayHeads k last ((a :: l).map f ++ rest) = mayHeads k (f a).head (l.map f ++ rest) := by
      show (isNum (f a).head k && ((decide ((f a).head = last) || decide ((f a).head = last + 1)) && mayHeads k (f a).head (l.map f ++ rest))) = _
      rw [e1, e2]; rfl
    rw [e3, hf]
    by_cases hl : l = []
    · subst hl; rfl
    · exact heads_row hk f hf rest l _ hl (Or.inl rfl)
theorem mayRowQ (T : ByteArray) (hT : T.size ≤ 20) (i j : Nat) (hj : j < 4) : mayRow 3 (sysQ T i j) = true := by
  unfold mayRow
  rw [sysQ_len]
  simp only [Bool.and_eq_true, decide_eq_true_eq, List.all_eq_true]
  refine ⟨by omega, fun s hs => ?_⟩
  unfold sysQ at hs
  rcases List.mem_append.1 hs with hs | hs
  · unfold bytesT at hs
    obtain ⟨c, _, rfl⟩ := List.mem_map.1 hs
    have := c.toNat_lt
    unfold maySym
    rw [if_pos rfl]
    simp
    omega
  · simp only [List.mem_cons, List.not_mem_nil, or_false] at hs
    rcases hs with rfl | rfl
    · have := Nat.mod_lt (i + j) (show 0 < 3 by decide)
      unfold maySym
      rw [if_neg (by show ¬ (((i + j) % 3 : Nat) : Int) = -1; omega)]
      unfold isNum
      simp
      omega
    · unfold maySym
      rw [if_pos rfl]
      simp
      omega
theorem mayRs_rowQ (T : ByteArray) (hT : T.size ≤ 20) (i : Nat) (rest : List Ru) : ∀ (l : List Nat) (n : Nat), (∀ j, j ∈ l → j < 4) → n + 22 * l.length ≤ 1024 → (∀ n', n' ≤ n + 22 * l.length → mayRs 3 n' rest = true) → mayRs 3 n (l.map (rulQ T i) ++ rest) = true
  | [], n, _, _, h => h n (by simp)
  | j :: l, n, hl, hn, h => by
    rw [List.length_cons] at hn h
    have hlen := sysQ_len T i j
    have e : mayCs 3 n [⟨ngQ j, sysQ T i j⟩] = some (n + (sysQ T i j).length) := by
      show (if n + (sysQ T i j).length ≤ 1024 ∧ mayRow 3 (sysQ T i j) = true then _ else _) = _
      rw [if_pos ⟨by omega, mayRowQ T hT i j (hl j (List.mem_cons_self))⟩]
      rfl
    show mayRs 3 n (rulQ T i j :: (l.map (rulQ T i) ++ rest)) = true
    rw [mayRs, if_pos ⟨Nat.le_refl _, by show (1 : Nat) ≤ 8; decide⟩]
    show (match mayCs 3 n [⟨ngQ j, sysQ T i j⟩] with | none => false | some m => mayRs 3 m (l.map (rulQ T i) ++ rest)) = true
    rw [e]
    exact mayRs_rowQ T hT i rest l _ (fun x hx => hl x (List.mem_cons_of_mem _ hx)) (by omega) (fun n' hn' => h n' (by omega))
theorem mayQ (T : ByteArray) (hT : T.size ≤ 20) {K : Nat → Nat} (hK : ∀ i, 1 ≤ K i ∧ K i ≤ 4) {s : Nat} (hs : s < 3) : mayG (grQ T K s) = true := by
  have e : rusQ T K 3 = (List.range (K 0)).map (rulQ T 0) ++ ((List.range (K 1)).map (rulQ T 1) ++ ((List.range (K 2)).map (rulQ T 2) ++ [])) := by simp [rusQ]
  have hne : ∀ i, List.range (K i) ≠ [] := fun i h => by have := (hK i).1; have := congrArg List.length h; simp at this; omega
  have hlt : ∀ i, ∀ j, j ∈ List.range (K i) → j < 4 := fun i j hj => by rw [List.mem_range] at hj; have := (hK i).2; omega
  have k0 := hK 0
  have k1 := hK 1
  have k2 := hK 2
  have h1 : mayHeads 3 (-1) (rusQ T K 3) = true := by
    rw [e, heads_row (i := 0) (by decide) (rulQ T 0) (fun _ => rfl) _ _ _ (hne 0) (Or.inr rfl), heads_row (i := 1) (by decide) (rulQ T 1) (fun _ => rfl) _ _ _ (hne 1) (Or.inr rfl), heads_row (i := 2) (by decide) (rulQ T 2) (fun _ => rfl) _ _ _ (hne 2) (Or.inr rfl)]
    rfl
  have h2 : mayRs 3 0 (rusQ T K 3) = true := by
    rw [e]
    refine mayRs_rowQ T hT 0 _ _ 0 (hlt 0) (by rw [List.length_range]; omega) fun n1 hn1 => ?_
    rw [List.length_range] at hn1
    refine mayRs_rowQ T hT 1 _ _ n1 (hlt 1) (by rw [List.length_range]; omega) fun n2 hn2 => ?_
    rw [List.length_range] at hn2
    refine mayRs_rowQ T hT 2 _ _ n2 (hlt 2) (by rw [List.length_range]; omega) fun n3 hn3 => rfl
  have h3 : (rusQ T K 3).length = K 0 + (K 1 + K 2) := by rw [e]; simp
  unfold mayG mayRules
  show (mayNames nmsQ && (isNum (s : Int) 3 && (mayHeads 3 (-1) (rusQ T K 3) && (decide (1 ≤ (rusQ T K 3).length) && (decide ((rusQ T K 3).length ≤ 256) && mayRs 3 0 (rusQ T K 3)))))) = true
  rw [mayNmsQ, h1, h2, h3]
  unfold isNum
  simp
  omega
theorem buildQ (T : ByteArray) (hT : T.size ≤ 20) {K : Nat → Nat} (hK : ∀ i, 1 ≤ K i ∧ K i ≤ 4) {s : Nat} (hs : s < 3) : buildT (rawQ T K s) = .ok (grQ T K s) := by
  have g : gramT (rawQ T K s) = grQ T K s := by
    show Gr.mk (numOf nmsQ (nmQ s)) nmsQ (rulesT nmsQ (defsQ T K 3)) = _
    rw [numQ s hs, rulesQ T K hK]
    rfl
  have u : unknownT (rawQ T K s) nmsQ = none := by
    unfold unknownT
    have e1 : (rawQ T K s).starts.find? (fun s => !known nmsQ s) = none := by
      show List.find? _ [nmQ s] = none
      rw [List.find?_cons, knownQ s hs]
      rfl
    rw [e1]
    show (findS (stopN nmsQ) (fun _ _ => ()) () (flat (defsQ T K 3))).map _ = none
    rw [findS_none _ _ (fun x hx _ => ?_)]
    · rfl
    · rcases flatQ_mem hK x hx with h | ⟨m, hm, h⟩ | ⟨j, hj, h⟩
      · rw [h]; rfl
      · rw [h]; unfold stopN; rw [knownQ m hm]; rfl
      · rw [h]; rfl
  have c : crossedT (defsQ T K 3) = none := by
    unfold crossedT
    rw [findS_none _ _ (fun x hx _ => ?_)]
    · rfl
    · rcases flatQ_mem hK x hx with h | ⟨m, hm, h⟩ | ⟨j, hj, h⟩
      · rw [h]; rfl
      · rw [h]; rfl
      · rw [h]
        show (decide ((2 : Int) = 2) && decide ((9 : Int) < (j : Int))) = false
        rw [show decide ((9 : Int) < (j : Int)) = false from decide_eq_false (by omega)]
        rfl
  have l : tooLongT (defsQ T K 3) = false := by
    unfold tooLongT
    rw [findS_long _ 0 (fun x hx => ?_) (by have := flatQ_len T hK; omega)]
    · rfl
    · rcases flatQ_mem hK x hx with h | ⟨m, hm, h⟩ | ⟨j, hj, h⟩
      · rw [h]; show (if (1 : Int) = 1 then T.size else 1) ≤ 20; rw [if_pos rfl]; exact hT
      · rw [h]; show (1 : Nat) ≤ 20; decide
      · rw [h]; show (1 : Nat) ≤ 20; decide
  unfold buildT
  rw [show namesT (rawQ T K s).defs = nmsQ from rfl, againQ, if_neg (by decide), if_neg (by show ¬ (1 : Nat) ≠ 1; decide), u]
  show (match crossedT (defsQ T K 3) with | some n => _ | none => _) = _
  rw [c]
  show (if tooLongT (defsQ T K 3) = true then _ else _) = _
  rw [l, g, mayQ T hT hK hs]
  rfl
end Go.Proofs.Ytlgmnhgfcijafaa
