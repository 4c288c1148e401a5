/- Names in a row or in a ring, each needs the next one, negated or not: the grammar, its edges, its levels, its cycle. No program in sight. -/
import Derived.Test.YtipnfiaphmddiaaStrT
import Derived.Test.YtipnfiaphmddiaaDepRowsT
namespace Go.Proofs.Ytipnfiaphmddiaa
set_option linter.unusedVariables false

def cj8 (k : Nat) (ng : Nat → Bool) (rg : Bool) (i : Nat) : List Cn := if (decide (i + 1 < k) || rg) = true then [⟨false, []⟩, ⟨ng i, [⟨(((i + 1) % k : Nat) : Int), 0, 0⟩]⟩] else [⟨false, []⟩]
def ru8 (k : Nat) (ng : Nat → Bool) (rg : Bool) (i : Nat) : Ru := ⟨(i : Int), cj8 k ng rg i⟩
def rus8 (k : Nat) (ng : Nat → Bool) (rg : Bool) (m : Nat) : List Ru := (List.range m).map (ru8 k ng rg)
def gr8 (k : Nat) (ng : Nat → Bool) (rg : Bool) : Gr := ⟨0, nmsR k, rus8 k ng rg k⟩
theorem rus8_succ (k : Nat) (ng : Nat → Bool) (rg : Bool) (m : Nat) : rus8 k ng rg (m + 1) = rus8 k ng rg m ++ [ru8 k ng rg m] := by unfold rus8; rw [List.range_succ, List.map_append]; rfl
theorem rus8_len (k : Nat) (ng : Nat → Bool) (rg : Bool) (m : Nat) : (rus8 k ng rg m).length = m := by simp [rus8]
theorem pos8 (k : Nat) (ng : Nat → Bool) (rg : Bool) : posG (gr8 k ng rg) = gr8 k (fun _ => false) rg := by
  unfold posG gr8 rus8
  simp only [List.map_map]
  congr 1
  refine List.map_congr_left fun i _ => ?_
  show posR (ru8 k ng rg i) = _
  unfold ru8 posR cj8
  split <;> rfl
theorem may8_tab : ∀ k, k < 33 → 1 ≤ k → mayG (gr8 k (fun _ => false) true) = true ∧ mayG (gr8 k (fun _ => false) false) = true := by decide +kernel
theorem may8 (k : Nat) (ng : Nat → Bool) (rg : Bool) (h : k < 33) (h1 : 1 ≤ k) : mayG (gr8 k ng rg) = true := by
  rw [← pos_may, pos8]
  cases rg
  · exact (may8_tab k h h1).2
  · exact (may8_tab k h h1).1
theorem short8 (k : Nat) (ng : Nat → Bool) (rg : Bool) (m : Nat) : Short (rus8 k ng rg m) := fun r hr c hc => by
  obtain ⟨i, _, rfl⟩ := List.mem_map.1 hr
  have hc2 : c ∈ cj8 k ng rg i := hc
  unfold cj8 at hc2
  split at hc2
  · simp only [List.mem_cons, List.not_mem_nil, or_false] at hc2
    rcases hc2 with rfl | rfl <;> simp
  · simp only [List.mem_cons, List.not_mem_nil, or_false] at hc2
    subst hc2
    simp
/-- Its edges: one of each name that needs the next one. -/
def ed8 (k : Nat) (ng : Nat → Bool) (i : Nat) : Ed := ((i : Int), (((i + 1) % k : Nat) : Int), ng i)
def eds8 (k : Nat) (ng : Nat → Bool) (m : Nat) : List Ed := (List.range m).map (ed8 k ng)
def top8 (k : Nat) (rg : Bool) : Nat := if rg = true then k else k - 1
theorem mem8 {k m : Nat} {ng : Nat → Bool} {e : Ed} : e ∈ eds8 k ng m ↔ ∃ i, i < m ∧ e = ed8 k ng i := by
  unfold eds8
  simp only [List.mem_map, List.mem_range]
  constructor
  · rintro ⟨i, hi, rfl⟩; exact ⟨i, hi, rfl⟩
  · rintro ⟨i, hi, rfl⟩; exact ⟨i, hi, rfl⟩
theorem rise8 (k m : Nat) (ng : Nat → Bool) : (eds8 k ng m).Pairwise fun x y => ltE x y = true := by
  unfold eds8
  rw [List.pairwise_map]
  refine (List.pairwise_lt_range (n := m)).imp fun {a b} h => ?_
  rw [ltE_iff]
  left
  show (a : Int) < (b : Int)
  omega
theorem edges8 (k : Nat) (ng : Nat → Bool) (rg : Bool) (h1 : 1 ≤ k) : edgesT (gr8 k ng rg) = eds8 k ng (top8 k rg) := by
  refine edgesT_eq (rise8 _ _ _) fun x => ?_
  rw [mem8, mem_allE]
  have ht : ∀ i, i < top8 k rg ↔ i < k ∧ (decide (i + 1 < k) || rg) = true := fun i => by
    unfold top8
    cases rg
    · simp; omega
    · simp
  constructor
  · rintro ⟨i, hi, rfl⟩
    obtain ⟨h2, h3⟩ := (ht i).1 hi
    refine ⟨ru8 k ng rg i, List.mem_map.2 ⟨i, List.mem_range.2 h2, rfl⟩, ?_⟩
    rw [mem_cnsE]
    refine ⟨⟨ng i, [⟨(((i + 1) % k : Nat) : Int), 0, 0⟩]⟩, ?_, ?_⟩
    · show _ ∈ cj8 k ng rg i
      unfold cj8
      rw [if_pos h3]
      simp
    · rw [mem_seqE]
      exact ⟨rfl, rfl, ⟨(((i + 1) % k : Nat) : Int), 0, 0⟩, by simp, by show (((i + 1) % k : Nat) : Int) ≠ -1; omega, rfl⟩
  · rintro ⟨r, hr, hx⟩
    obtain ⟨i, hi, rfl⟩ := List.mem_map.1 hr
    rw [mem_cnsE] at hx
    obtain ⟨c, hc, hx⟩ := hx
    rw [mem_seqE] at hx
    obtain ⟨e1, e2, s, hs, hne, e3⟩ := hx
    have hc2 : c ∈ cj8 k ng rg i := hc
    unfold cj8 at hc2
    split at hc2
    · rename_i hlt
      simp only [List.mem_cons, List.not_mem_nil, or_false] at hc2
      rcases hc2 with rfl | rfl
      · simp at hs
      · refine ⟨i, (ht i).2 ⟨List.mem_range.1 hi, hlt⟩, Prod.ext e1 (Prod.ext ?_ e2)⟩
        have : s.name = (((i + 1) % k : Nat) : Int) := by rw [List.mem_singleton.1 hs]
        rw [← e3, this]; rfl
    · simp only [List.mem_cons, List.not_mem_nil, or_false] at hc2
      subst hc2
      simp at hs
/-- A row: levels count the negations down to its end. -/
def dwn (ng : Nat → Bool) : Nat → Nat → Nat
  | 0, _ => 0
  | d + 1, i => dwn ng d (i + 1) + (if ng i = true then 1 else 0)
theorem row_up {k : Nat} {ng : Nat → Bool} {a b : Nat} (h : Way (eds8 k ng (k - 1)) a b) : a ≤ b :=
  Way.ind (S := fun x => a ≤ x) (fun e he hx => by
    obtain ⟨i, hi, rfl⟩ := mem8.1 he
    have h1 : (ed8 k ng i).1.toNat = i := by simp [ed8]
    have h2 : (ed8 k ng i).2.1.toNat = i + 1 := by
      show ((((i + 1) % k : Nat) : Int)).toNat = i + 1
      rw [Int.toNat_natCast, Nat.mod_eq_of_lt (by omega)]
    rw [h1] at hx
    rw [h2]; omega) h (Nat.le_refl _)
theorem row_clean {k : Nat} {ng : Nat → Bool} : Clean (eds8 k ng (k - 1)) := fun e he _ hw => by
  obtain ⟨i, hi, rfl⟩ := mem8.1 he
  have h1 : (ed8 k ng i).1.toNat = i := by simp [ed8]
  have h2 : (ed8 k ng i).2.1.toNat = i + 1 := by
    show ((((i + 1) % k : Nat) : Int)).toNat = i + 1
    rw [Int.toNat_natCast, Nat.mod_eq_of_lt (by omega)]
  rw [h1, h2] at hw
  have := row_up hw
  omega
theorem row_lev {k : Nat} {ng : Nat → Bool} (hl : edsB (k : Int) (eds8 k ng (k - 1)) = true) {i : Nat} (hi : i < k) : levT k (eds8 k ng (k - 1)) i = dwn ng (k - 1 - i) i := by
  refine (lev_eq (f := fun i => dwn ng (k - 1 - i) i) hl row_clean (fun e he => ?_) (fun h hh i hi => ?_) hi).symm
  · obtain ⟨i, hi, rfl⟩ := mem8.1 he
    have h1 : (ed8 k ng i).1.toNat = i := by simp [ed8]
    have h2 : (ed8 k ng i).2.1.toNat = i + 1 := by
      show ((((i + 1) % k : Nat) : Int)).toNat = i + 1
      rw [Int.toNat_natCast, Nat.mod_eq_of_lt (by omega)]
    simp only [h1, h2]
    rw [show k - 1 - i = (k - 1 - (i + 1)) + 1 by omega]
    show dwn ng (k - 1 - (i + 1)) (i + 1) + stp (ed8 k ng i) ≤ dwn ng (k - 1 - (i + 1)) (i + 1) + (if ng i = true then 1 else 0)
    exact Nat.le_refl _
  · have key : ∀ d i, i + d = k - 1 → dwn ng d i ≤ h i := by
      intro d
      induction d with
      | zero => intro i _; exact Nat.zero_le _
      | succ d ih =>
        intro i hid
        have h3 := ih (i + 1) (by omega)
        have h4 := hh (ed8 k ng i) (mem8.2 ⟨i, by omega, rfl⟩)
        have h1 : (ed8 k ng i).1.toNat = i := by simp [ed8]
        have h2 : (ed8 k ng i).2.1.toNat = i + 1 := by
          show ((((i + 1) % k : Nat) : Int)).toNat = i + 1
          rw [Int.toNat_natCast, Nat.mod_eq_of_lt (by omega)]
        rw [h1, h2] at h4
        have h5 : stp (ed8 k ng i) = if ng i = true then 1 else 0 := rfl
        show dwn ng d (i + 1) + (if ng i = true then 1 else 0) ≤ h i
        omega
    exact key (k - 1 - i) i (by omega)
/-- A ring: after m steps m names on. -/
theorem ring_st {k : Nat} {ng : Nat → Bool} : ∀ (m a b : Nat), a < k → (St (eds8 k ng k) m a b ↔ b = (a + m) % k)
  | 0, a, b, ha => by
    show a = b ↔ _
    rw [Nat.add_zero, Nat.mod_eq_of_lt ha]
    exact ⟨fun h => h.symm, fun h => h.symm⟩
  | m + 1, a, b, ha => by
    have hk : 0 < k := by omega
    constructor
    · rintro ⟨e, he, h1, h2⟩
      obtain ⟨i, hi, rfl⟩ := mem8.1 he
      have e1 : (ed8 k ng i).1.toNat = i := by simp [ed8]
      have e2 : (ed8 k ng i).2.1.toNat = (i + 1) % k := Int.toNat_natCast _
      rw [e1] at h1
      subst h1
      rw [e2, ring_st m _ b (Nat.mod_lt _ hk)] at h2
      rw [h2, Nat.mod_add_mod]
      congr 1; omega
    · intro h
      refine ⟨ed8 k ng a, mem8.2 ⟨a, ha, rfl⟩, by simp [ed8], ?_⟩
      have e2 : (ed8 k ng a).2.1.toNat = (a + 1) % k := Int.toNat_natCast _
      rw [e2, ring_st m _ b (Nat.mod_lt _ hk), h, Nat.mod_add_mod]
      congr 1; omega
theorem ring_far {k : Nat} {ng : Nat → Bool} {g : Nat} {D : Nat → Int} (hg : g < k) (h : FarIs (eds8 k ng k) g D) : ∀ j, j < k → D ((g + (k - j)) % k) = (j : Int) := fun j hj => by
  have hk : 0 < k := by omega
  have ha : (g + (k - j)) % k < k := Nat.mod_lt _ hk
  have hs : St (eds8 k ng k) j ((g + (k - j)) % k) g := by
    rw [ring_st j _ g ha, Nat.mod_add_mod, show g + (k - j) + j = g + k by omega, Nat.add_mod_right, Nat.mod_eq_of_lt hg]
  rcases h ((g + (k - j)) % k) with ⟨_, h2⟩ | ⟨d, h2, h3, h4⟩
  · exact absurd hs (h2 j)
  · have h5 := h4 j hs
    rw [ring_st d _ g ha, Nat.mod_add_mod] at h3
    have hd : d = j := by
      refine Classical.byContradiction fun hne => ?_
      have hlt : d < j := by omega
      -- g + (k - j) + d lies strictly between g and g + k
      by_cases hw : g + (k - j) + d < k
      · rw [Nat.mod_eq_of_lt hw] at h3; omega
      · rw [Nat.mod_eq_sub_mod (by omega), Nat.mod_eq_of_lt (by omega)] at h3; omega
    rw [h2, hd]
theorem ring_next {k : Nat} {ng : Nat → Bool} {g : Nat} {D : Nat → Int} (hg : g < k) (h : FarIs (eds8 k ng k) g D) {j : Nat} (hj : j + 1 < k) : nxt (eds8 k ng k) D ((g + (k - (j + 1))) % k) = (g + (k - j)) % k := by
  obtain ⟨e, _, h2, h3, _, h5⟩ := h.next (ring_far hg h (j + 1) hj)
  obtain ⟨i, hi, rfl⟩ := mem8.1 h2
  have e1 : (ed8 k ng i).1.toNat = i := by simp [ed8]
  have e2 : (ed8 k ng i).2.1.toNat = (i + 1) % k := Int.toNat_natCast _
  rw [h5, e2]
  rw [e1] at h3
  rw [h3, Nat.mod_add_mod]
  congr 1; omega
theorem ring_way {k : Nat} {ng : Nat → Bool} {g : Nat} {D : Nat → Int} (hg : g < k) (h : FarIs (eds8 k ng k) g D) : ∀ j, j < k → wayT (eds8 k ng k) D j ((g + (k - j)) % k) = (List.range j).map fun t => (g + (k - j) + t) % k
  | 0, _ => rfl
  | j + 1, hj => by
    show _ :: wayT _ D j (nxt _ D _) = _
    rw [ring_next hg h hj, ring_way hg h j (by omega), List.range_succ_eq_map, List.map_cons, List.map_map]
    congr 1
    refine List.map_congr_left fun t ht => ?_
    have := List.mem_range.1 ht
    show (g + (k - j) + t) % k = (g + (k - (j + 1)) + (t + 1)) % k
    congr 1; omega
/-- Its cycle from g on. -/
theorem ring_cyc {k : Nat} {ng : Nat → Bool} {g : Nat} {D : Nat → Int} (hg : g < k) (h : FarIs (eds8 k ng k) g D) : cycT (eds8 k ng k) D (ed8 k ng g) = (List.range k).map fun t => (((g + t) % k : Nat) : Int) := by
  have e1 : (ed8 k ng g).1.toNat = g := by simp [ed8]
  have e2 : (ed8 k ng g).2.1.toNat = (g + 1) % k := Int.toNat_natCast _
  unfold cycT
  rw [e1, e2]
  have h1 : (g + 1) % k = (g + (k - (k - 1))) % k := by congr 1; omega
  rw [h1, ring_far hg h (k - 1) (by omega), Int.toNat_natCast, ring_way hg h (k - 1) (by omega)]
  obtain ⟨m, rfl⟩ : ∃ m, k = m + 1 := ⟨k - 1, by omega⟩
  rw [List.range_succ_eq_map (n := m)]
  simp only [List.map_cons, List.map_map, Nat.add_sub_cancel]
  congr 1
  · rw [Nat.add_zero, Nat.mod_eq_of_lt hg]
  · refine List.map_congr_left fun t ht => ?_
    show ((((g + (m + 1 - m) + t) % (m + 1) : Nat)) : Int) = (((g + (t + 1)) % (m + 1) : Nat) : Int)
    congr 2; omega
theorem eds8_ok (k : Nat) (ng : Nat → Bool) (m : Nat) (hm : m ≤ k) (hk : 0 < k) : edsB (k : Int) (eds8 k ng m) = true := by
  unfold edsB
  rw [List.all_eq_true]
  intro e he
  obtain ⟨i, hi, rfl⟩ := mem8.1 he
  have := Nat.mod_lt (i + 1) hk
  unfold edB endB ed8
  simp only [Bool.and_eq_true, decide_eq_true_eq]
  omega
theorem ring_bad {k : Nat} {ng : Nat → Bool} (hk : 0 < k) {g : Nat} (hg : g < k) (hn : ng g = true) (hf : ∀ i, i < g → ng i = false) : (eds8 k ng k).find? (badE k (eds8 k ng k)) = some (ed8 k ng g) := by
  have hl := eds8_ok k ng k (Nat.le_refl _) hk
  have hget : ∀ i, i < k → (eds8 k ng k)[i]? = some (ed8 k ng i) := fun i hi => by simp [eds8, hi]
  rw [List.find?_eq_some_iff_append]
  refine ⟨?_, (eds8 k ng k).take g, (eds8 k ng k).drop (g + 1), ?_, fun a ha => ?_⟩
  · rw [bad_iff hl (mem8.2 ⟨g, hg, rfl⟩)]
    refine ⟨hn, k - 1, ?_⟩
    have e1 : (ed8 k ng g).1.toNat = g := by simp [ed8]
    have e2 : (ed8 k ng g).2.1.toNat = (g + 1) % k := Int.toNat_natCast _
    rw [e1, e2, ring_st _ _ _ (Nat.mod_lt _ hk), Nat.mod_add_mod, show g + 1 + (k - 1) = g + k by omega, Nat.add_mod_right, Nat.mod_eq_of_lt hg]
  · have h1 := (List.take_append_drop g (eds8 k ng k)).symm
    rw [List.drop_eq_getElem?_toList_append (l := eds8 k ng k) (i := g), hget g hg] at h1
    exact h1
  · obtain ⟨j, hj⟩ := List.mem_iff_getElem?.1 ha
    rw [List.getElem?_take] at hj
    split at hj
    · rename_i hjg
      rw [hget j (by omega)] at hj
      obtain rfl := Option.some.inj hj
      have : badE k (eds8 k ng k) (ed8 k ng j) = false := by
        unfold badE
        have : (ed8 k ng j).2.2 = false := hf j hjg
        rw [this]; rfl
      simp [this]
    · cases hj
theorem ring_none {k : Nat} {ng : Nat → Bool} (hf : ∀ i, i < k → ng i = false) : Clean (eds8 k ng k) ∧ ∀ i, levT k (eds8 k ng k) i = 0 := by
  have hneg : ∀ e, e ∈ eds8 k ng k → e.2.2 = false := fun e he => by
    obtain ⟨i, hi, rfl⟩ := mem8.1 he
    exact hf i hi
  refine ⟨fun e he hn => absurd hn (by rw [hneg e he]; decide), fun i => ?_⟩
  have : Sol (eds8 k ng k) fun _ => 0 := fun e he => by
    unfold stp
    rw [hneg e he]; simp
  have := lev_least (n := k) this i
  omega
end Go.Proofs.Ytipnfiaphmddiaa
