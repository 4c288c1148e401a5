import Derived.Test.YtejhdhlpdcfedaaGreatTabV
/- The document's table as it is filled: plain. -/
namespace Go.Proofs.YtejhdhlpdcfedaaGreat
set_option linter.unusedVariables false

/-- What a table's names say. -/
def MN (t : Tp) (hN : Nat → Int) : SpM := fun x i j => decide (x < t.g.names.length) && (decide (i ≤ j) && (decide (j ≤ t.m) && hasN t hN x i j))
def upd (h : Nat → Int) (ix : Nat) : Nat → Int := fun k => if k = ix then 1 else h k
theorem upd_same (h : Nat → Int) (ix : Nat) : upd h ix ix = 1 := by simp [upd]
theorem upd_mono {h : Nat → Int} {ix k : Nat} (hk : 0 < h k) : 0 < upd h ix k := by
  unfold upd; split
  · decide
  · exact hk
/-- How many numbers are none. -/
def zc : Nat → (Nat → Int) → Nat
  | 0, _ => 0
  | n + 1, h => zc n h + (if 0 < h n then 0 else 1)
theorem zc_same {h g : Nat → Int} : ∀ {n : Nat}, (∀ k, k < n → (0 < h k ↔ 0 < g k)) → zc n h = zc n g
  | 0, _ => rfl
  | n + 1, e => by
    show zc n h + _ = zc n g + _
    rw [zc_same (fun k hk => e k (by omega))]
    congr 1
    simp only [e n (Nat.lt_succ_self _)]
theorem zc_le {h g : Nat → Int} : ∀ {n : Nat}, (∀ k, k < n → 0 < h k → 0 < g k) → zc n g ≤ zc n h
  | 0, _ => Nat.le_refl _
  | n + 1, e => by
    have h1 := zc_le (n := n) (fun k hk => e k (by omega))
    have h2 := e n (Nat.lt_succ_self _)
    show zc n g + _ ≤ zc n h + _
    split <;> split <;> simp_all <;> omega
theorem zc_lt {h g : Nat → Int} {ix : Nat} : ∀ {n : Nat}, (∀ k, k < n → 0 < h k → 0 < g k) → ix < n → ¬ 0 < h ix → 0 < g ix → zc n g < zc n h
  | 0, _, hx, _, _ => by omega
  | n + 1, e, hx, h0, h1 => by
    show zc n g + _ < zc n h + _
    by_cases hn : ix = n
    · subst hn
      have := zc_le (n := ix) (fun k hk => e k (by omega))
      rw [if_neg h0, if_pos h1]; omega
    · have h2 := zc_lt (n := n) (fun k hk => e k (by omega)) (by omega) h0 h1
      have h3 := e n (Nat.lt_succ_self _)
      split <;> split <;> simp_all <;> omega
theorem zc_upd {h : Nat → Int} {ix n : Nat} (hx : ix < n) (h0 : ¬ 0 < h ix) : zc n (upd h ix) < zc n h := zc_lt (fun k _ hk => upd_mono hk) hx h0 (by rw [upd_same]; decide)
/-- What a table must be. -/
structure Tw (t : Tp) : Prop where
  n : t.g.names.length ≤ 64
  z : offR t.g.rules t.g.rules.length ≤ 4000
  m : t.m ≤ 32
  s : ∀ r, r ∈ t.g.rules → ∀ c, c ∈ r.conj → ∀ s, s ∈ c.seq → s.name = -1 ∨ 0 ≤ s.name ∧ s.name < (t.g.names.length : Int)
  h : ∀ r, r ∈ t.g.rules → 0 ≤ r.head ∧ r.head < (t.g.names.length : Int)
theorem divmod_inj {w a b c d : Nat} (hb : b < w) (hd : d < w) (e : a * w + b = c * w + d) : a = c ∧ b = d := by
  have h1 : (a * w + b) / w = a := by rw [Nat.mul_comm, Nat.mul_add_div (by omega), Nat.div_eq_of_lt hb]; omega
  have h2 : (c * w + d) / w = c := by rw [Nat.mul_comm, Nat.mul_add_div (by omega), Nat.div_eq_of_lt hd]; omega
  have h3 : a = c := by rw [← h1, ← h2, e]
  subst h3
  exact ⟨rfl, by omega⟩
section
variable {t : Tp} {hN hN' hR hR' : Nat → Int}
theorem spn_inj {i j i' j' : Nat} (hj : j ≤ t.m) (hj' : j' ≤ t.m) (e : spn t i j = spn t i' j') : i = i' ∧ j = j' := divmod_inj (by omega) (by omega) e
theorem nameIx_inj {x i j x' i' j' : Nat} (h : i ≤ j) (hj : j ≤ t.m) (h' : i' ≤ j') (hj' : j' ≤ t.m) (e : nameIx t x i j = nameIx t x' i' j') : x = x' ∧ i = i' ∧ j = j' := by
  obtain ⟨h1, h2⟩ := divmod_inj (spn_lt h hj) (spn_lt h' hj') e
  exact ⟨h1, spn_inj hj hj' h2⟩
theorem offC_succ {l : List Cn} {c : Nat} {d : Cn} (h : l[c]? = some d) : offC l (c + 1) = offC l c + (d.seq.length + 1) := by
  unfold offC; rw [List.take_add_one, h]; simp
theorem offR_succ {l : List Ru} {q : Nat} {r : Ru} (h : l[q]? = some r) : offR l (q + 1) = offR l q + offC r.conj r.conj.length := by
  unfold offR; rw [List.take_add_one, h]; simp
theorem offC_mono {l : List Cn} {c : Nat} : ∀ {e : Nat}, c ≤ e → offC l c ≤ offC l e
  | 0, h => by obtain rfl : c = 0 := by omega
               exact Nat.le_refl _
  | e + 1, h => by
    by_cases hc : c = e + 1
    · subst hc; exact Nat.le_refl _
    · refine Nat.le_trans (offC_mono (e := e) (by omega)) ?_
      cases hd : l[e]? with
      | none => unfold offC; rw [List.take_add_one, hd]; simp
      | some d => rw [offC_succ hd]; omega
theorem offR_mono {l : List Ru} {c : Nat} : ∀ {e : Nat}, c ≤ e → offR l c ≤ offR l e
  | 0, h => by obtain rfl : c = 0 := by omega
               exact Nat.le_refl _
  | e + 1, h => by
    by_cases hc : c = e + 1
    · subst hc; exact Nat.le_refl _
    · refine Nat.le_trans (offR_mono (e := e) (by omega)) ?_
      cases hd : l[e]? with
      | none => unfold offR; rw [List.take_add_one, hd]; simp
      | some d => rw [offR_succ hd]; omega
theorem plc_at {q c p : Nat} {r : Ru} (hr : t.g.rules[q]? = some r) : plc t q c p = offR t.g.rules q + offC r.conj c + p := by
  unfold plc
  have hgd : (t.g.rules.getD q ⟨0, []⟩).conj = r.conj := by rw [List.getD_eq_getElem?_getD, hr]; rfl
  rw [hgd]
theorem plc_top {q c p : Nat} {r : Ru} {d : Cn} (hr : t.g.rules[q]? = some r) (hd : r.conj[c]? = some d) (hp : p ≤ d.seq.length) : plc t q c p < offR t.g.rules q + offC r.conj (c + 1) ∧ offC r.conj (c + 1) ≤ offC r.conj r.conj.length := by
  rw [plc_at hr, offC_succ hd]
  refine ⟨by omega, ?_⟩
  rw [← offC_succ hd]
  exact offC_mono (List.getElem?_eq_some_iff.1 hd).1
theorem plc_inj {q c p q' c' p' : Nat} (h : PlIs t q c p) (h' : PlIs t q' c' p') (e : plc t q c p = plc t q' c' p') : q = q' ∧ c = c' ∧ p = p' := by
  obtain ⟨r, d, hr, hd, hp⟩ := h
  obtain ⟨r', d', hr', hd', hp'⟩ := h'
  have a1 := plc_top hr hd hp
  have a2 := plc_top hr' hd' hp'
  have a3 := plc_at (t := t) (c := c) (p := p) hr
  have a4 := plc_at (t := t) (c := c') (p := p') hr'
  have hq : q = q' := by
    rcases Nat.lt_trichotomy q q' with h | h | h
    · have h1 := offR_mono (l := t.g.rules) (c := q + 1) (e := q') h
      rw [offR_succ hr] at h1; omega
    · exact h
    · have h1 := offR_mono (l := t.g.rules) (c := q' + 1) (e := q) h
      rw [offR_succ hr'] at h1; omega
  subst hq
  obtain rfl : r = r' := by rw [hr] at hr'; injection hr'
  have hc : c = c' := by
    rcases Nat.lt_trichotomy c c' with h | h | h
    · have h1 := offC_mono (l := r.conj) (c := c + 1) (e := c') h; omega
    · exact h
    · have h1 := offC_mono (l := r.conj) (c := c' + 1) (e := c) h; omega
  subst hc
  exact ⟨rfl, rfl, by omega⟩
theorem restIx_inj {q c p i j q' c' p' i' j' : Nat} (hp : PlIs t q c p) (hp' : PlIs t q' c' p') (h : i ≤ j) (hj : j ≤ t.m) (h' : i' ≤ j') (hj' : j' ≤ t.m) (e : restIx t q c p i j = restIx t q' c' p' i' j') : (q = q' ∧ c = c' ∧ p = p') ∧ i = i' ∧ j = j' := by
  obtain ⟨h1, h2⟩ := divmod_inj (spn_lt h hj) (spn_lt h' hj') e
  exact ⟨plc_inj hp hp' h1, spn_inj hj hj' h2⟩
theorem MN_at {x i j : Nat} (hx : x < t.g.names.length) (h : i ≤ j) (hj : j ≤ t.m) : MN t hN x i j = hasN t hN x i j := by
  unfold MN; simp [hx, h, hj]
theorem MN_true {x i j : Nat} (h : MN t hN x i j = true) : x < t.g.names.length ∧ i ≤ j ∧ j ≤ t.m ∧ hasN t hN x i j = true := by
  unfold MN at h
  simpa using h
theorem MN_put {x a c : Nat} (hx : x < t.g.names.length) (hac : a ≤ c) (hc : c ≤ t.m) : MN t (upd hN (nameIx t x a c)) = putS3 (MN t hN) x a c := by
  funext y i j
  unfold putS3
  split
  · rename_i e
    obtain ⟨rfl, rfl, rfl⟩ := e
    rw [MN_at hx hac hc]
    unfold hasN; rw [upd_same]; rfl
  · rename_i ne
    by_cases hy : y < t.g.names.length ∧ i ≤ j ∧ j ≤ t.m
    · rw [MN_at hy.1 hy.2.1 hy.2.2, MN_at hy.1 hy.2.1 hy.2.2]
      unfold hasN upd
      rw [if_neg (fun e => ne ?_)]
      obtain ⟨h1, h2, h3⟩ := nameIx_inj hy.2.1 hy.2.2 hac hc e
      exact ⟨h1, h2, h3⟩
    · unfold MN
      have : ¬ (y < t.g.names.length) ∨ ¬ (i ≤ j) ∨ ¬ (j ≤ t.m) := by omega
      rcases this with h | h | h <;> simp [h]
theorem MN_mono {ix : Nat} {x i j : Nat} (h : MN t hN x i j = true) : MN t (upd hN ix) x i j = true := by
  obtain ⟨h1, h2, h3, h4⟩ := MN_true h
  rw [MN_at h1 h2 h3]
  unfold hasN at *
  simp only [decide_eq_true_eq] at *
  exact upd_mono h4
/-- A rest by the names so far. -/
def rB (t : Tp) (hN : Nat → Int) (d : Cn) (p i j : Nat) : Bool := restB (btsT t) (MN t hN) (d.seq.drop p) i j
/-- What rests are in is so by the names. -/
def SoundR (t : Tp) (hN hR : Nat → Int) : Prop := ∀ (q c p : Nat) (r : Ru) (d : Cn), t.g.rules[q]? = some r → r.conj[c]? = some d → p ≤ d.seq.length → ∀ i j, i ≤ j → j ≤ t.m → hasR t hR q c p i j = true → rB t hN d p i j = true
theorem drop_consP {d : Cn} {p : Nat} {s : Sy} (hs : d.seq[p]? = some s) : d.seq.drop p = s :: d.seq.drop (p + 1) := by
  obtain ⟨hl, e⟩ := List.getElem?_eq_some_iff.1 hs
  rw [List.drop_eq_getElem_cons hl, e]
/-- One step, where what is behind it is known. -/
theorem step_iff {q c p i j : Nat} {r : Ru} {d : Cn} (hw : Tw t) (hr : t.g.rules[q]? = some r) (hd : r.conj[c]? = some d) (hp : p ≤ d.seq.length) (hij : i ≤ j) (hj : j ≤ t.m)
    (G : Nat → Nat → Bool) (hG : ∀ a b, a ≤ b → b ≤ t.m → G a b = rB t hN d (p + 1) a b) (hH : p < d.seq.length → ∀ a b, a ≤ b → b ≤ t.m → hasR t hR q c (p + 1) a b = G a b) : stepT t hN hR q c p d.seq i j = rB t hN d p i j := by
  unfold stepT rB
  cases hs : d.seq[p]? with
  | none =>
    have e : d.seq.drop p = [] := List.drop_eq_nil_of_le (by have := List.getElem?_eq_none_iff.1 hs; omega)
    rw [e]; rfl
  | some s =>
    have hlt := (List.getElem?_eq_some_iff.1 hs).1
    have h9 := hH hlt
    rw [drop_consP hs]
    unfold restB
    have hsn := hw.s r (List.mem_of_getElem? hr) d (List.mem_of_getElem? hd) s (List.mem_of_getElem? hs)
    simp only
    by_cases e : s.name = -1
    · rw [if_pos e, if_pos e]
      by_cases hlt2 : i < j
      · rw [h9 (i + 1) j (by omega) hj, hG (i + 1) j (by omega) hj]; rfl
      · simp [hlt2]
    · rw [if_neg e, if_neg e]
      rw [Bool.eq_iff_iff, List.any_eq_true, List.any_eq_true]
      refine exists_congr fun k => and_congr_right fun hk => ?_
      have hkj : k ≤ j := by have := List.mem_range.1 hk; omega
      unfold hitT
      by_cases hik : i ≤ k
      · rw [h9 k j hkj hj, hG k j hkj hj, MN_at (by omega) hik (by omega)]; rfl
      · simp [hik]
theorem hasR_upd {q c p i j q' c' p' i' j' : Nat} (hp : PlIs t q c p) (hp' : PlIs t q' c' p') (h : i ≤ j) (hj : j ≤ t.m) (h' : i' ≤ j') (hj' : j' ≤ t.m) (hh : hasR t (upd hR (restIx t q c p i j)) q' c' p' i' j' = true) : ((q' = q ∧ c' = c ∧ p' = p) ∧ i' = i ∧ j' = j) ∨ hasR t hR q' c' p' i' j' = true := by
  by_cases e : restIx t q' c' p' i' j' = restIx t q c p i j
  · exact Or.inl (restIx_inj hp' hp h' hj' h hj e)
  · right
    unfold hasR upd at *
    rw [if_neg e] at hh
    exact hh
theorem hasR_mono {q c p i j ix : Nat} (h : hasR t hR q c p i j = true) : hasR t (upd hR ix) q c p i j = true := by
  unfold hasR at *
  simp only [decide_eq_true_eq] at *
  exact upd_mono h
theorem hasR_put {q c p i j : Nat} : hasR t (upd hR (restIx t q c p i j)) q c p i j = true := by
  unfold hasR; rw [upd_same]; rfl
theorem SoundR.put (hS : SoundR t hN hR) {q c p i j : Nat} {r : Ru} {d : Cn} (hr : t.g.rules[q]? = some r) (hd : r.conj[c]? = some d) (hp : p ≤ d.seq.length) (hij : i ≤ j) (hj : j ≤ t.m) (hh : rB t hN d p i j = true) : SoundR t hN (upd hR (restIx t q c p i j)) := by
  intro q' c' p' r' d' hr' hd' hp' i' j' hij' hj' h'
  rcases hasR_upd ⟨r, d, hr, hd, hp⟩ ⟨r', d', hr', hd', hp'⟩ hij hj hij' hj' h' with ⟨⟨rfl, rfl, rfl⟩, rfl, rfl⟩ | h1
  · obtain rfl : r = r' := by rw [hr] at hr'; injection hr'
    obtain rfl : d = d' := by rw [hd] at hd'; injection hd'
    exact hh
  · exact hS q' c' p' r' d' hr' hd' hp' i' j' hij' hj' h1
theorem rB_mono {d : Cn} {p i j : Nat} (hm : ∀ x i j, MN t hN x i j = true → MN t hN' x i j = true) (h : rB t hN d p i j = true) : rB t hN' d p i j = true := restB_mono (fun s hs hn i j he => hm _ _ _ he) h
theorem SoundR.more (hS : SoundR t hN hR) (hm : ∀ x i j, MN t hN x i j = true → MN t hN' x i j = true) : SoundR t hN' hR := fun q c p r d hr hd hp i j hij hj h => rB_mono hm (hS q c p r d hr hd hp i j hij hj h)
/-- A place's rests are all in. -/
def CompP (t : Tp) (hN hR : Nat → Int) (q c p : Nat) (d : Cn) : Prop := ∀ i j, i ≤ j → j ≤ t.m → rB t hN d p i j = true → hasR t hR q c p i j = true
theorem CompP.mono {q c p : Nat} {d : Cn} (h : CompP t hN hR q c p d) (hm : ∀ k, 0 < hR k → 0 < hR' k) : CompP t hN hR' q c p d := fun i j hij hj hh => by
  have := h i j hij hj hh
  unfold hasR at *
  simp only [decide_eq_true_eq] at *
  exact hm _ this
/-- A rule's rests are all in. -/
def CompQ (t : Tp) (hN hR : Nat → Int) (q : Nat) (r : Ru) : Prop := ∀ c d, r.conj[c]? = some d → ∀ p, p ≤ d.seq.length → CompP t hN hR q c p d
theorem step_sound {q c p i j : Nat} {r : Ru} {d : Cn} (hw : Tw t) (hS : SoundR t hN hR) (hr : t.g.rules[q]? = some r) (hd : r.conj[c]? = some d) (hp : p ≤ d.seq.length) (hij : i ≤ j) (hj : j ≤ t.m)
    (hC : p < d.seq.length → CompP t hN hR q c (p + 1) d) : stepT t hN hR q c p d.seq i j = rB t hN d p i j := by
  refine step_iff hw hr hd hp hij hj (fun a b => rB t hN d (p + 1) a b) (fun _ _ _ _ => rfl) (fun hlt a b hab hb => ?_)
  rw [Bool.eq_iff_iff]
  exact ⟨hS q c (p + 1) r d hr hd hlt a b hab hb, hC hlt a b hab hb⟩
/-- From one state to another: nothing, or more. -/
def Fl2 (t : Tp) (hN0 hR0 hN hR : Nat → Int) (ch : Bool) : Prop := (ch = false → hN = hN0 ∧ hR = hR0) ∧ (ch = true → zc t.nn hN + zc t.rn hR < zc t.nn hN0 + zc t.rn hR0) ∧ (∀ k, 0 < hN0 k → 0 < hN k) ∧ ∀ k, 0 < hR0 k → 0 < hR k
theorem Fl2.refl (t : Tp) (hN hR : Nat → Int) : Fl2 t hN hR hN hR false := ⟨fun _ => ⟨rfl, rfl⟩, fun h => (by cases h), fun _ h => h, fun _ h => h⟩
theorem Fl2.le {hN0 hR0 : Nat → Int} {ch : Bool} (h : Fl2 t hN0 hR0 hN hR ch) : zc t.nn hN + zc t.rn hR ≤ zc t.nn hN0 + zc t.rn hR0 := Nat.add_le_add (zc_le fun k _ => h.2.2.1 k) (zc_le fun k _ => h.2.2.2 k)
theorem Fl2.putR {hN0 hR0 : Nat → Int} {ch : Bool} (h : Fl2 t hN0 hR0 hN hR ch) {ix : Nat} (hx : ix < t.rn) (h0 : ¬ 0 < hR ix) : Fl2 t hN0 hR0 hN (upd hR ix) true :=
  ⟨fun h => (by cases h), fun _ => (by have := h.le; have := zc_upd hx h0; omega), h.2.2.1, fun k hk => upd_mono (h.2.2.2 k hk)⟩
theorem Fl2.putN {hN0 hR0 : Nat → Int} {ch : Bool} (h : Fl2 t hN0 hR0 hN hR ch) {ix : Nat} (hx : ix < t.nn) (h0 : ¬ 0 < hN ix) : Fl2 t hN0 hR0 (upd hN ix) hR true :=
  ⟨fun h => (by cases h), fun _ => (by have := h.le; have := zc_upd hx h0; omega), fun k hk => upd_mono (h.2.2.1 k hk), h.2.2.2⟩
theorem Fl2.trans {hN0 hR0 : Nat → Int} {ch ch' : Bool} (h : Fl2 t hN0 hR0 hN hR ch) (h' : Fl2 t hN hR hN' hR' ch') : Fl2 t hN0 hR0 hN' hR' (ch || ch') := by
  refine ⟨fun e => ?_, fun e => ?_, fun k hk => h'.2.2.1 k (h.2.2.1 k hk), fun k hk => h'.2.2.2 k (h.2.2.2 k hk)⟩
  · rw [Bool.or_eq_false_iff] at e
    obtain ⟨rfl, rfl⟩ := h.1 e.1
    exact h'.1 e.2
  · have h1 := h.le
    have h2 := h'.le
    rw [Bool.or_eq_true_iff] at e
    rcases e with e | e
    · have := h.2.1 e; omega
    · have := h'.2.1 e; omega
theorem hol_eq {q : Nat} {r : Ru} (hS : SoundR t hN hR) (hr : t.g.rules[q]? = some r) (hC : CompQ t hN hR q r) {i j : Nat} (hij : i ≤ j) (hj : j ≤ t.m) : holT t hR q r.conj i j = holB3 (btsT t) (MN t hN) r i j := by
  unfold holT holB3
  rw [Bool.eq_iff_iff, List.all_eq_true, List.all_eq_true]
  have key : ∀ c d, r.conj[c]? = some d → conT t hR q r.conj i j c = conB3 (btsT t) (MN t hN) d i j := fun c d hd => by
    have h1 : hasR t hR q c 0 i j = restB (btsT t) (MN t hN) d.seq i j := by
      rw [Bool.eq_iff_iff]
      exact ⟨fun h => by have := hS q c 0 r d hr hd (Nat.zero_le _) i j hij hj h; unfold rB at this; simpa using this, fun h => hC c d hd 0 (Nat.zero_le _) i j hij hj (by unfold rB; simpa using h)⟩
    unfold conT conB3
    rw [List.getD_eq_getElem?_getD, hd, h1]; rfl
  constructor
  · intro h d hd
    obtain ⟨c, hc⟩ := List.mem_iff_getElem?.1 hd
    rw [← key c d hc]
    exact h c (List.mem_range.2 (List.getElem?_eq_some_iff.1 hc).1)
  · intro h c hc
    have hlt := List.mem_range.1 hc
    rw [key c _ (List.getElem?_eq_getElem hlt)]
    exact h _ (List.getElem_mem hlt)
/-- A rule has nothing more to give. -/
def ShutQ (t : Tp) (hN hR : Nat → Int) (q : Nat) (r : Ru) : Prop := CompQ t hN hR q r ∧ ∀ i j, i ≤ j → j ≤ t.m → holB3 (btsT t) (MN t hN) r i j = true → MN t hN r.head.toNat i j = true
/-- The rules of levels below one have all their rests. -/
def LowC (t : Tp) (f : Nat → Nat) (k : Nat) (H : SpM) (hR : Nat → Int) : Prop := ∀ (q c p : Nat) (r : Ru) (d : Cn), t.g.rules[q]? = some r → f r.head.toNat < k → r.conj[c]? = some d → p ≤ d.seq.length → ∀ i j, i ≤ j → j ≤ t.m → restB (btsT t) H (d.seq.drop p) i j = true → hasR t hR q c p i j = true
theorem LowC.mono {f : Nat → Nat} {k : Nat} {H : SpM} (h : LowC t f k H hR) (hm : ∀ k, 0 < hR k → 0 < hR' k) : LowC t f k H hR' := fun q c p r d hr hk hd hp i j hij hj hh => by
  have := h q c p r d hr hk hd hp i j hij hj hh
  unfold hasR at *
  simp only [decide_eq_true_eq] at *
  exact hm _ this
/-- A level is done. -/
theorem level_done {f : Nat → Nat} {k : Nat} {H : SpM} (hf : Str t.g.rules f) (hJ : Jn3 (btsT t) t.m t.g.rules f k H) (hL : LowC t f k H hR) (hM : Jm3 (btsT t) t.m t.g.rules f k H (MN t hN))
    (hs : ∀ (q : Nat) (r : Ru), t.g.rules[q]? = some r → f r.head.toNat = k → ShutQ t hN hR q r) : Jn3 (btsT t) t.m t.g.rules f (k + 1) (MN t hN) ∧ LowC t f (k + 1) (MN t hN) hR := by
  refine ⟨hM.fin hf hJ fun r hr hk i j hij hj hh => ?_, fun q c p r d hr hk hd hp i j hij hj hh => ?_⟩
  · obtain ⟨q, hq⟩ := List.mem_iff_getElem?.1 hr
    exact (hs q r hq hk).2 i j hij hj hh
  · by_cases e : f r.head.toNat = k
    · exact (hs q r hr e).1 c d hd p hp i j hij hj hh
    · refine hL q c p r d hr (by omega) hd hp i j hij hj ?_
      rw [restB_congr (N := MN t hN)]
      · exact hh
      · intro s hs hn i j
        have := hf.pos (List.mem_of_getElem? hr) (List.mem_of_getElem? hd) (List.mem_of_mem_drop hs) hn
        exact hM.agree (by omega) i j
end
end Go.Proofs.YtejhdhlpdcfedaaGreat
/- A rule of the document's table while it is filled: plain; and the table in memory while it turns. -/
namespace Go.Proofs.YtejhdhlpdcfedaaGreat
set_option linter.unusedVariables false
open Go.RowKit

section
variable {t : Tp} {hN hR h : Nat → Int} {q c p a b : Nat} {r : Ru} {d : Cn} {ch : Bool}
def P1 (t : Tp) (hN hR : Nat → Int) (q : Nat) (r : Ru) (c : Nat) (ch : Bool) (h : Nat → Int) : Prop := SoundR t hN h ∧ Fl2 t hN hR hN h ch ∧ ∀ c' d', c' < c → r.conj[c']? = some d' → ∀ p', p' ≤ d'.seq.length → CompP t hN h q c' p' d'
def P2 (t : Tp) (hN hR : Nat → Int) (q : Nat) (r : Ru) (c : Nat) (d : Cn) (kk : Nat) (ch : Bool) (h : Nat → Int) : Prop := P1 t hN hR q r c ch h ∧ ∀ p', kk ≤ p' → p' ≤ d.seq.length → CompP t hN h q c p' d
def P3 (t : Tp) (hN hR : Nat → Int) (q : Nat) (r : Ru) (c : Nat) (d : Cn) (p a b : Nat) (ch : Bool) (h : Nat → Int) : Prop := P2 t hN hR q r c d (p + 1) ch h ∧ ∀ i j, i ≤ j → j ≤ t.m → (i < a ∨ (i = a ∧ j < b)) → rB t hN d p i j = true → hasR t h q c p i j = true
theorem P1.begin (hS : SoundR t hN hR) : P1 t hN hR q r 0 false hR := ⟨hS, Fl2.refl _ _ _, fun c' _ h => by omega⟩
theorem P1.two (k : P1 t hN hR q r c ch h) : P2 t hN hR q r c d (d.seq.length + 1) ch h := ⟨k, fun p' h1 h2 => by omega⟩
theorem P2.three (k : P2 t hN hR q r c d (p + 1) ch h) : P3 t hN hR q r c d p 0 0 ch h := ⟨k, fun i j _ _ h => by omega⟩
theorem P3.step (k : P3 t hN hR q r c d p a b ch h) (hw : Tw t) (hr : t.g.rules[q]? = some r) (hd : r.conj[c]? = some d) (hp : p ≤ d.seq.length) (hab : a ≤ b) (hb : b ≤ t.m) : stepT t hN h q c p d.seq a b = rB t hN d p a b :=
  step_sound hw k.1.1.1 hr hd hp hab hb fun hlt => k.1.2 (p + 1) (Nat.le_refl _) hlt
theorem P3.skip (k : P3 t hN hR q r c d p a b ch h) (hs : rB t hN d p a b = true → hasR t h q c p a b = true) : P3 t hN hR q r c d p a (b + 1) ch h := ⟨k.1, fun i j hij hj ho hh => by
  by_cases e : i = a ∧ j = b
  · obtain ⟨rfl, rfl⟩ := e; exact hs hh
  · exact k.2 i j hij hj (by omega) hh⟩
theorem P3.put (k : P3 t hN hR q r c d p a b ch h) (hr : t.g.rules[q]? = some r) (hd : r.conj[c]? = some d) (hp : p ≤ d.seq.length) (hab : a ≤ b) (hb : b ≤ t.m) (hs : rB t hN d p a b = true) (h0 : hasR t h q c p a b = false) : P3 t hN hR q r c d p a (b + 1) true (upd h (restIx t q c p a b)) := by
  have hx := restIx_lt (plc_lt (t := t) (q := q) (c := c) (p := p) ⟨r, d, hr, hd, hp⟩) hab hb
  have h0' : ¬ 0 < h (restIx t q c p a b) := by unfold hasR at h0; simpa using h0
  refine ⟨⟨⟨k.1.1.1.put hr hd hp hab hb hs, k.1.1.2.1.putR hx h0', fun c' d' h1 h2 p' h3 => (k.1.1.2.2 c' d' h1 h2 p' h3).mono fun _ hk => upd_mono hk⟩, fun p' h1 h2 => (k.1.2 p' h1 h2).mono fun _ hk => upd_mono hk⟩, fun i j hij hj ho hh => ?_⟩
  by_cases e : i = a ∧ j = b
  · obtain ⟨rfl, rfl⟩ := e; exact hasR_put
  · exact hasR_mono (k.2 i j hij hj (by omega) hh)
theorem P3.next (k : P3 t hN hR q r c d p a b ch h) (hb : t.m < b) : P3 t hN hR q r c d p (a + 1) (a + 1) ch h := ⟨k.1, fun i j hij hj ho hh => k.2 i j hij hj (by omega) hh⟩
theorem P3.back (k : P3 t hN hR q r c d p a b ch h) (ha : t.m < a) : P2 t hN hR q r c d p ch h := ⟨k.1.1, fun p' h1 h2 => by
  by_cases e : p' = p
  · subst e; exact fun i j hij hj hh => k.2 i j hij hj (by omega) hh
  · exact k.1.2 p' (by omega) h2⟩
theorem P2.one (k : P2 t hN hR q r c d 0 ch h) (hd : r.conj[c]? = some d) : P1 t hN hR q r (c + 1) ch h := ⟨k.1.1, k.1.2.1, fun c' d' h1 h2 p' h3 => by
  by_cases e : c' = c
  · subst e
    obtain rfl : d = d' := by rw [hd] at h2; injection h2
    exact k.2 p' (Nat.zero_le _) h3
  · exact k.1.2.2 c' d' (by omega) h2 p' h3⟩
theorem P1.all (k : P1 t hN hR q r r.conj.length ch h) : CompQ t hN h q r := fun c d hd p hp => k.2.2 c d (List.getElem?_eq_some_iff.1 hd).1 hd p hp
/-- The second half: the head takes spans. -/
structure Q1 (t : Tp) (hN hR hP : Nat → Int) (q : Nat) (r : Ru) (f : Nat → Nat) (k : Nat) (H : SpM) (a b : Nat) (ch : Bool) (hM : Nat → Int) : Prop where
  fl : Fl2 t hN hR hM hP ch
  jm : Jm3 (btsT t) t.m t.g.rules f k H (MN t hM)
  up : ∀ x i j, MN t hN x i j = true → MN t hM x i j = true
  did : ∀ i j, i ≤ j → j ≤ t.m → (i < a ∨ (i = a ∧ j < b)) → holB3 (btsT t) (MN t hN) r i j = true → MN t hM r.head.toNat i j = true
variable {hP hM : Nat → Int} {f : Nat → Nat} {k : Nat} {H : SpM}
theorem Q1.begin (hf : Fl2 t hN hR hN hP ch) (hj : Jm3 (btsT t) t.m t.g.rules f k H (MN t hN)) : Q1 t hN hR hP q r f k H 0 0 ch hN := ⟨hf, hj, fun _ _ _ h => h, fun i j _ _ h => by omega⟩
theorem Q1.skip (g : Q1 t hN hR hP q r f k H a b ch hM) (hs : holB3 (btsT t) (MN t hN) r a b = true → MN t hM r.head.toNat a b = true) : Q1 t hN hR hP q r f k H a (b + 1) ch hM := ⟨g.fl, g.jm, g.up, fun i j hij hj ho hh => by
  by_cases e : i = a ∧ j = b
  · obtain ⟨rfl, rfl⟩ := e; exact hs hh
  · exact g.did i j hij hj (by omega) hh⟩
theorem Q1.put (g : Q1 t hN hR hP q r f k H a b ch hM) (hw : Tw t) (hf : Str t.g.rules f) (hr : t.g.rules[q]? = some r) (hk : f r.head.toNat = k) (h0 : Jm3 (btsT t) t.m t.g.rules f k H (MN t hN)) (hab : a ≤ b) (hb : b ≤ t.m) (hs : holB3 (btsT t) (MN t hN) r a b = true) (hn : hasN t hM r.head.toNat a b = false) : Q1 t hN hR hP q r f k H a (b + 1) true (upd hM (nameIx t r.head.toNat a b)) := by
  have hm := List.mem_of_getElem? hr
  have hx : r.head.toNat < t.g.names.length := by have := hw.h r hm; omega
  have hput := MN_put (hN := hM) hx hab hb
  refine ⟨g.fl.putN (nameIx_lt hx hab hb) (by unfold hasN at hn; simpa using hn), ?_, fun x i j hh => MN_mono (g.up x i j hh), fun i j hij hj ho hh => ?_⟩
  · rw [hput]
    exact g.jm.put hf g.up h0.old hm hk hab hb hs
  · by_cases e : i = a ∧ j = b
    · obtain ⟨rfl, rfl⟩ := e
      rw [hput]; simp [putS3]
    · exact MN_mono (g.did i j hij hj (by omega) hh)
theorem Q1.next (g : Q1 t hN hR hP q r f k H a b ch hM) (hb : t.m < b) : Q1 t hN hR hP q r f k H (a + 1) (a + 1) ch hM := ⟨g.fl, g.jm, g.up, fun i j hij hj ho hh => g.did i j hij hj (by omega) hh⟩
/-- What a rule's turn leaves. -/
structure Qend (t : Tp) (hN hR : Nat → Int) (q : Nat) (r : Ru) (f : Nat → Nat) (k : Nat) (H : SpM) (ch : Bool) (hN' hR' : Nat → Int) : Prop where
  so : SoundR t hN' hR'
  jm : Jm3 (btsT t) t.m t.g.rules f k H (MN t hN')
  fl : Fl2 t hN hR hN' hR' ch
  sh : ch = false → ShutQ t hN hR q r
theorem Q1.fin (g : Q1 t hN hR hP q r f k H a b ch hM) (ha : t.m < a) (hS : SoundR t hN hP) (hC : CompQ t hN hP q r) : Qend t hN hR q r f k H ch hM hP := by
  refine ⟨hS.more g.up, g.jm, g.fl, fun e => ?_⟩
  obtain ⟨rfl, rfl⟩ := g.fl.1 e
  exact ⟨hC, fun i j hij hj hh => g.did i j hij hj (by omega) hh⟩
end
/-- All stays but two blocks. -/
structure B2 (x y : Nat) (w w' : World) : Prop where
  os : w'.os = w.os
  tape : w'.tape = w.tape
  output : w'.output = w.output
  size : w.heap.size ≤ w'.heap.size
  block : ∀ k, k < w.heap.size → k ≠ x → k ≠ y → w'.heap[k]? = w.heap[k]?
theorem B2.refl (x y : Nat) (w : World) : B2 x y w w := ⟨rfl, rfl, rfl, Nat.le_refl _, fun _ _ _ _ => rfl⟩
theorem B2.trans {x y : Nat} {w w' w'' : World} (h : B2 x y w w') (k : B2 x y w' w'') : B2 x y w w'' :=
  ⟨k.os.trans h.os, k.tape.trans h.tape, k.output.trans h.output, Nat.le_trans h.size k.size, fun i hi ha hb => (k.block i (Nat.lt_of_lt_of_le hi h.size) ha hb).trans (h.block i hi ha hb)⟩
theorem B2.of {x y : Nat} {w w' : World} (h : Below w.heap.size w w') : B2 x y w w' := ⟨h.os, h.tape, h.output, h.size, fun k hk _ _ => h.block k hk⟩
theorem B2.more {x y : Nat} {w w' w'' : World} (h : B2 x y w w') (k : Below w'.heap.size w' w'') : B2 x y w w'' := h.trans (B2.of k)
theorem B2.drew {x y : Nat} {w w' : World} (h : B2 x y w w') : B2 x y w w'.drew := h.more (Below.refl _ _).drew
theorem B2.setX {x y : Nat} {w w' : World} (h : B2 x y w w') (k : Nat) (v : Value) : B2 x y w (w'.setCell ⟨x, k, none⟩ v) :=
  ⟨h.os, h.tape, h.output, by rw [Go.Deep.nblk_setCell]; exact h.size, fun i hi ha hb => (Go.Deep.blk_setCell_other w' ⟨x, k, none⟩ v i ha).trans (h.block i hi ha hb)⟩
theorem B2.setY {x y : Nat} {w w' : World} (h : B2 x y w w') (k : Nat) (v : Value) : B2 x y w (w'.setCell ⟨y, k, none⟩ v) :=
  ⟨h.os, h.tape, h.output, by rw [Go.Deep.nblk_setCell]; exact h.size, fun i hi ha hb => (Go.Deep.blk_setCell_other w' ⟨y, k, none⟩ v i hb).trans (h.block i hi ha hb)⟩
theorem B2.below {x y B : Nat} {w w' : World} (h : B2 x y w w') (hx : B ≤ x) (hy : B ≤ y) (hs : B ≤ w.heap.size) : Below B w w' := ⟨h.os, h.tape, h.output, h.size, fun k hk => h.block k (by omega) (by omega) (by omega)⟩
theorem B2.cell {x y : Nat} {w w' : World} (h : B2 x y w w') {g j : Nat} {v : Value} (hg : w.cell? ⟨g, j, none⟩ = some v) (hx : g ≠ x) (hy : g ≠ y) : w'.cell? ⟨g, j, none⟩ = some v :=
  (World.cell?_of_block (a := ⟨g, j, none⟩) (h.block g (cellU_lt hg) hx hy)).trans hg
/-- Blocks of a table kept apart. -/
structure Sep (F : Nat → Prop) (tb : Nat) (t : Tp) : Prop where
  a : tb ≠ t.nb
  b : tb ≠ t.rb
  c : t.nb ≠ t.rb
  f : ∀ i, F i → i ≠ t.nb ∧ i ≠ t.rb
/-- A table in memory, with its numbers. -/
def Ts (F : Nat → Prop) (tb : Nat) (t : Tp) (hN hR : Nat → Int) (w : World) : Prop := TbIs w F tb t ∧ IBk w t.nb t.nn hN ∧ IBk w t.rb t.rn hR
section
variable {F : Nat → Prop} {tb : Nat} {t : Tp} {hN hR : Nat → Int} {w w' : World}
theorem GrIs.keepT {v1 v2 : Value} {g : Gr} (h : GrIs w F v1 v2 g) (hs : Stay F w w') : GrIs w' F v1 v2 g := ⟨h.1.keep hs (fun _ h => h), h.2.keep hs (fun _ h => h)⟩
theorem TbIs.low (h : TbIs w F tb t) : TbIs w (fun i => F i ∧ i < w.heap.size) tb t := by
  obtain ⟨h1, ⟨h2, h3⟩, us, h4, h5, h6⟩ := h
  exact ⟨h1, ⟨Reads.low h2 fun b e1 e2 => ⟨e1, e2⟩, IsRus.low h3 fun b e1 e2 => ⟨e1, e2⟩⟩, us, h4, Reads.low h5 fun b e1 e2 => ⟨e1, e2⟩, fun q r u e1 e2 => Reads.low (h6 q r u e1 e2) fun b e1 e2 => ⟨e1, e2⟩⟩
theorem TbIs.stay (h : TbIs w F tb t) (hs : Stay F w w') (hb : w'.heap[tb]? = w.heap[tb]?) : TbIs w' F tb t := by
  obtain ⟨h1, h2, us, h4, h5, h6⟩ := h
  exact ⟨hb.trans h1, GrIs.keepT h2 hs, us, h4, h5.keep hs (fun _ h => h), fun q r u e1 e2 => (h6 q r u e1 e2).keep hs (fun _ h => h)⟩
theorem Ts.any (h : Ts F tb t hN hR w) (hb : Below w.heap.size w w') : Ts F tb t hN hR w' := ⟨h.1.any hb, h.2.1.keep hb, h.2.2.keep hb⟩
theorem TbIs.two (h : TbIs w F tb t) (hs : Sep F tb t) (hF : ∀ i, F i → i < w.heap.size) (hb : B2 t.nb t.rb w w') : TbIs w' F tb t :=
  h.stay ⟨hb.size, fun i hi => hb.block i (hF i hi) (hs.f i hi).1 (hs.f i hi).2⟩ (hb.block tb (blk_ltT h.1) hs.a hs.b)
theorem IBk.put {b n : Nat} {h : Nat → Int} (k : IBk w b n h) (ix : Nat) (z : Int) : IBk (w.setCell ⟨b, ix, none⟩ (.int .i64 z)) b n (fun j => if j = ix then z else h j) := by
  unfold IBk at *
  simp only [World.setCell, Array.getElem?_modify, if_pos, k, Option.map_some]
  have e : (List.range n).map (fun i => Value.int .i64 (if i = ix then z else h i)) = ((List.range n).map fun i => Value.int .i64 (h i)).set ix (.int .i64 z) := by
    apply List.ext_getElem
    · simp
    · intro i h1 h2
      simp only [List.getElem_map, List.getElem_range, List.getElem_set]
      by_cases e : i = ix
      · subst e; simp
      · rw [if_neg e, if_neg (Ne.symm e)]
  rw [e]
  simp
theorem IBk.blk {b n : Nat} {h : Nat → Int} (k : IBk w b n h) (hb : w'.heap[b]? = w.heap[b]?) : IBk w' b n h := hb.trans k
theorem Ts.putR (h : Ts F tb t hN hR w) (hs : Sep F tb t) (ix : Nat) : Ts F tb t hN (upd hR ix) (w.setCell ⟨t.rb, ix, none⟩ (.int .i64 1)) := by
  have hb : ∀ i, i ≠ t.rb → (w.setCell ⟨t.rb, ix, none⟩ (.int .i64 1)).heap[i]? = w.heap[i]? := fun i hi => Go.Deep.blk_setCell_other w ⟨t.rb, ix, none⟩ _ i hi
  exact ⟨h.1.stay ⟨by rw [Go.Deep.nblk_setCell]; exact Nat.le_refl _, fun i hi => hb i (hs.f i hi).2⟩ (hb tb hs.b), h.2.1.blk (hb _ hs.c), h.2.2.put ix 1⟩
theorem Ts.putN (h : Ts F tb t hN hR w) (hs : Sep F tb t) (ix : Nat) : Ts F tb t (upd hN ix) hR (w.setCell ⟨t.nb, ix, none⟩ (.int .i64 1)) := by
  have hb : ∀ i, i ≠ t.nb → (w.setCell ⟨t.nb, ix, none⟩ (.int .i64 1)).heap[i]? = w.heap[i]? := fun i hi => Go.Deep.blk_setCell_other w ⟨t.nb, ix, none⟩ _ i hi
  exact ⟨h.1.stay ⟨by rw [Go.Deep.nblk_setCell]; exact Nat.le_refl _, fun i hi => hb i (hs.f i hi).1⟩ (hb tb hs.a), h.2.1.put ix 1, h.2.2.blk (hb _ (Ne.symm hs.c))⟩
end
end Go.Proofs.YtejhdhlpdcfedaaGreat
