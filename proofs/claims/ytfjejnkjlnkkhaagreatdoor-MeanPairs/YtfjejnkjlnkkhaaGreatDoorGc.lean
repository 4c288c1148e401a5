import Derived.Test.YtfjejnkjlnkkhaaGreatDoorGb
/- A grammar's table filled level by level, inner spans ahead, rules again where a name that they need has turned; plain. No program in sight. -/
namespace Go.Proofs.YtfjejnkjlnkkhaaGreatDoor
set_option linter.unusedVariables false

section
variable {b : Nat → Nat} {M N : SpM}
/-- What a row of symbols has of a span hangs on the spans within it. -/
theorem restB_in : ∀ {l : List Sy} {i j : Nat}, (∀ s, s ∈ l → s.name ≠ -1 → ∀ a c, i ≤ a → a ≤ c → c ≤ j → M s.name.toNat a c = true → N s.name.toNat a c = true) → (∀ s, s ∈ l → s.name ≠ -1 → ∀ a c, M s.name.toNat a c = true → a ≤ c) → restB b M l i j = true → restB b N l i j = true
  | [], _, _, _, _, h => h
  | s :: l, i, j, hm, ho, h => by
    unfold restB at h ⊢
    split
    · rename_i e
      rw [if_pos e] at h
      simp only [Bool.and_eq_true, decide_eq_true_eq] at h ⊢
      exact ⟨h.1, h.2.1, restB_in (fun s hs hn a c h1 h2 h3 => hm s (List.mem_cons_of_mem _ hs) hn a c (by omega) h2 h3) (fun s hs => ho s (List.mem_cons_of_mem _ hs)) h.2.2⟩
    · rename_i e
      rw [if_neg e] at h
      rw [List.any_eq_true] at h ⊢
      obtain ⟨k, hk, hh⟩ := h
      simp only [Bool.and_eq_true, decide_eq_true_eq] at hh
      have hkj := List.mem_range.1 hk
      refine ⟨k, hk, ?_⟩
      simp only [Bool.and_eq_true, decide_eq_true_eq]
      exact ⟨hh.1, hm s (by simp) e i k (Nat.le_refl _) hh.1 (by omega) hh.2.1, restB_in (fun s hs hn a c h1 h2 h3 => hm s (List.mem_cons_of_mem _ hs) hn a c (by omega) h2 h3) (fun s hs => ho s (List.mem_cons_of_mem _ hs)) hh.2.2⟩
theorem restB_at {l : List Sy} {i j : Nat} (hm : ∀ s, s ∈ l → s.name ≠ -1 → ∀ a c, i ≤ a → a ≤ c → c ≤ j → M s.name.toNat a c = N s.name.toNat a c) (hM : ∀ x a c, M x a c = true → a ≤ c) (hN : ∀ x a c, N x a c = true → a ≤ c) : restB b M l i j = restB b N l i j := by
  rw [Bool.eq_iff_iff]
  exact ⟨restB_in (fun s hs hn a c h1 h2 h3 h => by rw [← hm s hs hn a c h1 h2 h3]; exact h) (fun s hs hn a c h => hM _ _ _ h), restB_in (fun s hs hn a c h1 h2 h3 h => by rw [hm s hs hn a c h1 h2 h3]; exact h) (fun s hs hn a c h => hN _ _ _ h)⟩
theorem holB3_at {r : Ru} {i j : Nat} (hm : ∀ c, c ∈ r.conj → ∀ s, s ∈ c.seq → s.name ≠ -1 → ∀ a c, i ≤ a → a ≤ c → c ≤ j → M s.name.toNat a c = N s.name.toNat a c) (hM : ∀ x a c, M x a c = true → a ≤ c) (hN : ∀ x a c, N x a c = true → a ≤ c) : holB3 b M r i j = holB3 b N r i j := by
  unfold holB3
  rw [Bool.eq_iff_iff, List.all_eq_true, List.all_eq_true]
  constructor <;> intro h c hc <;> have h1 := h c hc <;> unfold conB3 at h1 ⊢
  · rw [← restB_at (fun s hs => hm c hc s hs) hM hN]; exact h1
  · rw [restB_at (fun s hs => hm c hc s hs) hM hN]; exact h1
/-- One step of a rest. -/
theorem restB_drop {l : List Sy} {p : Nat} {s : Sy} (h : l[p]? = some s) (i j : Nat) : restB b M (l.drop p) i j = if s.name = -1 then decide (i < j) && (inR b s i && restB b M (l.drop (p + 1)) (i + 1) j) else (List.range (j + 1)).any fun k => decide (i ≤ k) && (M s.name.toNat i k && restB b M (l.drop (p + 1)) k j) := by
  obtain ⟨hl, e⟩ := List.getElem?_eq_some_iff.1 h
  rw [List.drop_eq_getElem_cons hl, e]
  rfl
theorem restB_end {l : List Sy} (i j : Nat) : restB b M (l.drop l.length) i j = decide (i = j) := by
  rw [List.drop_length]; rfl
end

/-- Where a conjunct's places begin among all places; how many there are. -/
def ofCn : List Cn → Nat → Nat
  | [], _ => 0
  | _, 0 => 0
  | c :: l, k + 1 => c.seq.length + 1 + ofCn l k
def szCn : List Cn → Nat
  | [] => 0
  | c :: l => c.seq.length + 1 + szCn l
def ofRu : List Ru → Nat → Nat → Nat
  | [], _, _ => 0
  | r :: _, 0, c => ofCn r.conj c
  | r :: l, q + 1, c => szCn r.conj + ofRu l q c
theorem ofCn_lt : ∀ {l : List Cn} {c : Nat} {d : Cn}, l[c]? = some d → ofCn l c + d.seq.length + 1 ≤ szCn l
  | [], c, d, h => by simp at h
  | a :: l, 0, d, h => by
    obtain rfl : a = d := by simpa using h
    simp [ofCn, szCn]
  | a :: l, c + 1, d, h => by
    have := ofCn_lt (l := l) (c := c) (d := d) (by simpa using h)
    simp only [ofCn, szCn]; omega
theorem ofCn_inj : ∀ {l : List Cn} {c c' : Nat} {d d' : Cn} {p p' : Nat}, l[c]? = some d → l[c']? = some d' → p ≤ d.seq.length → p' ≤ d'.seq.length → ofCn l c + p = ofCn l c' + p' → c = c' ∧ p = p'
  | [], c, c', d, d', p, p', h, _, _, _, _ => by simp at h
  | a :: l, 0, 0, d, d', p, p', h, h', hp, hp', e => by simp only [ofCn] at e; exact ⟨rfl, by omega⟩
  | a :: l, 0, c' + 1, d, d', p, p', h, h', hp, hp', e => by
    obtain rfl : a = d := by simpa using h
    simp only [ofCn] at e; omega
  | a :: l, c + 1, 0, d, d', p, p', h, h', hp, hp', e => by
    obtain rfl : a = d' := by simpa using h'
    simp only [ofCn] at e; omega
  | a :: l, c + 1, c' + 1, d, d', p, p', h, h', hp, hp', e => by
    simp only [ofCn] at e
    have := ofCn_inj (l := l) (c := c) (c' := c') (by simpa using h) (by simpa using h') hp hp' (by omega)
    exact ⟨by omega, this.2⟩
theorem ofRu_inj : ∀ {L : List Ru} {q q' c c' : Nat} {r r' : Ru} {d d' : Cn} {p p' : Nat}, L[q]? = some r → L[q']? = some r' → r.conj[c]? = some d → r'.conj[c']? = some d' → p ≤ d.seq.length → p' ≤ d'.seq.length → ofRu L q c + p = ofRu L q' c' + p' → q = q' ∧ c = c' ∧ p = p'
  | [], q, q', c, c', r, r', d, d', p, p', h, _, _, _, _, _, _ => by simp at h
  | a :: L, 0, 0, c, c', r, r', d, d', p, p', h, h', hd, hd', hp, hp', e => by
    obtain rfl : a = r := by simpa using h
    obtain rfl : a = r' := by simpa using h'
    simp only [ofRu] at e
    exact ⟨rfl, ofCn_inj hd hd' hp hp' e⟩
  | a :: L, 0, q' + 1, c, c', r, r', d, d', p, p', h, h', hd, hd', hp, hp', e => by
    obtain rfl : a = r := by simpa using h
    simp only [ofRu] at e
    have := ofCn_lt hd
    omega
  | a :: L, q + 1, 0, c, c', r, r', d, d', p, p', h, h', hd, hd', hp, hp', e => by
    obtain rfl : a = r' := by simpa using h'
    simp only [ofRu] at e
    have := ofCn_lt hd'
    omega
  | a :: L, q + 1, q' + 1, c, c', r, r', d, d', p, p', h, h', hd, hd', hp, hp', e => by
    simp only [ofRu] at e
    have := ofRu_inj (L := L) (q := q) (q' := q') (by simpa using h) (by simpa using h') hd hd' hp hp' (by omega)
    exact ⟨by omega, this.2⟩
theorem sqP_at (i j : Nat) : ∀ (m k p : Nat), p < m → (sqP i j k m)[p]? = some ((i : Int), (j : Int), ((k + p : Nat) : Int))
  | 0, _, _, h => by omega
  | m + 1, k, 0, _ => by simp [sqP]
  | m + 1, k, p + 1, h => by
    have := sqP_at i j m (k + 1) p (by omega)
    simp only [sqP, List.getElem?_cons_succ]
    rw [this, show k + 1 + p = k + (p + 1) by omega]
theorem cnP_siz (i : Nat) : ∀ (l : List Cn) (j : Nat), (cnP i j l).length = szCn l
  | [], _ => rfl
  | c :: l, j => by simp only [cnP, List.length_append, sqP_len, cnP_siz i l, szCn]
theorem cnP_at (i : Nat) : ∀ {l : List Cn} {c j : Nat} {d : Cn} {p : Nat}, l[c]? = some d → p ≤ d.seq.length → (cnP i j l)[ofCn l c + p]? = some ((i : Int), ((j + c : Nat) : Int), (p : Int))
  | [], c, j, d, p, h, _ => by simp at h
  | a :: l, 0, j, d, p, h, hp => by
    obtain rfl : a = d := by simpa using h
    simp only [ofCn, cnP, Nat.zero_add, Nat.add_zero]
    rw [List.getElem?_append_left (by rw [sqP_len]; omega), sqP_at _ _ _ _ _ (by omega), Nat.zero_add]
  | a :: l, c + 1, j, d, p, h, hp => by
    simp only [ofCn, cnP]
    rw [List.getElem?_append_right (by rw [sqP_len]; omega), sqP_len, show a.seq.length + 1 + ofCn l c + p - (a.seq.length + 1) = ofCn l c + p by omega, cnP_at i (l := l) (c := c) (j := j + 1) (by simpa using h) hp, show j + 1 + c = j + (c + 1) by omega]
theorem ruP_at : ∀ {L : List Ru} {q c i : Nat} {r : Ru} {d : Cn} {p : Nat}, L[q]? = some r → r.conj[c]? = some d → p ≤ d.seq.length → (ruP i L)[ofRu L q c + p]? = some (((i + q : Nat) : Int), (c : Int), (p : Int))
  | [], q, c, i, r, d, p, h, _, _ => by simp at h
  | a :: L, 0, c, i, r, d, p, h, hd, hp => by
    obtain rfl : a = r := by simpa using h
    simp only [ofRu, ruP, Nat.add_zero]
    rw [List.getElem?_append_left (by rw [cnP_siz]; have := ofCn_lt hd; omega), cnP_at i hd hp, Nat.zero_add]
  | a :: L, q + 1, c, i, r, d, p, h, hd, hp => by
    simp only [ofRu, ruP]
    rw [List.getElem?_append_right (by rw [cnP_siz]; omega), cnP_siz, Nat.add_assoc, Nat.add_sub_cancel_left, ruP_at (L := L) (q := q) (i := i + 1) (by simpa using h) hd hp, show i + 1 + q = i + (q + 1) by omega]
/-- Each place stands at a number. -/
theorem sqP_num {i j : Nat} : ∀ {m k : Nat} {y : Nat} {e : Plc}, (sqP i j k m)[y]? = some e → y < m ∧ e = ((i : Int), (j : Int), ((k + y : Nat) : Int))
  | 0, _, _, _, h => by simp [sqP] at h
  | m + 1, k, 0, e, h => ⟨by omega, by simpa [sqP] using h.symm⟩
  | m + 1, k, y + 1, e, h => by
    obtain ⟨h1, h2⟩ := sqP_num (m := m) (k := k + 1) (y := y) (by simpa [sqP] using h)
    exact ⟨by omega, by rw [h2, show k + 1 + y = k + (y + 1) by omega]⟩
theorem cnP_num {i : Nat} : ∀ {l : List Cn} {j y : Nat} {e : Plc}, (cnP i j l)[y]? = some e → ∃ c d p, l[c]? = some d ∧ p ≤ d.seq.length ∧ y = ofCn l c + p ∧ e = ((i : Int), ((j + c : Nat) : Int), (p : Int))
  | [], _, _, _, h => by simp [cnP] at h
  | a :: l, j, y, e, h => by
    by_cases hy : y < a.seq.length + 1
    · rw [cnP, List.getElem?_append_left (by rw [sqP_len]; exact hy)] at h
      obtain ⟨h1, h2⟩ := sqP_num h
      exact ⟨0, a, y, rfl, by omega, by simp [ofCn], by rw [h2]; simp⟩
    · rw [cnP, List.getElem?_append_right (by rw [sqP_len]; omega), sqP_len] at h
      obtain ⟨c, d, p, h1, h2, h3, h4⟩ := cnP_num h
      exact ⟨c + 1, d, p, by simpa using h1, h2, by simp only [ofCn]; omega, by rw [h4, show j + 1 + c = j + (c + 1) by omega]⟩
theorem ruP_num : ∀ {L : List Ru} {i y : Nat} {e : Plc}, (ruP i L)[y]? = some e → ∃ q c r d p, L[q]? = some r ∧ r.conj[c]? = some d ∧ p ≤ d.seq.length ∧ y = ofRu L q c + p ∧ e = (((i + q : Nat) : Int), (c : Int), (p : Int))
  | [], _, _, _, h => by simp [ruP] at h
  | a :: L, i, y, e, h => by
    by_cases hy : y < szCn a.conj
    · rw [ruP, List.getElem?_append_left (by rw [cnP_siz]; exact hy)] at h
      obtain ⟨c, d, p, h1, h2, h3, h4⟩ := cnP_num h
      exact ⟨0, c, a, d, p, rfl, h1, h2, h3, by rw [h4]; simp⟩
    · rw [ruP, List.getElem?_append_right (by rw [cnP_siz]; omega), cnP_siz] at h
      obtain ⟨q, c, r, d, p, h1, h2, h3, h4, h5⟩ := ruP_num h
      exact ⟨q + 1, c, r, d, p, by simpa using h1, h2, h3, by simp only [ofRu]; omega, by rw [h5, show i + 1 + q = i + (q + 1) by omega]⟩
theorem ofRu_lt {L : List Ru} {q c : Nat} {r : Ru} {d : Cn} {p : Nat} (hr : L[q]? = some r) (hd : r.conj[c]? = some d) (hp : p ≤ d.seq.length) : ofRu L q c + p < (ruP 0 L).length :=
  (List.getElem?_eq_some_iff.1 (ruP_at (i := 0) hr hd hp)).1

/-- One table of names and rests: the names' part, the rests' part. -/
def nmT (N : Nat) (T : SpM) : SpM := fun x i j => decide (x < N) && T x i j
def rsT (N : Nat) (L : List Ru) (T : SpM) : SpR := fun q c p i j => T (N + ofRu L q c + p) i j
theorem nmT_at {N : Nat} {T : SpM} {x : Nat} (h : x < N) (i j : Nat) : nmT N T x i j = T x i j := by unfold nmT; simp [h]
theorem putS3_le {T : SpM} {x a c y i j : Nat} (h : T y i j = true) : putS3 T x a c y i j = true := by
  unfold putS3
  split
  · rfl
  · exact h
theorem nmT_name {N : Nat} {T : SpM} {x : Nat} (h : x < N) (a c : Nat) : nmT N (putS3 T x a c) = putS3 (nmT N T) x a c := by
  funext y i j
  unfold nmT putS3
  split
  · rename_i e
    rw [e.1]; simp [h]
  · rfl
theorem nmT_rest {N : Nat} {T : SpM} {y : Nat} (h : N ≤ y) (a c : Nat) : nmT N (putS3 T y a c) = nmT N T := by
  funext x i j
  unfold nmT putS3
  by_cases hx : x < N
  · rw [if_neg (by omega)]
  · simp [hx]
theorem rsT_name {N : Nat} {L : List Ru} {T : SpM} {x : Nat} (h : x < N) (a c : Nat) : rsT N L (putS3 T x a c) = rsT N L T := by
  funext q c p i j
  unfold rsT putS3
  rw [if_neg (by omega)]
/-- The grammar's names are below N. -/
def NmIn (N : Nat) (L : List Ru) : Prop := ∀ r, r ∈ L → r.head.toNat < N ∧ ∀ c, c ∈ r.conj → ∀ s, s ∈ c.seq → s.name ≠ -1 → s.name.toNat < N
/-- Rules are being followed at a level: names and rests so far. -/
structure Sd (b : Nat → Nat) (n N : Nat) (L : List Ru) (f : Nat → Nat) (k : Nat) (D : Nat → Nat → Prop) (H T : SpM) : Prop where
  jm : Jm3 b n L f k H (nmT N T)
  spn : ∀ y i j, T y i j = true → i ≤ j ∧ j ≤ n
  snd : ∀ q c p i j r d, L[q]? = some r → r.conj[c]? = some d → p ≤ d.seq.length → rsT N L T q c p i j = true → restB b (nmT N T) (d.seq.drop p) i j = true
  low : ∀ q c p i j r d, L[q]? = some r → r.conj[c]? = some d → f r.head.toNat < k → p ≤ d.seq.length → i ≤ j → j ≤ n → restB b (nmT N T) (d.seq.drop p) i j = true → rsT N L T q c p i j = true
  dn : ∀ q c p i j r d, L[q]? = some r → r.conj[c]? = some d → f r.head.toNat = k → p ≤ d.seq.length → D i j → restB b (nmT N T) (d.seq.drop p) i j = true → rsT N L T q c p i j = true
  cl : ∀ r, r ∈ L → f r.head.toNat = k → ∀ i j, D i j → holB3 b (nmT N T) r i j = true → T r.head.toNat i j = true
section
variable {b : Nat → Nat} {n N : Nat} {L : List Ru} {f : Nat → Nat} {k : Nat} {D : Nat → Nat → Prop} {H T : SpM}
theorem Sd.span (h : Sd b n N L f k D H T) {x i j : Nat} (hx : nmT N T x i j = true) : i ≤ j := by
  unfold nmT at hx
  rw [Bool.and_eq_true] at hx
  exact (h.spn x i j hx.2).1
/-- A rest more. -/
theorem Sd.rest (h : Sd b n N L f k D H T) {q c p a e : Nat} {r : Ru} {d : Cn} (hr : L[q]? = some r) (hd : r.conj[c]? = some d) (hp : p ≤ d.seq.length) (ha : a ≤ e) (he : e ≤ n) (hx : restB b (nmT N T) (d.seq.drop p) a e = true) : Sd b n N L f k D H (putS3 T (N + ofRu L q c + p) a e) := by
  have e1 : nmT N (putS3 T (N + ofRu L q c + p) a e) = nmT N T := nmT_rest (by omega) a e
  refine ⟨by rw [e1]; exact h.jm, fun y i j hy => ?_, fun q' c' p' i j r' d' h1 h2 h3 h4 => ?_, fun q' c' p' i j r' d' h1 h2 h3 h4 h5 h6 h7 => ?_, fun q' c' p' i j r' d' h1 h2 h3 h4 h5 h6 => ?_, fun r' h1 h2 i j h3 h4 => ?_⟩
  · unfold putS3 at hy
    split at hy
    · rename_i e9; rw [e9.2.1, e9.2.2]; exact ⟨ha, he⟩
    · exact h.spn y i j hy
  · rw [e1]
    unfold rsT putS3 at h4
    split at h4
    · rename_i e9
      obtain ⟨e8, rfl, rfl⟩ := e9
      obtain ⟨rfl, rfl, rfl⟩ := ofRu_inj h1 hr h2 hd h3 hp (by omega)
      rw [hr] at h1
      injection h1 with h1
      subst h1
      rw [hd] at h2
      injection h2 with h2
      subst h2
      exact hx
    · exact h.snd q' c' p' i j r' d' h1 h2 h3 h4
  · rw [e1] at h7
    exact putS3_le (h.low q' c' p' i j r' d' h1 h2 h3 h4 h5 h6 h7)
  · rw [e1] at h6
    exact putS3_le (h.dn q' c' p' i j r' d' h1 h2 h3 h4 h5 h6)
  · rw [e1] at h4
    exact putS3_le (h.cl r' h1 h2 i j h3 h4)
/-- A name more, by a rule that holds. -/
theorem Sd.name (hf : Str L f) (hN : NmIn N L) (h : Sd b n N L f k D H T) {r : Ru} (hr : r ∈ L) (hk : f r.head.toNat = k) {a e : Nat} (ha : a ≤ e) (he : e ≤ n) (hD : ∀ i j, D i j → ¬ (i ≤ a ∧ e ≤ j)) (hh : holB3 b (nmT N T) r a e = true) : Sd b n N L f k D H (putS3 T r.head.toNat a e) := by
  have hx := (hN r hr).1
  have e1 := nmT_name (T := T) hx a e
  have e2 : rsT N L (putS3 T r.head.toNat a e) = rsT N L T := rsT_name hx a e
  have hs : ∀ x i j, putS3 (nmT N T) r.head.toNat a e x i j = true → i ≤ j := fun x i j hh => by
    unfold putS3 at hh
    split at hh
    · rename_i e9; rw [e9.2.1, e9.2.2]; exact ha
    · exact h.span hh
  have hs0 : ∀ x i j, nmT N T x i j = true → i ≤ j := fun x i j hh => h.span hh
  refine ⟨by rw [e1]; exact h.jm.put hf (P := nmT N T) (fun _ _ _ h => h) h.jm.old hr hk ha he hh, fun y i j hy => ?_, fun q' c' p' i j r' d' h1 h2 h3 h4 => ?_, fun q' c' p' i j r' d' h1 h2 h3 h4 h5 h6 h7 => ?_, fun q' c' p' i j r' d' h1 h2 h3 h4 h5 h6 => ?_, fun r' h1 h2 i j h3 h4 => ?_⟩
  · unfold putS3 at hy
    split at hy
    · rename_i e9; rw [e9.2.1, e9.2.2]; exact ⟨ha, he⟩
    · exact h.spn y i j hy
  · rw [e2] at h4
    rw [e1]
    exact restB_mono (fun s hs hn i j hh => putS3_le hh) (h.snd q' c' p' i j r' d' h1 h2 h3 h4)
  · rw [e2]
    refine h.low q' c' p' i j r' d' h1 h2 h3 h4 h5 h6 ?_
    rw [e1] at h7
    refine restB_mono (fun s hs hn i j hh => ?_) h7
    unfold putS3 at hh
    split at hh
    · rename_i e9
      have := hf.pos (List.mem_of_getElem? h1) (List.mem_of_getElem? h2) (List.mem_of_mem_drop hs) hn
      rw [e9.1] at this; omega
    · exact hh
  · rw [e2]
    refine h.dn q' c' p' i j r' d' h1 h2 h3 h4 h5 ?_
    rw [e1] at h6
    rw [← h6]
    refine restB_at (fun s hs hn i' j' g1 g2 g3 => ?_) hs0 hs
    unfold putS3
    rw [if_neg]
    rintro ⟨-, rfl, rfl⟩
    exact hD i j h5 ⟨g1, g3⟩
  · refine putS3_le (h.cl r' h1 h2 i j h3 ?_)
    rw [e1] at h4
    rw [← h4]
    refine holB3_at (fun d' hd' s hs hn i' j' g1 g2 g3 => ?_) hs0 hs
    unfold putS3
    rw [if_neg]
    rintro ⟨-, rfl, rfl⟩
    exact hD i j h3 ⟨g1, g3⟩
/-- A rule says no more of a span than the table does. -/
structure Fr (b : Nat → Nat) (N : Nat) (L : List Ru) (T : SpM) (q i j : Nat) : Prop where
  rs : ∀ c p r d, L[q]? = some r → r.conj[c]? = some d → p ≤ d.seq.length → restB b (nmT N T) (d.seq.drop p) i j = true → rsT N L T q c p i j = true
  hd : ∀ r, L[q]? = some r → holB3 b (nmT N T) r i j = true → T r.head.toNat i j = true
theorem Fr.rest {q i j : Nat} (h : Fr b N L T q i j) {y a e : Nat} (hy : N ≤ y) : Fr b N L (putS3 T y a e) q i j := by
  refine ⟨fun c p r d h1 h2 h3 h4 => ?_, fun r h1 h2 => ?_⟩
  · rw [nmT_rest hy] at h4
    exact putS3_le (h.rs c p r d h1 h2 h3 h4)
  · rw [nmT_rest hy] at h2
    exact putS3_le (h.hd r h1 h2)
theorem Fr.name {q i j : Nat} (h : Fr b N L T q i j) {x a e : Nat} (hx : x < N) (hq : ∀ r, L[q]? = some r → ∀ c, c ∈ r.conj → ∀ s, s ∈ c.seq → s.name ≠ -1 → s.name.toNat ≠ x) : Fr b N L (putS3 T x a e) q i j := by
  have e1 := nmT_name (T := T) hx a e
  refine ⟨fun c p r d h1 h2 h3 h4 => ?_, fun r h1 h2 => ?_⟩
  · rw [rsT_name hx]
    refine h.rs c p r d h1 h2 h3 ?_
    rw [e1] at h4
    refine restB_mono (fun s hs hn i j hh => ?_) h4
    unfold putS3 at hh
    rw [if_neg (fun g => hq r h1 d (List.mem_of_getElem? h2) s (List.mem_of_mem_drop hs) hn g.1)] at hh
    exact hh
  · refine putS3_le (h.hd r h1 ?_)
    rw [e1] at h2
    rw [← h2]
    unfold holB3
    rw [Bool.eq_iff_iff, List.all_eq_true, List.all_eq_true]
    have key : ∀ c, c ∈ r.conj → conB3 b (nmT N T) c i j = conB3 b (putS3 (nmT N T) x a e) c i j := fun c hc => by
      unfold conB3
      rw [restB_congr (N := putS3 (nmT N T) x a e)]
      intro s hs hn i j
      unfold putS3
      rw [if_neg (fun g => hq r h1 c hc s hs hn g.1)]
    exact ⟨fun g c hc => by rw [← key c hc]; exact g c hc, fun g c hc => by rw [key c hc]; exact g c hc⟩
/-- A rule's conjuncts as the table's rests say. -/
def holM (N : Nat) (L : List Ru) (T : SpM) (q : Nat) (r : Ru) (i j : Nat) : Bool := (List.range r.conj.length).all fun c => !(rsT N L T q c 0 i j == (r.conj.getD c ⟨false, []⟩).neg)
theorem holM_eq (h : Sd b n N L f k D H T) {q : Nat} {r : Ru} (hr : L[q]? = some r) {i j : Nat} (hc : ∀ c p d, r.conj[c]? = some d → p ≤ d.seq.length → restB b (nmT N T) (d.seq.drop p) i j = true → rsT N L T q c p i j = true) : holM N L T q r i j = holB3 b (nmT N T) r i j := by
  have key : ∀ c d, r.conj[c]? = some d → rsT N L T q c 0 i j = restB b (nmT N T) d.seq i j := fun c d hd => by
    rw [Bool.eq_iff_iff]
    exact ⟨fun g => h.snd q c 0 i j r d hr hd (Nat.zero_le _) g, hc c 0 d hd (Nat.zero_le _)⟩
  unfold holM holB3
  rw [Bool.eq_iff_iff, List.all_eq_true, List.all_eq_true]
  constructor
  · intro g d hd
    obtain ⟨c, hcd⟩ := List.mem_iff_getElem?.1 hd
    have := g c (List.mem_range.2 (List.getElem?_eq_some_iff.1 hcd).1)
    rw [List.getD_eq_getElem?_getD, hcd, key c d hcd] at this
    exact this
  · intro g c hc
    have hlt := List.mem_range.1 hc
    have hcd : r.conj[c]? = some r.conj[c] := List.getElem?_eq_getElem hlt
    rw [List.getD_eq_getElem?_getD, hcd, key c _ hcd]
    exact g _ (List.getElem_mem hlt)
/-- A pass over rules at a span: those ahead are followed, or need what has turned. -/
structure Gp (b : Nat → Nat) (n N : Nat) (L : List Ru) (f : Nat → Nat) (k : Nat) (D : Nat → Nat → Prop) (H T0 T : SpM) (i j : Nat) (C : Nat → Bool) (R : Nat → Prop) : Prop where
  sd : Sd b n N L f k D H T
  up : ∀ y a e, T0 y a e = true → T y a e = true
  ch : ∀ x, C x = true → x < N ∧ T0 x i j = false ∧ T x i j = true
  fr : ∀ q r, L[q]? = some r → f r.head.toNat = k → Fr b N L T q i j ∨ R q ∨ ∃ c s, c ∈ r.conj ∧ s ∈ c.seq ∧ s.name ≠ -1 ∧ C s.name.toNat = true
theorem Gp.rest {T0 : SpM} {i j : Nat} {C : Nat → Bool} {R : Nat → Prop} (h : Gp b n N L f k D H T0 T i j C R) {q c p : Nat} {r : Ru} {d : Cn} (hr : L[q]? = some r) (hd : r.conj[c]? = some d) (hp : p ≤ d.seq.length) (hi : i ≤ j) (hj : j ≤ n) (hx : restB b (nmT N T) (d.seq.drop p) i j = true) :
    Gp b n N L f k D H T0 (putS3 T (N + ofRu L q c + p) i j) i j C R :=
  ⟨h.sd.rest hr hd hp hi hj hx, fun y a e g => putS3_le (h.up y a e g), fun x g => ⟨(h.ch x g).1, (h.ch x g).2.1, putS3_le (h.ch x g).2.2⟩, fun q' r' h1 h2 => (h.fr q' r' h1 h2).imp (fun g => g.rest (by omega)) id⟩
theorem Gp.pass {T0 : SpM} {i j : Nat} {C : Nat → Bool} {R R' : Nat → Prop} {q : Nat} (h : Gp b n N L f k D H T0 T i j C R) (hq : Fr b N L T q i j) (hR : ∀ q', R q' → q' = q ∨ R' q') : Gp b n N L f k D H T0 T i j C R' :=
  ⟨h.sd, h.up, h.ch, fun q' r' h1 h2 => (h.fr q' r' h1 h2).elim Or.inl fun g => g.elim (fun g => (hR q' g).elim (fun e => by rw [e]; exact Or.inl hq) (fun g => Or.inr (Or.inl g))) (fun g => Or.inr (Or.inr g))⟩
theorem Gp.name (hf : Str L f) (hN : NmIn N L) {T0 : SpM} {i j : Nat} {C : Nat → Bool} {R R' : Nat → Prop} {q : Nat} {r : Ru} (h : Gp b n N L f k D H T0 T i j C R) (hr : L[q]? = some r) (hk : f r.head.toNat = k) (hi : i ≤ j) (hj : j ≤ n) (hD : ∀ i' j', D i' j' → ¬ (i' ≤ i ∧ j ≤ j')) (hT : T r.head.toNat i j = false)
    (hc : ∀ c p d, r.conj[c]? = some d → p ≤ d.seq.length → restB b (nmT N T) (d.seq.drop p) i j = true → rsT N L T q c p i j = true) (hh : holB3 b (nmT N T) r i j = true) (hR : ∀ q', R q' → q' = q ∨ R' q') :
    Gp b n N L f k D H T0 (putS3 T r.head.toNat i j) i j (fun x => decide (x = r.head.toNat) || C x) R' := by
  have hx := (hN r (List.mem_of_getElem? hr)).1
  have hself : putS3 T r.head.toNat i j r.head.toNat i j = true := by unfold putS3; simp
  have hneed : ∀ q' r', L[q']? = some r' → Fr b N L T q' i j → Fr b N L (putS3 T r.head.toNat i j) q' i j ∨ ∃ c s, c ∈ r'.conj ∧ s ∈ c.seq ∧ s.name ≠ -1 ∧ (decide (s.name.toNat = r.head.toNat) || C s.name.toNat) = true := fun q' r' h1 g => by
    by_cases hn : ∃ c s, c ∈ r'.conj ∧ s ∈ c.seq ∧ s.name ≠ -1 ∧ s.name.toNat = r.head.toNat
    · obtain ⟨c, s, g1, g2, g3, g4⟩ := hn
      exact Or.inr ⟨c, s, g1, g2, g3, by simp [g4]⟩
    · refine Or.inl (g.name hx fun r2 h2 c hc s hs hn' e => hn ⟨c, s, ?_, hs, hn', e⟩)
      rw [h1] at h2
      injection h2 with h2
      rw [h2]; exact hc
  refine ⟨h.sd.name hf hN (List.mem_of_getElem? hr) hk hi hj hD hh, fun y a e g => putS3_le (h.up y a e g), fun x g => ?_, fun q' r' h1 h2 => ?_⟩
  · rw [Bool.or_eq_true, decide_eq_true_eq] at g
    rcases g with rfl | g
    · refine ⟨hx, ?_, hself⟩
      cases h0 : T0 r.head.toNat i j with
      | false => rfl
      | true => rw [h.up _ _ _ h0] at hT; cases hT
    · exact ⟨(h.ch x g).1, (h.ch x g).2.1, putS3_le (h.ch x g).2.2⟩
  · have mine : ∀ q', q' = q → L[q']? = some r' → Fr b N L (putS3 T r.head.toNat i j) q' i j ∨ ∃ c s, c ∈ r'.conj ∧ s ∈ c.seq ∧ s.name ≠ -1 ∧ (decide (s.name.toNat = r.head.toNat) || C s.name.toNat) = true := fun q' e h1 => by
      subst e
      rw [hr] at h1
      injection h1 with h1
      subst h1
      by_cases hn : ∃ c s, c ∈ r.conj ∧ s ∈ c.seq ∧ s.name ≠ -1 ∧ s.name.toNat = r.head.toNat
      · obtain ⟨c, s, g1, g2, g3, g4⟩ := hn
        exact Or.inr ⟨c, s, g1, g2, g3, by simp [g4]⟩
      · refine Or.inl ⟨fun c p r2 d h2 h3 h4 h5 => ?_, fun r2 h2 h3 => ?_⟩
        · rw [hr] at h2
          injection h2 with h2
          subst h2
          rw [rsT_name hx]
          refine hc c p d h3 h4 ?_
          rw [nmT_name hx] at h5
          refine restB_mono (fun s hs hn' i j hh => ?_) h5
          unfold putS3 at hh
          rw [if_neg (fun g => hn ⟨d, s, List.mem_of_getElem? h3, List.mem_of_mem_drop hs, hn', g.1⟩)] at hh
          exact hh
        · rw [hr] at h2
          injection h2 with h2
          subst h2
          exact hself
    rcases h.fr q' r' h1 h2 with g | g | ⟨c, s, g1, g2, g3, g4⟩
    · exact (hneed q' r' h1 g).imp id Or.inr
    · rcases hR q' g with e | g
      · exact (mine q' e h1).imp id Or.inr
      · exact Or.inr (Or.inl g)
    · exact Or.inr (Or.inr ⟨c, s, g1, g2, g3, by simp [g4]⟩)
/-- A new pass over those that need what has turned. -/
theorem Gp.next {T0 : SpM} {i j : Nat} {C : Nat → Bool} {R' : Nat → Prop} (h : Gp b n N L f k D H T0 T i j C (fun _ => False)) (hR : ∀ q r, L[q]? = some r → f r.head.toNat = k → (∃ c s, c ∈ r.conj ∧ s ∈ c.seq ∧ s.name ≠ -1 ∧ C s.name.toNat = true) → R' q) : Gp b n N L f k D H T T i j (fun _ => false) R' :=
  ⟨h.sd, fun _ _ _ g => g, fun x g => (by cases g), fun q r h1 h2 => (h.fr q r h1 h2).imp id fun g => Or.inl (g.elim False.elim (hR q r h1 h2))⟩
theorem Gp.begin {i j : Nat} {R : Nat → Prop} (h : Sd b n N L f k D H T) (hR : ∀ q r, L[q]? = some r → f r.head.toNat = k → R q) : Gp b n N L f k D H T T i j (fun _ => false) R :=
  ⟨h, fun _ _ _ g => g, fun x g => (by cases g), fun q r h1 h2 => Or.inr (Or.inl (hR q r h1 h2))⟩
/-- Nothing has turned: the span is done. -/
theorem Gp.fin {T0 : SpM} {i j : Nat} {C : Nat → Bool} {D' : Nat → Nat → Prop} (h : Gp b n N L f k D H T0 T i j C (fun _ => False)) (hC : ∀ x, C x = false) (hD : ∀ a e, D' a e → D a e ∨ (a = i ∧ e = j)) : Sd b n N L f k D' H T := by
  have hfr : ∀ q r, L[q]? = some r → f r.head.toNat = k → Fr b N L T q i j := fun q r h1 h2 => by
    rcases h.fr q r h1 h2 with g | g | ⟨c, s, _, _, _, g⟩
    · exact g
    · exact g.elim
    · rw [hC] at g; cases g
  refine ⟨h.sd.jm, h.sd.spn, h.sd.snd, h.sd.low, fun q c p a e r d h1 h2 h3 h4 h5 h6 => ?_, fun r h1 h2 a e h3 h4 => ?_⟩
  · rcases hD a e h5 with g | ⟨rfl, rfl⟩
    · exact h.sd.dn q c p a e r d h1 h2 h3 h4 g h6
    · exact (hfr q r h1 h3).rs c p r d h1 h2 h4 h6
  · rcases hD a e h3 with g | ⟨rfl, rfl⟩
    · exact h.sd.cl r h1 h2 a e g h4
    · obtain ⟨q, hq⟩ := List.mem_iff_getElem?.1 h1
      exact (hfr q r hq h2).hd r hq h4
/-- Levels are done below k. -/
structure Lv (b : Nat → Nat) (n N : Nat) (L : List Ru) (f : Nat → Nat) (k : Nat) (T : SpM) : Prop where
  jn : Jn3 b n L f k (nmT N T)
  spn : ∀ y i j, T y i j = true → i ≤ j ∧ j ≤ n
  snd : ∀ q c p i j r d, L[q]? = some r → r.conj[c]? = some d → p ≤ d.seq.length → rsT N L T q c p i j = true → restB b (nmT N T) (d.seq.drop p) i j = true
  low : ∀ q c p i j r d, L[q]? = some r → r.conj[c]? = some d → f r.head.toNat < k → p ≤ d.seq.length → i ≤ j → j ≤ n → restB b (nmT N T) (d.seq.drop p) i j = true → rsT N L T q c p i j = true
theorem Lv.zero : Lv b n N L f 0 (fun _ _ _ => false) := by
  have e : nmT N (fun _ _ _ => false) = fun _ _ _ => false := by funext x i j; unfold nmT; simp
  exact ⟨by rw [e]; exact Jn3.begin b n L f, fun y i j h => (by cases h), fun q c p i j r d _ _ _ h => (by cases h), fun q c p i j r d _ _ h => (by omega)⟩
theorem Lv.begin (h : Lv b n N L f k T) : Sd b n N L f k (fun _ _ => False) (nmT N T) T :=
  ⟨h.jn.mid, h.spn, h.snd, h.low, fun _ _ _ _ _ _ _ _ _ _ _ h => h.elim, fun _ _ _ _ _ h => h.elim⟩
theorem Lv.next (hf : Str L f) (hN : NmIn N L) {T' : SpM} (h0 : Lv b n N L f k T) (h : Sd b n N L f k (fun i j => i ≤ j ∧ j ≤ n) (nmT N T) T') : Lv b n N L f (k + 1) T' :=
  ⟨h.jm.fin hf h0.jn fun r hr hk i j hi hj hh => by rw [nmT_at (hN r hr).1]; exact h.cl r hr hk i j ⟨hi, hj⟩ hh, h.spn, h.snd, fun q c p i j r d h1 h2 h3 h4 h5 h6 h7 => by
    by_cases e : f r.head.toNat = k
    · exact h.dn q c p i j r d h1 h2 e h4 ⟨h5, h6⟩ h7
    · exact h.low q c p i j r d h1 h2 (by omega) h4 h5 h6 h7⟩
/-- The table is the meaning's. -/
structure MnOk (b : Nat → Nat) (n N : Nat) (L : List Ru) (T : SpM) : Prop where
  stb : Stb3 b n L (nmT N T)
  spn : ∀ y i j, T y i j = true → i ≤ j ∧ j ≤ n
  rs : ∀ q c p i j r d, L[q]? = some r → r.conj[c]? = some d → p ≤ d.seq.length → i ≤ j → j ≤ n → rsT N L T q c p i j = restB b (nmT N T) (d.seq.drop p) i j
theorem Lv.fin (h : Lv b n N L f k T) (hk : ∀ r, r ∈ L → f r.head.toNat < k) : MnOk b n N L T :=
  ⟨h.jn.fin hk, h.spn, fun q c p i j r d h1 h2 h3 h4 h5 => by
    rw [Bool.eq_iff_iff]
    exact ⟨h.snd q c p i j r d h1 h2 h3, h.low q c p i j r d h1 h2 (hk r (List.mem_of_getElem? h1)) h3 h4 h5⟩⟩
end
end Go.Proofs.YtfjejnkjlnkkhaaGreatDoor
/- Ranks as the document words them; a name more; a rule more; plain. No program in sight. -/
namespace Go.Proofs.YtfjejnkjlnkkhaaGreatDoor
set_option linter.unusedVariables false

theorem mono_le {f : Nat → Bool} (hf : ∀ n, f n = true → f (n + 1) = true) {a : Nat} (h : f a = true) : ∀ {c : Nat}, a ≤ c → f c = true
  | 0, hc => by obtain rfl : a = 0 := by omega
                exact h
  | c + 1, hc => by
    by_cases e : a = c + 1
    · subst e; exact h
    · exact hf c (mono_le hf h (by omega))
theorem fstAt_le {f : Nat → Bool} (hf : ∀ n, f n = true → f (n + 1) = true) (h0 : f 0 = false) {n m : Nat} (hm : f m = true) : fstAt f n ≤ m := by
  by_cases h : fstAt f n = 0
  · omega
  · obtain ⟨h1, h2, h3⟩ := fstAt_is hf h0 n h
    by_cases e : fstAt f n ≤ m
    · exact e
    · have := mono_le hf hm (c := fstAt f n - 1) (by omega)
      rw [h2] at this; cases this
section
variable {b : Nat → Nat} {L : List Ru} {M : SpM} {n : Nat}
theorem rkN_up (x i j : Nat) : ∀ k, (fun k => (rkS b L M k).1 x i j) k = true → (fun k => (rkS b L M k).1 x i j) (k + 1) = true := fun k h => (rkS_up k).1 x i j h
theorem rkR_up (q c p i j : Nat) : ∀ k, (fun k => (rkS b L M k).2 q c p i j) k = true → (fun k => (rkS b L M k).2 q c p i j) (k + 1) = true := fun k h => (rkS_up k).2 q c p i j h
/-- The greatest rank of a rule's conjuncts. -/
def topR (b : Nat → Nat) (L : List Ru) (M : SpM) (n q : Nat) (l : List Cn) (i j : Nat) : Nat → Nat
  | 0 => 0
  | c + 1 => max (topR b L M n q l i j c) (rnkR b L M n q c 0 i j)
theorem topR_ge {q : Nat} {l : List Cn} {i j : Nat} : ∀ {k c : Nat}, c < k → rnkR b L M n q c 0 i j ≤ topR b L M n q l i j k
  | 0, c, h => by omega
  | k + 1, c, h => by
    show _ ≤ max _ _
    by_cases e : c = k
    · subst e; exact Nat.le_max_right _ _
    · exact Nat.le_trans (topR_ge (k := k) (by omega)) (Nat.le_max_left _ _)
theorem topR_le {q : Nat} {l : List Cn} {i j T : Nat} : ∀ {k : Nat}, (∀ c, c < k → rnkR b L M n q c 0 i j ≤ T) → topR b L M n q l i j k ≤ T
  | 0, _ => Nat.zero_le _
  | k + 1, h => Nat.max_le.2 ⟨topR_le fun c hc => h c (by omega), h k (Nat.lt_succ_self _)⟩
/-- What is not in has no rank. -/
theorem rkR_in {q c p i j k : Nat} {r : Ru} {d : Cn} (hr : L[q]? = some r) (hd : r.conj[c]? = some d) (h : (rkS b L M k).2 q c p i j = true) : restB b M (d.seq.drop p) i j = true := by
  cases k with
  | zero => cases h
  | succ k => exact ((rkS_rest hr hd).1 h).2.1
/-- A name's rank is one more than the least of its rules' greatest. -/
theorem rnkN_eq {x i j : Nat} (hnm : (rkS b L M n).1 x i j = M x i j) (hrs : ∀ q c r d, L[q]? = some r → r.conj[c]? = some d → ((rkS b L M n).2 q c 0 i j = restB b M d.seq i j)) (hx : M x i j = true) :
    (∃ q r, L[q]? = some r ∧ r.head.toNat = x ∧ holB3 b M r i j = true ∧ rnkN b L M n x i j = 1 + topR b L M n q r.conj i j r.conj.length) ∧
    ∀ q r, L[q]? = some r → r.head.toNat = x → holB3 b M r i j = true → rnkN b L M n x i j ≤ 1 + topR b L M n q r.conj i j r.conj.length := by
  have hup : ∀ q r, L[q]? = some r → r.head.toNat = x → holB3 b M r i j = true → rnkN b L M n x i j ≤ 1 + topR b L M n q r.conj i j r.conj.length := fun q r hr hh ho => by
    refine fstAt_le (rkN_up x i j) rfl ?_
    show (rkS b L M (1 + topR b L M n q r.conj i j r.conj.length)).1 x i j = true
    rw [Nat.add_comm]
    refine rkS_name.2 ⟨hx, q, r, hr, hh, ho, ?_⟩
    unfold ranS
    rw [List.all_eq_true]
    intro c hc
    have hlt := List.mem_range.1 hc
    have hd : r.conj[c]? = some r.conj[c] := List.getElem?_eq_getElem hlt
    rw [List.getD_eq_getElem?_getD, hd]
    simp only [Option.getD_some]
    cases hn : (r.conj[c]).neg with
    | true => rfl
    | false =>
      have h1 : restB b M (r.conj[c]).seq i j = true := by
        unfold holB3 at ho
        have := List.all_eq_true.1 ho r.conj[c] (List.getElem_mem hlt)
        unfold conB3 at this
        rw [hn] at this
        cases hc : restB b M (r.conj[c]).seq i j with
        | true => rfl
        | false => rw [hc] at this; cases this
      have h2 : (rkS b L M n).2 q c 0 i j = true := by rw [hrs q c r _ hr hd]; exact h1
      have h3 : rnkR b L M n q c 0 i j ≠ 0 := (fstAt_pos (rkR_up q c 0 i j) rfl n).2 h2
      obtain ⟨h4, -, -⟩ := fstAt_is (rkR_up q c 0 i j) rfl n h3
      exact mono_le (rkR_up q c 0 i j) h4 (topR_ge hlt)
  refine ⟨?_, hup⟩
  have hr0 : rnkN b L M n x i j ≠ 0 := (fstAt_pos (rkN_up x i j) rfl n).2 (hnm.trans hx)
  obtain ⟨h1, h2, h3⟩ := fstAt_is (rkN_up x i j) rfl n hr0
  obtain ⟨k, hk⟩ : ∃ k, rnkN b L M n x i j = k + 1 := ⟨rnkN b L M n x i j - 1, by omega⟩
  have h1' : (rkS b L M (rnkN b L M n x i j)).1 x i j = true := h1
  rw [hk] at h1'
  obtain ⟨-, q, r, e1, e2, e3, e4⟩ := rkS_name.1 h1'
  refine ⟨q, r, e1, e2, e3, ?_⟩
  have h5 := hup q r e1 e2 e3
  have h6 : topR b L M n q r.conj i j r.conj.length ≤ k := topR_le fun c hc => by
    have hd : r.conj[c]? = some r.conj[c] := List.getElem?_eq_getElem hc
    unfold ranS at e4
    have h7 := List.all_eq_true.1 e4 c (List.mem_range.2 hc)
    rw [List.getD_eq_getElem?_getD, hd] at h7
    simp only [Option.getD_some] at h7
    cases hn : (r.conj[c]).neg with
    | false =>
      rw [hn, Bool.false_or] at h7
      exact fstAt_le (rkR_up q c 0 i j) rfl h7
    | true =>
      have h8 : restB b M (r.conj[c]).seq i j = false := by
        unfold holB3 at e3
        have := List.all_eq_true.1 e3 r.conj[c] (List.getElem_mem hc)
        unfold conB3 at this
        rw [hn] at this
        cases hb : restB b M (r.conj[c]).seq i j with
        | false => rfl
        | true => rw [hb] at this; cases this
      have h9 : ¬ rnkR b L M n q c 0 i j ≠ 0 := fun h => by
        have := (fstAt_pos (rkR_up q c 0 i j) rfl n).1 h
        have h10 := rkR_in e1 hd (show (rkS b L M n).2 q c 0 i j = true from this)
        rw [List.drop_zero, h8] at h10; cases h10
      omega
  omega
end
/-- A name that no rule has or needs. -/
def FrM (L : List Ru) (m : Nat) : Prop := ∀ r, r ∈ L → r.head.toNat ≠ m ∧ ∀ c, c ∈ r.conj → ∀ s, s ∈ c.seq → s.name ≠ -1 → s.name.toNat ≠ m
def dropM (M : SpM) (m : Nat) : SpM := fun x i j => if x = m then false else M x i j
def fillM (X : SpM) (m : Nat) : SpM := fun x i j => if x = m then true else X x i j
section
variable {b : Nat → Nat} {n m : Nat} {L : List Ru}
theorem red3_congr {A A' X X' : SpM} {r : Ru} (hA : ∀ c, c ∈ r.conj → ∀ s, s ∈ c.seq → s.name ≠ -1 → ∀ i j, A s.name.toNat i j = A' s.name.toNat i j) (hX : ∀ c, c ∈ r.conj → ∀ s, s ∈ c.seq → s.name ≠ -1 → ∀ i j, X s.name.toNat i j = X' s.name.toNat i j) (i j : Nat) : red3 b A X r i j = red3 b A' X' r i j := by
  rw [Bool.eq_iff_iff]
  constructor
  · exact red3_mono (fun c hc _ s hs hn i j h => by rw [hA c hc s hs hn]; exact h) (fun c hc _ s hs hn i j h => by rw [← hX c hc s hs hn]; exact h)
  · exact red3_mono (fun c hc _ s hs hn i j h => by rw [← hA c hc s hs hn]; exact h) (fun c hc _ s hs hn i j h => by rw [hX c hc s hs hn]; exact h)
/-- A rule for a new name turns nothing of the others. -/
theorem stb_ext {M' : SpM} {r0 : Ru} (h : Stb3 b n (L ++ [r0]) M') (h0 : r0.head.toNat = m) (hf : FrM L m) : Stb3 b n L (dropM M' m) := by
  have hne : ∀ r, r ∈ L → ∀ c, c ∈ r.conj → ∀ s, s ∈ c.seq → s.name ≠ -1 → ∀ i j, dropM M' m s.name.toNat i j = M' s.name.toNat i j := fun r hr c hc s hs hn i j => by
    unfold dropM; rw [if_neg ((hf r hr).2 c hc s hs hn)]
  refine ⟨fun r hr i j hij hj hd => ?_, fun X hX x i j hx => ?_⟩
  · rw [red3_congr (hne r hr) (hne r hr)] at hd
    unfold dropM
    rw [if_neg (hf r hr).1]
    exact h.1 r (List.mem_append_left _ hr) i j hij hj hd
  · have hc : Cl3 b n (L ++ [r0]) M' (fillM X m) := fun r hr i j hij hj hd => by
      unfold fillM
      split
      · rfl
      · rename_i e
        rcases List.mem_append.1 hr with hr | hr
        · refine hX r hr i j hij hj ?_
          rw [red3_congr (hne r hr) (X' := fillM X m) (fun c hc s hs hn i j => by unfold fillM; rw [if_neg ((hf r hr).2 c hc s hs hn)])]
          exact hd
        · obtain rfl : r = r0 := by simpa using hr
          exact absurd h0 e
    unfold dropM at hx
    split at hx
    · cases hx
    · rename_i e
      have := h.2 _ hc x i j hx
      unfold fillM at this
      rw [if_neg e] at this
      exact this
/-- The new name has what its one rule holds of. -/
theorem stb_new {M' : SpM} {r0 : Ru} (h : Stb3 b n (L ++ [r0]) M') (h0 : r0.head.toNat = m) (hf : FrM L m) {i j : Nat} (hij : i ≤ j) (hj : j ≤ n) : M' m i j = holB3 b M' r0 i j := by
  rw [h.supp m i j, Bool.eq_iff_iff]
  simp only [Bool.and_eq_true, decide_eq_true_eq, List.any_eq_true]
  constructor
  · rintro ⟨-, r, hr, e, ho⟩
    rcases List.mem_append.1 hr with hr | hr
    · exact absurd e (hf r hr).1
    · obtain rfl : r = r0 := by simpa using hr
      exact ho
  · intro ho
    exact ⟨⟨hij, hj⟩, r0, by simp, h0, ho⟩
/-- Without negations a rule more takes nothing away. -/
theorem stb_more {M M' : SpM} {r0 : Ru} (hp : ∀ r, r ∈ L ++ [r0] → ∀ c, c ∈ r.conj → c.neg = false) (h : Stb3 b n L M) (h' : Stb3 b n (L ++ [r0]) M') {x i j : Nat} (hx : M x i j = true) : M' x i j = true := by
  refine h.2 M' (fun r hr i j hij hj hd => h'.1 r (List.mem_append_left _ hr) i j hij hj ?_) x i j hx
  refine red3_mono (fun c hc hb => ?_) (fun c hc _ s hs hn i j h => h) hd
  rw [hp r (List.mem_append_left _ hr) c hc] at hb; cases hb
/-- Nor does a rank rise by it. -/
theorem rkS_more {M M' : SpM} {r0 : Ru} (hp : ∀ r, r ∈ L ++ [r0] → ∀ c, c ∈ r.conj → c.neg = false) (hM : ∀ x i j, M x i j = true → M' x i j = true) : ∀ k,
    (∀ x i j, (rkS b L M k).1 x i j = true → (rkS b (L ++ [r0]) M' k).1 x i j = true) ∧ ∀ q c p i j, (rkS b L M k).2 q c p i j = true → (rkS b (L ++ [r0]) M' k).2 q c p i j = true
  | 0 => ⟨fun _ _ _ h => (by cases h), fun _ _ _ _ _ h => (by cases h)⟩
  | k + 1 => by
    obtain ⟨h1, h2⟩ := rkS_more hp hM k
    have hq : ∀ q r, L[q]? = some r → (L ++ [r0])[q]? = some r := fun q r h => by rw [List.getElem?_append_left (List.getElem?_eq_some_iff.1 h).1]; exact h
    refine ⟨fun x i j h => ?_, fun q c p i j h => ?_⟩
    · obtain ⟨hm, q, r, e1, e2, e3, e4⟩ := rkS_name.1 h
      refine rkS_name.2 ⟨hM x i j hm, q, r, hq q r e1, e2, ?_, ranS_mono h2 e4⟩
      rw [← red3_self] at e3 ⊢
      refine red3_mono (fun c hc hb => ?_) (fun c hc _ s hs hn i j h => hM _ _ _ h) e3
      rw [hp r (List.mem_append_left _ (List.mem_of_getElem? e1)) c hc] at hb; cases hb
    · have hrd : ∃ r d, L[q]? = some r ∧ r.conj[c]? = some d := by
        have h' : (match L[q]? with | none => false | some r => match r.conj[c]? with | none => false | some d => decide (p ≤ d.seq.length) && (restB b M (d.seq.drop p) i j && stpS b (rkS b L M k).1 (rkS b L M k).2 q c p d.seq i j)) = true := h
        cases hr : L[q]? with
        | none => rw [hr] at h'; cases h'
        | some r =>
          rw [hr] at h'
          simp only at h'
          cases hd : r.conj[c]? with
          | none => rw [hd] at h'; cases h'
          | some d => exact ⟨r, d, rfl, hd⟩
      obtain ⟨r, d, hr, hd⟩ := hrd
      obtain ⟨e1, e2, e3⟩ := (rkS_rest hr hd).1 h
      exact (rkS_rest (hq q r hr) hd).2 ⟨e1, restB_mono (fun s hs hn i j h => hM _ _ _ h) e2, stpS_mono h1 h2 e3⟩
end
end Go.Proofs.YtfjejnkjlnkkhaaGreatDoor
/- Ranks given round by round to what the last round's make a way for; plain. No program in sight. -/
namespace Go.Proofs.YtfjejnkjlnkkhaaGreatDoor
set_option linter.unusedVariables false

section
variable {b : Nat → Nat} {n N : Nat} {L : List Ru} {M T : SpM}
/-- It has a rank by a round: of a name or a rest by its number. -/
def At (b : Nat → Nat) (n N : Nat) (L : List Ru) (M : SpM) (t y i j : Nat) : Prop :=
  (i ≤ j ∧ j ≤ n) ∧ ((y < N ∧ (rkS b L M t).1 y i j = true) ∨ ∃ q c p r d, L[q]? = some r ∧ r.conj[c]? = some d ∧ p ≤ d.seq.length ∧ y = N + ofRu L q c + p ∧ (rkS b L M t).2 q c p i j = true)
theorem At.up {t s y i j : Nat} (h : At b n N L M t y i j) (hs : t ≤ s) : At b n N L M s y i j := by
  obtain ⟨h1, h2⟩ := h
  refine ⟨h1, h2.imp (fun g => ⟨g.1, (rkS_le hs).1 _ _ _ g.2⟩) ?_⟩
  rintro ⟨q, c, p, r, d, g1, g2, g3, g4, g5⟩
  exact ⟨q, c, p, r, d, g1, g2, g3, g4, (rkS_le hs).2 _ _ _ _ _ g5⟩
theorem At.no {y i j : Nat} (h : At b n N L M 0 y i j) : False := by
  obtain ⟨-, ⟨-, h⟩ | ⟨q, c, p, r, d, g1, g2, g3, g4, g5⟩⟩ := h
  · cases h
  · cases g5
theorem at_name {t x i j : Nat} (hx : x < N) : At b n N L M t x i j ↔ (i ≤ j ∧ j ≤ n) ∧ (rkS b L M t).1 x i j = true := by
  refine and_congr_right fun _ => ⟨fun h => h.elim (fun g => g.2) ?_, fun h => Or.inl ⟨hx, h⟩⟩
  rintro ⟨q, c, p, r, d, g1, g2, g3, g4, g5⟩
  omega
theorem at_rest {t q c p i j : Nat} {r : Ru} {d : Cn} (hr : L[q]? = some r) (hd : r.conj[c]? = some d) (hp : p ≤ d.seq.length) : At b n N L M t (N + ofRu L q c + p) i j ↔ (i ≤ j ∧ j ≤ n) ∧ (rkS b L M t).2 q c p i j = true := by
  refine and_congr_right fun _ => ⟨fun h => h.elim (fun g => by omega) ?_, fun h => Or.inr ⟨q, c, p, r, d, hr, hd, hp, rfl, h⟩⟩
  rintro ⟨q', c', p', r', d', g1, g2, g3, g4, g5⟩
  obtain ⟨rfl, rfl, rfl⟩ := ofRu_inj hr g1 hd g2 hp g3 (by omega)
  exact g5
theorem ranS_iff {B : SpR} {q : Nat} {l : List Cn} {i j : Nat} : ranS B q l i j = true ↔ ∀ c d, l[c]? = some d → d.neg = false → B q c 0 i j = true := by
  unfold ranS
  rw [List.all_eq_true]
  constructor
  · intro h c d hd hn
    have := h c (List.mem_range.2 (List.getElem?_eq_some_iff.1 hd).1)
    rw [List.getD_eq_getElem?_getD, hd, Option.getD_some, hn, Bool.false_or] at this
    exact this
  · intro h c hc
    have hlt := List.mem_range.1 hc
    have hd : l[c]? = some l[c] := List.getElem?_eq_getElem hlt
    rw [List.getD_eq_getElem?_getD, hd, Option.getD_some]
    cases hn : (l[c]).neg with
    | true => rfl
    | false => rw [Bool.false_or]; exact h c _ hd hn
/-- A step to a name. -/
theorem at_nameS {t x i j : Nat} (hx : x < N) : At b n N L M (t + 1) x i j ↔ (i ≤ j ∧ j ≤ n) ∧ M x i j = true ∧ ∃ q r, L[q]? = some r ∧ r.head.toNat = x ∧ holB3 b M r i j = true ∧ ∀ c d, r.conj[c]? = some d → d.neg = false → At b n N L M t (N + ofRu L q c) i j := by
  rw [at_name hx, rkS_name]
  refine and_congr_right fun hs => and_congr_right fun _ => ?_
  constructor
  · rintro ⟨q, r, e1, e2, e3, e4⟩
    refine ⟨q, r, e1, e2, e3, fun c d hd hn => (at_rest (p := 0) e1 hd (Nat.zero_le _)).2 ⟨hs, ranS_iff.1 e4 c d hd hn⟩⟩
  · rintro ⟨q, r, e1, e2, e3, e4⟩
    exact ⟨q, r, e1, e2, e3, ranS_iff.2 fun c d hd hn => ((at_rest (p := 0) e1 hd (Nat.zero_le _)).1 (e4 c d hd hn)).2⟩
/-- A step to a rest. -/
def StR (b : Nat → Nat) (N : Nat) (P : Nat → Nat → Nat → Prop) (y : Nat) (o : Option Sy) (i j : Nat) : Prop :=
  match o with
  | none => i = j
  | some s => if s.name = -1 then i < j ∧ inR b s i = true ∧ P (y + 1) (i + 1) j else ∃ k, i ≤ k ∧ k ≤ j ∧ P s.name.toNat i k ∧ P (y + 1) k j
theorem StR.mono {P Q : Nat → Nat → Nat → Prop} {y : Nat} {o : Option Sy} {i j : Nat} (h : StR b N P y o i j) (hPQ : ∀ y i j, P y i j → Q y i j) : StR b N Q y o i j := by
  unfold StR at *
  cases o with
  | none => exact h
  | some s =>
    simp only at h ⊢
    split
    · rename_i e
      rw [if_pos e] at h
      exact ⟨h.1, h.2.1, hPQ _ _ _ h.2.2⟩
    · rename_i e
      rw [if_neg e] at h
      obtain ⟨k, h1, h2, h3, h4⟩ := h
      exact ⟨k, h1, h2, hPQ _ _ _ h3, hPQ _ _ _ h4⟩
theorem at_restS (hN : NmIn N L) {t q c p i j : Nat} {r : Ru} {d : Cn} (hr : L[q]? = some r) (hd : r.conj[c]? = some d) (hp : p ≤ d.seq.length) : At b n N L M (t + 1) (N + ofRu L q c + p) i j ↔ (i ≤ j ∧ j ≤ n) ∧ restB b M (d.seq.drop p) i j = true ∧ StR b N (At b n N L M t) (N + ofRu L q c + p) d.seq[p]? i j := by
  rw [at_rest hr hd hp, rkS_rest hr hd]
  refine and_congr_right fun hs => ⟨fun ⟨_, h1, h2⟩ => ⟨h1, ?_⟩, fun ⟨h1, h2⟩ => ⟨hp, h1, ?_⟩⟩
  · unfold stpS at h2
    unfold StR
    cases hsy : d.seq[p]? with
    | none => rw [hsy] at h2; exact of_decide_eq_true h2
    | some s =>
      have hlt := (List.getElem?_eq_some_iff.1 hsy).1
      rw [hsy] at h2
      simp only at h2 ⊢
      split
      · rename_i e
        rw [if_pos e] at h2
        simp only [Bool.and_eq_true, decide_eq_true_eq] at h2
        exact ⟨h2.1, h2.2.1, (at_rest (p := p + 1) hr hd hlt).2 ⟨⟨by omega, hs.2⟩, h2.2.2⟩⟩
      · rename_i e
        rw [if_neg e, List.any_eq_true] at h2
        obtain ⟨k, hk, hh⟩ := h2
        have hkj := List.mem_range.1 hk
        simp only [Bool.and_eq_true, decide_eq_true_eq] at hh
        exact ⟨k, hh.1, by omega, (at_name ((hN r (List.mem_of_getElem? hr)).2 d (List.mem_of_getElem? hd) s (List.mem_of_getElem? hsy) e)).2 ⟨⟨hh.1, by omega⟩, hh.2.1⟩, (at_rest (p := p + 1) hr hd hlt).2 ⟨⟨by omega, hs.2⟩, hh.2.2⟩⟩
  · unfold StR at h2
    unfold stpS
    cases hsy : d.seq[p]? with
    | none => rw [hsy] at h2; exact decide_eq_true h2
    | some s =>
      have hlt := (List.getElem?_eq_some_iff.1 hsy).1
      rw [hsy] at h2
      simp only at h2 ⊢
      split
      · rename_i e
        rw [if_pos e] at h2
        simp only [Bool.and_eq_true, decide_eq_true_eq]
        exact ⟨h2.1, h2.2.1, ((at_rest (p := p + 1) hr hd hlt).1 h2.2.2).2⟩
      · rename_i e
        rw [if_neg e] at h2
        obtain ⟨k, h3, h4, h5, h6⟩ := h2
        rw [List.any_eq_true]
        refine ⟨k, List.mem_range.2 (by omega), ?_⟩
        simp only [Bool.and_eq_true, decide_eq_true_eq]
        exact ⟨h3, ((at_name ((hN r (List.mem_of_getElem? hr)).2 d (List.mem_of_getElem? hd) s (List.mem_of_getElem? hsy) e)).1 h5).2, ((at_rest (p := p + 1) hr hd hlt).1 h6).2⟩
/-- What has a rank is in. -/
theorem At.inM {t x i j : Nat} (hx : x < N) (h : At b n N L M t x i j) : M x i j = true := by
  cases t with
  | zero => exact h.no.elim
  | succ t => exact ((at_nameS hx).1 h).2.1
theorem At.inR (hN : NmIn N L) {t q c p i j : Nat} {r : Ru} {d : Cn} (hr : L[q]? = some r) (hd : r.conj[c]? = some d) (hp : p ≤ d.seq.length) (h : At b n N L M t (N + ofRu L q c + p) i j) : restB b M (d.seq.drop p) i j = true := by
  cases t with
  | zero => exact h.no.elim
  | succ t => exact ((at_restS hN hr hd hp).1 h).2.1
/-- A step to a rest is in by itself. -/
theorem StR.inR {hN : NmIn N L} {t q c p i j : Nat} {r : Ru} {d : Cn} (hr : L[q]? = some r) (hd : r.conj[c]? = some d) (hp : p ≤ d.seq.length) (h : StR b N (At b n N L M t) (N + ofRu L q c + p) d.seq[p]? i j) : restB b M (d.seq.drop p) i j = true := by
  unfold StR at h
  cases hsy : d.seq[p]? with
  | none =>
    rw [hsy] at h
    have : p = d.seq.length := by have := List.getElem?_eq_none_iff.1 hsy; omega
    rw [this, restB_end]; exact decide_eq_true h
  | some s =>
    have hlt := (List.getElem?_eq_some_iff.1 hsy).1
    rw [hsy] at h
    rw [restB_drop hsy]
    simp only at h ⊢
    split
    · rename_i e
      rw [if_pos e] at h
      simp only [Bool.and_eq_true, decide_eq_true_eq]
      exact ⟨h.1, h.2.1, At.inR hN (p := p + 1) hr hd hlt h.2.2⟩
    · rename_i e
      rw [if_neg e] at h
      obtain ⟨k, h3, h4, h5, h6⟩ := h
      rw [List.any_eq_true]
      refine ⟨k, List.mem_range.2 (by omega), ?_⟩
      simp only [Bool.and_eq_true, decide_eq_true_eq]
      exact ⟨h3, h5.inM ((hN r (List.mem_of_getElem? hr)).2 d (List.mem_of_getElem? hd) s (List.mem_of_getElem? hsy) e), At.inR hN (p := p + 1) hr hd hlt h6⟩
/-- The number of a span of a name or a rest. -/
def idx (n y i j : Nat) : Nat := (y * (n + 1) + i) * (n + 1) + j
theorem idx_inj {y i j y' i' j' : Nat} (hi : i ≤ n) (hj : j ≤ n) (hi' : i' ≤ n) (hj' : j' ≤ n) (h : idx n y i j = idx n y' i' j') : y = y' ∧ i = i' ∧ j = j' := by
  unfold idx at h
  have h1 : (y * (n + 1) + i) = (y' * (n + 1) + i') ∧ j = j' := by
    have a := Nat.div_add_mod ((y * (n + 1) + i) * (n + 1) + j) (n + 1)
    have e1 : ((y * (n + 1) + i) * (n + 1) + j) / (n + 1) = y * (n + 1) + i := by
      rw [Nat.add_comm, Nat.add_mul_div_right _ _ (Nat.succ_pos n), Nat.div_eq_of_lt (by omega), Nat.zero_add]
    have e2 : ((y' * (n + 1) + i') * (n + 1) + j') / (n + 1) = y' * (n + 1) + i' := by
      rw [Nat.add_comm, Nat.add_mul_div_right _ _ (Nat.succ_pos n), Nat.div_eq_of_lt (by omega), Nat.zero_add]
    have e3 : y * (n + 1) + i = y' * (n + 1) + i' := by rw [← e1, ← e2, h]
    rw [e3] at h
    exact ⟨e3, by omega⟩
  have h2 : y = y' ∧ i = i' := by
    have e1 : (y * (n + 1) + i) / (n + 1) = y := by
      rw [Nat.add_comm, Nat.add_mul_div_right _ _ (Nat.succ_pos n), Nat.div_eq_of_lt (by omega), Nat.zero_add]
    have e2 : (y' * (n + 1) + i') / (n + 1) = y' := by
      rw [Nat.add_comm, Nat.add_mul_div_right _ _ (Nat.succ_pos n), Nat.div_eq_of_lt (by omega), Nat.zero_add]
    have e3 : y = y' := by rw [← e1, ← e2, h1.1]
    rw [e3] at h1
    exact ⟨e3, by omega⟩
  exact ⟨h2.1, h2.2, h1.2⟩
theorem idx_lt {y i j A : Nat} (hy : y < A) (hi : i ≤ n) (hj : j ≤ n) : idx n y i j < A * (n + 1) * (n + 1) := by
  unfold idx
  have h1 : y * (n + 1) + i < A * (n + 1) := by
    have := Nat.mul_le_mul_right (n + 1) (show y + 1 ≤ A from hy)
    rw [Nat.add_mul] at this; omega
  have := Nat.mul_le_mul_right (n + 1) (show y * (n + 1) + i + 1 ≤ A * (n + 1) from h1)
  rw [Nat.add_mul] at this; omega
def putK (K : Nat → Nat) (z v : Nat) : Nat → Nat := fun x => if x = z then v else K x
abbrev Fct := Nat × Nat × Nat
/-- Ranks up to s are given, all those of rounds up to t; found are those of round s. -/
structure Rk (b : Nat → Nat) (n N : Nat) (L : List Ru) (M : SpM) (s t : Nat) (K : Nat → Nat) (fd : List Fct) : Prop where
  ok : ∀ y i j, i ≤ j → j ≤ n → K (idx n y i j) ≠ 0 → K (idx n y i j) ≤ s ∧ At b n N L M (K (idx n y i j)) y i j ∧ ¬ At b n N L M (K (idx n y i j) - 1) y i j
  ex : ∀ y i j, At b n N L M t y i j → K (idx n y i j) ≠ 0
  f1 : ∀ y i j, (y, i, j) ∈ fd → i ≤ j ∧ j ≤ n ∧ K (idx n y i j) = s ∧ y < N + (ruP 0 L).length
  f2 : ∀ y i j, i ≤ j → j ≤ n → K (idx n y i j) = s → (y, i, j) ∈ fd
theorem At.num {t y i j : Nat} (h : At b n N L M t y i j) : y < N + (ruP 0 L).length := by
  rcases h.2 with ⟨hy, -⟩ | ⟨q, c, p, r, d, g1, g2, g3, rfl, -⟩
  · omega
  · have := ofRu_lt g1 g2 g3; omega
variable {s t : Nat} {K : Nat → Nat} {fd : List Fct}
/-- Nothing is given yet. -/
theorem Rk.zero : Rk b n N L M 1 0 (fun _ => 0) [] :=
  ⟨fun y i j _ _ h => absurd rfl h, fun y i j h => h.no.elim, fun y i j h => (by cases h), fun y i j _ _ h => (by cases h)⟩
/-- A new round. -/
theorem Rk.next (h : Rk b n N L M t t K fd) : Rk b n N L M (t + 1) t K [] :=
  ⟨fun y i j h1 h2 h3 => ⟨Nat.le_succ_of_le (h.ok y i j h1 h2 h3).1, (h.ok y i j h1 h2 h3).2⟩, h.ex, fun y i j h => (by cases h), fun y i j h1 h2 h3 => by
    have := (h.ok y i j h1 h2 (by omega)).1
    omega⟩
/-- Was it given ahead of this round? -/
theorem Rk.given (h : Rk b n N L M (t + 1) t K fd) {y i j : Nat} (hi : i ≤ j) (hj : j ≤ n) : (K (idx n y i j) ≠ 0 ∧ K (idx n y i j) < t + 1) ↔ At b n N L M t y i j := by
  constructor
  · rintro ⟨h1, h2⟩
    exact (h.ok y i j hi hj h1).2.1.up (by omega)
  · intro h1
    have h2 := h.ex y i j h1
    obtain ⟨h3, h4, h5⟩ := h.ok y i j hi hj h2
    refine ⟨h2, ?_⟩
    by_cases e : K (idx n y i j) = t + 1
    · rw [e] at h5; exact absurd h1 h5
    · omega
theorem Rk.give (h : Rk b n N L M (t + 1) t K fd) {y i j : Nat} (ha : At b n N L M (t + 1) y i j) (h0 : K (idx n y i j) = 0) : Rk b n N L M (t + 1) t (putK K (idx n y i j) (t + 1)) (fd ++ [(y, i, j)]) := by
  have hs := ha.1
  have key : ∀ y' i' j', i' ≤ j' → j' ≤ n → (y' = y ∧ i' = i ∧ j' = j) ∨ (idx n y' i' j' ≠ idx n y i j ∧ putK K (idx n y i j) (t + 1) (idx n y' i' j') = K (idx n y' i' j')) := fun y' i' j' h1 h2 => by
    by_cases e : idx n y' i' j' = idx n y i j
    · exact Or.inl (idx_inj (by omega) (by omega) (by omega) (by omega) e)
    · refine Or.inr ⟨e, ?_⟩
      unfold putK; rw [if_neg e]
  have self : putK K (idx n y i j) (t + 1) (idx n y i j) = t + 1 := by unfold putK; rw [if_pos rfl]
  refine ⟨fun y' i' j' h1 h2 h3 => ?_, fun y' i' j' h1 => ?_, fun y' i' j' h1 => ?_, fun y' i' j' h1 h2 h3 => ?_⟩
  · rcases key y' i' j' h1 h2 with ⟨rfl, rfl, rfl⟩ | ⟨_, e⟩
    · rw [self]
      refine ⟨Nat.le_refl _, ha, fun g => ?_⟩
      rw [Nat.add_sub_cancel] at g
      exact h.ex _ _ _ g h0
    · rw [e] at h3 ⊢
      exact h.ok y' i' j' h1 h2 h3
  · rcases key y' i' j' h1.1.1 h1.1.2 with ⟨rfl, rfl, rfl⟩ | ⟨_, e⟩
    · rw [self]; omega
    · rw [e]; exact h.ex y' i' j' h1
  · rcases List.mem_append.1 h1 with h1 | h1
    · obtain ⟨g1, g2, g3, g4⟩ := h.f1 y' i' j' h1
      refine ⟨g1, g2, ?_, g4⟩
      rcases key y' i' j' g1 g2 with ⟨rfl, rfl, rfl⟩ | ⟨_, e⟩
      · exact self
      · rw [e]; exact g3
    · simp only [List.mem_singleton, Prod.mk.injEq] at h1
      obtain ⟨rfl, rfl, rfl⟩ := h1
      exact ⟨hs.1, hs.2, self, ha.num⟩
  · rcases key y' i' j' h1 h2 with ⟨rfl, rfl, rfl⟩ | ⟨_, e⟩
    · simp
    · rw [e] at h3
      exact List.mem_append_left _ (h.f2 y' i' j' h1 h2 h3)
/-- All that a fact makes a way for is given. -/
structure Cons (b : Nat → Nat) (n N : Nat) (L : List Ru) (M : SpM) (t : Nat) (K : Nat → Nat) (y a m : Nat) : Prop where
  nm : y < N → ∀ q c p r d s, L[q]? = some r → r.conj[c]? = some d → d.seq[p]? = some s → s.name ≠ -1 → s.name.toNat = y → ∀ j, At b n N L M t (N + ofRu L q c + p + 1) m j → K (idx n (N + ofRu L q c + p) a j) ≠ 0
  rn : ∀ q c p r d s, L[q]? = some r → r.conj[c]? = some d → d.seq[p]? = some s → y = N + ofRu L q c + p + 1 → s.name ≠ -1 → ∀ i, At b n N L M t s.name.toNat i a → K (idx n (N + ofRu L q c + p) i m) ≠ 0
  rr : ∀ q c p r d s, L[q]? = some r → r.conj[c]? = some d → d.seq[p]? = some s → y = N + ofRu L q c + p + 1 → s.name = -1 → ∀ i, i + 1 = a → inR b s i = true → K (idx n (N + ofRu L q c + p) i m) ≠ 0
  wh : ∀ q c r d, L[q]? = some r → r.conj[c]? = some d → y = N + ofRu L q c → holB3 b M r a m = true → (∀ c' d', r.conj[c']? = some d' → d'.neg = false → At b n N L M t (N + ofRu L q c') a m) → K (idx n r.head.toNat a m) ≠ 0
theorem Cons.up {K' : Nat → Nat} {y a m : Nat} (h : Cons b n N L M t K y a m) (hK : ∀ z, K z ≠ 0 → K' z ≠ 0) : Cons b n N L M t K' y a m :=
  ⟨fun h1 q c p r d s g1 g2 g3 g4 g5 j g6 => hK _ (h.nm h1 q c p r d s g1 g2 g3 g4 g5 j g6), fun q c p r d s g1 g2 g3 g4 g5 i g6 => hK _ (h.rn q c p r d s g1 g2 g3 g4 g5 i g6), fun q c p r d s g1 g2 g3 g4 g5 i g6 g7 => hK _ (h.rr q c p r d s g1 g2 g3 g4 g5 i g6 g7), fun q c r d g1 g2 g3 g4 g5 => hK _ (h.wh q c r d g1 g2 g3 g4 g5)⟩
theorem putK_up {K : Nat → Nat} {z v : Nat} (hv : v ≠ 0) : ∀ x, K x ≠ 0 → putK K z v x ≠ 0 := fun x h => by
  unfold putK
  split
  · exact hv
  · exact h
/-- A round is done. -/
theorem Rk.done (hN : NmIn N L) {lst : List Fct} (ht : 1 ≤ t) {K0 : Nat → Nat} (h0 : Rk b n N L M t t K0 lst) (h : Rk b n N L M (t + 1) t K fd) (hc : ∀ y i j, (y, i, j) ∈ lst → Cons b n N L M t K y i j) : Rk b n N L M (t + 1) (t + 1) K fd := by
  obtain ⟨t0, rfl⟩ : ∃ t0, t = t0 + 1 := ⟨t - 1, by omega⟩
  have fresh : ∀ y i j, At b n N L M (t0 + 1) y i j → ¬ At b n N L M t0 y i j → Cons b n N L M (t0 + 1) K y i j := fun y i j h1 h2 => by
    refine hc y i j (h0.f2 y i j h1.1.1 h1.1.2 ?_)
    have h3 := h0.ex y i j h1
    obtain ⟨h4, h5, h6⟩ := h0.ok y i j h1.1.1 h1.1.2 h3
    by_cases e : K0 (idx n y i j) = t0 + 1
    · exact e
    · exact absurd (h5.up (by omega)) h2
  refine ⟨h.ok, fun y i j h1 => ?_, h.f1, h.f2⟩
  by_cases hold : At b n N L M (t0 + 1) y i j
  · exact h.ex y i j hold
  rcases h1.2 with ⟨hy, -⟩ | ⟨q, c, p, r, d, g1, g2, g3, rfl, -⟩
  · obtain ⟨hs, hm, q, r, e1, e2, e3, e4⟩ := (at_nameS hy).1 h1
    have : ∃ c d, r.conj[c]? = some d ∧ d.neg = false ∧ ¬ At b n N L M t0 (N + ofRu L q c) i j := Classical.byContradiction fun hn => hold ((at_nameS hy).2 ⟨hs, hm, q, r, e1, e2, e3, fun c d hd hng => Classical.byContradiction fun hn2 => hn ⟨c, d, hd, hng, hn2⟩⟩)
    obtain ⟨c, d, hd, hng, hn⟩ := this
    rw [← e2]
    exact (fresh _ i j (e4 c d hd hng) hn).wh q c r d e1 hd rfl e3 e4
  · obtain ⟨hs, hm, hst⟩ := (at_restS hN g1 g2 g3).1 h1
    have hno : ¬ StR b N (At b n N L M t0) (N + ofRu L q c + p) d.seq[p]? i j := fun hst' => hold ((at_restS hN g1 g2 g3).2 ⟨hs, hm, hst'⟩)
    unfold StR at hst hno
    cases hsy : d.seq[p]? with
    | none =>
      rw [hsy] at hst hno
      exact absurd hst hno
    | some s =>
      rw [hsy] at hst hno
      simp only at hst hno
      split at hst
      · rename_i e
        rw [if_pos e] at hno
        exact (fresh _ _ _ hst.2.2 fun g => hno ⟨hst.1, hst.2.1, g⟩).rr q c p r d s g1 g2 hsy rfl e i rfl hst.2.1
      · rename_i e
        rw [if_neg e] at hno
        obtain ⟨k, h3, h4, h5, h6⟩ := hst
        by_cases hA : At b n N L M t0 s.name.toNat i k
        · exact (fresh _ _ _ h6 fun g => hno ⟨k, h3, h4, hA, g⟩).rn q c p r d s g1 g2 hsy rfl e i h5
        · exact (fresh _ _ _ h5 hA).nm ((hN r (List.mem_of_getElem? g1)).2 d (List.mem_of_getElem? g2) s (List.mem_of_getElem? hsy) e) q c p r d s g1 g2 hsy e rfl j h6
/-- The first round is done. -/
theorem Rk.first (hN : NmIn N L) (h : Rk b n N L M 1 0 K fd) (h1 : ∀ q c r d i, L[q]? = some r → r.conj[c]? = some d → i ≤ n → K (idx n (N + ofRu L q c + d.seq.length) i i) ≠ 0)
    (h2 : ∀ (q : Nat) (r : Ru) (i j : Nat), L[q]? = some r → (∀ d, d ∈ r.conj → d.neg = true) → i ≤ j → j ≤ n → holB3 b M r i j = true → K (idx n r.head.toNat i j) ≠ 0) : Rk b n N L M 1 1 K fd := by
  refine ⟨h.ok, fun y i j g => ?_, h.f1, h.f2⟩
  rcases g.2 with ⟨hy, -⟩ | ⟨q, c, p, r, d, g1, g2, g3, rfl, -⟩
  · obtain ⟨hs, hm, q, r, e1, e2, e3, e4⟩ := (at_nameS hy).1 g
    rw [← e2]
    refine h2 q r i j e1 (fun d hd => ?_) hs.1 hs.2 e3
    obtain ⟨c, hc⟩ := List.mem_iff_getElem?.1 hd
    cases hn : d.neg with
    | true => rfl
    | false => exact (e4 c d hc hn).no.elim
  · obtain ⟨hs, hm, hst⟩ := (at_restS hN g1 g2 g3).1 g
    unfold StR at hst
    cases hsy : d.seq[p]? with
    | none =>
      rw [hsy] at hst
      have hst : i = j := hst
      have : p = d.seq.length := by have := List.getElem?_eq_none_iff.1 hsy; omega
      subst hst this
      exact h1 q c r d i g1 g2 (by omega)
    | some s =>
      rw [hsy] at hst
      simp only at hst
      split at hst
      · exact hst.2.2.no.elim
      · obtain ⟨k, _, _, h5, _⟩ := hst
        exact h5.no.elim
theorem at_firstR (hN : NmIn N L) {q c i : Nat} {r : Ru} {d : Cn} (hr : L[q]? = some r) (hd : r.conj[c]? = some d) (hi : i ≤ n) : At b n N L M 1 (N + ofRu L q c + d.seq.length) i i := by
  refine (at_restS hN hr hd (Nat.le_refl _)).2 ⟨⟨Nat.le_refl _, hi⟩, by rw [restB_end]; simp, ?_⟩
  unfold StR
  rw [List.getElem?_eq_none (Nat.le_refl _)]
theorem at_firstN (hN : NmIn N L) (hM : Stb3 b n L M) {q : Nat} {r : Ru} (hr : L[q]? = some r) (hn : ∀ d, d ∈ r.conj → d.neg = true) {i j : Nat} (hi : i ≤ j) (hj : j ≤ n) (hh : holB3 b M r i j = true) : At b n N L M 1 r.head.toNat i j :=
  (at_nameS (hN r (List.mem_of_getElem? hr)).1).2 ⟨⟨hi, hj⟩, hM.1 r (List.mem_of_getElem? hr) i j hi hj (by rw [red3_self]; exact hh), q, r, hr, rfl, hh, fun c d hd hng => by rw [hn d (List.mem_of_getElem? hd)] at hng; cases hng⟩
theorem at_whole (hN : NmIn N L) (hM : Stb3 b n L M) {q : Nat} {r : Ru} (hr : L[q]? = some r) {i j : Nat} (hi : i ≤ j) (hj : j ≤ n) (hh : holB3 b M r i j = true) (hc : ∀ c d, r.conj[c]? = some d → d.neg = false → At b n N L M t (N + ofRu L q c) i j) : At b n N L M (t + 1) r.head.toNat i j :=
  (at_nameS (hN r (List.mem_of_getElem? hr)).1).2 ⟨⟨hi, hj⟩, hM.1 r (List.mem_of_getElem? hr) i j hi hj (by rw [red3_self]; exact hh), q, r, hr, rfl, hh, hc⟩
theorem at_step (hN : NmIn N L) {q c p i j : Nat} {r : Ru} {d : Cn} (hr : L[q]? = some r) (hd : r.conj[c]? = some d) (hp : p ≤ d.seq.length) (hi : i ≤ j) (hj : j ≤ n) (h : StR b N (At b n N L M t) (N + ofRu L q c + p) d.seq[p]? i j) : At b n N L M (t + 1) (N + ofRu L q c + p) i j :=
  (at_restS hN hr hd hp).2 ⟨⟨hi, hj⟩, StR.inR (hN := hN) hr hd hp h, h⟩
/-- Nothing new was found: no later round finds anything. -/
theorem Rk.still (hN : NmIn N L) (ht : 1 ≤ t) (h : Rk b n N L M t t K []) : ∀ y i j, At b n N L M (t + 1) y i j → At b n N L M t y i j := by
  obtain ⟨t0, rfl⟩ : ∃ t0, t = t0 + 1 := ⟨t - 1, by omega⟩
  have dn : ∀ y i j, At b n N L M (t0 + 1) y i j → At b n N L M t0 y i j := fun y i j h1 => by
    have h3 := h.ex y i j h1
    obtain ⟨h4, h5, h6⟩ := h.ok y i j h1.1.1 h1.1.2 h3
    by_cases e : K (idx n y i j) = t0 + 1
    · have := h.f2 y i j h1.1.1 h1.1.2 e
      cases this
    · exact h5.up (by omega)
  intro y i j h1
  rcases h1.2 with ⟨hy, -⟩ | ⟨q, c, p, r, d, g1, g2, g3, rfl, -⟩
  · obtain ⟨hs, hm, q, r, e1, e2, e3, e4⟩ := (at_nameS hy).1 h1
    exact (at_nameS hy).2 ⟨hs, hm, q, r, e1, e2, e3, fun c d hd hn => dn _ _ _ (e4 c d hd hn)⟩
  · obtain ⟨hs, hm, hst⟩ := (at_restS hN g1 g2 g3).1 h1
    exact (at_restS hN g1 g2 g3).2 ⟨hs, hm, hst.mono dn⟩
/-- All that is in has a rank then. -/
theorem full_name (hN : NmIn N L) (hM : Stb3 b n L M) (hst : ∀ y i j, At b n N L M (t + 1) y i j → At b n N L M t y i j) {x i j : Nat} (hx : M x i j = true) : (rkS b L M t).1 x i j = true := by
  refine ranked_all hM (X := fun x i j => (rkS b L M t).1 x i j) (Y := fun q c p i j => (rkS b L M t).2 q c p i j) (fun x i j g => ?_) (fun q c r d hr hd hn p hp i j hi hj hre hh => ?_) (fun q r hr i j hi hj hm hh hc => ?_) x i j hx
  · cases t with
    | zero => cases g
    | succ t => exact (rkS_name.1 g).1
  · have h1 : (rkS b L M (t + 1)).2 q c p i j = true := (rkS_rest hr hd).2 ⟨hp, hre, hh⟩
    exact ((at_rest hr hd hp).1 (hst _ i j ((at_rest hr hd hp).2 ⟨⟨hi, hj⟩, h1⟩))).2
  · have h1 : (rkS b L M (t + 1)).1 r.head.toNat i j = true := rkS_name.2 ⟨hm, q, r, hr, rfl, hh, ranS_iff.2 hc⟩
    have hx := (hN r (List.mem_of_getElem? hr)).1
    exact ((at_name hx).1 (hst _ i j ((at_name hx).2 ⟨⟨hi, hj⟩, h1⟩))).2
theorem full_rest (hN : NmIn N L) (hM : Stb3 b n L M) (hst : ∀ y i j, At b n N L M (t + 1) y i j → At b n N L M t y i j) {q c : Nat} {r : Ru} {d : Cn} (hr : L[q]? = some r) (hd : r.conj[c]? = some d) : ∀ z p, d.seq.length - p = z → p ≤ d.seq.length → ∀ i j, i ≤ j → j ≤ n → restB b M (d.seq.drop p) i j = true → (rkS b L M t).2 q c p i j = true := by
  intro z
  induction z with
  | zero =>
    intro p hz hp i j hi hj h
    refine ((at_rest hr hd hp).1 (hst _ i j (at_step hN hr hd hp hi hj ?_))).2
    have : p = d.seq.length := by omega
    subst this
    unfold StR
    rw [List.getElem?_eq_none (Nat.le_refl _)]
    rw [restB_end] at h
    exact of_decide_eq_true h
  | succ z ih =>
    intro p hz hp i j hi hj h
    refine ((at_rest hr hd hp).1 (hst _ i j (at_step hN hr hd hp hi hj ?_))).2
    obtain ⟨s, hs⟩ : ∃ s, d.seq[p]? = some s := ⟨_, List.getElem?_eq_getElem (by omega)⟩
    unfold StR
    rw [hs]
    rw [restB_drop hs] at h
    simp only at h ⊢
    split
    · rename_i e
      rw [if_pos e] at h
      simp only [Bool.and_eq_true, decide_eq_true_eq] at h
      exact ⟨h.1, h.2.1, (at_rest (p := p + 1) hr hd (by omega)).2 ⟨⟨by omega, hj⟩, ih (p + 1) (by omega) (by omega) (i + 1) j (by omega) hj h.2.2⟩⟩
    · rename_i e
      rw [if_neg e, List.any_eq_true] at h
      obtain ⟨k, hk, hh⟩ := h
      have hkj := List.mem_range.1 hk
      simp only [Bool.and_eq_true, decide_eq_true_eq] at hh
      exact ⟨k, hh.1, by omega, (at_name ((hN r (List.mem_of_getElem? hr)).2 d (List.mem_of_getElem? hd) s (List.mem_of_getElem? hs) e)).2 ⟨⟨hh.1, by omega⟩, full_name hN hM hst hh.2.1⟩, (at_rest (p := p + 1) hr hd (by omega)).2 ⟨⟨by omega, hj⟩, ih (p + 1) (by omega) (by omega) k j (by omega) hj hh.2.2⟩⟩
theorem fstAt_eq {f : Nat → Bool} (hf : ∀ n, f n = true → f (n + 1) = true) (h0 : f 0 = false) {v m : Nat} (hv : v ≠ 0) (hm : v ≤ m) (h1 : f v = true) (h2 : f (v - 1) = false) : fstAt f m = v := by
  have e1 : fstAt f m ≠ 0 := (fstAt_pos hf h0 m).2 (mono_le hf h1 hm)
  obtain ⟨g1, g2, g3⟩ := fstAt_is hf h0 m e1
  have e2 : fstAt f m ≤ v := fstAt_le hf h0 h1
  by_cases e : fstAt f m = v
  · exact e
  · have := mono_le hf g1 (c := v - 1) (by omega)
    rw [h2] at this; cases this
/-- The numbers given are the ranks. -/
theorem Rk.name (h : Rk b n N L M t t K fd) {x i j : Nat} (hx : x < N) (hi : i ≤ j) (hj : j ≤ n) : K (idx n x i j) = rnkN b L M t x i j := by
  unfold rnkN
  by_cases e : K (idx n x i j) = 0
  · rw [e]
    by_cases e2 : fstAt (fun k => (rkS b L M k).1 x i j) t = 0
    · exact e2.symm
    · exact absurd e (h.ex x i j ((at_name hx).2 ⟨⟨hi, hj⟩, (fstAt_pos (rkN_up x i j) rfl t).1 e2⟩))
  · obtain ⟨h1, h2, h3⟩ := h.ok x i j hi hj e
    refine (fstAt_eq (rkN_up x i j) rfl e h1 ((at_name hx).1 h2).2 ?_).symm
    cases hb : (fun k => (rkS b L M k).1 x i j) (K (idx n x i j) - 1) with
    | false => exact hb
    | true => exact absurd ((at_name hx).2 ⟨⟨hi, hj⟩, hb⟩) h3
theorem Rk.rest (h : Rk b n N L M t t K fd) {q c p i j : Nat} {r : Ru} {d : Cn} (hr : L[q]? = some r) (hd : r.conj[c]? = some d) (hp : p ≤ d.seq.length) (hi : i ≤ j) (hj : j ≤ n) : K (idx n (N + ofRu L q c + p) i j) = rnkR b L M t q c p i j := by
  unfold rnkR
  by_cases e : K (idx n (N + ofRu L q c + p) i j) = 0
  · rw [e]
    by_cases e2 : fstAt (fun k => (rkS b L M k).2 q c p i j) t = 0
    · exact e2.symm
    · exact absurd e (h.ex _ i j ((at_rest hr hd hp).2 ⟨⟨hi, hj⟩, (fstAt_pos (rkR_up q c p i j) rfl t).1 e2⟩))
  · obtain ⟨h1, h2, h3⟩ := h.ok _ i j hi hj e
    refine (fstAt_eq (rkR_up q c p i j) rfl e h1 ((at_rest hr hd hp).1 h2).2 ?_).symm
    cases hb : (fun k => (rkS b L M k).2 q c p i j) (K (idx n (N + ofRu L q c + p) i j) - 1) with
    | false => exact hb
    | true => exact absurd ((at_rest hr hd hp).2 ⟨⟨hi, hj⟩, hb⟩) h3
end
end Go.Proofs.YtfjejnkjlnkkhaaGreatDoor
/- Rows of numbers of rests, picked out of all places; plain. No program in sight. -/
namespace Go.Proofs.YtfjejnkjlnkkhaaGreatDoor
set_option linter.unusedVariables false

/-- The numbers of the places that are wanted. -/
def flt (p : Plc → Bool) : Nat → List Plc → List Int
  | _, [] => []
  | m, e :: l => if p e = true then (m : Int) :: flt p (m + 1) l else flt p (m + 1) l
theorem flt_append (p : Plc → Bool) : ∀ (l l' : List Plc) (m : Nat), flt p m (l ++ l') = flt p m l ++ flt p (m + l.length) l'
  | [], _, _ => by simp [flt]
  | e :: l, l', m => by
    simp only [List.cons_append, flt, flt_append p l l' (m + 1), List.length_cons]
    rw [show m + 1 + l.length = m + (l.length + 1) by omega]
    split <;> rfl
theorem flt_snoc (p : Plc → Bool) (l : List Plc) (e : Plc) (m : Nat) : flt p m (l ++ [e]) = flt p m l ++ (if p e = true then [((m + l.length : Nat) : Int)] else []) := by
  rw [flt_append]; rfl
theorem take_flt {p : Plc → Bool} {l : List Plc} {k : Nat} {e : Plc} (h : l[k]? = some e) (m : Nat) : flt p m (l.take (k + 1)) = flt p m (l.take k) ++ (if p e = true then [((m + k : Nat) : Int)] else []) := by
  have hk := (List.getElem?_eq_some_iff.1 h).1
  rw [List.take_add_one, h]
  show flt p m (l.take k ++ [e]) = _
  rw [flt_snoc, List.length_take, Nat.min_eq_left (by omega)]
theorem flt_mem (p : Plc → Bool) : ∀ (l : List Plc) (m : Nat) (z : Int), z ∈ flt p m l ↔ ∃ k e, l[k]? = some e ∧ p e = true ∧ z = ((m + k : Nat) : Int)
  | [], m, z => by simp [flt]
  | a :: l, m, z => by
    have ih := flt_mem p l (m + 1) z
    have key : (∃ k e, (a :: l)[k]? = some e ∧ p e = true ∧ z = ((m + k : Nat) : Int)) ↔ (p a = true ∧ z = (m : Int)) ∨ ∃ k e, l[k]? = some e ∧ p e = true ∧ z = ((m + 1 + k : Nat) : Int) := by
      constructor
      · rintro ⟨k, e, h1, h2, h3⟩
        cases k with
        | zero =>
          obtain rfl : a = e := by simpa using h1
          exact Or.inl ⟨h2, by simpa using h3⟩
        | succ k => exact Or.inr ⟨k, e, by simpa using h1, h2, by rw [h3, show m + (k + 1) = m + 1 + k by omega]⟩
      · rintro (⟨h1, h2⟩ | ⟨k, e, h1, h2, h3⟩)
        · exact ⟨0, a, rfl, h1, by simpa using h2⟩
        · exact ⟨k + 1, e, by simpa using h1, h2, by rw [h3, show m + (k + 1) = m + 1 + k by omega]⟩
    rw [key, ← ih]
    have e : flt p m (a :: l) = if p a = true then (m : Int) :: flt p (m + 1) l else flt p (m + 1) l := rfl
    rw [e]
    split
    · rename_i h; simp [h]
    · rename_i h; simp [h]
/-- Whole conjuncts of a rule. -/
def isWh (q : Int) (e : Plc) : Bool := decide (e.1 = q) && decide (e.2.2 = 0)
def whC : Nat → List Cn → List Int
  | _, [] => []
  | m, c :: l => (m : Int) :: whC (m + (c.seq.length + 1)) l
theorem flt_sq (i j : Nat) {q : Int} : ∀ (n k m : Nat), 0 < k ∨ (i : Int) ≠ q → flt (isWh q) m (sqP i j k n) = []
  | 0, _, _, _ => rfl
  | n + 1, k, m, h => by
    have : isWh q ((i : Int), (j : Int), (k : Int)) = false := by
      unfold isWh
      rcases h with h | h
      · have : ¬ k = 0 := by omega
        simp [this]
      · simp [h]
    simp only [sqP, flt, this, Bool.false_eq_true, if_false]
    exact flt_sq i j n (k + 1) (m + 1) (Or.inl (Nat.succ_pos _))
theorem flt_cnO (i : Nat) {q : Int} (hq : (i : Int) ≠ q) : ∀ (l : List Cn) (j m : Nat), flt (isWh q) m (cnP i j l) = []
  | [], _, _ => rfl
  | c :: l, j, m => by rw [cnP, flt_append, flt_sq _ _ _ _ _ (Or.inr hq), flt_cnO i hq l]; rfl
theorem flt_cn (i : Nat) : ∀ (l : List Cn) (j m : Nat), flt (isWh (i : Int)) m (cnP i j l) = whC m l
  | [], _, _ => rfl
  | c :: l, j, m => by
    rw [cnP, flt_append, sqP_len, flt_cn i l]
    have : flt (isWh (i : Int)) m (sqP i j 0 (c.seq.length + 1)) = [(m : Int)] := by
      have h1 : isWh (i : Int) ((i : Int), (j : Int), ((0 : Nat) : Int)) = true := by unfold isWh; simp
      simp only [sqP, flt, h1, if_true]
      rw [flt_sq _ _ _ _ _ (Or.inl (Nat.succ_pos _))]
    rw [this]; rfl
theorem flt_ruO {q : Int} : ∀ (L : List Ru) (i m : Nat), q < (i : Int) → flt (isWh q) m (ruP i L) = []
  | [], _, _, _ => rfl
  | r :: L, i, m, h => by rw [ruP, flt_append, flt_cnO i (by omega), flt_ruO L (i + 1) _ (by omega)]; rfl
theorem flt_ru : ∀ {L : List Ru} {q i m : Nat} {r : Ru}, L[q]? = some r → flt (isWh ((i + q : Nat) : Int)) m (ruP i L) = whC (m + ofRu L q 0) r.conj
  | [], q, i, m, r, h => by simp at h
  | a :: L, 0, i, m, r, h => by
    obtain rfl : a = r := by simpa using h
    rw [ruP, flt_append, Nat.add_zero, flt_cn, flt_ruO L (i + 1) _ (by omega), List.append_nil]
    have : ofRu (a :: L) 0 0 = 0 := by
      show ofCn a.conj 0 = 0
      cases a.conj <;> rfl
    rw [this, Nat.add_zero]
  | a :: L, q + 1, i, m, r, h => by
    rw [ruP, flt_append, flt_cnO i (by omega), List.nil_append, cnP_siz, show i + (q + 1) = i + 1 + q by omega, flt_ru (L := L) (by simpa using h)]
    simp [ofRu, Nat.add_assoc]
theorem ofCn_zero (l : List Cn) : ofCn l 0 = 0 := by cases l <;> rfl
theorem whC_len : ∀ (l : List Cn) (m : Nat), (whC m l).length = l.length
  | [], _ => rfl
  | c :: l, m => by simp [whC, whC_len l]
theorem whC_at : ∀ {l : List Cn} {c m : Nat} {d : Cn}, l[c]? = some d → (whC m l)[c]? = some ((m + ofCn l c : Nat) : Int)
  | [], c, m, d, h => by simp at h
  | a :: l, 0, m, d, h => by simp [whC, ofCn]
  | a :: l, c + 1, m, d, h => by
    simp only [whC, List.getElem?_cons_succ, ofCn]
    rw [whC_at (l := l) (by simpa using h)]
    congr 2; omega
theorem ofRu_split : ∀ {L : List Ru} {q c : Nat} {r : Ru}, L[q]? = some r → ofRu L q c = ofRu L q 0 + ofCn r.conj c
  | [], q, c, r, h => by simp at h
  | a :: L, 0, c, r, h => by
    obtain rfl : a = r := by simpa using h
    simp only [ofRu, ofCn_zero]; omega
  | a :: L, q + 1, c, r, h => by
    simp only [ofRu]
    rw [ofRu_split (L := L) (c := c) (by simpa using h)]; omega
/-- The numbers of a rule's whole conjuncts. -/
def whL (N : Nat) (L : List Ru) (q : Nat) : List Int := flt (isWh (q : Int)) N (ruP 0 L)
theorem whL_len {N : Nat} {L : List Ru} {q : Nat} {r : Ru} (h : L[q]? = some r) : (whL N L q).length = r.conj.length := by
  have := flt_ru (i := 0) (m := N) h
  rw [Nat.zero_add] at this
  rw [whL, this, whC_len]
theorem whL_at {N : Nat} {L : List Ru} {q c : Nat} {r : Ru} {d : Cn} (h : L[q]? = some r) (hd : r.conj[c]? = some d) : (whL N L q)[c]? = some ((N + ofRu L q c : Nat) : Int) := by
  have := flt_ru (i := 0) (m := N) h
  rw [Nat.zero_add] at this
  rw [whL, this, whC_at hd, ofRu_split (c := c) h, Nat.add_assoc]
/-- The symbol at a place. -/
def symPl (L : List Ru) (e : Plc) : Option Sy := (L[e.1.toNat]?).bind fun r => (r.conj[e.2.1.toNat]?).bind fun d => d.seq[e.2.2.toNat]?
theorem symPl_is {L : List Ru} {q c p : Nat} {r : Ru} {d : Cn} (hr : L[q]? = some r) (hd : r.conj[c]? = some d) : symPl L ((q : Int), (c : Int), (p : Int)) = d.seq[p]? := by
  unfold symPl; simp [hr, hd]
def isAh (L : List Ru) (x : Nat) (e : Plc) : Bool := match symPl L e with | none => false | some s => decide (s.name ≠ -1) && decide (s.name.toNat = x)
/-- The rests at whose place a name stands. -/
def ahL (N : Nat) (L : List Ru) (x : Nat) : List Int := flt (isAh L x) N (ruP 0 L)
theorem ahL_in {N : Nat} {L : List Ru} {x : Nat} {z : Int} (h : z ∈ ahL N L x) : ∃ q c p r d s, L[q]? = some r ∧ r.conj[c]? = some d ∧ d.seq[p]? = some s ∧ s.name ≠ -1 ∧ s.name.toNat = x ∧ z = ((N + ofRu L q c + p : Nat) : Int) := by
  obtain ⟨k, e, h1, h2, h3⟩ := (flt_mem _ _ _ _).1 h
  obtain ⟨q, c, r, d, p, g1, g2, g3, g4, g5⟩ := ruP_num h1
  subst g5
  unfold isAh at h2
  rw [Nat.zero_add, symPl_is g1 g2] at h2
  cases hs : d.seq[p]? with
  | none => rw [hs] at h2; cases h2
  | some s =>
    rw [hs] at h2
    simp only [Bool.and_eq_true, decide_eq_true_eq] at h2
    exact ⟨q, c, p, r, d, s, g1, g2, hs, h2.1, h2.2, by rw [h3, g4]; congr 1; omega⟩
theorem ahL_all {N : Nat} {L : List Ru} {x q c p : Nat} {r : Ru} {d : Cn} {s : Sy} (hr : L[q]? = some r) (hd : r.conj[c]? = some d) (hs : d.seq[p]? = some s) (hn : s.name ≠ -1) (hx : s.name.toNat = x) : ((N + ofRu L q c + p : Nat) : Int) ∈ ahL N L x := by
  have hp := (List.getElem?_eq_some_iff.1 hs).1
  refine (flt_mem _ _ _ _).2 ⟨ofRu L q c + p, _, ruP_at (i := 0) hr hd (by omega), ?_, by congr 1; omega⟩
  unfold isAh
  rw [Nat.zero_add, symPl_is hr hd, hs]
  simp [hn, hx]
/-- The names that a rule needs are among a word's bits. -/
def NdW (r : Ru) (z : Nat) : Prop := z < 18446744073709551616 ∧ ∀ c, c ∈ r.conj → ∀ s, s ∈ c.seq → s.name ≠ -1 → z.testBit s.name.toNat = true
/-- .. of the places so far. -/
def NdP (L : List Ru) (q : Nat) (l : List Plc) (z : Nat) : Prop := z < 18446744073709551616 ∧ ∀ e s, e ∈ l → e.1 = (q : Int) → symPl L e = some s → s.name ≠ -1 → z.testBit s.name.toNat = true
theorem NdP.fin {L : List Ru} {q z : Nat} {r : Ru} (hr : L[q]? = some r) (h : NdP L q (ruP 0 L) z) : NdW r z := ⟨h.1, fun d hd s hs hn => by
  obtain ⟨c, hc⟩ := List.mem_iff_getElem?.1 hd
  obtain ⟨p, hp⟩ := List.mem_iff_getElem?.1 hs
  have hlt := (List.getElem?_eq_some_iff.1 hp).1
  have h1 := ruP_at (i := 0) hr hc (p := p) (by omega)
  exact h.2 _ s (List.mem_of_getElem? h1) (by simp) (by rw [Nat.zero_add, symPl_is hr hc]; exact hp) hn⟩
end Go.Proofs.YtfjejnkjlnkkhaaGreatDoor
/- A meaning that is written out: closed, and all of it ranked; plain. No program in sight. -/
namespace Go.Proofs.YtfjejnkjlnkkhaaGreatDoor
set_option linter.unusedVariables false

section
variable {b : Nat → Nat} {n N : Nat} {L : List Ru} {M X : SpM}
/-- What has a rank is in all that is closed. -/
theorem at_in (hN : NmIn N L) (hX : Cl3 b n L M X) : ∀ t y i j, At b n N L M t y i j → (y < N → X y i j = true) ∧ ∀ q c p r d, L[q]? = some r → r.conj[c]? = some d → p ≤ d.seq.length → y = N + ofRu L q c + p → restB b X (d.seq.drop p) i j = true := by
  intro t
  induction t with
  | zero => intro y i j h; exact h.no.elim
  | succ t ih =>
    intro y i j h
    refine ⟨fun hy => ?_, fun q c p r d hr hd hp e => ?_⟩
    · obtain ⟨hs, hm, q, r, hr, e2, hh, hall⟩ := (at_nameS hy).1 h
      rw [← e2]
      refine hX r (List.mem_of_getElem? hr) i j hs.1 hs.2 ?_
      unfold red3
      rw [List.all_eq_true]
      intro d hd
      obtain ⟨c, hc⟩ := List.mem_iff_getElem?.1 hd
      have hcon : conB3 b M d i j = true := (List.all_eq_true.1 hh) d hd
      unfold redC3
      unfold conB3 at hcon
      cases hn : d.neg with
      | true =>
        rw [hn] at hcon
        simp at hcon
        simp [hcon]
      | false =>
        have := (ih _ i j (hall c d hc hn)).2 q c 0 r d hr hc (Nat.zero_le _) rfl
        rw [List.drop_zero] at this
        simp [this]
    · subst e
      obtain ⟨hs, -, hst⟩ := (at_restS hN hr hd hp).1 h
      unfold StR at hst
      cases hsy : d.seq[p]? with
      | none =>
        rw [hsy] at hst
        have : p = d.seq.length := by have := List.getElem?_eq_none_iff.1 hsy; omega
        rw [this, restB_end]; exact decide_eq_true hst
      | some s =>
        have hlt := (List.getElem?_eq_some_iff.1 hsy).1
        rw [hsy] at hst
        rw [restB_drop hsy]
        simp only at hst ⊢
        split
        · rename_i e
          rw [if_pos e] at hst
          simp only [Bool.and_eq_true, decide_eq_true_eq]
          exact ⟨hst.1, hst.2.1, (ih _ _ _ hst.2.2).2 q c (p + 1) r d hr hd hlt rfl⟩
        · rename_i e
          rw [if_neg e] at hst
          obtain ⟨k, h3, h4, h5, h6⟩ := hst
          rw [List.any_eq_true]
          refine ⟨k, List.mem_range.2 (by omega), ?_⟩
          simp only [Bool.and_eq_true, decide_eq_true_eq]
          exact ⟨h3, (ih _ _ _ h5).1 ((hN r (List.mem_of_getElem? hr)).2 d (List.mem_of_getElem? hd) s (List.mem_of_getElem? hsy) e), (ih _ _ _ h6).2 q c (p + 1) r d hr hd hlt rfl⟩
/-- Closed, within its spans and names, and all ranked by a round: it is the meaning. -/
theorem stb_made (hN : NmIn N L) (t : Nat) (hc : Cl3 b n L M M) (hr : ∀ x i j, M x i j = true → x < N ∧ (i ≤ j ∧ j ≤ n) ∧ (rkS b L M t).1 x i j = true) : Stb3 b n L M :=
  ⟨hc, fun X hX x i j hm => by
    obtain ⟨h1, h2, h3⟩ := hr x i j hm
    exact (at_in hN hX t x i j ((at_name h1).2 ⟨h2, h3⟩)).1 h1⟩
/-- The same, reckoned. -/
def stbB (b : Nat → Nat) (n N t : Nat) (L : List Ru) (l : List (Nat × Nat × Nat)) : Bool :=
  let M : SpM := fun x i j => l.contains (x, i, j)
  (L.all fun r => (List.range (n + 1)).all fun i => (List.range (n + 1)).all fun j => !(decide (i ≤ j) && red3 b M M r i j) || M r.head.toNat i j) && l.all fun e => decide (e.1 < N) && (decide (e.2.1 ≤ e.2.2) && (decide (e.2.2 ≤ n) && (rkS b L M t).1 e.1 e.2.1 e.2.2))
def litM (l : List (Nat × Nat × Nat)) : SpM := fun x i j => l.contains (x, i, j)
theorem stb_lit (hN : NmIn N L) {t : Nat} {l : List (Nat × Nat × Nat)} (h : stbB b n N t L l = true) : Stb3 b n L (litM l) := by
  unfold stbB at h
  rw [Bool.and_eq_true] at h
  refine stb_made hN t (fun r hr i j hi hj hd => ?_) (fun x i j hm => ?_)
  · have h1 := List.all_eq_true.1 (List.all_eq_true.1 (List.all_eq_true.1 h.1 r hr) i (List.mem_range.2 (by omega))) j (List.mem_range.2 (by omega))
    rw [Bool.or_eq_true] at h1
    rcases h1 with h1 | h1
    · have hd2 : (decide (i ≤ j) && red3 b (fun x i j => l.contains (x, i, j)) (fun x i j => l.contains (x, i, j)) r i j) = true := by
        rw [Bool.and_eq_true]; exact ⟨decide_eq_true hi, hd⟩
      rw [hd2] at h1; cases h1
    · exact h1
  · have hm2 : (x, i, j) ∈ l := by
      unfold litM at hm
      exact List.contains_iff_mem.1 hm
    have h1 := List.all_eq_true.1 h.2 _ hm2
    simp only [Bool.and_eq_true, decide_eq_true_eq] at h1
    exact ⟨h1.1, ⟨h1.2.1, h1.2.2.1⟩, h1.2.2.2⟩
/-- A rank, of a full ranking. -/
theorem rnkN_lit {t v x i j : Nat} (hf : (rkS b L M t).1 x i j = true) (hv : v ≠ 0) (h1 : (rkS b L M v).1 x i j = true) (h2 : (rkS b L M (v - 1)).1 x i j = false) : rnkN b L M t x i j = v := by
  refine fstAt_eq (f := fun k => (rkS b L M k).1 x i j) (rkN_up x i j) rfl hv ?_ h1 h2
  by_cases e : v ≤ t
  · exact e
  · have := mono_le (f := fun k => (rkS b L M k).1 x i j) (rkN_up x i j) hf (c := v - 1) (by omega)
    rw [h2] at this; cases this
theorem rnkR_lit {t v q c p i j : Nat} (hf : (rkS b L M t).2 q c p i j = true) (hv : v ≠ 0) (h1 : (rkS b L M v).2 q c p i j = true) (h2 : (rkS b L M (v - 1)).2 q c p i j = false) : rnkR b L M t q c p i j = v := by
  refine fstAt_eq (f := fun k => (rkS b L M k).2 q c p i j) (rkR_up q c p i j) rfl hv ?_ h1 h2
  by_cases e : v ≤ t
  · exact e
  · have := mono_le (f := fun k => (rkS b L M k).2 q c p i j) (rkR_up q c p i j) hf (c := v - 1) (by omega)
    rw [h2] at this; cases this
end
end Go.Proofs.YtfjejnkjlnkkhaaGreatDoor
