import Derived.Test.YtejhdhlpdcfedaaGreatStrT
/- Who has the empty text: the meaning as the one set that is least by its own negations; plain. No program in sight. -/
namespace Go.Proofs.YtejhdhlpdcfedaaGreat
set_option linter.unusedVariables false

def symB (M : Nat → Bool) (s : Sy) : Bool := decide (s.name ≠ -1) && M s.name.toNat
def empB (M : Nat → Bool) (l : List Sy) : Bool := l.all (symB M)
def conB (M : Nat → Bool) (c : Cn) : Bool := !(empB M c.seq == c.neg)
def holB (M : Nat → Bool) (r : Ru) : Bool := r.conj.all (conB M)
/-- A conjunct by two sets: what it negates by the first, all else by the second. -/
def redC (M X : Nat → Bool) (c : Cn) : Bool := if c.neg = true then !empB M c.seq else empB X c.seq
def red (M X : Nat → Bool) (r : Ru) : Bool := r.conj.all (redC M X)
theorem redC_self (M : Nat → Bool) (c : Cn) : redC M M c = conB M c := by
  unfold redC conB
  cases c.neg <;> cases empB M c.seq <;> rfl
theorem red_self (M : Nat → Bool) (r : Ru) : red M M r = holB M r := by
  unfold red holB
  congr 1
  funext c
  exact redC_self M c
theorem empB_mono {M N : Nat → Bool} {l : List Sy} (h : ∀ s, s ∈ l → s.name ≠ -1 → M s.name.toNat = true → N s.name.toNat = true) (he : empB M l = true) : empB N l = true := by
  unfold empB at *
  rw [List.all_eq_true] at *
  intro s hs
  have h1 := he s hs
  unfold symB at *
  rw [Bool.and_eq_true, decide_eq_true_eq] at *
  exact ⟨h1.1, h s hs h1.1 h1.2⟩
theorem empB_congr {M N : Nat → Bool} {l : List Sy} (h : ∀ s, s ∈ l → s.name ≠ -1 → M s.name.toNat = N s.name.toNat) : empB M l = empB N l := by
  rw [Bool.eq_iff_iff]
  exact ⟨empB_mono fun s hs hn hm => by rw [← h s hs hn]; exact hm, empB_mono fun s hs hn hm => by rw [h s hs hn]; exact hm⟩
theorem red_mono {M N X Y : Nat → Bool} {r : Ru} (hn : ∀ c, c ∈ r.conj → c.neg = true → ∀ s, s ∈ c.seq → s.name ≠ -1 → N s.name.toNat = true → M s.name.toNat = true)
    (hp : ∀ c, c ∈ r.conj → c.neg = false → ∀ s, s ∈ c.seq → s.name ≠ -1 → X s.name.toNat = true → Y s.name.toNat = true) (h : red M X r = true) : red N Y r = true := by
  unfold red at *
  rw [List.all_eq_true] at *
  intro c hc
  have h1 := h c hc
  unfold redC at *
  cases hb : c.neg with
  | true =>
    rw [hb, if_pos rfl] at h1
    rw [if_pos rfl]
    cases he : empB N c.seq with
    | false => rfl
    | true =>
      have := empB_mono (hn c hc hb) he
      rw [this] at h1; cases h1
  | false =>
    rw [hb] at h1
    simp only [Bool.false_eq_true, if_false] at h1 ⊢
    exact empB_mono (hp c hc hb) h1
def Cl (L : List Ru) (M X : Nat → Bool) : Prop := ∀ r, r ∈ L → red M X r = true → X r.head.toNat = true
/-- Closed, and least by its own negations. -/
def Stb (L : List Ru) (M : Nat → Bool) : Prop := Cl L M M ∧ ∀ X, Cl L M X → ∀ i, M i = true → X i = true
/-- Levels: no name stands below one that it leans on, and above one that it negates. -/
def Str (L : List Ru) (f : Nat → Nat) : Prop := ∀ r, r ∈ L → ∀ c, c ∈ r.conj → ∀ s, s ∈ c.seq → s.name ≠ -1 → f s.name.toNat + (if c.neg = true then 1 else 0) ≤ f r.head.toNat
theorem str_of {g : Gr} {f : Nat → Nat} (h : Sol (edgesT g) f) : Str g.rules f := fun r hr c hc s hs hn => by
  have := h (r.head, s.name, c.neg) (by rw [mem_edgesT, mem_allE]; exact ⟨r, hr, by rw [mem_cnsE]; exact ⟨c, hc, by rw [mem_seqE]; exact ⟨rfl, rfl, s, hs, hn, rfl⟩⟩⟩)
  exact this
theorem Str.neg {L : List Ru} {f : Nat → Nat} (h : Str L f) {r : Ru} (hr : r ∈ L) {c : Cn} (hc : c ∈ r.conj) (hb : c.neg = true) {s : Sy} (hs : s ∈ c.seq) (hn : s.name ≠ -1) : f s.name.toNat < f r.head.toNat := by
  have := h r hr c hc s hs hn
  rw [hb, if_pos rfl] at this; omega
theorem Str.pos {L : List Ru} {f : Nat → Nat} (h : Str L f) {r : Ru} (hr : r ∈ L) {c : Cn} (hc : c ∈ r.conj) {s : Sy} (hs : s ∈ c.seq) (hn : s.name ≠ -1) : f s.name.toNat ≤ f r.head.toNat := by
  have := h r hr c hc s hs hn
  omega
theorem stb_le {L : List Ru} {f : Nat → Nat} {M N : Nat → Bool} (hf : Str L f) (hM : Stb L M) (hN : Stb L N) (k : Nat) (ih : ∀ i, f i < k → M i = N i) (i : Nat) (hi : f i = k) (h : M i = true) : N i = true := by
  have hX : Cl L M (fun i => if f i ≤ k then N i else true) := fun r hr hd => by
    show (if f r.head.toNat ≤ k then N r.head.toNat else true) = true
    split
    · rename_i hk
      refine hN.1 r hr (red_mono (fun c hc hb s hs hn he => ?_) (fun c hc hb s hs hn he => ?_) hd)
      · rw [ih _ (Nat.lt_of_lt_of_le (hf.neg hr hc hb hs hn) hk)]; exact he
      · rw [if_pos (Nat.le_trans (hf.pos hr hc hs hn) hk)] at he
        exact he
    · rfl
  have := hM.2 _ hX i h
  rw [if_pos (by omega)] at this
  exact this
theorem stb_uniq {L : List Ru} {f : Nat → Nat} {M N : Nat → Bool} (hf : Str L f) (hM : Stb L M) (hN : Stb L N) : M = N := by
  have key : ∀ k i, f i < k → M i = N i := by
    intro k
    induction k with
    | zero => intro i hi; omega
    | succ k ih =>
      intro i hi
      by_cases hk : f i < k
      · exact ih i hk
      · have hk : f i = k := by omega
        rw [Bool.eq_iff_iff]
        exact ⟨stb_le hf hM hN k ih i hk, stb_le hf hN hM k (fun i hi => (ih i hi).symm) i hk⟩
  funext i
  exact key (f i + 1) i (by omega)
/-- Each that is in stands by a rule. -/
theorem Stb.supp {L : List Ru} {M : Nat → Bool} (h : Stb L M) (i : Nat) : M i = L.any fun r => decide (r.head.toNat = i) && holB M r := by
  rw [Bool.eq_iff_iff]
  constructor
  · refine h.2 (fun i => L.any fun r => decide (r.head.toNat = i) && holB M r) (fun r hr hd => ?_) i
    rw [List.any_eq_true]
    refine ⟨r, hr, ?_⟩
    rw [Bool.and_eq_true]
    refine ⟨by simp, ?_⟩
    rw [← red_self]
    refine red_mono (fun c hc hb s hs hn he => he) (fun c hc hb s hs hn he => ?_) hd
    simp only [List.any_eq_true, Bool.and_eq_true, decide_eq_true_eq] at he
    obtain ⟨q, hq, e, hh⟩ := he
    rw [← red_self] at hh
    rw [← e]
    exact h.1 q hq hh
  · intro hh
    rw [List.any_eq_true] at hh
    obtain ⟨r, hr, hh⟩ := hh
    rw [Bool.and_eq_true, decide_eq_true_eq] at hh
    rw [← hh.1]
    exact h.1 r hr (by rw [red_self]; exact hh.2)
/-- All levels below one are done. -/
structure Jn (L : List Ru) (f : Nat → Nat) (k : Nat) (M : Nat → Bool) : Prop where
  low : ∀ i, M i = true → f i < k
  shut : ∀ r, r ∈ L → f r.head.toNat < k → holB M r = true → M r.head.toNat = true
  least : ∀ X, (∀ r, r ∈ L → f r.head.toNat < k → red M X r = true → X r.head.toNat = true) → ∀ i, M i = true → X i = true
/-- A level is being done. -/
structure Jm (L : List Ru) (f : Nat → Nat) (k : Nat) (H M : Nat → Bool) : Prop where
  old : ∀ i, H i = true → M i = true
  new : ∀ i, M i = true → H i = true ∨ f i = k
  least : ∀ X, (∀ r, r ∈ L → f r.head.toNat ≤ k → red H X r = true → X r.head.toNat = true) → ∀ i, M i = true → X i = true
section
variable {L : List Ru} {f : Nat → Nat} {k : Nat} {H M : Nat → Bool}
theorem Jn.begin (L : List Ru) (f : Nat → Nat) : Jn L f 0 (fun _ => false) := ⟨fun _ h => (by cases h), fun _ _ h => (by omega), fun _ _ _ h => (by cases h)⟩
theorem Jn.mid (h : Jn L f k H) : Jm L f k H H := ⟨fun _ h => h, fun _ h => Or.inl h, fun X hX => h.least X fun r hr hk => hX r hr (Nat.le_of_lt hk)⟩
theorem Jm.agree (h : Jm L f k H M) {i : Nat} (hi : f i < k) : H i = M i := by
  rw [Bool.eq_iff_iff]
  exact ⟨h.old i, fun hm => (h.new i hm).resolve_right (by omega)⟩
theorem Jm.put (hf : Str L f) (h : Jm L f k H M) {r : Ru} (hr : r ∈ L) (hk : f r.head.toNat = k) (hh : holB M r = true) : Jm L f k H (putS M r.head.toNat) where
  old i hi := by
    unfold putS
    split
    · rfl
    · exact h.old i hi
  new i hi := by
    unfold putS at hi
    split at hi
    · rename_i e; subst e; exact Or.inr hk
    · exact h.new i hi
  least X hX i hi := by
    unfold putS at hi
    split at hi
    · rename_i e; subst e
      refine hX r hr (by omega) ?_
      rw [← red_self] at hh
      refine red_mono (fun c hc hb s hs hn he => ?_) (fun c hc hb s hs hn he => h.least X hX _ he) hh
      rw [← h.agree (by have := hf.neg hr hc hb hs hn; omega)]; exact he
    · exact h.least X hX i hi
theorem Jm.fin (hf : Str L f) (hJ : Jn L f k H) (h : Jm L f k H M) (hs : ∀ r, r ∈ L → f r.head.toNat = k → holB M r = true → M r.head.toNat = true) : Jn L f (k + 1) M where
  low i hi := by
    rcases h.new i hi with h1 | h1
    · have := hJ.low i h1; omega
    · omega
  shut r hr hk hh := by
    by_cases e : f r.head.toNat = k
    · exact hs r hr e hh
    · refine h.old _ (hJ.shut r hr (by omega) ?_)
      rw [← red_self] at hh ⊢
      refine red_mono (fun c hc hb s hs hn he => h.old _ he) (fun c hc hb s hs hn he => ?_) hh
      rw [h.agree (by have := hf.pos hr hc hs hn; omega)]; exact he
  least X hX i hi := by
    refine h.least X (fun r hr hk hd => hX r hr (by omega) ?_) i hi
    refine red_mono (fun c hc hb s hs hn he => ?_) (fun c hc hb s hs hn he => he) hd
    rw [h.agree (by have := hf.neg hr hc hb hs hn; omega)]; exact he
theorem Jn.fin (h : Jn L f k M) (hk : ∀ r, r ∈ L → f r.head.toNat < k) : Stb L M :=
  ⟨fun r hr hd => h.shut r hr (hk r hr) (by rw [← red_self]; exact hd), fun X hX => h.least X fun r hr _ => hX r hr⟩
end
/-- One round of a level's rules. -/
def groR (M : Nat → Bool) (r : Ru) : Nat → Bool := if M r.head.toNat = false ∧ holB M r = true then putS M r.head.toNat else M
def gro (M : Nat → Bool) : List Ru → Nat → Bool
  | [] => M
  | r :: l => gro (groR M r) l
def grc (M : Nat → Bool) : List Ru → Bool
  | [] => false
  | r :: l => (!M r.head.toNat && holB M r) || grc (groR M r) l
theorem gro_snoc : ∀ (l : List Ru) (M : Nat → Bool) (r : Ru), gro M (l ++ [r]) = groR (gro M l) r
  | [], _, _ => rfl
  | a :: l, M, r => gro_snoc l (groR M a) r
theorem grc_snoc : ∀ (l : List Ru) (M : Nat → Bool) (r : Ru), grc M (l ++ [r]) = (grc M l || (!gro M l r.head.toNat && holB (gro M l) r))
  | [], M, r => by show (_ || false) = (false || _); rw [Bool.or_false, Bool.false_or]; rfl
  | a :: l, M, r => by
    show (_ || grc (groR M a) (l ++ [r])) = ((_ || grc (groR M a) l) || _)
    rw [grc_snoc l, Bool.or_assoc]; rfl
theorem take_gro {l : List Ru} {k : Nat} {t : Ru} (ht : l[k]? = some t) (M : Nat → Bool) : gro M (l.take (k + 1)) = groR (gro M (l.take k)) t := by
  rw [List.take_add_one, ht]; exact gro_snoc _ _ _
theorem take_grc {l : List Ru} {k : Nat} {t : Ru} (ht : l[k]? = some t) (M : Nat → Bool) : grc M (l.take (k + 1)) = (grc M (l.take k) || (!gro M (l.take k) t.head.toNat && holB (gro M (l.take k)) t)) := by
  rw [List.take_add_one, ht]; exact grc_snoc _ _ _
theorem Jm.gro {L : List Ru} {f : Nat → Nat} {k : Nat} {H : Nat → Bool} (hf : Str L f) : ∀ {l : List Ru} {M : Nat → Bool}, (∀ r, r ∈ l → r ∈ L ∧ f r.head.toNat = k) → Jm L f k H M → Jm L f k H (gro M l)
  | [], _, _, h => h
  | a :: l, M, hl, h => by
    refine Jm.gro hf (l := l) (fun r hr => hl r (List.mem_cons_of_mem _ hr)) ?_
    unfold groR
    split
    · rename_i hh
      exact h.put hf (hl a (by simp)).1 (hl a (by simp)).2 hh.2
    · exact h
theorem grc_no : ∀ {l : List Ru} {M : Nat → Bool}, grc M l = false → gro M l = M ∧ ∀ r, r ∈ l → holB M r = true → M r.head.toNat = true
  | [], _, _ => ⟨rfl, fun _ h => by cases h⟩
  | a :: l, M, h => by
    unfold grc at h
    rw [Bool.or_eq_false_iff] at h
    have e : groR M a = M := by
      unfold groR
      rw [if_neg]
      rintro ⟨h1, h2⟩
      rw [h1, h2] at h; simp at h
    rw [e] at h
    obtain ⟨h1, h2⟩ := grc_no h.2
    refine ⟨by show _root_.Go.Proofs.YtejhdhlpdcfedaaGreat.gro (groR M a) l = M; rw [e]; exact h1, fun r hr hh => ?_⟩
    rcases List.mem_cons.1 hr with rfl | hr
    · have := h.1
      rw [hh, Bool.and_true] at this
      simpa using this
    · exact h2 r hr hh
theorem groR_le (M : Nat → Bool) (r : Ru) (i : Nat) (h : M i = true) : groR M r i = true := by
  unfold groR
  split
  · unfold putS
    split
    · rfl
    · exact h
  · exact h
theorem gro_le : ∀ (l : List Ru) (M : Nat → Bool) (i : Nat), M i = true → gro M l i = true
  | [], _, _, h => h
  | a :: l, M, i, h => gro_le l _ i (groR_le M a i h)
theorem grc_yes {n : Nat} : ∀ {l : List Ru} {M : Nat → Bool}, (∀ r, r ∈ l → r.head.toNat < n) → grc M l = true → cntS M n < cntS (gro M l) n
  | [], _, _, h => by cases h
  | a :: l, M, hl, h => by
    by_cases hh : M a.head.toNat = false ∧ holB M a = true
    · refine Nat.lt_of_lt_of_le (cnt_lt (s := M) (t := groR M a) (groR_le M a) hh.1 ?_ n (hl a (by simp))) (cnt_mono (gro_le l _) n)
      unfold groR
      rw [if_pos hh]
      unfold putS
      rw [if_pos rfl]
    · have e : groR M a = M := by unfold groR; rw [if_neg hh]
      have h0 : (!M a.head.toNat && holB M a) = false := by
        cases h1 : M a.head.toNat <;> cases h2 : holB M a <;> simp_all
      unfold grc at h
      rw [e, h0, Bool.false_or] at h
      have := grc_yes (n := n) (fun r hr => hl r (List.mem_cons_of_mem _ hr)) h
      show _ < cntS (_root_.Go.Proofs.YtejhdhlpdcfedaaGreat.gro (groR M a) l) n
      rw [e]; exact this
end Go.Proofs.YtejhdhlpdcfedaaGreat
/- A name's negation; a rule more; a row of names: who has the empty text there, plain. No program in sight. -/
namespace Go.Proofs.YtejhdhlpdcfedaaGreat
set_option linter.unusedVariables false

theorem Stb.head {L : List Ru} {M : Nat → Bool} (h : Stb L M) {n : Nat} (hh : ∀ r, r ∈ L → r.head.toNat < n) {i : Nat} (hi : M i = true) : i < n := by
  rw [h.supp i, List.any_eq_true] at hi
  obtain ⟨r, hr, hi⟩ := hi
  rw [Bool.and_eq_true, decide_eq_true_eq] at hi
  rw [← hi.1]; exact hh r hr
theorem may_head {g : Gr} (h : mayG g = true) {r : Ru} (hr : r ∈ g.rules) : r.head.toNat < g.names.length := by
  have := mayG_head h r hr; omega
theorem may_name {g : Gr} (h : mayG g = true) {r : Ru} (hr : r ∈ g.rules) {c : Cn} (hc : c ∈ r.conj) {s : Sy} (hs : s ∈ c.seq) (hn : s.name ≠ -1) : s.name.toNat < g.names.length := by
  have := (mayG_sym h r hr c hc s hs).resolve_left hn; omega
/-- A name more: another one's negation. -/
def overM (n k : Nat) (M : Nat → Bool) (i : Nat) : Bool := if i = n then !M k else M i
theorem overM_old {n k : Nat} {M : Nat → Bool} {i : Nat} (h : i < n) : overM n k M i = M i := by unfold overM; rw [if_neg (by omega)]
theorem overM_new (n k : Nat) (M : Nat → Bool) : overM n k M n = !M k := by unfold overM; rw [if_pos rfl]
theorem over_red (n k : Nat) (M X : Nat → Bool) : red M X ⟨(n : Int), [⟨true, [⟨(k : Int), 0, 0⟩]⟩]⟩ = !M k := by
  have hk : ¬ (k : Int) = -1 := by omega
  simp [red, redC, empB, symB, hk]
theorem over_stb {g : Gr} {k : Nat} {s : ByteArray} {M : Nat → Bool} (hM : mayG g = true) (hk : k < g.names.length) (h : Stb g.rules M) : Stb (overG g k true s).rules (overM g.names.length k M) := by
  have key : ∀ X r, r ∈ g.rules → red (overM g.names.length k M) X r = true → red M X r = true := fun X r hr hd =>
    red_mono (fun c hc hb q hq hn he => by rw [overM_old (may_name hM hr hc hq hn)]; exact he) (fun c hc hb q hq hn he => he) hd
  refine ⟨fun r hr hd => ?_, fun X hX i hi => ?_⟩
  · rcases List.mem_append.1 hr with hr | hr
    · rw [overM_old (may_head hM hr)]
      refine h.1 r hr (red_mono (fun c hc hb q hq hn he => he) (fun c hc hb q hq hn he => ?_) (key _ r hr hd))
      rw [overM_old (may_name hM hr hc hq hn)] at he; exact he
    · obtain rfl : r = ⟨(g.names.length : Int), [⟨true, [⟨(k : Int), 0, 0⟩]⟩]⟩ := by simpa using hr
      rw [over_red, overM_old hk] at hd
      rw [Int.toNat_natCast, overM_new]; exact hd
  · by_cases e : i = g.names.length
    · subst e
      rw [overM_new] at hi
      have := hX ⟨(g.names.length : Int), [⟨true, [⟨(k : Int), 0, 0⟩]⟩]⟩ (List.mem_append_right _ (by simp)) (by rw [over_red, overM_old hk]; exact hi)
      rw [Int.toNat_natCast] at this
      exact this
    · unfold overM at hi
      rw [if_neg e] at hi
      refine h.2 X (fun r hr hd => hX r (List.mem_append_left _ hr) ?_) i hi
      exact red_mono (fun c hc hb q hq hn he => by rw [overM_old (may_name hM hr hc hq hn)] at he; exact he) (fun c hc hb q hq hn he => he) hd
theorem over_nul {g : Gr} {k : Nat} {s : ByteArray} {M N : Nat → Bool} (hM : mayG g = true) (hl : edsB (g.names.length : Int) (edgesT g) = true) (hc : Clean (edgesT g)) (hk : k < g.names.length) (h : Stb g.rules M) (hN : Stb (overG g k true s).rules N) : N = overM g.names.length k M := by
  refine stb_uniq (L := (overG g k true s).rules) (f := levT (g.names.length + 1) (edgesT (overG g k true s))) (str_of (g := overG g k true s) ?_) hN (over_stb hM hk h)
  rw [over_edges hM hl]
  exact lev_sol (over_eds hl hk) (over_clean hl hk hc)
/-- A rule more, of nothing, for the last name. -/
def ruE (n : Nat) : Ru := ⟨(n : Int) - 1, [⟨false, []⟩]⟩
def moreR (g : Gr) : Gr := ⟨g.start, g.names, g.rules ++ [ruE g.names.length]⟩
theorem moreR_heads (n : Nat) (hn : 0 < n) : ∀ (l : List Ru) (z : Int), mayHeads n z l = true → mayHeads n z (l ++ [ruE n]) = true
  | [], z, h => by
    simp only [mayHeads, decide_eq_true_eq] at h
    simp only [List.nil_append, mayHeads, ruE, isNum, Bool.and_eq_true, Bool.or_eq_true, decide_eq_true_eq, and_true]
    omega
  | r :: l, z, h => by
    simp only [mayHeads, Bool.and_eq_true] at h
    simp only [List.cons_append, mayHeads, Bool.and_eq_true]
    exact ⟨h.1, h.2.1, moreR_heads n hn l _ h.2.2⟩
theorem moreR_rs (n : Nat) : ∀ (l : List Ru) (m : Nat), m ≤ 1024 → mayRs n m l = true → mayRs n m (l ++ [ruE n]) = true
  | [], m, hm, _ => by
    simp [mayRs, ruE, mayCs, mayRow, hm]
  | r :: l, m, hm, h => by
    unfold mayRs at h
    split at h
    · rename_i hc
      split at h
      · cases h
      · rename_i q hq
        rw [List.cons_append]
        unfold mayRs
        rw [if_pos hc, hq]
        exact moreR_rs n l q (mayCs_len n r.head r.conj m q hm hq).2 h
    · cases h
theorem moreR_may {g : Gr} (h : mayG g = true) (hl : g.rules.length < 256) : mayG (moreR g) = true := by
  have hp := mayG_pos h
  unfold mayG mayRules at h ⊢
  simp only [Bool.and_eq_true, decide_eq_true_eq] at h
  unfold moreR
  simp only [Bool.and_eq_true, decide_eq_true_eq, List.length_append, List.length_cons, List.length_nil]
  exact ⟨h.1, h.2.1, moreR_heads _ hp _ _ h.2.2.1, by omega, by omega, moreR_rs _ _ 0 (Nat.zero_le _) h.2.2.2.2.2⟩
theorem moreR_edges (g : Gr) : edgesT (moreR g) = edgesT g := by
  unfold edgesT
  show sortE (addAll [] (allE (g.rules ++ [ruE g.names.length]))) = _
  rw [allE_append]
  simp [allE, ruE, cnsE, seqE]
theorem moreR_nul {g : Gr} {M N : Nat → Bool} (hp : ∀ r, r ∈ g.rules → ∀ c, c ∈ r.conj → c.neg = false) (h : Stb g.rules M) (hN : Stb (moreR g).rules N) : (∀ i, M i = true → N i = true) ∧ N (g.names.length - 1) = true := by
  refine ⟨h.2 N fun r hr hd => ?_, ?_⟩
  · refine hN.1 r (List.mem_append_left _ hr) (red_mono (fun c hc hb => by rw [hp r hr c hc] at hb; cases hb) (fun c hc hb s hs hn he => he) hd)
  · have := hN.1 (ruE g.names.length) (List.mem_append_right _ (by simp)) (by simp [red, redC, ruE, empB])
    rw [show (ruE g.names.length).head.toNat = g.names.length - 1 by unfold ruE; simp only; omega] at this
    exact this
theorem pos_negs (g : Gr) : ∀ r, r ∈ (posG g).rules → ∀ c, c ∈ r.conj → c.neg = false := fun r hr c hc => by
  obtain ⟨q, _, rfl⟩ := List.mem_map.1 hr
  obtain ⟨d, _, rfl⟩ := List.mem_map.1 hc
  rfl
end Go.Proofs.YtejhdhlpdcfedaaGreat
/- The meaning of all spans of a text as the one table that is least by its own negations; plain. No program in sight. -/
namespace Go.Proofs.YtejhdhlpdcfedaaGreat
set_option linter.unusedVariables false

/-- Of a name, from, to: has it these bytes? -/
abbrev SpM := Nat → Nat → Nat → Bool
def inR (b : Nat → Nat) (s : Sy) (i : Nat) : Bool := decide (s.lo ≤ (b i : Int)) && decide ((b i : Int) ≤ s.hi)
/-- Has a row of symbols the bytes from i to j? -/
def restB (b : Nat → Nat) (M : SpM) : List Sy → Nat → Nat → Bool
  | [], i, j => decide (i = j)
  | s :: l, i, j => if s.name = -1 then decide (i < j) && (inR b s i && restB b M l (i + 1) j) else (List.range (j + 1)).any fun k => decide (i ≤ k) && (M s.name.toNat i k && restB b M l k j)
section
variable {b : Nat → Nat} {M N X Y : SpM}
theorem restB_mono : ∀ {l : List Sy} {i j : Nat}, (∀ s, s ∈ l → s.name ≠ -1 → ∀ i j, M s.name.toNat i j = true → N s.name.toNat i j = true) → restB b M l i j = true → restB b N l i j = true
  | [], _, _, _, h => h
  | s :: l, i, j, hm, h => by
    have ih : ∀ i j, restB b M l i j = true → restB b N l i j = true := fun i j => restB_mono (fun s hs => hm s (List.mem_cons_of_mem _ hs))
    unfold restB at h ⊢
    split
    · rename_i e
      rw [if_pos e] at h
      simp only [Bool.and_eq_true] at h ⊢
      exact ⟨h.1, h.2.1, ih _ _ h.2.2⟩
    · rename_i e
      rw [if_neg e] at h
      rw [List.any_eq_true] at h ⊢
      obtain ⟨k, hk, hh⟩ := h
      simp only [Bool.and_eq_true] at hh
      refine ⟨k, hk, ?_⟩
      simp only [Bool.and_eq_true]
      exact ⟨hh.1, hm s (by simp) e _ _ hh.2.1, ih _ _ hh.2.2⟩
theorem restB_congr {l : List Sy} {i j : Nat} (h : ∀ s, s ∈ l → s.name ≠ -1 → ∀ i j, M s.name.toNat i j = N s.name.toNat i j) : restB b M l i j = restB b N l i j := by
  rw [Bool.eq_iff_iff]
  exact ⟨restB_mono fun s hs hn i j hm => by rw [← h s hs hn]; exact hm, restB_mono fun s hs hn i j hm => by rw [h s hs hn]; exact hm⟩
def redC3 (b : Nat → Nat) (M X : SpM) (c : Cn) (i j : Nat) : Bool := if c.neg = true then !restB b M c.seq i j else restB b X c.seq i j
def red3 (b : Nat → Nat) (M X : SpM) (r : Ru) (i j : Nat) : Bool := r.conj.all fun c => redC3 b M X c i j
def conB3 (b : Nat → Nat) (M : SpM) (c : Cn) (i j : Nat) : Bool := !(restB b M c.seq i j == c.neg)
/-- Does a rule hold of the bytes from i to j? -/
def holB3 (b : Nat → Nat) (M : SpM) (r : Ru) (i j : Nat) : Bool := r.conj.all fun c => conB3 b M c i j
theorem red3_self (r : Ru) (i j : Nat) : red3 b M M r i j = holB3 b M r i j := by
  unfold red3 holB3
  congr 1
  funext c
  unfold redC3 conB3
  cases c.neg <;> cases restB b M c.seq i j <;> rfl
theorem red3_mono {r : Ru} {i j : Nat} (hn : ∀ c, c ∈ r.conj → c.neg = true → ∀ s, s ∈ c.seq → s.name ≠ -1 → ∀ i j, N s.name.toNat i j = true → M s.name.toNat i j = true)
    (hp : ∀ c, c ∈ r.conj → c.neg = false → ∀ s, s ∈ c.seq → s.name ≠ -1 → ∀ i j, X s.name.toNat i j = true → Y s.name.toNat i j = true) (h : red3 b M X r i j = true) : red3 b N Y r i j = true := by
  unfold red3 at *
  rw [List.all_eq_true] at *
  intro c hc
  have h1 := h c hc
  unfold redC3 at *
  cases hb : c.neg with
  | true =>
    rw [hb, if_pos rfl] at h1
    rw [if_pos rfl]
    cases he : restB b N c.seq i j with
    | false => rfl
    | true =>
      have := restB_mono (hn c hc hb) he
      rw [this] at h1; cases h1
  | false =>
    rw [hb] at h1
    simp only [Bool.false_eq_true, if_false] at h1 ⊢
    exact restB_mono (hp c hc hb) h1
end
def Cl3 (b : Nat → Nat) (n : Nat) (L : List Ru) (M X : SpM) : Prop := ∀ r, r ∈ L → ∀ i j, i ≤ j → j ≤ n → red3 b M X r i j = true → X r.head.toNat i j = true
/-- Closed, and least by its own negations: the meaning of all spans of a text of n bytes. -/
def Stb3 (b : Nat → Nat) (n : Nat) (L : List Ru) (M : SpM) : Prop := Cl3 b n L M M ∧ ∀ X, Cl3 b n L M X → ∀ x i j, M x i j = true → X x i j = true
section
variable {b : Nat → Nat} {n : Nat} {L : List Ru} {f : Nat → Nat} {k : Nat} {H M N : SpM}
theorem stb3_le (hf : Str L f) (hM : Stb3 b n L M) (hN : Stb3 b n L N) (k : Nat) (ih : ∀ x, f x < k → ∀ i j, M x i j = N x i j) (x : Nat) (hx : f x = k) (i j : Nat) (h : M x i j = true) : N x i j = true := by
  have hX : Cl3 b n L M (fun x i j => if f x ≤ k then N x i j else true) := fun r hr i j hij hj hd => by
    show (if f r.head.toNat ≤ k then N r.head.toNat i j else true) = true
    split
    · rename_i hk
      refine hN.1 r hr i j hij hj (red3_mono (fun c hc hb s hs hn i j he => ?_) (fun c hc hb s hs hn i j he => ?_) hd)
      · rw [ih _ (Nat.lt_of_lt_of_le (hf.neg hr hc hb hs hn) hk)]; exact he
      · rw [if_pos (Nat.le_trans (hf.pos hr hc hs hn) hk)] at he
        exact he
    · rfl
  have := hM.2 _ hX x i j h
  rw [if_pos (by omega)] at this
  exact this
theorem stb3_uniq (hf : Str L f) (hM : Stb3 b n L M) (hN : Stb3 b n L N) : M = N := by
  have key : ∀ k x, f x < k → ∀ i j, M x i j = N x i j := by
    intro k
    induction k with
    | zero => intro x hx; omega
    | succ k ih =>
      intro x hx i j
      by_cases hk : f x < k
      · exact ih x hk i j
      · have hk : f x = k := by omega
        rw [Bool.eq_iff_iff]
        exact ⟨stb3_le hf hM hN k ih x hk i j, stb3_le hf hN hM k (fun x hx i j => (ih x hx i j).symm) x hk i j⟩
  funext x i j
  exact key (f x + 1) x (by omega) i j
/-- Each that is in stands by a rule. -/
theorem Stb3.supp (h : Stb3 b n L M) (x i j : Nat) : M x i j = (decide (i ≤ j) && decide (j ≤ n) && L.any fun r => decide (r.head.toNat = x) && holB3 b M r i j) := by
  rw [Bool.eq_iff_iff]
  constructor
  · refine h.2 (fun x i j => decide (i ≤ j) && decide (j ≤ n) && L.any fun r => decide (r.head.toNat = x) && holB3 b M r i j) (fun r hr i j hij hj hd => ?_) x i j
    simp only [Bool.and_eq_true, decide_eq_true_eq, List.any_eq_true]
    refine ⟨⟨hij, hj⟩, r, hr, rfl, ?_⟩
    rw [← red3_self]
    refine red3_mono (fun c hc hb s hs hn i j he => he) (fun c hc hb s hs hn i j he => ?_) hd
    simp only [List.any_eq_true, Bool.and_eq_true, decide_eq_true_eq] at he
    obtain ⟨⟨h1, h2⟩, q, hq, e, hh⟩ := he
    rw [← red3_self] at hh
    rw [← e]
    exact h.1 q hq i j h1 h2 hh
  · intro hh
    simp only [Bool.and_eq_true, decide_eq_true_eq, List.any_eq_true] at hh
    obtain ⟨⟨h1, h2⟩, r, hr, e, hh⟩ := hh
    rw [← e]
    exact h.1 r hr i j h1 h2 (by rw [red3_self]; exact hh)
/-- All levels below one are done. -/
structure Jn3 (b : Nat → Nat) (n : Nat) (L : List Ru) (f : Nat → Nat) (k : Nat) (M : SpM) : Prop where
  low : ∀ x i j, M x i j = true → f x < k
  shut : ∀ r, r ∈ L → f r.head.toNat < k → ∀ i j, i ≤ j → j ≤ n → holB3 b M r i j = true → M r.head.toNat i j = true
  least : ∀ X, (∀ r, r ∈ L → f r.head.toNat < k → ∀ i j, i ≤ j → j ≤ n → red3 b M X r i j = true → X r.head.toNat i j = true) → ∀ x i j, M x i j = true → X x i j = true
/-- A level is being done. -/
structure Jm3 (b : Nat → Nat) (n : Nat) (L : List Ru) (f : Nat → Nat) (k : Nat) (H M : SpM) : Prop where
  old : ∀ x i j, H x i j = true → M x i j = true
  new : ∀ x i j, M x i j = true → H x i j = true ∨ f x = k
  least : ∀ X, (∀ r, r ∈ L → f r.head.toNat ≤ k → ∀ i j, i ≤ j → j ≤ n → red3 b H X r i j = true → X r.head.toNat i j = true) → ∀ x i j, M x i j = true → X x i j = true
theorem Jn3.begin (b : Nat → Nat) (n : Nat) (L : List Ru) (f : Nat → Nat) : Jn3 b n L f 0 (fun _ _ _ => false) := ⟨fun _ _ _ h => (by cases h), fun _ _ h => (by omega), fun _ _ _ _ _ h => (by cases h)⟩
theorem Jn3.mid (h : Jn3 b n L f k H) : Jm3 b n L f k H H := ⟨fun _ _ _ h => h, fun _ _ _ h => Or.inl h, fun X hX => h.least X fun r hr hk => hX r hr (Nat.le_of_lt hk)⟩
theorem Jm3.agree (h : Jm3 b n L f k H M) {x : Nat} (hx : f x < k) (i j : Nat) : H x i j = M x i j := by
  rw [Bool.eq_iff_iff]
  exact ⟨h.old x i j, fun hm => (h.new x i j hm).resolve_right (by omega)⟩
/-- A rule's head takes a span. -/
def putS3 (M : SpM) (x a c : Nat) : SpM := fun y i j => if y = x ∧ i = a ∧ j = c then true else M y i j
theorem Jm3.put (hf : Str L f) (h : Jm3 b n L f k H M) {P : SpM} (hP : ∀ x i j, P x i j = true → M x i j = true) (hPH : ∀ x i j, H x i j = true → P x i j = true) {r : Ru} (hr : r ∈ L) (hk : f r.head.toNat = k) {a c : Nat} (hac : a ≤ c) (hc : c ≤ n) (hh : holB3 b P r a c = true) : Jm3 b n L f k H (putS3 M r.head.toNat a c) where
  old x i j hx := by
    unfold putS3
    split
    · rfl
    · exact h.old x i j hx
  new x i j hx := by
    unfold putS3 at hx
    split at hx
    · rename_i e; rw [e.1]; exact Or.inr hk
    · exact h.new x i j hx
  least X hX x i j hx := by
    unfold putS3 at hx
    split at hx
    · rename_i e
      obtain ⟨rfl, rfl, rfl⟩ := e
      refine hX r hr (by omega) i j hac hc ?_
      rw [← red3_self] at hh
      refine red3_mono (fun q hq hb s hs hn i j he => hPH _ _ _ he) (fun q hq hb s hs hn i j he => h.least X hX _ _ _ (hP _ _ _ he)) hh
    · exact h.least X hX x i j hx
theorem Jm3.fin (hf : Str L f) (hJ : Jn3 b n L f k H) (h : Jm3 b n L f k H M) (hs : ∀ r, r ∈ L → f r.head.toNat = k → ∀ i j, i ≤ j → j ≤ n → holB3 b M r i j = true → M r.head.toNat i j = true) : Jn3 b n L f (k + 1) M where
  low x i j hx := by
    rcases h.new x i j hx with h1 | h1
    · have := hJ.low x i j h1; omega
    · omega
  shut r hr hk i j hij hj hh := by
    by_cases e : f r.head.toNat = k
    · exact hs r hr e i j hij hj hh
    · refine h.old _ _ _ (hJ.shut r hr (by omega) i j hij hj ?_)
      rw [← red3_self] at hh ⊢
      refine red3_mono (fun c hc hb s hs hn i j he => h.old _ _ _ he) (fun c hc hb s hs hn i j he => ?_) hh
      rw [h.agree (by have := hf.pos hr hc hs hn; omega)]; exact he
  least X hX x i j hx := by
    refine h.least X (fun r hr hk i j hij hj hd => hX r hr (by omega) i j hij hj ?_) x i j hx
    refine red3_mono (fun c hc hb s hs hn i j he => ?_) (fun c hc hb s hs hn i j he => he) hd
    rw [h.agree (by have := hf.neg hr hc hb hs hn; omega)]; exact he
theorem Jn3.fin (h : Jn3 b n L f k M) (hk : ∀ r, r ∈ L → f r.head.toNat < k) : Stb3 b n L M :=
  ⟨fun r hr i j hij hj hd => h.shut r hr (hk r hr) i j hij hj (by rw [← red3_self]; exact hd), fun X hX => h.least X fun r hr _ => hX r hr⟩
/-- What has a rank, once no round gives another one: all that is in. -/
theorem ranked_all (h : Stb3 b n L M) {X : SpM} {Y : Nat → Nat → Nat → Nat → Nat → Bool} (hX : ∀ x i j, X x i j = true → M x i j = true)
    (hY : ∀ (q c : Nat) (r : Ru) (d : Cn), L[q]? = some r → r.conj[c]? = some d → d.neg = false → ∀ p, p ≤ d.seq.length → ∀ i j, i ≤ j → j ≤ n → restB b M (d.seq.drop p) i j = true →
      (match d.seq[p]? with | none => decide (i = j) | some s => if s.name = -1 then decide (i < j) && (inR b s i && Y q c (p + 1) (i + 1) j) else (List.range (j + 1)).any fun k => decide (i ≤ k) && (X s.name.toNat i k && Y q c (p + 1) k j)) = true → Y q c p i j = true)
    (hT : ∀ (q : Nat) (r : Ru), L[q]? = some r → ∀ i j, i ≤ j → j ≤ n → M r.head.toNat i j = true → holB3 b M r i j = true → (∀ (c : Nat) (d : Cn), r.conj[c]? = some d → d.neg = false → Y q c 0 i j = true) → X r.head.toNat i j = true) :
    ∀ x i j, M x i j = true → X x i j = true := by
  have key : ∀ (q c : Nat) (r : Ru) (d : Cn), L[q]? = some r → r.conj[c]? = some d → d.neg = false → ∀ t p, d.seq.length - p = t → p ≤ d.seq.length → ∀ i j, i ≤ j → j ≤ n → restB b X (d.seq.drop p) i j = true → Y q c p i j = true := by
    intro q c r d hq hc hd t
    induction t with
    | zero =>
      intro p ht hp i j hij hj hr
      have e : d.seq[p]? = none := List.getElem?_eq_none (by omega)
      refine hY q c r d hq hc hd p hp i j hij hj (restB_mono (fun s hs hn i j he => hX _ _ _ he) hr) ?_
      rw [e]
      have e2 : d.seq.drop p = [] := List.drop_eq_nil_of_le (by omega)
      rw [e2] at hr
      exact hr
    | succ t ih =>
      intro p ht hp i j hij hj hr
      obtain ⟨s, hs⟩ : ∃ s, d.seq[p]? = some s := ⟨_, List.getElem?_eq_getElem (by omega)⟩
      refine hY q c r d hq hc hd p hp i j hij hj (restB_mono (fun s hs hn i j he => hX _ _ _ he) hr) ?_
      rw [hs]
      have e2 : d.seq.drop p = s :: d.seq.drop (p + 1) := by
        obtain ⟨hl, e⟩ := List.getElem?_eq_some_iff.1 hs
        rw [List.drop_eq_getElem_cons hl, e]
      rw [e2] at hr
      unfold restB at hr
      simp only
      split
      · rename_i e
        rw [if_pos e] at hr
        simp only [Bool.and_eq_true, decide_eq_true_eq] at hr ⊢
        exact ⟨hr.1, hr.2.1, ih (p + 1) (by omega) (by omega) (i + 1) j (by omega) hj hr.2.2⟩
      · rename_i e
        rw [if_neg e] at hr
        rw [List.any_eq_true] at hr ⊢
        obtain ⟨k, hk, hh⟩ := hr
        simp only [Bool.and_eq_true, decide_eq_true_eq] at hh
        have hkj : k ≤ j := by have := List.mem_range.1 hk; omega
        refine ⟨k, hk, ?_⟩
        simp only [Bool.and_eq_true, decide_eq_true_eq]
        exact ⟨hh.1, hh.2.1, ih (p + 1) (by omega) (by omega) k j hkj hj hh.2.2⟩
  refine h.2 X fun r hr i j hij hj hd => ?_
  obtain ⟨q, hq⟩ := List.mem_iff_getElem?.1 hr
  have hh : holB3 b M r i j = true := by
    rw [← red3_self]
    exact red3_mono (fun c hc hb s hs hn i j he => he) (fun c hc hb s hs hn i j he => hX _ _ _ he) hd
  refine hT q r hq i j hij hj (h.1 r hr i j hij hj (by rw [red3_self]; exact hh)) hh fun c d hc hdn => ?_
  refine key q c r d hq hc hdn _ 0 rfl (Nat.zero_le _) i j hij hj ?_
  unfold red3 at hd
  have h9 := List.all_eq_true.1 hd d (List.mem_of_getElem? hc)
  unfold redC3 at h9
  rw [hdn] at h9
  simpa using h9
end
/-- The text of no bytes. -/
theorem rest_empty (b : Nat → Nat) (M : SpM) : ∀ l : List Sy, restB b M l 0 0 = empB (fun x => M x 0 0) l
  | [] => rfl
  | s :: l => by
    unfold restB
    show _ = (symB (fun x => M x 0 0) s && empB (fun x => M x 0 0) l)
    rw [← rest_empty b M l]
    unfold symB
    by_cases e : s.name = -1
    · rw [if_pos e]; simp [e]
    · rw [if_neg e]
      simp [e, List.range_succ]
theorem hol_empty (b : Nat → Nat) (M : SpM) (r : Ru) : holB3 b M r 0 0 = holB (fun x => M x 0 0) r := by
  unfold holB3 holB
  congr 1
  funext c
  unfold conB3 conB
  rw [rest_empty]
theorem red_empty (b : Nat → Nat) (M X : SpM) (r : Ru) : red3 b M X r 0 0 = red (fun x => M x 0 0) (fun x => X x 0 0) r := by
  unfold red3 red
  congr 1
  funext c
  unfold redC3 redC
  rw [rest_empty, rest_empty]
/-- The meaning of the text of no bytes is who has the empty text. -/
theorem stb_empty {b : Nat → Nat} {L : List Ru} {M : SpM} (h : Stb3 b 0 L M) : Stb L (fun x => M x 0 0) := by
  refine ⟨fun r hr hd => h.1 r hr 0 0 (Nat.le_refl _) (Nat.le_refl _) (by rw [red_empty]; exact hd), fun X hX i hi => ?_⟩
  have := h.2 (fun x i j => if i = 0 ∧ j = 0 then X x else true) (fun r hr i j hij hj hd => by
    obtain rfl : j = 0 := by omega
    obtain rfl : i = 0 := by omega
    show (if 0 = 0 ∧ 0 = 0 then X r.head.toNat else true) = true
    rw [if_pos ⟨rfl, rfl⟩]
    refine hX r hr ?_
    rw [red_empty] at hd
    simpa using hd) i 0 0 hi
  simpa using this
end Go.Proofs.YtejhdhlpdcfedaaGreat
