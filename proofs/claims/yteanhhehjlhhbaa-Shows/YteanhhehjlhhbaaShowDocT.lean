/- A grammar's text as the document puts it together: symbol by symbol, rule by rule. No program in sight. -/
import Derived.Test.YteanhhehjlhhbaaShowBackT
namespace Go.Proofs.Yteanhhehjlhhbaa
set_option linter.unusedVariables false

def jQ (ps : List Part) : List UInt8 := joinN [32] (partAt ps) ps.length
def spQ (n : Nat) : List UInt8 := if 0 < n then [32] else []
theorem jQ_snoc (ps : List Part) (p : Part) : jQ (ps ++ [p]) = jQ ps ++ spQ ps.length ++ partT p := by
  unfold jQ
  rw [List.length_append, List.length_cons, List.length_nil, Nat.zero_add]
  show joinN [32] (partAt (ps ++ [p])) ps.length ++ (if 0 < ps.length then [32] else []) ++ partAt (ps ++ [p]) ps.length = _
  rw [joinN_congr [32] (partAt (ps ++ [p])) (partAt ps) ps.length (fun i hi => by
    unfold partAt
    rw [List.getD_eq_getElem?_getD, List.getD_eq_getElem?_getD, List.getElem?_append_left hi])]
  have e : partAt (ps ++ [p]) ps.length = partT p := by
    unfold partAt
    rw [List.getD_eq_getElem?_getD, List.getElem?_append_right (Nat.le_refl _), Nat.sub_self]; rfl
  rw [e]; rfl
/-- No text is open at the end. -/
def ShutQ (ps : List Part) : Prop := ∀ ps' l, ps ≠ ps' ++ [.inl l]
theorem addQ_new {ps : List Part} (h : ShutQ ps) (c : UInt8) : addT ps c = ps ++ [.inl [c]] := by
  rcases List.eq_nil_or_concat ps with e | ⟨qs, p, e⟩
  · subst e; rfl
  · rw [List.concat_eq_append] at e
    subst e
    rw [addT_snoc]
    match p, h with
    | .inl l, h => exact absurd rfl (h qs l)
    | .inr x, _ => simp
theorem shutQ_nil : ShutQ [] := fun ps' l e => by simp at e
theorem shutQ_inr (ps : List Part) (x : (UInt8 × UInt8) ⊕ ByteArray) : ShutQ (ps ++ [.inr x]) := fun ps' l e => by
  have := congrArg List.getLast? e
  simp at this
def psQ (names : List ByteArray) (l : List Sy) : List Part := l.foldl (symP names) []
theorem psQ_snoc (names : List ByteArray) {l : List Sy} {k : Nat} {s : Sy} (h : l[k]? = some s) : psQ names (l.take (k + 1)) = symP names (psQ names (l.take k)) s := by
  unfold psQ
  rw [List.take_add_one, h, List.foldl_append]; rfl
def oneB (s : Sy) : Bool := decide (s.name = -1) && decide (s.lo = s.hi)
/-- At the head of the document's loop: the text is that of the first k symbols; what comes next goes into no open text. -/
structure SQ (names : List ByteArray) (l : List Sy) (k : Nat) (t : List UInt8) : Prop where
  txt : t = jQ (psQ names (l.take k))
  nil : t = [] ↔ k = 0
  len : psQ names (l.take k) = [] ↔ k = 0
  nxt : ∀ s, l[k]? = some s → oneB s = true → ShutQ (psQ names (l.take k))
theorem SQ.begin (names : List ByteArray) (l : List Sy) : SQ names l 0 [] :=
  ⟨rfl, by simp, by simp [psQ], fun s _ _ => by rw [List.take_zero]; exact shutQ_nil⟩
theorem part_neQ {p : Part} (h : ∀ s, p = .inr (.inr s) → s.data.toList ≠ []) : partT p ≠ [] := by
  match p, h with
  | .inl l, _ => simp [partT, quoT]
  | .inr (.inl (a, b)), _ => simp [partT, quoT]
  | .inr (.inr s), h => exact h s rfl
section
variable {names : List ByteArray} {l : List Sy} {k : Nat} {t : List UInt8} {s : Sy}
def sepQ (k : Nat) : List UInt8 := if k = 0 then [] else [32]
theorem SQ.sep (h : SQ names l k t) : spQ (psQ names (l.take k)).length = sepQ k := by
  unfold spQ sepQ
  by_cases e : k = 0
  · rw [h.len.2 e, if_pos e]; rfl
  · rw [if_neg e, if_pos (List.length_pos_iff.2 fun h9 => e (h.len.1 h9))]
theorem SQ.other (h : SQ names l k t) (hs : l[k]? = some s) {x : (UInt8 × UInt8) ⊕ ByteArray} (hx : symP names (psQ names (l.take k)) s = psQ names (l.take k) ++ [.inr x]) (hp : partT (.inr x) ≠ []) : SQ names l (k + 1) (t ++ sepQ k ++ partT (.inr x)) := by
  have e : psQ names (l.take (k + 1)) = psQ names (l.take k) ++ [.inr x] := by rw [psQ_snoc names hs, hx]
  refine ⟨by rw [e, jQ_snoc, ← h.txt, h.sep], ?_, ?_, fun s' _ _ => by rw [e]; exact shutQ_inr _ _⟩
  · constructor
    · intro e9; rw [List.append_eq_nil_iff] at e9; exact absurd e9.2 hp
    · intro e9; omega
  · rw [e]; constructor
    · intro e9; simp at e9
    · intro e9; omega
/-- Within a run of bytes, from k on, j of them done. -/
structure RQr (names : List ByteArray) (l : List Sy) (k j : Nat) (t u : List UInt8) : Prop where
  cs : ∃ cs : List UInt8, u = t ++ sepQ k ++ [34] ++ cs.flatMap (escT 34) ∧ (k = j → cs = []) ∧ (k < j → psQ names (l.take j) = psQ names (l.take k) ++ [.inl cs])
  kj : k ≤ j
theorem SQ.run (h : SQ names l k t) : RQr names l k k t (t ++ sepQ k ++ [34]) := ⟨⟨[], by simp, fun _ => rfl, fun h => by omega⟩, Nat.le_refl _⟩
theorem RQr.more {j : Nat} {u : List UInt8} (h : SQ names l k t) (r : RQr names l k j t u) (hs : l[j]? = some s) (h1 : oneB s = true) (h0 : ∀ s, l[k]? = some s → oneB s = true) : RQr names l k (j + 1) t (u ++ escT 34 (byteOf s.lo)) := by
  obtain ⟨⟨cs, e1, e2, e3⟩, hk⟩ := r
  unfold oneB at h1
  rw [Bool.and_eq_true, decide_eq_true_eq, decide_eq_true_eq] at h1
  have hst : ∀ ps, symP names ps s = addT ps (byteOf s.lo) := fun ps => by unfold symP; rw [if_neg (by simp [h1.1]), if_neg (by simp [h1.2])]
  refine ⟨⟨cs ++ [byteOf s.lo], by rw [e1]; simp, fun h => by omega, fun _ => ?_⟩, by omega⟩
  rw [psQ_snoc names hs, hst]
  by_cases e : k = j
  · subst e
    rw [e2 rfl, addQ_new (h.nxt s hs (h0 s hs))]; rfl
  · rw [e3 (by omega), addT_snoc]
theorem RQr.fin {j : Nat} {u : List UInt8} (h : SQ names l k t) (r : RQr names l k j t u) (hk : k < j) (hn : ∀ s, l[j]? = some s → oneB s = false) : SQ names l j (u ++ [34]) := by
  obtain ⟨⟨cs, e1, e2, e3⟩, _⟩ := r
  have e := e3 hk
  refine ⟨?_, ?_, ?_, fun s hs h1 => by rw [hn s hs] at h1; cases h1⟩
  · rw [e, jQ_snoc, ← h.txt, h.sep, e1]
    simp [partT, quoT]
  · constructor
    · intro e9; simp at e9
    · intro e9; omega
  · rw [e]; constructor
    · intro e9; simp at e9
    · intro e9; omega
theorem SQ.fin (h : SQ names l l.length t) (hl : l ≠ []) : t = joinN [32] (partAt (partsT names l)) (partsT names l).length := by
  have h1 := h.txt
  rw [List.take_length] at h1
  unfold partsT
  rw [if_neg (by simpa using hl)]
  exact h1
end
theorem seq_nil (names : List ByteArray) : joinN [32] (partAt (partsT names [])) (partsT names []).length = [34, 34] := rfl
/-- A conjunct's parts, as a text. -/
def seqL (names : List ByteArray) (l : List Sy) : List UInt8 := joinN [32] (partAt (partsT names l)) (partsT names l).length
theorem conjT_seq (names : List ByteArray) (c : Cn) : conjT names c = (if c.neg then [126] else []) ++ seqL names c.seq := rfl
/-- The rules from one on, whose last head is known. -/
def tailL (names : List ByteArray) : Int → List Ru → List UInt8
  | _, [] => []
  | z, r :: l => (if r.head = z then [32, 124, 32] else (names.getD r.head.toNat ⟨#[]⟩).data.toList ++ [32, 61, 32]) ++ conjsT names r.conj ++ (if (l.head?.map (·.head)) = some r.head then [] else [59, 10]) ++ tailL names r.head l
theorem joinN_cons (b : List UInt8) (t : Nat → List UInt8) : ∀ n, joinN b t (n + 1) = t 0 ++ (List.range n).flatMap fun i => b ++ t (i + 1)
  | 0 => by simp [joinN]
  | n + 1 => by
    rw [joinN, joinN_cons b t n, if_pos (by omega), List.range_succ, List.flatMap_append]
    simp
theorem flat_idx (f : Ru → List UInt8) (d : Ru) : ∀ l : List Ru, ((List.range l.length).flatMap fun i => f (l.getD i d)) = l.flatMap f
  | [] => rfl
  | r :: l => by
    rw [List.length_cons, List.range_succ_eq_map, List.flatMap_cons, List.flatMap_map]
    show f r ++ (List.range l.length).flatMap (fun i => f (l.getD i d)) = _
    rw [flat_idx f d l]; rfl
theorem altsT_cons (names : List ByteArray) (r : Ru) (l : List Ru) : altsT names (r :: l) = conjsT names r.conj ++ l.flatMap fun r => [32, 124, 32] ++ conjsT names r.conj := by
  unfold altsT
  rw [List.length_cons, joinN_cons]
  show conjsT names r.conj ++ (List.range l.length).flatMap (fun i => [32, 124, 32] ++ conjsT names (l.getD i ⟨0, []⟩).conj) = _
  rw [flat_idx (fun r => [32, 124, 32] ++ conjsT names r.conj) ⟨0, []⟩ l]
/-- The definitions of c names from a on. -/
def defsF (names : List ByteArray) (rules : List Ru) (a : Nat) : Nat → List UInt8
  | 0 => []
  | c + 1 => defT names rules a ++ defsF names rules (a + 1) c
theorem defsF_snoc (names : List ByteArray) (rules : List Ru) : ∀ c a, defsF names rules a (c + 1) = defsF names rules a c ++ defT names rules (a + c)
  | 0, a => by simp [defsF]
  | c + 1, a => by
    rw [defsF, defsF_snoc names rules c (a + 1), defsF, List.append_assoc]
    rw [show a + 1 + c = a + (c + 1) by omega]
theorem defsT_F (names : List ByteArray) (rules : List Ru) : ∀ n, defsT names rules n = defsF names rules 0 n
  | 0 => rfl
  | n + 1 => by rw [defsT, defsT_F names rules n, defsF_snoc, Nat.zero_add]
theorem defT_skip (names : List ByteArray) (r : Ru) (l : List Ru) {k : Nat} (h : r.head ≠ (k : Int)) : defT names (r :: l) k = defT names l k := by
  unfold defT rulesOfT
  rw [List.filter_cons_of_neg (by simpa using h)]
theorem defsF_skip (names : List ByteArray) (r : Ru) (l : List Ru) : ∀ (c a : Nat), (∀ k : Nat, a ≤ k → r.head ≠ (k : Int)) → defsF names (r :: l) a c = defsF names l a c
  | 0, _, _ => rfl
  | c + 1, a, h => by
    rw [defsF, defsF, defT_skip names r l (h a (Nat.le_refl _)), defsF_skip names r l c (a + 1) (fun k hk => h k (by omega))]
theorem mayHeads_ge (n : Nat) : ∀ (l : List Ru) (z : Int), mayHeads n z l = true → ∀ r, r ∈ l → z ≤ r.head
  | [], _, _, r, hr => by simp at hr
  | a :: l, z, h, r, hr => by
    simp only [mayHeads, Bool.and_eq_true, Bool.or_eq_true, decide_eq_true_eq] at h
    have h1 : z ≤ a.head := by rcases h.2.1 with e | e <;> omega
    rcases List.mem_cons.1 hr with rfl | hr
    · exact h1
    · exact Int.le_trans h1 (mayHeads_ge n l _ h.2.2 r hr)
theorem tail_defs (names : List ByteArray) (n : Nat) : ∀ (l : List Ru) (a : Nat), a < n → mayHeads n (a : Int) l = true →
    tailL names (a : Int) l = ((rulesOfT l a).flatMap fun r => [32, 124, 32] ++ conjsT names r.conj) ++ (if (l.head?.map (·.head)) = some (a : Int) then [59, 10] else []) ++ defsF names l (a + 1) (n - (a + 1))
  | [], a, ha, h => by
    simp only [mayHeads, decide_eq_true_eq] at h
    have : n - (a + 1) = 0 := by omega
    rw [this]
    simp [tailL, rulesOfT, defsF]
  | r :: l, a, ha, h => by
    simp only [mayHeads, Bool.and_eq_true, Bool.or_eq_true, decide_eq_true_eq] at h
    obtain ⟨h1, h2, h3⟩ := h
    unfold isNum at h1
    simp only [Bool.and_eq_true, decide_eq_true_eq] at h1
    obtain ⟨b, hb⟩ : ∃ b : Nat, r.head = (b : Int) := ⟨r.head.toNat, by omega⟩
    rw [hb] at h3
    have ih := tail_defs names n l b (by omega) h3
    have key : (if (l.head?.map (·.head)) = some r.head then [] else [59, 10]) ++ tailL names r.head l = ((rulesOfT l b).flatMap fun r => [32, 124, 32] ++ conjsT names r.conj) ++ [59, 10] ++ defsF names l (b + 1) (n - (b + 1)) := by
      rw [hb, ih]
      by_cases e : (l.head?.map (·.head)) = some (b : Int)
      · rw [if_pos e, if_pos e]; simp
      · rw [if_neg e, if_neg e]
        have hz : rulesOfT l b = [] := by
          unfold rulesOfT
          rw [List.filter_eq_nil_iff]
          intro q hq hd
          have hd : q.head = (b : Int) := by simpa using hd
          cases l with
          | nil => simp at hq
          | cons p l' =>
            simp only [List.head?_cons, Option.map_some, Option.some.injEq] at e
            simp only [mayHeads, Bool.and_eq_true, Bool.or_eq_true, decide_eq_true_eq] at h3
            have hp : p.head = (b : Int) + 1 := by rcases h3.2.1 with e9 | e9; exact absurd e9 e; exact e9
            rcases List.mem_cons.1 hq with rfl | hq
            · omega
            · have := mayHeads_ge n l' _ h3.2.2 q hq
              omega
        rw [hz]; simp
    show (if r.head = (a : Int) then [32, 124, 32] else (names.getD r.head.toNat ⟨#[]⟩).data.toList ++ [32, 61, 32]) ++ conjsT names r.conj ++ (if (l.head?.map (·.head)) = some r.head then [] else [59, 10]) ++ tailL names r.head l = _
    rw [List.append_assoc _ _ (tailL names r.head l), key]
    simp only [List.head?_cons, Option.map_some, Option.some.injEq]
    by_cases e : b = a
    · subst e
      rw [if_pos hb, if_pos hb, defsF_skip names r l _ _ (fun k hk => by rw [hb]; omega)]
      unfold rulesOfT
      rw [List.filter_cons_of_pos (by simpa using hb)]
      simp
    · have hba : b = a + 1 := by omega
      subst hba
      have hna : ¬ r.head = (a : Int) := by omega
      rw [if_neg hna, if_neg hna]
      have hz : rulesOfT (r :: l) a = [] := by
        unfold rulesOfT
        rw [List.filter_eq_nil_iff]
        intro q hq hd
        have hd : q.head = (a : Int) := by simpa using hd
        rcases List.mem_cons.1 hq with rfl | hq
        · omega
        · have := mayHeads_ge n l _ h3 q hq
          omega
      rw [hz, show n - (a + 1) = (n - (a + 1 + 1)) + 1 by omega, defsF, defsF_skip names r l _ _ (fun k hk => by rw [hb]; omega)]
      unfold defT
      have hf : rulesOfT (r :: l) (a + 1) = r :: rulesOfT l (a + 1) := by
        unfold rulesOfT
        rw [List.filter_cons_of_pos (by simpa using hb)]
      rw [hf, altsT_cons, hb, Int.toNat_natCast]
      simp
theorem tail_all {g : Gr} (h : mayG g = true) : tailL g.names (-1) g.rules = defsT g.names g.rules g.names.length := by
  unfold mayG at h
  simp only [Bool.and_eq_true] at h
  have hh := h.2.2.1
  rw [defsT_F]
  cases hr : g.rules with
  | nil =>
    rw [hr] at hh
    simp only [mayHeads, decide_eq_true_eq] at hh
    have : g.names.length = 0 := by omega
    rw [this]; rfl
  | cons r l =>
    rw [hr] at hh
    have h9 := hh
    simp only [mayHeads, Bool.and_eq_true, Bool.or_eq_true, decide_eq_true_eq] at h9
    obtain ⟨h1, h2, h3⟩ := h9
    unfold isNum at h1
    simp only [Bool.and_eq_true, decide_eq_true_eq] at h1
    have hb : r.head = ((0 : Nat) : Int) := by omega
    have hn : 0 < g.names.length := by omega
    rw [hb] at h3
    have hm : mayHeads g.names.length ((0 : Nat) : Int) (r :: l) = true := by
      simp only [mayHeads, Bool.and_eq_true, Bool.or_eq_true, decide_eq_true_eq]
      exact ⟨by unfold isNum; simp only [Bool.and_eq_true, decide_eq_true_eq]; omega, Or.inl hb, by rw [hb]; exact h3⟩
    have ht := tail_defs g.names g.names.length (r :: l) 0 hn hm
    simp only [List.head?_cons, Option.map_some, Option.some.injEq] at ht
    rw [if_pos hb] at ht
    have hf : rulesOfT (r :: l) 0 = r :: rulesOfT l 0 := by
      unfold rulesOfT
      rw [List.filter_cons_of_pos (by simpa using hb)]
    rw [hf, List.flatMap_cons] at ht
    have hl : tailL g.names ((0 : Nat) : Int) (r :: l) = [32, 124, 32] ++ conjsT g.names r.conj ++ (if (l.head?.map (·.head)) = some r.head then [] else [59, 10]) ++ tailL g.names r.head l := by
      show (if r.head = ((0 : Nat) : Int) then _ else _) ++ _ ++ _ ++ _ = _
      rw [if_pos hb]
    have hr9 : tailL g.names (-1) (r :: l) = ((g.names.getD r.head.toNat ⟨#[]⟩).data.toList ++ [32, 61, 32]) ++ conjsT g.names r.conj ++ (if (l.head?.map (·.head)) = some r.head then [] else [59, 10]) ++ tailL g.names r.head l := by
      show (if r.head = -1 then _ else _) ++ _ ++ _ ++ _ = _
      rw [if_neg (by omega)]
    rw [hl] at ht
    have ht2 : conjsT g.names r.conj ++ (if (l.head?.map (·.head)) = some r.head then [] else [59, 10]) ++ tailL g.names r.head l = conjsT g.names r.conj ++ ((rulesOfT l 0).flatMap fun r => [32, 124, 32] ++ conjsT g.names r.conj) ++ [59, 10] ++ defsF g.names (r :: l) (0 + 1) (g.names.length - (0 + 1)) := by
      have := ht
      simp only [List.append_assoc] at this ⊢
      exact List.append_cancel_left this
    rw [hr9, List.append_assoc, List.append_assoc, ← List.append_assoc (conjsT g.names r.conj), ht2]
    rw [show g.names.length = (g.names.length - 1) + 1 by omega, defsF]
    unfold defT
    rw [hf, altsT_cons, hb, Int.toNat_natCast]
    simp
end Go.Proofs.Yteanhhehjlhhbaa
