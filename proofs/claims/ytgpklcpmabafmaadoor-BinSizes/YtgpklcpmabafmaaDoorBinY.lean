/- When Bin's grammar may be. No program in sight. -/
import Derived.Test.YtgpklcpmabafmaaDoorBinU
namespace Go.Proofs.YtgpklcpmabafmaaDoor
set_option linter.unusedVariables false
set_option linter.unusedSimpArgs false

theorem known_iffY : ∀ (l : List ByteArray) (s : ByteArray), known l s = true ↔ s ∈ l
  | [], s => by simp [known, place]
  | a :: l, s => by
    have ih := known_iffY l s
    unfold known at ih ⊢
    by_cases h : a = s
    · simp [place, h]
    · have e : (place (a :: l) s).isSome = (place l s).isSome := by
        show (if a = s then some 0 else (place l s).map (· + 1)).isSome = _
        rw [if_neg h]
        cases place l s <;> rfl
      rw [e, ih]
      simp [Ne.symm h]
theorem again_fullY : ∀ (l seen : List ByteArray) (i : Nat), l.Nodup → (∀ s, s ∈ l → s ∉ seen) → againT seen l i = i + l.length
  | [], _, i, _, _ => rfl
  | s :: l, seen, i, hn, hs => by
    have hn' := List.nodup_cons.1 hn
    show (if known seen s = true then i else againT (seen ++ [s]) l (i + 1)) = _
    rw [if_neg (fun h => hs s (by simp) ((known_iffY _ _).1 h)), again_fullY l (seen ++ [s]) (i + 1) hn'.2 (fun t ht h => by
      rcases List.mem_append.1 h with h | h
      · exact hs t (by simp [ht]) h
      · rw [List.mem_singleton.1 h] at ht; exact hn'.1 ht)]
    simp only [List.length_cons]
    omega
theorem again_limY : ∀ (l seen : List ByteArray) (i : Nat), againT seen l i ≤ i + l.length
  | [], _, i => Nat.le_refl _
  | s :: l, seen, i => by
    show (if known seen s = true then i else againT (seen ++ [s]) l (i + 1)) ≤ _
    have := again_limY l (seen ++ [s]) (i + 1)
    simp only [List.length_cons]
    split <;> omega
theorem again_nodupY : ∀ (l seen : List ByteArray) (i : Nat), againT seen l i = i + l.length → l.Nodup ∧ ∀ s, s ∈ l → s ∉ seen
  | [], _, i, _ => ⟨List.nodup_nil, fun s h => by cases h⟩
  | s :: l, seen, i, h => by
    have h1 : (if known seen s = true then i else againT (seen ++ [s]) l (i + 1)) = i + (l.length + 1) := h
    by_cases hk : known seen s = true
    · rw [if_pos hk] at h1; omega
    · rw [if_neg hk] at h1
      obtain ⟨h2, h3⟩ := again_nodupY l (seen ++ [s]) (i + 1) (by omega)
      refine ⟨List.nodup_cons.2 ⟨fun h4 => h3 s h4 (by simp), h2⟩, fun t ht h5 => ?_⟩
      rcases List.mem_cons.1 ht with e | ht
      · rw [e] at h5; exact hk ((known_iffY _ _).2 h5)
      · exact h3 t ht (by simp [h5])
theorem again_iffY (l : List ByteArray) : again l = l.length ↔ l.Nodup := by
  constructor
  · intro h; exact (again_nodupY l [] 0 (by unfold again at h; omega)).1
  · intro h; have := again_fullY l [] 0 h (fun s _ h => by cases h); unfold again; omega
section
variable {D : Nat → ByteArray} {ns : List ByteArray}
theorem fresh_memY : ∀ m x, x ∈ freshT D ns m → x ∉ ns ∧ ∃ i, i < m ∧ x = nmD D i
  | 0, x, h => by cases h
  | m + 1, x, h => by
    rcases List.mem_append.1 h with h | h
    · obtain ⟨h1, i, h2, h3⟩ := fresh_memY m x h
      exact ⟨h1, i, by omega, h3⟩
    · split at h
      · cases h
      · rename_i hc
        rw [List.mem_singleton.1 h]
        exact ⟨fun h' => hc (inB_iff.2 h'), m, by omega, rfl⟩
theorem fresh_nodupY (hD : ∀ a b, a < 100 → b < 100 → nmD D a = nmD D b → a = b) : ∀ m, m ≤ 100 → (freshT D ns m).Nodup
  | 0, _ => List.nodup_nil
  | m + 1, hm => by
    show (freshT D ns m ++ _).Nodup
    refine List.nodup_append.2 ⟨fresh_nodupY hD m (by omega), by split <;> simp, fun x hx y hy => ?_⟩
    split at hy
    · cases hy
    · rw [List.mem_singleton.1 hy]
      intro e
      obtain ⟨-, i, h2, h3⟩ := fresh_memY m x hx
      have := hD i m (by omega) (by omega) (h3.symm.trans e)
      omega
theorem fresh_monoY : ∀ (k m : Nat), (freshT D ns m).length ≤ (freshT D ns (m + k)).length
  | 0, m => Nat.le_refl _
  | k + 1, m => by
    have := fresh_monoY k m
    show _ ≤ (freshT D ns (m + k) ++ _).length
    rw [List.length_append]
    omega
theorem fresh_lowY (hD : ∀ a b, a < 100 → b < 100 → nmD D a = nmD D b → a = b) {m : Nat} (h : (freshT D ns m).length + ns.length < 100) : m < 100 := by
  refine Nat.lt_of_not_le fun hm => ?_
  have h1 := fresh_hit D ns 100
  have h2 := nodup_le (hitT D ns 100) ns (hit_nodup D ns hD 100 (by omega)) (fun x hx => (hit_mem D ns 100 x hx).1)
  have h3 := fresh_monoY (D := D) (ns := ns) (m - 100) 100
  rw [show 100 + (m - 100) = m by omega] at h3
  omega
end
def nmS (k : Nat) : ByteArray := ⟨(95 :: dS k).toArray⟩
theorem nm_eqY {k : Nat} (hk : k < 100) : nmD dD k = nmS k := by
  have h : (nmD dD k).data.toList = (nmS k).data.toList := by
    show _ = (95 :: dS k)
    rw [← dec_small hk]
    unfold nmD dD
    simp
  have h2 := Array.toList_inj.1 h
  exact ByteArray.ext h2
set_option maxRecDepth 100000 in
theorem nm_namesY : ∀ k, k < 100 → isNameT (nmS k) = true := by decide +kernel
theorem mayNames_appY {ns fs : List ByteArray} (h : mayNames ns = true) (h1 : ∀ s, s ∈ fs → isNameT s = true) (h2 : fs.Nodup) (h3 : ∀ s, s ∈ fs → s ∉ ns) (h4 : ns.length + fs.length ≤ 64) : mayNames (ns ++ fs) = true := by
  unfold mayNames at h ⊢
  simp only [Bool.and_eq_true, decide_eq_true_eq, List.all_eq_true, again_iffY] at h ⊢
  refine ⟨by rw [List.length_append]; omega, by rw [List.length_append]; omega, fun s hs => ?_, List.nodup_append.2 ⟨h.2.2.2, h2, fun x hx y hy e => h3 y hy (e ▸ hx)⟩⟩
  rcases List.mem_append.1 hs with hs | hs
  · exact h.2.2.1 s hs
  · exact h1 s hs
theorem names_binY {ns : List ByteArray} {m : Nat} (h : mayNames ns = true) (hl : ns.length + (freshT dD ns m).length ≤ 64) : mayNames (ns ++ freshT dD ns m) = true := by
  have hm : m < 100 := fresh_lowY (ns := ns) dD_inj (by omega)
  refine mayNames_appY h (fun s hs => ?_) (fresh_nodupY dD_inj m (by omega)) (fun s hs => (fresh_memY m s hs).1) hl
  obtain ⟨-, i, h2, h3⟩ := fresh_memY m s hs
  rw [h3, nm_eqY (by omega)]
  exact nm_namesY i (by omega)
theorem isNum_leY {x : Int} {k k' : Nat} (h : isNum x k = true) (hk : k ≤ k') : isNum x k' = true := by
  unfold isNum at h ⊢
  simp only [Bool.and_eq_true, decide_eq_true_eq] at h ⊢
  omega
theorem isNum_natY {i k : Nat} (h : i < k) : isNum ((i : Nat) : Int) k = true := by
  unfold isNum
  simp only [Bool.and_eq_true, decide_eq_true_eq]
  omega
theorem maySym_leY {k k' : Nat} (hk : k ≤ k') {s : Sy} (h : maySym k s = true) : maySym k' s = true := by
  unfold maySym at h ⊢
  split
  · rename_i e; rw [if_pos e] at h; exact h
  · rename_i e; rw [if_neg e] at h
    simp only [Bool.and_eq_true] at h ⊢
    exact ⟨isNum_leY h.1 hk, h.2⟩
theorem mayRow_leY {k k' : Nat} (hk : k ≤ k') {l : List Sy} (h : mayRow k l = true) : mayRow k' l = true := by
  unfold mayRow at h ⊢
  simp only [Bool.and_eq_true, List.all_eq_true] at h ⊢
  exact ⟨h.1, fun s hs => maySym_leY hk (h.2 s hs)⟩
theorem maySym_natY {i k : Nat} (h : i < k) : maySym k ⟨((i : Nat) : Int), 0, 0⟩ = true := by
  unfold maySym
  rw [if_neg (by show ¬ ((i : Nat) : Int) = -1; omega)]
  rw [isNum_natY h]
  rfl
theorem mayRow_tailY {k : Nat} {s : Sy} {l : List Sy} (h : mayRow k (s :: l) = true) : mayRow k l = true := by
  unfold mayRow at h ⊢
  simp only [Bool.and_eq_true, List.all_eq_true, decide_eq_true_eq, List.length_cons] at h ⊢
  exact ⟨by omega, fun t ht => h.2 t (by simp [ht])⟩
theorem mayRow_pairY {k k' i : Nat} (hk : k ≤ k') {l : List Sy} (h : mayRow k l = true) (hi : 2 < l.length → i < k') : mayRow k' (pairT l ((i : Nat) : Int)) = true := by
  by_cases hc : l.length ≤ 2
  · rw [pairT_short hc]; exact mayRow_leY hk h
  · cases l with
    | nil => simp at hc
    | cons s l =>
      rw [pairT_long (by omega)]
      unfold mayRow at h ⊢
      simp only [Bool.and_eq_true, List.all_eq_true, decide_eq_true_eq] at h ⊢
      refine ⟨by simp, fun t ht => ?_⟩
      simp only [List.mem_cons, List.not_mem_nil, or_false] at ht
      rcases ht with e | e
      · rw [e]; exact maySym_leY hk (h.2 s (by simp))
      · rw [e]; exact maySym_natY (hi (by omega))
theorem addT_mayY {k : Nat} : ∀ (l : List Sy), mayRow k l = true → ∀ r, r ∈ addT l → mayRow k r = true
  | [], _, r, h => by cases h
  | s :: l, hl, r, h => by
    by_cases hc : 2 ≤ l.length
    · rw [addT_long (by simp; omega)] at h
      rcases List.mem_cons.1 h with h | h
      · rw [h]; exact mayRow_tailY hl
      · exact addT_mayY l (mayRow_tailY hl) r h
    · rw [addT_short (by simp; omega)] at h; cases h
/-- The last row is short. -/
def LastY (l : List (List Sy)) : Prop := ∀ r, l.getLast? = some r → r.length ≤ 2
theorem LastY.app {a b : List (List Sy)} (ha : LastY a) (hb : LastY b) : LastY (a ++ b) := fun r h => by
  cases b with
  | nil => rw [List.append_nil] at h; exact ha r h
  | cons x b => rw [List.getLast?_append] at h; cases hx : (x :: b).getLast? with
    | none => simp at hx
    | some y => rw [hx] at h; exact hb r (by rw [hx]; exact h)
theorem last_addY : ∀ l : List Sy, LastY (addT l)
  | [], r, h => by cases h
  | s :: l, r, h => by
    by_cases hc : 2 ≤ l.length
    · rw [addT_long (by simp; omega)] at h
      cases ha : addT l with
      | nil =>
        rw [ha] at h
        have e : l = r := by simpa using h
        have := addT_len l
        rw [ha] at this
        rw [← e]
        simp at this
        omega
      | cons x y =>
        rw [ha, List.getLast?_cons_cons, ← ha] at h
        exact last_addY l r h
    · rw [addT_short (by simp; omega)] at h; cases h
theorem last_rowsCY : ∀ l : List Cn, LastY (rowsC l)
  | [], r, h => by cases h
  | c :: l, r, h => (last_addY c.seq).app (last_rowsCY l) r h
theorem last_rowsRY : ∀ l : List Ru, LastY (rowsR l)
  | [], r, h => by cases h
  | c :: l, r, h => (last_rowsCY c.conj).app (last_rowsRY l) r h
theorem LastY.tail {r : List Sy} {l : List (List Sy)} (h : LastY (r :: l)) : LastY l := fun x hx => by
  cases l with
  | nil => cases hx
  | cons y l => exact h x (by rw [List.getLast?_cons_cons]; exact hx)
/-- A rule that may be, but for sums. -/
def RuOk (k : Nat) (r : Ru) : Prop := (1 ≤ r.conj.length ∧ r.conj.length ≤ 8) ∧ ∀ c, c ∈ r.conj → mayRow k c.seq = true
def symsC : List Cn → Nat
  | [] => 0
  | c :: l => c.seq.length + symsC l
def symsR : List Ru → Nat
  | [] => 0
  | r :: l => symsC r.conj + symsR l
theorem mayCs_ofY {k : Nat} : ∀ (l : List Cn) (n : Nat), (∀ c, c ∈ l → mayRow k c.seq = true) → n + symsC l ≤ 1024 → mayCs k n l = some (n + symsC l)
  | [], n, _, _ => rfl
  | c :: l, n, h, hs => by
    have hs' : n + (c.seq.length + symsC l) ≤ 1024 := hs
    show (if n + c.seq.length ≤ 1024 ∧ mayRow k c.seq = true then mayCs k (n + c.seq.length) l else none) = some (n + (c.seq.length + symsC l))
    rw [if_pos ⟨by omega, h c (by simp)⟩, mayCs_ofY l _ (fun d hd => h d (by simp [hd])) (by omega)]
    congr 1
    omega
theorem mayRs_ofY {k : Nat} : ∀ (L : List Ru) (n : Nat), (∀ r, r ∈ L → RuOk k r) → n + symsR L ≤ 1024 → mayRs k n L = true
  | [], n, _, _ => rfl
  | r :: L, n, h, hs => by
    have hs' : n + (symsC r.conj + symsR L) ≤ 1024 := hs
    have hr := h r (by simp)
    show (if 1 ≤ r.conj.length ∧ r.conj.length ≤ 8 then (match mayCs k n r.conj with | none => false | some m => mayRs k m L) else false) = true
    rw [if_pos hr.1, mayCs_ofY r.conj n hr.2 (by omega)]
    exact mayRs_ofY L _ (fun q hq => h q (by simp [hq])) (by omega)
theorem mayCs_toY {k : Nat} : ∀ (l : List Cn) (n m : Nat), mayCs k n l = some m → m = n + symsC l ∧ ∀ c, c ∈ l → mayRow k c.seq = true
  | [], n, m, h => by
    have h1 : some n = some m := h
    injection h1 with h1
    exact ⟨h1.symm, fun c hc => by cases hc⟩
  | c :: l, n, m, h => by
    have h1 : (if n + c.seq.length ≤ 1024 ∧ mayRow k c.seq = true then mayCs k (n + c.seq.length) l else none) = some m := h
    by_cases hc : n + c.seq.length ≤ 1024 ∧ mayRow k c.seq = true
    · rw [if_pos hc] at h1
      have h2 := mayCs_toY l _ m h1
      refine ⟨?_, fun d hd => ?_⟩
      · show m = n + (c.seq.length + symsC l)
        omega
      · rcases List.mem_cons.1 hd with e | hd
        · rw [e]; exact hc.2
        · exact h2.2 d hd
    · rw [if_neg hc] at h1; cases h1
theorem mayRs_toY {k : Nat} : ∀ (L : List Ru) (n : Nat), mayRs k n L = true → ∀ r, r ∈ L → RuOk k r
  | [], _, _, r, h => by cases h
  | q :: L, n, h, r, hr => by
    have h1 : (if 1 ≤ q.conj.length ∧ q.conj.length ≤ 8 then (match mayCs k n q.conj with | none => false | some m => mayRs k m L) else false) = true := h
    by_cases hc : 1 ≤ q.conj.length ∧ q.conj.length ≤ 8
    · rw [if_pos hc] at h1
      cases hm : mayCs k n q.conj with
      | none => rw [hm] at h1; cases h1
      | some m =>
        rw [hm] at h1
        rcases List.mem_cons.1 hr with e | hr
        · rw [e]; exact ⟨hc, (mayCs_toY q.conj n m hm).2⟩
        · exact mayRs_toY L m h1 r hr
    · rw [if_neg hc] at h1; cases h1
theorem cutC_okY {n k : Nat} (hk : n ≤ k) : ∀ (l : List Cn) (q : Nat), (∀ c, c ∈ l → mayRow n c.seq = true) → n + q + (rowsC l).length ≤ k → ∀ c, c ∈ cutC n q l → mayRow k c.seq = true
  | [], _, _, _, c, h => by cases h
  | d :: l, q, hl, hq, c, h => by
    have h1 : c ∈ (⟨d.neg, pairT d.seq ((n + q : Nat) : Int)⟩ :: cutC n (q + (addT d.seq).length) l : List Cn) := h
    have hq' : n + q + (addT d.seq ++ rowsC l).length ≤ k := hq
    rw [List.length_append] at hq'
    rcases List.mem_cons.1 h1 with h1 | h1
    · rw [h1]
      exact mayRow_pairY hk (hl d (by simp)) (fun h2 => by have := addT_len d.seq; omega)
    · exact cutC_okY hk l _ (fun e he => hl e (by simp [he])) (by omega) c h1
theorem cutR_okY {n k : Nat} (hk : n ≤ k) : ∀ (L : List Ru) (q : Nat), (∀ r, r ∈ L → RuOk n r) → n + q + (rowsR L).length ≤ k → ∀ r, r ∈ cutR n q L → RuOk k r
  | [], _, _, _, r, h => by cases h
  | d :: L, q, hl, hq, r, h => by
    have h1 : r ∈ (⟨d.head, cutC n q d.conj⟩ :: cutR n (q + (rowsC d.conj).length) L : List Ru) := h
    have hq' : n + q + (rowsC d.conj ++ rowsR L).length ≤ k := hq
    rw [List.length_append] at hq'
    rcases List.mem_cons.1 h1 with h1 | h1
    · rw [h1]
      have hd := hl d (by simp)
      exact ⟨by show 1 ≤ (cutC n q d.conj).length ∧ (cutC n q d.conj).length ≤ 8; rw [cutC_len]; exact hd.1, cutC_okY hk d.conj q hd.2 (by omega)⟩
    · exact cutR_okY hk L _ (fun e he => hl e (by simp [he])) (by omega) r h1
theorem restR_okY {n k : Nat} (hk : n ≤ k) : ∀ (l : List (List Sy)) (i : Nat), (∀ r, r ∈ l → mayRow n r = true) → LastY l → n + i + l.length ≤ k → ∀ r, r ∈ restR n i l → RuOk k r
  | [], _, _, _, _, r, h => by cases h
  | d :: l, i, hl, hL, hq, r, h => by
    have h1 : r ∈ (⟨((n + i : Nat) : Int), [⟨false, pairT d ((n + i + 1 : Nat) : Int)⟩]⟩ :: restR n (i + 1) l : List Ru) := h
    simp only [List.length_cons] at hq
    rcases List.mem_cons.1 h1 with h1 | h1
    · rw [h1]
      refine ⟨⟨by simp, by simp⟩, fun c hc => ?_⟩
      have hc' : c = ⟨false, pairT d ((n + i + 1 : Nat) : Int)⟩ := by simpa using hc
      rw [hc']
      refine mayRow_pairY hk (hl d (by simp)) (fun h2 => ?_)
      cases l with
      | nil => have := hL d rfl; omega
      | cons x l => simp at hq; omega
    · exact restR_okY hk l (i + 1) (fun e he => hl e (by simp [he])) hL.tail (by omega) r h1
theorem heads_restY {n k : Nat} : ∀ (l : List (List Sy)) (i : Nat), n + i + l.length = k → mayHeads k (((n + i : Nat) : Int) - 1) (restR n i l) = true
  | [], i, h => by
    show decide (((n + i : Nat) : Int) - 1 = (k : Int) - 1) = true
    rw [decide_eq_true_eq]
    simp at h
    omega
  | d :: l, i, h => by
    show (isNum ((n + i : Nat) : Int) k && ((decide (((n + i : Nat) : Int) = ((n + i : Nat) : Int) - 1) || decide (((n + i : Nat) : Int) = ((n + i : Nat) : Int) - 1 + 1)) && mayHeads k ((n + i : Nat) : Int) (restR n (i + 1) l))) = true
    simp only [List.length_cons] at h
    have h2 := heads_restY (n := n) (k := k) l (i + 1) (by omega)
    rw [show (((n + (i + 1) : Nat) : Int) - 1) = ((n + i : Nat) : Int) by omega] at h2
    rw [h2, isNum_natY (by omega)]
    simp
theorem heads_binY {n k : Nat} {rows : List (List Sy)} (hk : n + rows.length = k) : ∀ (L : List Ru) (q : Nat) (last : Int), mayHeads n last L = true → mayHeads k last (cutR n q L ++ restR n 0 rows) = true
  | [], q, last, h => by
    have h1 : decide (last = (n : Int) - 1) = true := h
    rw [decide_eq_true_eq] at h1
    have h2 := heads_restY (n := n) (k := k) rows 0 (by omega)
    rw [show (((n + 0 : Nat) : Int) - 1) = last by rw [h1]; simp] at h2
    exact h2
  | r :: L, q, last, h => by
    have h1 : (isNum r.head n && ((decide (r.head = last) || decide (r.head = last + 1)) && mayHeads n r.head L)) = true := h
    simp only [Bool.and_eq_true] at h1
    have h2 := heads_binY hk L (q + (rowsC r.conj).length) r.head h1.2.2
    show (isNum r.head k && ((decide (r.head = last) || decide (r.head = last + 1)) && mayHeads k r.head (cutR n (q + (rowsC r.conj).length) L ++ restR n 0 rows))) = true
    rw [h2, isNum_leY h1.1 (by omega), h1.2.1]
    rfl
theorem symsR_appY : ∀ (a b : List Ru), symsR (a ++ b) = symsR a + symsR b
  | [], b => by simp [symsR]
  | r :: a, b => by
    show symsC r.conj + symsR (a ++ b) = symsC r.conj + symsR a + symsR b
    rw [symsR_appY a b]; omega
theorem syms_restY (n : Nat) : ∀ (l : List (List Sy)) (i : Nat), symsR (restR n i l) ≤ 2 * l.length
  | [], i => Nat.zero_le _
  | r :: l, i => by
    show (pairT r ((n + i + 1 : Nat) : Int)).length + 0 + symsR (restR n (i + 1) l) ≤ 2 * (l.length + 1)
    have := pairT_len r ((n + i + 1 : Nat) : Int)
    have := syms_restY n l (i + 1)
    omega
theorem syms_cutCY (n : Nat) : ∀ (l : List Cn) (q : Nat), symsC (cutC n q l) ≤ 2 * l.length
  | [], q => Nat.zero_le _
  | c :: l, q => by
    show (pairT c.seq ((n + q : Nat) : Int)).length + symsC (cutC n (q + (addT c.seq).length) l) ≤ 2 * (l.length + 1)
    have := pairT_len c.seq ((n + q : Nat) : Int)
    have := syms_cutCY n l (q + (addT c.seq).length)
    omega
theorem may_partsY {g : Gr} (h : mayG g = true) : mayNames g.names = true ∧ isNum g.start g.names.length = true ∧ mayHeads g.names.length (-1) g.rules = true ∧ (1 ≤ g.rules.length ∧ g.rules.length ≤ 256) ∧ ∀ r, r ∈ g.rules → RuOk g.names.length r := by
  unfold mayG mayRules at h
  simp only [Bool.and_eq_true, decide_eq_true_eq] at h
  exact ⟨h.1, h.2.1, h.2.2.1, ⟨h.2.2.2.1, h.2.2.2.2.1⟩, mayRs_toY g.rules 0 h.2.2.2.2.2⟩
theorem rowsC_mayY {n : Nat} : ∀ (l : List Cn), (∀ c, c ∈ l → mayRow n c.seq = true) → ∀ r, r ∈ rowsC l → mayRow n r = true
  | [], _, r, h => by cases h
  | c :: l, hl, r, h => by
    rcases List.mem_append.1 h with h | h
    · exact addT_mayY c.seq (hl c (by simp)) r h
    · exact rowsC_mayY l (fun c hc => hl c (by simp [hc])) r h
theorem rowsR_mayY {n : Nat} : ∀ (L : List Ru), (∀ r, r ∈ L → RuOk n r) → ∀ r, r ∈ rowsR L → mayRow n r = true
  | [], _, r, h => by cases h
  | q :: L, hl, r, h => by
    rcases List.mem_append.1 h with h | h
    · exact rowsC_mayY q.conj (hl q (by simp)).2 r h
    · exact rowsR_mayY L (fun r hr => hl r (by simp [hr])) r h
/-- Bin's grammar may be, if its names, rules and symbols are not too many. -/
theorem bin_mayY {g : Gr} (hM : mayG g = true) {m : Nat} (hm : (freshT dD g.names m).length = (rowsR g.rules).length) (h1 : g.names.length + (rowsR g.rules).length ≤ 64) (h2 : g.rules.length + (rowsR g.rules).length ≤ 256) (h3 : symsR (cutR g.names.length 0 g.rules) + 2 * (rowsR g.rules).length ≤ 1024) : mayG (binG dD g m) = true := by
  obtain ⟨p1, p2, p3, p4, p5⟩ := may_partsY hM
  have hlen : (g.names ++ freshT dD g.names m).length = g.names.length + (rowsR g.rules).length := by rw [List.length_append, hm]
  unfold mayG binG mayRules
  simp only [Bool.and_eq_true, decide_eq_true_eq]
  rw [hlen]
  refine ⟨names_binY p1 (by omega), isNum_leY p2 (by omega), heads_binY rfl g.rules 0 (-1) p3, ?_, ?_, ?_⟩
  · rw [List.length_append, cutR_len]; omega
  · rw [List.length_append, cutR_len, restR_len]; omega
  · refine mayRs_ofY _ 0 (fun r hr => ?_) ?_
    · rcases List.mem_append.1 hr with hr | hr
      · exact cutR_okY (by omega) g.rules 0 p5 (by omega) r hr
      · exact restR_okY (by omega) _ 0 (rowsR_mayY g.rules p5) (last_rowsRY g.rules) (by omega) r hr
    · rw [symsR_appY]
      have := syms_restY g.names.length (rowsR g.rules) 0
      omega
/-- The new names, without recursion in their digits. -/
def freshS (ns : List ByteArray) : Nat → List ByteArray
  | 0 => []
  | k + 1 => freshS ns k ++ (if inB ns (nmS k) = true then [] else [nmS k])
theorem fresh_eqY {ns : List ByteArray} : ∀ m, m ≤ 100 → freshT dD ns m = freshS ns m
  | 0, _ => rfl
  | m + 1, h => by
    show freshT dD ns m ++ (if inB ns (nmD dD m) = true then [] else [nmD dD m]) = freshS ns m ++ (if inB ns (nmS m) = true then [] else [nmS m])
    rw [fresh_eqY m (by omega), nm_eqY (by omega)]
theorem fresh_ofY {ns l : List ByteArray} {r : Nat} (hl : l.length = r) (hr : r + ns.length < 100) (h : ∀ m, m < 100 → (freshS ns m).length = r → freshS ns m = l) {m : Nat} (hm : (freshT dD ns m).length = r) : freshT dD ns m = l := by
  have h1 : m < 100 := fresh_lowY (ns := ns) dD_inj (by omega)
  rw [fresh_eqY m (by omega)] at hm ⊢
  exact h m h1 hm
end Go.Proofs.YtgpklcpmabafmaaDoor
