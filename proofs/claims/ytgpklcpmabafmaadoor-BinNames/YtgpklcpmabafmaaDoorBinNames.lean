/- BinNames: the new names are the first numbers that are not there, in their row, and what comes out may be: at every argument, with no condition but the library's tables as the program lays them and a row that a machine can hold. -/
import Derived.Test.YtgpklcpmabafmaaDoorBinNamesW
import Derived.Test.YtgpklcpmabafmaaDoorBinY
import Derived.Test.YtgpklcpmabafmaaDoorBinAt
import Derived.Test.YtgpklcpmabafmaaDoorRefMayG
import Derived.Test.YtgpklcpmabafmaaDoorRefMayF
import Derived.Test.YtgpklcpmabafmaaDoorLawOpen
import Derived.Test.YtgpklcpmabafmaaDoorTiedB
import Derived.Test.YtgpklcpmabafmaaDoorGramOpen
import Derived.Test.YtgpklcpmabafmaaDoorCards
import Derived.Test.YtgpklcpmabafmaaDoorTie
import Derived.SevenTiedAt
/- BinNames: its grammar, its new names. No program in sight but by imports. -/
namespace Go.Proofs.YtgpklcpmabafmaaDoor
set_option linter.unusedVariables false
set_option linter.unusedSimpArgs false

set_option maxRecDepth 100000 in
theorem dec_dS : ∀ n, n < 100 → (decT n).data.toList = dS n := by decide +kernel
theorem nmQ_eq {n : Nat} (h : n < 100) : nmQ n = nmS n := by
  have h1 : (nmQ n).data.toList = (nmS n).data.toList := by
    show _ = 95 :: dS n
    rw [← dec_dS n h]
    unfold nmQ
    simp
  exact ByteArray.ext (Array.toList_inj.1 h1)
theorem nmS_inj {a b : Nat} (ha : a < 100) (hb : b < 100) (h : nmS a = nmS b) : a = b := dD_inj a b ha hb (by rw [nm_eqY ha, nm_eqY hb, h])
theorem nmS_S (k : Nat) : nmS k ≠ ⟨#[83]⟩ := fun e => by
  have h : (nmS k).data.toList = (⟨#[83]⟩ : ByteArray).data.toList := by rw [e]
  have h2 : 95 :: dS k = [83] := h
  injection h2 with h2 _
  cases h2
theorem namesB_s (T : Nat → Nat) (i : Nat) : namesB T (i + 1) = if usedB T i (T i) = true then namesB T i else namesB T i ++ [nmQ (T i)] := rfl
theorem rulesB_s (T : Nat → Nat) (k i : Nat) : rulesB T k (i + 1) = if usedB T i (T i) = true then rulesB T k i else rulesB T k i ++ [⟨((namesB T i).length : Int), [⟨false, []⟩]⟩] := rfl
theorem used_iff (T : Nat → Nat) (hT : ∀ i, T i < 16) : ∀ i t, t < 100 → (usedB T i t = true ↔ nmS t ∈ namesB T i)
  | 0, t, ht => by
    constructor
    · intro h; cases h
    · intro h; exact absurd (List.mem_singleton.1 h) (nmS_S t)
  | i + 1, t, ht => by
    have ih := used_iff T hT i
    show (usedB T i t || decide (t = T i)) = true ↔ _
    rw [Bool.or_eq_true, decide_eq_true_eq, ih t ht, namesB_s]
    by_cases hu : usedB T i (T i) = true
    · rw [if_pos hu]
      constructor
      · rintro (h | h)
        · exact h
        · rw [h]; exact (ih (T i) (by have := hT i; omega)).1 hu
      · exact Or.inl
    · rw [if_neg hu, List.mem_append, List.mem_singleton, nmQ_eq (by have := hT i; omega)]
      constructor
      · rintro (h | h)
        · exact Or.inl h
        · exact Or.inr (by rw [h])
      · rintro (h | h)
        · exact Or.inl h
        · exact Or.inr (nmS_inj ht (by have := hT i; omega) h)
theorem may_namesB (T : Nat → Nat) (hT : ∀ i, T i < 16) : ∀ i, i ≤ 8 → mayNames (namesB T i) = true
  | 0, _ => by kernel_rfl
  | i + 1, hi => by
    have ih := may_namesB T hT i (by omega)
    rw [namesB_s]
    by_cases hu : usedB T i (T i) = true
    · rw [if_pos hu]; exact ih
    · rw [if_neg hu]
      have h16 := hT i
      refine mayNames_appY ih (fun s hs => ?_) (by simp) (fun s hs h => ?_) (by have := namesB_len T i; simp; omega)
      · rw [List.mem_singleton.1 hs, nmQ_eq (by omega)]; exact nm_namesY _ (by omega)
      · rw [List.mem_singleton.1 hs, nmQ_eq (by omega)] at h
        exact hu ((used_iff T hT i (T i) (by omega)).2 h)
theorem rulesB_is (T : Nat → Nat) (k : Nat) : ∀ i, rulesB T k i = ⟨0, [⟨false, List.replicate k ⟨0, 0, 0⟩⟩]⟩ :: restR 1 0 (List.replicate ((namesB T i).length - 1) [])
  | 0 => rfl
  | i + 1 => by
    have ih := rulesB_is T k i
    have hl := (namesB_len T i).1
    rw [rulesB_s, namesB_s]
    by_cases hu : usedB T i (T i) = true
    · rw [if_pos hu, if_pos hu]; exact ih
    · rw [if_neg hu, if_neg hu, ih, List.length_append]
      have hr : ∀ n j, restR 1 j (List.replicate n []) ++ [(⟨((1 + (j + n) : Nat) : Int), [⟨false, []⟩]⟩ : Ru)] = restR 1 j (List.replicate (n + 1) []) := fun n => by
        induction n with
        | zero => intro j; rfl
        | succ n ih =>
          intro j
          show (⟨((1 + j : Nat) : Int), [⟨false, pairT [] _⟩]⟩ : Ru) :: (restR 1 (j + 1) (List.replicate n []) ++ _) = (⟨((1 + j : Nat) : Int), [⟨false, pairT [] _⟩]⟩ : Ru) :: restR 1 (j + 1) (List.replicate (n + 1) [])
          rw [← ih (j + 1), show j + (n + 1) = j + 1 + n by omega]
      have h2 := hr ((namesB T i).length - 1) 0
      rw [show (1 + (0 + ((namesB T i).length - 1)) : Nat) = (namesB T i).length by omega] at h2
      rw [List.cons_append, h2]
      simp only [List.length_cons, List.length_nil]
      rw [show (namesB T i).length - 1 + 1 = (namesB T i).length + (0 + 1) - 1 by omega]
theorem rowsR_shortY : ∀ (L : List Ru), (∀ r, r ∈ L → ∀ c, c ∈ r.conj → c.seq.length ≤ 2) → rowsR L = []
  | [], _ => rfl
  | r :: L, h => by
    have hc : ∀ (l : List Cn), (∀ c, c ∈ l → c.seq.length ≤ 2) → rowsC l = [] := fun l => by
      induction l with
      | nil => intro _; rfl
      | cons c l ih =>
        intro h
        show addT c.seq ++ rowsC l = []
        rw [addT_short (h c (by simp)), ih (fun d hd => h d (by simp [hd]))]
        rfl
    show rowsC r.conj ++ rowsR L = []
    rw [hc r.conj (h r (by simp)), rowsR_shortY L (fun q hq => h q (by simp [hq]))]
    rfl
theorem syms_cutRY (n : Nat) : ∀ (L : List Ru) (q : Nat), (∀ r, r ∈ L → r.conj.length ≤ 1) → symsR (cutR n q L) ≤ 2 * L.length
  | [], _, _ => Nat.zero_le _
  | r :: L, q, h => by
    show symsC (cutC n q r.conj) + symsR (cutR n (q + (rowsC r.conj).length) L) ≤ 2 * (L.length + 1)
    have := syms_cutCY n r.conj q
    have := h r (by simp)
    have := syms_cutRY n L (q + (rowsC r.conj).length) (fun s hs => h s (by simp [hs]))
    omega
theorem restR_one (n : Nat) : ∀ (l : List (List Sy)) (i : Nat), ∀ r, r ∈ restR n i l → r.conj.length = 1
  | [], _, r, h => by cases h
  | d :: l, i, r, h => by
    have h1 : r ∈ (⟨((n + i : Nat) : Int), [⟨false, pairT d ((n + i + 1 : Nat) : Int)⟩]⟩ :: restR n (i + 1) l : List Ru) := h
    rcases List.mem_cons.1 h1 with h1 | h1
    · rw [h1]; rfl
    · exact restR_one n l _ r h1
theorem rows_N (T : Nat → Nat) (r i : Nat) : (rowsR (gN T (3 + r) i).rules).length = r + 1 := by
  show (rowsR (rulesB T (3 + r) i)).length = _
  rw [rulesB_is]
  show ((addT (List.replicate (3 + r) ⟨0, 0, 0⟩) ++ []) ++ rowsR (restR 1 0 _)).length = _
  rw [rowsR_shortY _ (restR_two 1 _ 0)]
  simp only [List.append_nil]
  rw [addT_len, List.length_replicate]
  omega
theorem may_N (T : Nat → Nat) (hT : ∀ i, T i < 16) (k i : Nat) (hk : k ≤ 10) (hi : i ≤ 8) : mayG (gN T k i) = true := by
  have hl := namesB_len T i
  have hr := rulesB_is T k i
  have hrl := rulesB_len T k i
  unfold mayG gN mayRules
  simp only [Bool.and_eq_true, decide_eq_true_eq]
  refine ⟨may_namesB T hT i hi, ?_, ?_, by omega, by omega, ?_⟩
  · exact isNum_natY (i := 0) (by omega)
  · rw [hr]
    show (isNum 0 _ && ((decide ((0 : Int) = -1) || decide ((0 : Int) = -1 + 1)) && mayHeads _ 0 (restR 1 0 _))) = true
    have h1 := isNum_natY (i := 0) (k := (namesB T i).length) (by omega)
    have h2 := heads_restY (n := 1) (k := (namesB T i).length) (List.replicate ((namesB T i).length - 1) []) 0 (by simp; omega)
    rw [show (((1 + 0 : Nat) : Int) - 1) = 0 from rfl] at h2
    rw [h2]
    rw [show isNum 0 (namesB T i).length = true from h1]
    rfl
  · refine mayRs_ofY _ 0 (fun r hr' => ?_) ?_
    · rw [hr] at hr'
      rcases List.mem_cons.1 hr' with e | hr'
      · rw [e]
        refine ⟨⟨Nat.le_refl _, by show 1 ≤ 8; omega⟩, fun c hc => ?_⟩
        rw [List.mem_singleton.1 hc]
        unfold mayRow
        simp only [Bool.and_eq_true, decide_eq_true_eq, List.all_eq_true, List.length_replicate]
        refine ⟨by omega, fun s hs => ?_⟩
        rw [List.eq_of_mem_replicate hs]
        exact maySym_natY (i := 0) (by omega)
      · exact restR_okY (n := 1) (by omega) _ 0 (fun x hx => by rw [List.eq_of_mem_replicate hx]; rfl) (fun x hx => by have := List.eq_of_mem_replicate (List.mem_of_getLast? hx); rw [this]; simp) (by simp; omega) r hr'
    · rw [hr]
      show 0 + ((List.replicate k (⟨0, 0, 0⟩ : Sy)).length + 0 + symsR (restR 1 0 _)) ≤ 1024
      have := syms_restY 1 (List.replicate ((namesB T i).length - 1) []) 0
      rw [List.length_replicate] at this
      rw [List.length_replicate]
      omega
theorem fresh_preS (ns : List ByteArray) : ∀ k m, ∃ t, freshS ns (m + k) = freshS ns m ++ t
  | 0, m => ⟨[], by simp⟩
  | k + 1, m => by
    obtain ⟨t, h⟩ := fresh_preS ns k m
    exact ⟨t ++ (if inB ns (nmS (m + k)) = true then [] else [nmS (m + k)]), by
      show freshS ns (m + k) ++ (if inB ns (nmS (m + k)) = true then [] else [nmS (m + k)]) = _
      rw [h, List.append_assoc]⟩
theorem fresh_manyS {ns : List ByteArray} : 100 ≤ (freshS ns 100).length + ns.length := by
  have h1 := fresh_hit dD ns 100
  have h2 := nodup_le (hitT dD ns 100) ns (hit_nodup dD ns dD_inj 100 (by omega)) (fun x hx => (hit_mem dD ns 100 x hx).1)
  rw [fresh_eqY 100 (by omega)] at h1
  omega
theorem fresh_takeS {ns : List ByteArray} {q : Nat} (m : Nat) (hm : m < 100) (h : (freshS ns m).length = q) : freshS ns m = (freshS ns 100).take q := by
  obtain ⟨t, e⟩ := fresh_preS ns (100 - m) m
  rw [show m + (100 - m) = 100 by omega] at e
  rw [e, ← h, List.take_left]
theorem fresh_memS {ns : List ByteArray} {x : ByteArray} (h : x ∈ freshS ns 100) : x ∉ ns ∧ ∃ i, i < 100 ∧ x = nmS i := by
  rw [← fresh_eqY 100 (by omega)] at h
  obtain ⟨h1, i, h2, h3⟩ := fresh_memY 100 x h
  exact ⟨h1, i, h2, by rw [h3, nm_eqY h2]⟩
theorem fresh_nodupS {ns : List ByteArray} : (freshS ns 100).Nodup := by
  rw [← fresh_eqY 100 (by omega)]
  exact fresh_nodupY dD_inj 100 (by omega)
/-- A Bin of known names may be. -/
theorem bin_mayZ {g : Gr} (hM : mayG g = true) {l : List ByteArray} (hN : mayNames (g.names ++ l) = true) (hl : l.length = (rowsR g.rules).length) (h2 : g.rules.length + (rowsR g.rules).length ≤ 256) (h3 : symsR (cutR g.names.length 0 g.rules) + 2 * (rowsR g.rules).length ≤ 1024) : mayG ⟨g.start, g.names ++ l, cutR g.names.length 0 g.rules ++ restR g.names.length 0 (rowsR g.rules)⟩ = true := by
  obtain ⟨p1, p2, p3, p4, p5⟩ := may_partsY hM
  have hlen : (g.names ++ l).length = g.names.length + (rowsR g.rules).length := by rw [List.length_append, hl]
  unfold mayG mayRules
  simp only [Bool.and_eq_true, decide_eq_true_eq]
  rw [hlen]
  refine ⟨hN, isNum_leY p2 (by omega), heads_binY rfl g.rules 0 (-1) p3, ?_, ?_, ?_⟩
  · rw [List.length_append, cutR_len]; omega
  · rw [List.length_append, cutR_len, restR_len]; omega
  · refine mayRs_ofY _ 0 (fun r hr => ?_) ?_
    · rcases List.mem_append.1 hr with hr | hr
      · exact cutR_okY (by omega) g.rules 0 p5 (by omega) r hr
      · exact restR_okY (by omega) _ 0 (rowsR_mayY g.rules p5) (last_rowsRY g.rules) (by omega) r hr
    · rw [symsR_appY]
      have := syms_restY g.names.length (rowsR g.rules) 0
      omega
theorem names_takeS {ns : List ByteArray} (h : mayNames ns = true) {q : Nat} (hq : ns.length + q ≤ 64) : mayNames (ns ++ (freshS ns 100).take q) = true := by
  refine mayNames_appY h (fun s hs => ?_) ((List.take_sublist _ _).nodup fresh_nodupS) (fun s hs => (fresh_memS (List.mem_of_mem_take hs)).1) (by have := List.length_take_le q (freshS ns 100); omega)
  obtain ⟨-, i, h2, h3⟩ := fresh_memS (List.mem_of_mem_take hs)
  rw [h3]; exact nm_namesY i h2
end Go.Proofs.YtgpklcpmabafmaaDoor
/- BinNames: what its callees answer. -/
namespace Go.Proofs.YtgpklcpmabafmaaDoor
set_option linter.unusedVariables false
set_option linter.unusedSimpArgs false
open Go.ChangeShapes Go.WideShapes Go.ChangeAt Go.RowKit

def t15 (zs : List Int) (i : Nat) : Nat := match zs[i]? with
  | some z => (bits .and .i64 z 15).toNat
  | none => 0
theorem t15_lt (zs : List Int) (i : Nat) : t15 zs i < 16 := by
  unfold t15
  split
  · rename_i z _
    obtain ⟨n, hn, e⟩ := and15V z
    rw [e]; omega
  · omega
theorem names_sizeV {l : List ByteArray} (h : mayNames l = true) : ∀ s, s ∈ l → s.size ≤ maxLen := fun s hs => by
  unfold mayNames at h
  simp only [Bool.and_eq_true, List.all_eq_true] at h
  have h2 := h.2.2.1 s hs
  unfold isNameT at h2
  simp only [Bool.and_eq_true, decide_eq_true_eq] at h2
  unfold maxLen; omega
theorem binNames_walk (W : World) (_ : TabG W) (v : Value) (zs : List Int) (row : IRow W v zs) (_ : ∀ z ∈ zs, (Lit.int .i64 z).wf = true) (hz : zs.length * 8 ≤ 140737488351232) (a : Int) (_ : (Lit.int .i64 a).wf = true) :
    Calls Tryd.prog 4 #[v, .int .i64 a] W fun e W' => e = .returned (.bool true) ∧ Below W.heap.size W W' := by
  obtain ⟨pv, cv, hv⟩ : ∃ p c, v = .slice p zs.length c := by obtain ⟨p, c, e, _⟩ := row; exact ⟨p, c, e⟩
  subst hv
  obtain ⟨r, hr, er⟩ := and7V a
  obtain ⟨m, hm⟩ : ∃ m, m = min zs.length 8 := ⟨_, rfl⟩
  obtain ⟨T, hTe⟩ : ∃ T, T = t15 zs := ⟨_, rfl⟩
  have hT : ∀ i, T i < 16 := fun i => by rw [hTe]; exact t15_lt zs i
  obtain ⟨ns, hns⟩ : ∃ ns, ns = namesB T m := ⟨_, rfl⟩
  have hnl := namesB_len T m
  have hM := may_N T hT (3 + r) m (by omega) (by omega)
  have hR := rows_N T r m
  obtain ⟨l, hl⟩ : ∃ l, l = (freshS ns 100).take (r + 1) := ⟨_, rfl⟩
  have hmany := fresh_manyS (ns := ns)
  have hll : l.length = r + 1 := by rw [hl, List.length_take]; rw [hns] at hmany ⊢; omega
  have hNm : mayNames (ns ++ l) = true := by rw [hl]; exact names_takeS (by rw [hns]; exact may_namesB T hT m (by omega)) (by rw [hns]; omega)
  have hX : mayG (biG (gN T (3 + r) m) l) = true := by
    refine bin_mayZ hM (by show mayNames (namesB T m ++ l) = true; rw [← hns]; exact hNm) (by rw [hR, hll]) ?_ ?_
    · rw [hR]; show (rulesB T (3 + r) m).length + _ ≤ _; rw [rulesB_len]; omega
    · rw [hR]
      have := syms_cutRY (gN T (3 + r) m).names.length (gN T (3 + r) m).rules 0 (fun q hq => by
        have h1 : q ∈ rulesB T (3 + r) m := hq
        rw [rulesB_is] at h1
        rcases List.mem_cons.1 h1 with e | h1
        · rw [e]; exact Nat.le_refl _
        · rw [restR_one 1 _ 0 q h1]; exact Nat.le_refl _)
      have h3 : (gN T (3 + r) m).rules.length = (namesB T m).length := rulesB_len T (3 + r) m
      omega
  have hf : ∀ k, k < 100 → (freshS (gN T (3 + r) m).names k).length = r + 1 → freshS (gN T (3 + r) m).names k = l := fun k hk h => by
    rw [hl, hns]; exact fresh_takeS k hk h
  refine binNames_core W pv zs.length cv a r (by omega) er T hT hz (fun i hi w' hb => ?_) (biG (gN T (3 + r) m) l) l hll m hm rfl rfl
    (fun q n => n ≤ 16 + q ∧ (freshS ns n).length = q) ⟨by omega, rfl⟩ (fun q n hJ hn hu => ?_) (fun q n hJ hq hu => ?_) awake14_any num_any (fun v1 v2 w hg => ?_) (fun v1 v2 w hg => ?_)
  · obtain ⟨p, c, e, _, h⟩ := row.keep hb
    injection e with e1
    subst e1
    obtain ⟨z, hz⟩ : ∃ z, zs[i]? = some z := ⟨_, List.getElem?_eq_getElem hi⟩
    obtain ⟨g, o, e2, hg, h2⟩ := h i z hz
    refine ⟨g, o, z, e2, h2, hg, ?_⟩
    obtain ⟨n, _, e3⟩ := and15V z
    have e4 : t15 zs i = (bits .and .i64 z 15).toNat := by unfold t15; rw [hz]
    rw [hTe, e4, e3]; rfl
  · refine ⟨by omega, ?_⟩
    show (freshS ns n ++ _).length = q
    rw [if_pos (inB_iff.2 (by rw [hns]; exact (used_iff T hT m n (by omega)).1 hu)), List.append_nil]
    exact hJ.2
  · have hn : n < 100 := by omega
    have hnot : nmS n ∉ ns := fun h => by
      rw [hns] at h
      have h1 := (used_iff T hT m n hn).2 h
      refine hu ⟨?_, h1⟩
      have : ∀ i, usedB T i n = true → n < 16 := fun i => by
        induction i with
        | zero => intro h; cases h
        | succ i ih =>
          intro h
          have h2 : (usedB T i n || decide (n = T i)) = true := h
          rw [Bool.or_eq_true, decide_eq_true_eq] at h2
          rcases h2 with h2 | h2
          · exact ih h2
          · rw [h2]; exact hT i
      exact this m h1
    have e1 : freshS ns (n + 1) = freshS ns n ++ [nmS n] := by
      show freshS ns n ++ (if inB ns (nmS n) = true then [] else [nmS n]) = _
      rw [if_neg (fun e => hnot (inB_iff.1 e))]
    refine ⟨?_, by omega, by rw [e1, List.length_append, hJ.2]; rfl⟩
    obtain ⟨t, e⟩ := fresh_preS ns (100 - (n + 1)) (n + 1)
    rw [show n + 1 + (100 - (n + 1)) = 100 by omega, e1] at e
    rw [hl, e, List.getElem?_take_of_lt (by omega), List.append_assoc, List.getElem?_append_right (by omega), hJ.2, Nat.sub_self, nmQ_eq hn]
    rfl
  · have h := mayG_ref (biG (gN T (3 + r) m) l) v1 v2 w hg (names_sizeV (by show mayNames (namesB T m ++ l) = true; rw [← hns]; exact hNm))
    rw [refMay_eq, hX] at h
    exact h
  · refine (bin_at (gN T (3 + r) m) l (r := r + 1) hR hM (by show (namesB T m).length + _ ≤ _; omega) hll hf v1 v2 w hg (names_sizeV (may_namesB T hT m (by omega)))).mono ?_
    rintro e w' ⟨z, st, p1, n1, c1, p2, n2, c2, rfl, hc, hb⟩
    rcases hc.out with ⟨rfl, rfl, -, rfl, -, h4⟩ | ⟨-, h3, -⟩
    · exact ⟨p1, c1, p2, n2, c2, rfl, h4, hb⟩
    · rw [hX] at h3; cases h3
end Go.Proofs.YtgpklcpmabafmaaDoor
/- BinNames: the new names are the first numbers that are not there, in their row, and what comes out may be: at every argument, with no condition but the library's tables as the program lays them and a row that a machine can hold. -/
namespace Go.Proofs.YtgpklcpmabafmaaDoor
set_option linter.unusedVariables false
open Go.ChangeShapes Go.WideShapes Go.ChangeAt Go.RowKit


set_option linter.unusedVariables false
theorem binNames_own : ownKnob Tryd.prog.godebug = none := by kernel_rfl
set_option maxRecDepth 100000 in
theorem binNames_lifted (os : Os) (started : os.Started) (H : Type) (enc : TypeId × Value → H) :
    ReturnsInHanded {} Tryd.checked os 4 .any (fun w args => (Rows.binNamesSpec.pre enc Tryd.prog Tryd.f4 Rows.binNamesRow.domain false w args ∧ laidMetH Tryd.prog laidT w) ∧ sizedMet enc Tryd.prog Tryd.f4 (OpenSpec.ofChange Rows.binNamesSpec) false w args) (Rows.binNamesSpec.post enc Tryd.prog Tryd.f4 false true false false) := by
  refine returnsInHanded_of_change_and (C := Tryd.checked) (X := fun w _ => laidMetH Tryd.prog laidT w) (fun _ _ _ hh h => h.of_heap hh) binNames_own started (by kernel_rfl) Tryd.func4
    (ChangeSpec.witness_shaped (enc := enc) (C := Tryd.checked) (os := os) (X := fun w _ => laidMetH Tryd.prog laidT w) false (World.doorLaid Tryd.prog 400 os) #[.slice none 0 0, .int .i64 0] 8 rfl (World.shaped_of_RefB (by kernel_rfl) (by kernel_rfl)) (by kernel_rfl) (by kernel_rfl) (by kernel_rfl) (door_met os _)) ?_
  intro W base args ds gs before hval0 hW hcnd hsz0 hL _
  have hsz : (DataW.weightsEach Tryd.prog (Tryd.f4.params.toList ++ Rows.binNamesSpec.plain.varTypes Tryd.prog) (ds ++ gs)).all (· ≤ reachBytes) = true := hsz0
  have hval : ∀ (j : Nat) t v, Tryd.f4.params[j]? = some t → args[j]? = some v → Value.okWide Tryd.prog W .any base t v := hval0
  have hW' := hW
  obtain ⟨p, q, hA0, hV, rfl, hfz, hnd⟩ := hW
  have hA : DataW.TrodAll enc Tryd.prog W 0 (fun _ => true) true Tryd.f4.params.toList args.toList ds p := hA0
  rw [Tryd.params4] at hA hval hsz
  obtain ⟨v0, vs0, d0, ds0, p0, q0, hargs, rfl, rfl, h0, r0⟩ := trodAll_cons hA
  obtain ⟨v1, vs1, d1, ds1, p1, q1, rfl, rfl, rfl, h1, r1⟩ := trodAll_cons r0
  obtain ⟨rfl, rfl, rfl⟩ := trodAll_nil r1
  obtain rfl : args = #[v0, v1] := by cases args; simp_all
  obtain ⟨rfl, rfl⟩ := trodVars_none hV
  clear hA0 hval0 hsz0
  have k0 := h0
  have lt0 : ∀ x ∈ p0, x.block < W.heap.size := fun x hx => by have := hW'.lt x (by simp [hx]); simpa using this
  have k1 := h1
  have lt1 : ∀ x ∈ p1, x.block < W.heap.size := fun x hx => by have := hW'.lt x (by simp [hx]); simpa using this
  obtain ⟨zs0, row0, w0, hd0⟩ := open_irow Tryd.underlying22 (hval 0 22 v0 rfl rfl) h0
  have z0 := irow_reach hsz (j := 0) (t := 22) rfl rfl Tryd.underlying22 hd0
  obtain ⟨a1, rfl, rfl, rfl, w1⟩ := open_int Tryd.underlying3 (hval 1 3 v1 rfl rfl) h1
  refine (binNames_walk W (tab_of_laid hL) v0 zs0 row0 w0 z0 a1 w1).mono fun e W' ⟨he, bel⟩ => ?_
  subst he
  exact ⟨_, rfl, _, _, _, [], _, [], hW', trodAll_mk1 (shut_bool Tryd.underlying4 _), (trodAll_cons_mk (Below.trod Tryd.laidOutB (by kernel_rfl) (of_decide_eq_true (by kernel_rfl)) k0 bel lt0) (trodAll_cons_mk (Below.trod Tryd.laidOutB (by kernel_rfl) (of_decide_eq_true (by kernel_rfl)) k1 bel lt1) trodAll_mk0)), rfl, bel.frame _, fun h => by cases h⟩

set_option maxHeartbeats 8000000 in
theorem binNames_closed : joinedFacts Tryd.checked.prog 4 Tryd.f4 Rows.binNamesSpec Rows.binNamesRow = true := by
  unfold joinedFacts
  iterate 31 (refine and_ok ?_ ?_)
  all_goals first | (with_reducible exact enter_ok) | (rw [lifts_no]; rfl) | (rw [make_cut]; rfl) | as_aux_lemma => kernel_rfl
theorem binNames_holds : Rows.BinNamesSaid :=
  OpenClaim.holds_of_wide 4 Tryd.f4 rfl rfl rfl rfl rfl rfl rfl ⟨rfl, rfl, rfl, rfl, rfl⟩ rfl rfl rfl rfl rfl (by kernel_rfl) Tryd.func4 binNames_closed
    (of_decide_eq_true (by kernel_rfl)) (by unfold Func.isWrapper; first | (rw [if_pos (by decide +kernel)]; kernel_rfl) | (rw [if_neg (by decide +kernel)]; exact ⟨rfl, rfl⟩))
    (fun os started H enc _ => binNames_lifted os started H enc)
theorem binNames_card : Rows.BinNamesCardSaid :=
  Claim7.holds_tied_plain_at .later [] [.data, .data, .data] true (true, "5fce7ed0c7b9bbb116dd67317282d3a94ceff9013056f5850eb3486cfe634742") true
    binNames_holds (fun _ h => by cases h) (by kernel_rfl) (fun _ h => by cases h) binNames_row_tie rfl ⟨rfl, rfl⟩ (by kernel_rfl) rfl
    (fun f fn hf hfn => by
      obtain rfl : f = 4 := Option.some.inj ((show Tryd.prog.funcNamed "temple/templelaw14.BinNames" = some 4 by kernel_rfl).symm.trans hf) |>.symm
      obtain rfl : fn = Tryd.f4 := (Option.some.inj (Tryd.func4.symm.trans hfn)).symm
      exact ⟨by kernel_rfl, fun j t ht => by
        rw [Tryd.params4] at ht
        have hm : t ∈ [22, 3] := by simpa using Array.mem_of_getElem? ht
        have hall : ([22, 3].all fun u => !Tryd.prog.wantsStandIn u) = true := by kernel_rfl
        exact (show Tryd.prog.wantsStandIn t = false by simpa using List.all_eq_true.1 hall t hm)⟩)
    (by kernel_rfl)
#print axioms binNames_card
end Go.Proofs.YtgpklcpmabafmaaDoor
