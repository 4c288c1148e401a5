import Derived.Test.YtopokicdgdjgkaaGg
/- What layer 4's texts need of tokens and of literals in memory. -/
namespace Go.Proofs.Ytopokicdgdjgkaa
set_option linter.unusedVariables false
open Go.RowKit

theorem lexErrS (b : Nat → Int) (n : Nat) : ∀ f k p x, lexS b n f k = .error (p, x) → x = 200 ∨ x = 201
  | 0, k, p, x, h => by cases h
  | f + 1, k, p, x, h => by
    have h' : (if n ≤ skp b n false k then Except.ok [] else match tokF b n (skp b n false k) with
      | .ok (t, to) => Res.cons t (lexS b n f to)
      | .error true => .error (skp b n false k, 201)
      | .error false => .error (skp b n false k, 200)) = .error (p, x) := h
    by_cases h1 : n ≤ skp b n false k
    · rw [if_pos h1] at h'; cases h'
    · rw [if_neg h1] at h'
      rcases hg : tokF b n (skp b n false k) with (_ | _) | ⟨t, to⟩
      · rw [hg] at h'; injection h' with h'; injection h' with _ h'; exact Or.inl h'.symm
      · rw [hg] at h'; injection h' with h'; injection h' with _ h'; exact Or.inr h'.symm
      · rw [hg] at h'
        have h2 : Res.cons t (lexS b n f to) = .error (p, x) := h'
        cases hg2 : lexS b n f to with
        | ok l2 => rw [hg2] at h2; cases h2
        | error e =>
          rw [hg2] at h2
          obtain ⟨p', x'⟩ := e
          injection h2 with h2; injection h2 with e1 e2
          exact lexErrS b n f to p x (by rw [hg2, e1, e2])
theorem lexErrK {s : ByteArray} {p x : Nat} (h : lexT s = .error (p, x)) : x = 200 ∨ x = 201 := by
  by_cases hs : 65536 < s.size
  · rw [lexT, lexB, if_pos hs] at h; injection h with h; injection h with _ h; exact Or.inr h.symm
  · rw [lexT, lexB, if_neg hs] at h; exact lexErrS _ _ _ _ _ _ h
theorem tok_at {w : World} {p : Option Addr} {n cap : Nat} {l : List Tok} (h : TRow w (.slice p n cap) l) {k : Nat} {t : Tok} (hk : l[k]? = some t) : ∃ g, p = some ⟨g, 0, none⟩ ∧ g < w.heap.size ∧
    w.cell? ⟨g, k * 5, none⟩ = some (.int .i64 (t.kind : Int)) ∧ w.cell? ⟨g, k * 5 + 1, none⟩ = some (.int .i64 (t.pl : Int)) ∧ w.cell? ⟨g, k * 5 + 2, none⟩ = some (.string t.text) ∧ w.cell? ⟨g, k * 5 + 3, none⟩ = some (.int .i64 t.lo) ∧ w.cell? ⟨g, k * 5 + 4, none⟩ = some (.int .i64 t.hi) := by
  obtain ⟨p', c', e, hc⟩ := h
  injection e with e1 e2 e3
  subst e1
  exact hc k t hk
/-- Blocks laid one behind the other. -/
def blks (w : World) : List Obj → World
  | [] => w
  | o :: l => blks (w.alloc o) l
theorem blks_below : ∀ (l : List Obj) (w : World), Below w.heap.size w (blks w l)
  | [], w => Below.refl _ _
  | o :: l, w => (bel1 w o).trans ((blks_below l (w.alloc o)).mono (le_alloc _ _))
theorem blks_at : ∀ (l : List Obj) (w : World) (k : Nat) (o : Obj), l[k]? = some o → (blks w l).heap[w.heap.size + k]? = some o
  | [], w, k, o, h => by simp at h
  | a :: l, w, 0, o, h => by
    obtain rfl : a = o := by simpa using h
    exact ((blks_below l (w.alloc a)).block _ (by simp)).trans (heap_alloc_new w a)
  | a :: l, w, k + 1, o, h => by
    have := blks_at l (w.alloc a) k o (by simpa using h)
    rw [show (w.alloc a).heap.size + k = w.heap.size + (k + 1) by simp; omega] at this
    exact this
/-- A row just laid. -/
theorem reads_laid {w : World} {g n c : Nat} {arr : Array Value} {t : TypeId} (h : w.heap[g]? = some (.cells arr t)) (hn : n ≤ maxLen ∧ n ≤ c) {cs : List Value} (hcs : cs = arr.toList) : Reads w Any (.slice (some ⟨g, 0, none⟩) n c) n cs := by
  subst hcs
  have hg : g < w.heap.size := by
    by_cases hh : g < w.heap.size
    · exact hh
    · rw [Array.getElem?_eq_none (by omega)] at h; cases h
  refine ⟨_, _, rfl, hn, fun _ => ⟨g, 0, rfl, trivial, hg, fun j c hj => ?_, fun j _ => by simp [World.frozen?, h]⟩⟩
  simp [World.cell?, h]
  simpa using hj
theorem cjs_nil (w : World) (F : Nat → Prop) : CjsIn w F [] [] := ⟨rfl, fun k c u e => by simp at e⟩
theorem cjs_snoc {w : World} {F : Nat → Prop} {l : List Cj} {vs : List Value} {c : Cj} {v : Value} (h : CjsIn w F l vs) (hi : IsIts w F v c.items) : CjsIn w F (l ++ [c]) (vs ++ [v]) := in_snoc (P := fun (c : Cj) (u : Value) => IsIts w F u c.items) h.1 h.2 hi
theorem alts_nil (w : World) (F : Nat → Prop) : AltsIn w F [] [] := ⟨rfl, fun k c u e => by simp at e⟩
theorem alts_snoc {w : World} {F : Nat → Prop} {l : List (List Cj)} {vs : List Value} {c : List Cj} {v : Value} (h : AltsIn w F l vs) (hi : IsCjs w F v c) : AltsIn w F (l ++ [c]) (vs ++ [v]) := in_snoc (P := fun (c : List Cj) (u : Value) => IsCjs w F u c) h.1 h.2 hi
theorem defs_nil (w : World) (F : Nat → Prop) : DefsIn w F [] [] := ⟨rfl, fun k c u e => by simp at e⟩
theorem defs_snoc {w : World} {F : Nat → Prop} {l : List Df} {vs : List Value} {c : Df} {v : Value} (h : DefsIn w F l vs) (hi : IsAlts w F v c.alts) : DefsIn w F (l ++ [c]) (vs ++ [v]) := in_snoc (P := fun (c : Df) (u : Value) => IsAlts w F u c.alts) h.1 h.2 hi
theorem le11 : 1 ≤ maxLen ∧ 1 ≤ 1 := by unfold maxLen; omega
theorem le22 : 2 ≤ maxLen ∧ 2 ≤ 2 := by unfold maxLen; omega
end Go.Proofs.Ytopokicdgdjgkaa
/- Heads, rules, names: the program's tests against their plain functions. -/
namespace Go.Proofs.Ytopokicdgdjgkaa
set_option linter.unusedVariables false
open Go.ChangeShapes Go.WideShapes Go.ChangeAt Go.RowKit

theorem drop_at {α : Type} {l : List α} {k : Nat} {a : α} (h : l[k]? = some a) : l.drop k = a :: l.drop (k + 1) := by
  have hlt : k < l.length := (List.getElem?_eq_some_iff.1 h).1
  have e : l[k] = a := (List.getElem?_eq_some_iff.1 h).2
  rw [List.drop_eq_getElem_cons hlt, e]
theorem bel_al {B : Nat} {w w1 w2 : World} (h : Below B w w1) (hB : B ≤ w1.heap.size) (o : Obj) (h2 : Below (w1.alloc o).heap.size (w1.alloc o) w2) : Below B w w2 :=
  (h.alloc hB o).trans (h2.mono (Nat.le_trans hB (le_alloc _ _)))
theorem Reads.slc {w : World} {F : Nat → Prop} {v : Value} {n : Nat} {cs : List Value} (h : Reads w F v n cs) : ∃ p c, v = .slice p n c := by
  obtain ⟨p, c, e, _⟩ := h
  exact ⟨p, c, e⟩
theorem IsCns.slc {w : World} {F : Nat → Prop} {v : Value} {l : List Cn} (h : IsCns w F v l) : ∃ p c, v = .slice p l.length c := by
  obtain ⟨_, h, _⟩ := h
  exact h.slc

set_option maxHeartbeats 4000000 in
set_option maxRecDepth 100000 in
theorem mayHeads_any (K : Nat) (v : Value) (l : List Ru) (w : World) {F : Nat → Prop} (ha : IsRus w F v l) (hK : K ≤ maxLen) : Calls Try.prog 29 #[v, .int .i64 (K : Int)] w fun e w' => e = .returned (.bool (mayHeads K (-1) l)) ∧ Below w.heap.size w w' := by
  obtain ⟨us, ⟨p, cp, rfl, hm, hca⟩, hla, hia⟩ := ha
  replace hm := hm.1
  unfold maxLen at hm hK
  have HA : Hid (0 < l.length → ∃ g o, p = some ⟨g, o, none⟩ ∧ F g ∧ g < w.heap.size ∧ (∀ j c, (rusV l us)[j]? = some c → w.cell? ⟨g, o + j, none⟩ = some c) ∧ ∀ j, j < ((rusV l us)).length → w.frozen? ⟨g, o + j, none⟩ = false) := hca
  have IA : Hid (us.length = l.length ∧ ∀ (k : Nat) (c : Ru) (u : Value), l[k]? = some c → us[k]? = some u → IsCns w F u c.conj) := ⟨hla, hia⟩
  clear hca hla hia
  obtain ⟨R, hR⟩ : ∃ R, R = mayHeads K (-1) l := ⟨_, rfl⟩
  have HR : Hid (R = mayHeads K (-1) l) := hR
  rw [← hR]
  clear hR
  go_enter Try.func29, Try.ntmps29
  go_wp2
  go_loopw [5, 10] (fun x i wr => ∃ (k : Nat) (z : Int), k ≤ l.length ∧ x = .int .i64 z ∧ i = .int .i64 k ∧ Hid (Below w.heap.size w wr) ∧ Hid (mayHeads K z (l.drop k) = R) ∧ -1 ≤ z ∧ (z < (K : Int) ∨ z = -1)) (fun _ i _ => l.length - (intOf i).toNat)
  case atStart => exact ⟨0, -1, by omega, rfl, rfl, Below.refl _ _, HR.out.symm, by omega, Or.inr rfl⟩
  case round =>
    obtain ⟨k, z, hk, rfl, rfl, HW, HT, hz1, hz2⟩ := hrel
    have hzz : z < 9223372036854775807 := by omega
    by_cases hlt : k < l.length
    · obtain ⟨t, ht⟩ : ∃ t, l[k]? = some t := ⟨_, List.getElem?_eq_getElem hlt⟩
      obtain ⟨u, hu⟩ : ∃ u, us[k]? = some u := ⟨_, List.getElem?_eq_getElem (by rw [IA.out.1]; exact hlt)⟩
      obtain ⟨g1, o1, hp, -, hg1, ca, -⟩ := HA.out (by omega)
      subst hp
      obtain ⟨i0, i1⟩ := rusV_at l us k t u ht hu
      have a0 := (HW.out.cell (p := ⟨_, _, none⟩) hg1).trans (ca _ _ i0)
      have a1 := (HW.out.cell (p := ⟨_, _, none⟩) hg1).trans (reas (ca _ _ i1))
      obtain ⟨u1, u2, hx⟩ := (IA.out.2 k t u ht hu).slc
      subst hx
      have HD : Hid (l.drop k = t :: l.drop (k + 1)) := drop_at ht
      obtain ⟨hd, cj⟩ := t
      simp only at a0 a1
      have NU := fun w => isNumber_any hd K w
      cases hn : isNum hd K with
      | false =>
        rw [hn] at NU
        have HN : Hid (R = false) := by show _ = _; rw [← HT.out, HD.out]; unfold mayHeads; rw [hn]; rfl
        clear ca ht hu hg1 i0 i1 hn
        go_wp2_with (go_at_call 28; refine (NU _).mono ?_; rintro e wn ⟨rfl, rfl⟩)
        go_ret
        exact ⟨by rw [HN.out]; rfl, HW.out.alloc HW.out.size _⟩
      | true =>
        rw [hn] at NU
        have hn1 : 0 ≤ hd ∧ hd < (K : Int) := by simpa [isNum] using hn
        by_cases e1 : hd = z
        · have HN : Hid (mayHeads K hd (l.drop (k + 1)) = R) := by show _ = _; rw [← HT.out, HD.out]; rw [mayHeads, hn]; simp [e1]
          clear ca ht hu hg1 i0 i1 hn
          subst e1
          have e1' : (hd != hd) = false := by simp
          go_wp2_with (go_at_call 28; refine (NU _).mono ?_; rintro e wn ⟨rfl, rfl⟩)
          go_roundw
          case rel => exact ⟨k + 1, hd, by omega, rfl, by go_num, HW.out.alloc HW.out.size _, HN, by omega, Or.inl hn1.2⟩
          case measure => simp [intOf]; omega
        · by_cases e2 : hd = z + 1
          · have HN : Hid (mayHeads K hd (l.drop (k + 1)) = R) := by show _ = _; rw [← HT.out, HD.out]; rw [mayHeads, hn]; simp [e2]
            clear ca ht hu hg1 i0 i1 hn
            have e1' : (hd != z) = true := by simp [e1]
            subst e2
            have e2' : (z + 1 != z + 1) = false := by simp
            go_wp2_with (go_at_call 28; refine (NU _).mono ?_; rintro e wn ⟨rfl, rfl⟩)
            go_roundw
            case rel => exact ⟨k + 1, z + 1, by omega, rfl, by go_num, HW.out.alloc HW.out.size _, HN, by omega, Or.inl hn1.2⟩
            case measure => simp [intOf]; omega
          · have HN : Hid (R = false) := by show _ = _; rw [← HT.out, HD.out]; rw [mayHeads, hn]; simp [e1, e2]
            clear ca ht hu hg1 i0 i1 hn
            have e1' : (hd != z) = true := by simp [e1]
            have e2' : (hd != z + 1) = true := by simp [e2]
            go_wp2_with (go_at_call 28; refine (NU _).mono ?_; rintro e wn ⟨rfl, rfl⟩)
            go_ret
            exact ⟨by rw [HN.out]; rfl, HW.out.alloc HW.out.size _⟩
    · obtain rfl : k = l.length := by omega
      have HN : Hid (R = decide (z = (K : Int) - 1)) := by show _ = _; rw [← HT.out, List.drop_length]; rfl
      by_cases e1 : z = (K : Int) - 1
      · have e1' : (z == (K : Int) - 1) = true := by simp [e1]
        go_wp2
        go_ret
        exact ⟨by rw [HN.out]; simp [e1, go_sem], HW.out⟩
      · have e1' : (z == (K : Int) - 1) = false := by simp [e1]
        go_wp2
        go_ret
        exact ⟨by rw [HN.out]; simp [e1, go_sem], HW.out⟩
end Go.Proofs.Ytopokicdgdjgkaa
/- The rules of a grammar: the program's test against its plain function. -/
namespace Go.Proofs.Ytopokicdgdjgkaa
set_option linter.unusedVariables false
open Go.ChangeShapes Go.WideShapes Go.ChangeAt Go.RowKit

def goOn (K : Nat) (l : List Ru) : Option Nat → Bool
  | none => false
  | some m => mayRs K m l
theorem mayRs_cons (K n : Nat) (r : Ru) (l : List Ru) : mayRs K n (r :: l) = if 1 ≤ r.conj.length ∧ r.conj.length ≤ 8 then goOn K l (mayCs K n r.conj) else false := by
  rw [mayRs]
  split
  · cases mayCs K n r.conj <;> rfl
  · rfl
/-- No row is longer than memory. -/
def Short (l : List Ru) : Prop := ∀ r, r ∈ l → ∀ c, c ∈ r.conj → c.seq.length ≤ 140737488355328
set_option maxRecDepth 100000 in
set_option maxHeartbeats 4000000 in
theorem mayRules_any (K : Nat) (v : Value) (l : List Ru) (w : World) {F : Nat → Prop} (ha : IsRus w F v l) (hS : Short l) : Calls Try.prog 30 #[v, .int .i64 (K : Int)] w fun e w' => e = .returned (.bool (mayRules K l)) ∧ Below w.heap.size w w' := by
  obtain ⟨us, ⟨p, cp, rfl, hm, hca⟩, hla, hia⟩ := ha
  replace hm := hm.1
  unfold maxLen at hm
  have HS0 : Hid (Short l) := hS
  clear hS
  have HA : Hid (0 < l.length → ∃ g o, p = some ⟨g, o, none⟩ ∧ F g ∧ g < w.heap.size ∧ (∀ j c, (rusV l us)[j]? = some c → w.cell? ⟨g, o + j, none⟩ = some c) ∧ ∀ j, j < ((rusV l us)).length → w.frozen? ⟨g, o + j, none⟩ = false) := hca
  have IA : Hid (us.length = l.length ∧ ∀ (k : Nat) (c : Ru) (u : Value), l[k]? = some c → us[k]? = some u → IsCns w F u c.conj) := ⟨hla, hia⟩
  clear hca hla hia
  by_cases h1 : 1 ≤ l.length
  · by_cases h2 : l.length ≤ 256
    · rw [show mayRules K l = mayRs K 0 l by simp [mayRules, h1, h2]]
      obtain ⟨R, hR⟩ : ∃ R, R = mayRs K 0 l := ⟨_, rfl⟩
      have HR : Hid (R = mayRs K 0 l) := hR
      rw [← hR]
      clear hR
      go_enter Try.func30, Try.ntmps30
      go_wp2
      go_loopw [5, 20] (fun x i wr => ∃ (k n : Nat), k ≤ l.length ∧ n ≤ 1024 ∧ x = .int .i64 n ∧ i = .int .i64 k ∧ Hid (Below w.heap.size w wr) ∧ Hid (mayRs K n (l.drop k) = R)) (fun _ i _ => l.length - (intOf i).toNat)
      case atStart => exact ⟨0, 0, by omega, by omega, rfl, rfl, Below.refl _ _, HR.out.symm⟩
      case round =>
        obtain ⟨k, n, hk, hn, rfl, rfl, HW, HT⟩ := hrel
        by_cases hlt : k < l.length
        · obtain ⟨t, ht⟩ : ∃ t, l[k]? = some t := ⟨_, List.getElem?_eq_getElem hlt⟩
          obtain ⟨u, hu⟩ : ∃ u, us[k]? = some u := ⟨_, List.getElem?_eq_getElem (by rw [IA.out.1]; exact hlt)⟩
          obtain ⟨g1, o1, hp, -, hg1, ca, -⟩ := HA.out (by omega)
          subst hp
          obtain ⟨i0, i1⟩ := rusV_at l us k t u ht hu
          have a0 := (HW.out.cell (p := ⟨_, _, none⟩) hg1).trans (ca _ _ i0)
          have a1 := (HW.out.cell (p := ⟨_, _, none⟩) hg1).trans (reas (ca _ _ i1))
          have HC : Hid (IsCns w F u t.conj) := IA.out.2 k t u ht hu
          have HT2 := HT.out
          have HS1 : Hid (∀ c, c ∈ t.conj → c.seq.length ≤ 140737488355328) := HS0.out t (List.mem_of_getElem? ht)
          rw [drop_at ht, mayRs_cons] at HT2
          obtain ⟨hd, cj⟩ := t
          simp only at a0 a1 HC HT2 HS1
          clear ca ht hu hg1 i0 i1
          by_cases e1 : 1 ≤ cj.length
          · by_cases e2 : cj.length ≤ 8
            · rw [if_pos ⟨e1, e2⟩] at HT2
              have HO : Hid (goOn K (l.drop (k + 1)) (mayCs K n cj) = R) := HT2
              clear HT2
              obtain ⟨vs, ⟨q, cq, hx, -, hcb⟩, hlb, hib⟩ := HC.out
              subst hx
              have HB : Hid (0 < cj.length → ∃ g o, q = some ⟨g, o, none⟩ ∧ F g ∧ g < w.heap.size ∧ (∀ j c, (cnsV cj vs)[j]? = some c → w.cell? ⟨g, o + j, none⟩ = some c) ∧ ∀ j, j < ((cnsV cj vs)).length → w.frozen? ⟨g, o + j, none⟩ = false) := hcb
              have IB : Hid (vs.length = cj.length ∧ ∀ (k : Nat) (c : Cn) (u : Value), cj[k]? = some c → vs[k]? = some u → IsSys w F u c.seq) := ⟨hlb, hib⟩
              clear hcb hlb hib
              go_wp2
              have HX : Hid (Below w.heap.size w (wr.alloc (.cells #[.int .i64 hd, .slice q cj.length cq] 33))) := HW.out.alloc HW.out.size _
              have hws : w.heap.size ≤ wr.heap.size := HW.out.size
              go_loopw [5, 37] (fun x i wz => ∃ (j m : Nat), j ≤ cj.length ∧ m ≤ 1024 ∧ x = .int .i64 m ∧ i = .int .i64 j ∧ Hid (Below w.heap.size w wz) ∧ Hid (goOn K (l.drop (k + 1)) (mayCs K m (cj.drop j)) = R)) (fun _ i _ => cj.length - (intOf i).toNat)
              case atStart => exact ⟨0, n, by omega, by omega, rfl, rfl, HX, HO⟩
              case round =>
                obtain ⟨j, m, hj, hm2, rfl, rfl, HZ, HY⟩ := hrel
                by_cases hjt : j < cj.length
                · obtain ⟨c, hc⟩ : ∃ c, cj[j]? = some c := ⟨_, List.getElem?_eq_getElem hjt⟩
                  obtain ⟨y, hy⟩ : ∃ y, vs[j]? = some y := ⟨_, List.getElem?_eq_getElem (by rw [IB.out.1]; exact hjt)⟩
                  obtain ⟨g2, o2, hq, -, hg2, cb, -⟩ := HB.out (by omega)
                  subst hq
                  obtain ⟨j0, j1⟩ := cnsV_at cj vs j c y hc hy
                  have b0 := (HZ.out.cell (p := ⟨_, _, none⟩) hg2).trans (cb _ _ j0)
                  have b1 := (HZ.out.cell (p := ⟨_, _, none⟩) hg2).trans (reas (cb _ _ j1))
                  have HS : Hid (IsSys w F y c.seq) := IB.out.2 j c y hc hy
                  have HY2 := HY.out
                  have hsl := HS1.out c (List.mem_of_getElem? hc)
                  rw [drop_at hc, mayCs] at HY2
                  obtain ⟨ng, sq⟩ := c
                  simp only at b0 b1 HS HY2 hsl
                  have MR : ∀ w2, Below w.heap.size w w2 → Calls Try.prog 45 #[y, .int .i64 (K : Int)] w2 fun e w' => e = .returned (.bool (mayRow K sq)) ∧ Below w2.heap.size w2 w' := fun w2 hb => mayRow_any K y sq w2 (Reads.any HS.out hb)
                  obtain ⟨y1, y3, hx⟩ := Reads.slc HS.out
                  subst hx
                  clear cb hc hy hg2 j0 j1
                  by_cases f1 : m + sq.length ≤ 1024
                  · cases f2 : mayRow K sq with
                    | true =>
                      rw [f2] at MR
                      rw [if_pos ⟨f1, f2⟩] at HY2
                      have HN : Hid (goOn K (l.drop (k + 1)) (mayCs K (m + sq.length) (cj.drop (j + 1))) = R) := HY2
                      clear HY2 f2
                      go_wp2_with (go_at_call 45; refine (MR _ (HZ.out.alloc HZ.out.size _)).mono ?_; rintro e w3 ⟨rfl, b3⟩)
                      go_roundw
                      case rel => exact ⟨j + 1, m + sq.length, by omega, f1, by go_num, by go_num, bel_al HZ.out HZ.out.size _ b3, HN⟩
                      case measure => simp [intOf]; omega
                    | false =>
                      rw [f2] at MR
                      rw [if_neg (by rintro ⟨-, h⟩; rw [f2] at h; cases h)] at HY2
                      have HN : Hid (R = false) := HY2.symm
                      clear HY2 f2
                      go_wp2_with (go_at_call 45; refine (MR _ (HZ.out.alloc HZ.out.size _)).mono ?_; rintro e w3 ⟨rfl, b3⟩)
                      go_ret
                      exact ⟨by rw [HN.out]; rfl, bel_al HZ.out HZ.out.size _ b3⟩
                  · rw [if_neg (by rintro ⟨h, -⟩; exact f1 h)] at HY2
                    have HN : Hid (R = false) := HY2.symm
                    clear HY2
                    clear MR
                    go_wp2
                    go_ret
                    exact ⟨by rw [HN.out]; rfl, HZ.out.alloc HZ.out.size _⟩
                · obtain rfl : j = cj.length := by omega
                  have HY2 := HY.out
                  rw [List.drop_length] at HY2
                  have HN : Hid (mayRs K m (l.drop (k + 1)) = R) := HY2
                  clear HY2
                  go_wp2
                  go_roundw
                  case rel => exact ⟨k + 1, m, by omega, hm2, rfl, by go_num, HZ, HN⟩
                  case measure => simp [intOf]; omega
            · rw [if_neg (by rintro ⟨-, h⟩; exact e2 h)] at HT2
              have HN : Hid (R = false) := HT2.symm
              clear HT2
              obtain ⟨q, cq, hx⟩ := HC.out.slc
              subst hx
              go_wp2
              go_ret
              exact ⟨by rw [HN.out]; rfl, HW.out.alloc HW.out.size _⟩
          · rw [if_neg (by rintro ⟨h, -⟩; exact e1 h)] at HT2
            have HN : Hid (R = false) := HT2.symm
            clear HT2
            obtain ⟨q, cq, hx⟩ := HC.out.slc
            subst hx
            go_wp2
            go_ret
            exact ⟨by rw [HN.out]; rfl, HW.out.alloc HW.out.size _⟩
        · obtain rfl : k = l.length := by omega
          have HT2 := HT.out
          rw [List.drop_length] at HT2
          have HN : Hid (R = true) := HT2.symm
          go_wp2
          go_ret
          exact ⟨by rw [HN.out]; rfl, HW.out⟩
    · rw [show mayRules K l = false by simp [mayRules, h1, h2]]
      go_enter Try.func30, Try.ntmps30
      go_wp2
      go_ret
      exact ⟨rfl, Below.refl _ _⟩
  · rw [show mayRules K l = false by simp [mayRules, h1]]
    go_enter Try.func30, Try.ntmps30
    go_wp2
    go_ret
    exact ⟨rfl, Below.refl _ _⟩
end Go.Proofs.Ytopokicdgdjgkaa
/- Names and their numbers; the program's May against its plain function. -/
namespace Go.Proofs.Ytopokicdgdjgkaa
set_option linter.unusedVariables false
open Go.ChangeShapes Go.WideShapes Go.ChangeAt Go.RowKit Go.Maps

theorem Try.keyed : Keyed Try.prog 9 := string_keyed Try.underlying9
theorem Try.zeroInt (w : World) : (zeroValue 3).run Try.prog w = .ok (.int .i64 0) w := by kernel_rfl
theorem Try.underMap : Try.prog.underlying 89 = some (.map 9 3) := by kernel_rfl
abbrev NMap (w : World) (B : Nat) (l : List ByteArray) : Prop := NumMap Try.prog 9 3 w B l

set_option maxRecDepth 100000 in
set_option maxHeartbeats 2000000 in
theorem isName_any (s : ByteArray) (hs : s.size ≤ maxLen) (w : World) : Calls Try.prog 43 #[.string s] w fun e w' => e = .returned (.bool (isNameT s)) ∧ Below w.heap.size w w' := by
  by_cases h32 : s.size ≤ 32
  · rw [show isNameT s = nameL s (lexT s) by simp [isNameT, h32]]
    cases hA : lexT s with
    | error e =>
      obtain ⟨at', x⟩ := e
      have hx : ((x : Int) == 0) = false := by
        have h := lexErrK hA
        rcases h with h | h <;> subst h <;> rfl
      have L1 := fun w => lex_err hA hs w
      clear hA
      show Calls _ _ _ _ fun e w' => e = .returned (.bool false) ∧ _
      go_enter Try.func43, Try.ntmps43
      go_wp2_with (go_at_call 50; refine (L1 _).mono ?_; rintro e w1 ⟨q1, c1, rfl, b1⟩)
      go_ret
      exact ⟨rfl, b1⟩
    | ok l =>
      have L1 := fun w => lex_ok hA hs w
      clear hA
      match l, L1 with
      | [], L1 =>
        show Calls _ _ _ _ fun e w' => e = .returned (.bool false) ∧ _
        have L2 : ∀ w, Calls Try.prog 50 #[.string s] w fun e w' => ∃ p cap, e = .returned (.tuple #[.slice p 0 cap, .int .i64 0, .int .i64 0]) ∧ Below w.heap.size w w' := fun w => (L1 w).mono fun e w' ⟨p, cap, h1, _, h3⟩ => ⟨p, cap, h1, h3⟩
        clear L1
        go_enter Try.func43, Try.ntmps43
        go_wp2_with (go_at_call 50; refine (L2 _).mono ?_; rintro e w1 ⟨q1, c1, rfl, b1⟩)
        go_ret
        exact ⟨rfl, b1⟩
      | a :: b :: l, L1 =>
        show Calls _ _ _ _ fun e w' => e = .returned (.bool false) ∧ _
        have L2 : ∃ n : Nat, ((n : Int) == 1) = false ∧ ∀ w, Calls Try.prog 50 #[.string s] w fun e w' => ∃ p cap, e = .returned (.tuple #[.slice p n cap, .int .i64 0, .int .i64 0]) ∧ Below w.heap.size w w' :=
          ⟨l.length + 1 + 1, by simp; omega, fun w => (L1 w).mono fun e w' ⟨p, cap, h1, _, h3⟩ => ⟨p, cap, h1, h3⟩⟩
        obtain ⟨n, hn, L2⟩ := L2
        clear L1
        go_enter Try.func43, Try.ntmps43
        go_wp2_with (go_at_call 50; refine (L2 _).mono ?_; rintro e w1 ⟨q1, c1, rfl, b1⟩)
        go_ret
        exact ⟨rfl, b1⟩
      | [t], L1 =>
        obtain ⟨kd, pl, tx, lo, hi⟩ := t
        have L2 : ∀ w, Calls Try.prog 50 #[.string s] w fun e w' => ∃ g cap, e = .returned (.tuple #[.slice (some ⟨g, 0, none⟩) 1 cap, .int .i64 0, .int .i64 0]) ∧ w'.cell? ⟨g, 0, none⟩ = some (.int .i64 (kd : Int)) ∧ w'.cell? ⟨g, 2, none⟩ = some (.string tx) ∧ Below w.heap.size w w' := fun w => (L1 w).mono (by
          rintro e w' ⟨p, cap, h1, h2, h3⟩
          obtain ⟨g, hp, hg, c0, c1, c2, c3, c4⟩ := tok_at h2 (k := 0) rfl
          subst hp
          exact ⟨g, cap, h1, c0, c2, h3⟩)
        clear L1
        have E : nameL s (.ok [⟨kd, pl, tx, lo, hi⟩]) = (decide (kd = 0) && decide (tx = s)) := rfl
        rw [E]
        by_cases e0 : kd = 0
        · by_cases e1 : tx = s
          · subst e0 e1
            rw [show (decide (0 = 0) && decide (tx = tx)) = true by simp]
            go_enter Try.func43, Try.ntmps43
            go_wp2_with (go_at_call 50; refine (L2 _).mono ?_; rintro e w1 ⟨q1, c1, rfl, k0, k2, b1⟩)
            go_ret
            exact ⟨by simp [go_sem], b1⟩
          · subst e0
            rw [show (decide (0 = 0) && decide (tx = s)) = false by simp [e1]]
            go_enter Try.func43, Try.ntmps43
            go_wp2_with (go_at_call 50; refine (L2 _).mono ?_; rintro e w1 ⟨q1, c1, rfl, k0, k2, b1⟩)
            go_ret
            exact ⟨by simp [go_sem]; exact fun h => e1 (ba_inj h), b1⟩
        · rw [show (decide (kd = 0) && decide (tx = s)) = false by simp [e0]]
          have e0' : ((kd : Int) == 0) = false := by simp; omega
          go_enter Try.func43, Try.ntmps43
          go_wp2_with (go_at_call 50; refine (L2 _).mono ?_; rintro e w1 ⟨q1, c1, rfl, k0, k2, b1⟩)
          go_ret
          exact ⟨rfl, b1⟩
  · rw [show isNameT s = false by simp [isNameT, h32]]
    unfold maxLen at hs
    go_enter Try.func43, Try.ntmps43
    go_wp2
    go_ret
    exact ⟨rfl, Below.refl _ _⟩

theorem take_snoc {α : Type} {l : List α} {k : Nat} {a : α} (h : l[k]? = some a) : l.take (k + 1) = l.take k ++ [a] := by
  rw [List.take_add_one, h]; rfl
theorem take_len {α : Type} {l : List α} {k : Nat} (h : k ≤ l.length) : (l.take k).length = k := by simp; omega
set_option maxRecDepth 100000 in
set_option maxHeartbeats 2000000 in
theorem number_any (v : Value) (l : List ByteArray) (w : World) {F : Nat → Prop} (ha : IsTexts w F v l) (hl : ∀ s, s ∈ l → s.size ≤ maxLen) : Calls Try.prog 44 #[v] w fun e w' => e = .returned (.tuple #[.map (some w.heap.size), .int .i64 (again l : Int)]) ∧ again l ≤ l.length ∧ NMap w' w.heap.size (l.take (again l)) ∧ Below w.heap.size w w' ∧ w.heap.size < w'.heap.size := by
  obtain ⟨p, cp, rfl, hm, hca⟩ := ha
  replace hm := hm.1
  unfold maxLen at hm
  have HA : Hid (0 < l.length → ∃ g o, p = some ⟨g, o, none⟩ ∧ F g ∧ g < w.heap.size ∧ (∀ j c, (txV l)[j]? = some c → w.cell? ⟨g, o + j, none⟩ = some c) ∧ ∀ j, j < ((txV l)).length → w.frozen? ⟨g, o + j, none⟩ = false) := hca
  have HL : Hid (∀ s, s ∈ l → s.size ≤ maxLen) := hl
  clear hca hl
  obtain ⟨R, hR⟩ : ∃ R, R = again l := ⟨_, rfl⟩
  have HR : Hid (againT [] l 0 = R) := hR.symm
  rw [← hR]
  clear hR
  have hmm := @run_makeMap Try.prog
  go_enter Try.func44, Try.ntmps44
  go_wp2
  go_loopw [12] (fun i wr => ∃ k : Nat, k ≤ l.length ∧ i = .int .i64 k ∧ Hid (Below w.heap.size w wr) ∧ Hid (NMap wr w.heap.size (l.take k)) ∧ Hid (againT (l.take k) (l.drop k) k = R) ∧ w.heap.size < wr.heap.size) (fun i _ => l.length - (intOf i).toNat)
  case atStart => exact ⟨0, by omega, rfl, bel1 _ _, NumMap.new _ _ _ _, HR, by simp⟩
  case round =>
    obtain ⟨k, hk, rfl, HW, HM, HT, hws⟩ := hrel
    by_cases hlt : k < l.length
    · obtain ⟨s, ht⟩ : ∃ t, l[k]? = some t := ⟨_, List.getElem?_eq_getElem hlt⟩
      obtain ⟨g1, o1, hp, -, hg1, ca, -⟩ := HA.out (by omega)
      subst hp
      have a0 := (HW.out.cell (p := ⟨_, _, none⟩) hg1).trans (ca k (.string s) (by simp [txV, ht]))
      obtain ⟨D, hown, hD, hd⟩ := HM.out
      rw [take_len hk] at hown
      have hsz : s.size ≤ maxLen := HL.out s (List.mem_of_getElem? ht)
      have hkey : keyOf Try.prog 9 (.string s) = some (litS s) := WideMaps.keyOf_string_mk Try.underlying9 hsz
      have HT2 := HT.out
      rw [drop_at ht, againT] at HT2
      have kwf : (Lit.int .i64 (k : Int)).wf = true := WalkArith.wf_i64 (by omega)
      have kmx : k < maxLen := by unfold maxLen; omega
      cases hkn : known (l.take k) s with
      | true =>
        have hh : Maps.has D (litS s) = true := (hd s).1.trans hkn
        rw [if_pos hkn] at HT2
        subst HT2
        clear ca ht hg1 hD hd hkn
        go_wp2_with (first | (at_lookup; refine wpList_lookup_own_ok_int _ rfl _ _ 89 rfl 9 3 .i64 Try.keyed Try.underMap Try.underlying3 (Try.zeroInt _) w.heap.size k D rfl hown _ _ rfl hkey ?_; intro c hat hwc; rw [hh]))
        refine bodyPost_ret (v := .tuple #[.map (some w.heap.size), .int .i64 (k : Int)]) (by simp [results, Try.results44, go_sem]) rfl ?_
        exact ⟨rfl, hk, HM, HW, hws⟩
      | false =>
        have hh : Maps.has D (litS s) = false := (hd s).1.trans hkn
        rw [if_neg (by rw [hkn]; decide), ← take_snoc ht] at HT2
        have HN : Hid (againT (l.take (k + 1)) (l.drop (k + 1)) (k + 1) = R) := HT2
        have HP : ∀ w1, w1.ownsMap Try.prog 9 (plainElem Try.prog 3) w.heap.size (k + 1) (D.put (litS s) (.lit (.int .i64 (k : Int)))) → NMap w1 w.heap.size (l.take (k + 1)) := fun w1 h => by
          rw [take_snoc ht]
          refine NumMap.put hD hd hkn ?_
          rw [take_len hk]; exact h
        clear ca ht hg1 hD hd hkn HT2
        go_wp2_with (first | (at_lookup; refine wpList_lookup_own_ok_int _ rfl _ _ 89 rfl 9 3 .i64 Try.keyed Try.underMap Try.underlying3 (Try.zeroInt _) w.heap.size k D rfl hown _ _ rfl hkey ?_; intro c hat hwc; rw [hh]) | (at_mapUpdate; refine wpList_mapUpdate_own _ rfl _ _ _ 89 rfl 9 3 Try.keyed Try.underMap _ w.heap.size k _ rfl hown kmx _ _ _ rfl rfl hkey _ [] (plainElem_int Try.underlying3 kwf) ?_; intro w1 hown1 hgrow1))
        go_roundw
        case rel => exact ⟨k + 1, by omega, by go_num, HW.out.grown hgrow1 HW.out.size (fun j hj => by cases hj; exact Nat.le_refl _), HP _ hown1, HN, Nat.lt_of_lt_of_le hws hgrow1.size⟩
        case measure => simp [intOf]; omega
    · obtain rfl : k = l.length := by omega
      have HT2 := HT.out
      rw [List.drop_length] at HT2
      have e : l.length = R := HT2
      subst e
      go_wp2
      refine bodyPost_ret (v := .tuple #[.map (some w.heap.size), .int .i64 (l.length : Int)]) (by simp [results, Try.results44, go_sem]) rfl ?_
      exact ⟨rfl, Nat.le_refl _, HM, HW, hws⟩
end Go.Proofs.Ytopokicdgdjgkaa
/- The program's May against its plain function. -/
namespace Go.Proofs.Ytopokicdgdjgkaa
set_option linter.unusedVariables false
open Go.ChangeShapes Go.WideShapes Go.ChangeAt Go.RowKit Go.Maps

set_option maxRecDepth 100000 in
set_option maxHeartbeats 2000000 in
theorem mayNames_any (v : Value) (l : List ByteArray) (w : World) {F : Nat → Prop} (ha : IsTexts w F v l) (hl : ∀ s, s ∈ l → s.size ≤ maxLen) : Calls Try.prog 27 #[v] w fun e w' => e = .returned (.bool (mayNames l)) ∧ Below w.heap.size w w' := by
  have HI : Hid (IsTexts w F v l) := ha
  obtain ⟨p, cp, rfl, hm, hca⟩ := ha
  replace hm := hm.1
  unfold maxLen at hm
  have HA : Hid (0 < l.length → ∃ g o, p = some ⟨g, o, none⟩ ∧ F g ∧ g < w.heap.size ∧ (∀ j c, (txV l)[j]? = some c → w.cell? ⟨g, o + j, none⟩ = some c) ∧ ∀ j, j < ((txV l)).length → w.frozen? ⟨g, o + j, none⟩ = false) := hca
  have HL : Hid (∀ s, s ∈ l → s.size ≤ maxLen) := hl
  clear hca hl
  by_cases h1 : 1 ≤ l.length
  · by_cases h2 : l.length ≤ 64
    · rw [show mayNames l = (l.all isNameT && decide (again l = l.length)) by simp [mayNames, h1, h2]]
      obtain ⟨R, hR⟩ : ∃ R, R = l.all isNameT := ⟨_, rfl⟩
      have HR : Hid (R = l.all isNameT) := hR
      rw [← hR]
      clear hR
      go_enter Try.func27, Try.ntmps27
      go_wp2
      go_loopw [17] (fun i wr => ∃ k : Nat, k ≤ l.length ∧ i = .int .i64 k ∧ Hid (Below w.heap.size w wr) ∧ Hid ((l.take k).all isNameT = true)) (fun i _ => l.length - (intOf i).toNat)
      case atStart => exact ⟨0, by omega, rfl, Below.refl _ _, rfl⟩
      case round =>
        obtain ⟨k, hk, rfl, HW, HT⟩ := hrel
        by_cases hlt : k < l.length
        · obtain ⟨s, ht⟩ : ∃ t, l[k]? = some t := ⟨_, List.getElem?_eq_getElem hlt⟩
          obtain ⟨g1, o1, hp, -, hg1, ca, -⟩ := HA.out (by omega)
          have a0 := (HW.out.cell (p := ⟨_, _, none⟩) hg1).trans (ca k (.string s) (by simp [txV, ht]))
          subst hp
          have NA := fun w => isName_any s (HL.out s (List.mem_of_getElem? ht)) w
          cases hs : isNameT s with
          | true =>
            rw [hs] at NA
            have HN : Hid ((l.take (k + 1)).all isNameT = true) := by show _ = _; rw [take_all ht, hs, HT.out]; rfl
            clear ca ht hg1 hs
            go_wp2_with (go_at_call 43; refine (NA _).mono ?_; rintro e w2 ⟨rfl, b2⟩)
            go_roundw
            case rel => exact ⟨k + 1, by omega, by go_num, HW.out.trans (b2.mono HW.out.size), HN⟩
            case measure => simp [intOf]; omega
          | false =>
            rw [hs] at NA
            have HN : Hid (R = false) := by show _ = _; rw [HR.out]; exact all_false ht hs
            clear ca ht hg1 hs
            go_wp2_with (go_at_call 43; refine (NA _).mono ?_; rintro e w2 ⟨rfl, b2⟩)
            go_ret
            exact ⟨by rw [HN.out]; rfl, HW.out.trans (b2.mono HW.out.size)⟩
        · obtain rfl : k = l.length := by omega
          have HN : Hid (R = true) := by show _ = _; rw [HR.out]; have := HT.out; rwa [List.take_length] at this
          have NU : ∀ w2, Below w.heap.size w w2 → Calls Try.prog 44 #[.slice p l.length cp] w2 fun e w' => e = .returned (.tuple #[.map (some w2.heap.size), .int .i64 (again l : Int)]) ∧ again l ≤ l.length ∧ NMap w' w2.heap.size (l.take (again l)) ∧ Below w2.heap.size w2 w' ∧ w2.heap.size < w'.heap.size := fun w2 hb => number_any _ l w2 (HI.out.any hb) HL.out
          by_cases ea : again l = l.length
          · have HE : Hid (again l = l.length) := ea
            have ea' : ((again l : Int) == (l.length : Int)) = true := by simp [ea]
            generalize again l = ag at NU ea'
            clear ea
            go_wp2_with (go_at_call 44; refine (NU _ HW.out).mono ?_; rintro e w2 ⟨rfl, hag, hnm, b2, hsz⟩; clear hnm)
            go_ret
            exact ⟨by rw [HN.out]; simp [go_sem, HE.out], HW.out.trans (b2.mono HW.out.size)⟩
          · have HE : Hid (¬ again l = l.length) := ea
            have ea' : ((again l : Int) == (l.length : Int)) = false := by simp; omega
            generalize again l = ag at NU ea'
            clear ea
            go_wp2_with (go_at_call 44; refine (NU _ HW.out).mono ?_; rintro e w2 ⟨rfl, hag, hnm, b2, hsz⟩; clear hnm)
            go_ret
            exact ⟨by rw [HN.out]; simp [go_sem, HE.out], HW.out.trans (b2.mono HW.out.size)⟩
    · rw [show mayNames l = false by simp [mayNames, h1, h2]]
      go_enter Try.func27, Try.ntmps27
      go_wp2
      go_ret
      exact ⟨rfl, Below.refl _ _⟩
  · rw [show mayNames l = false by simp [mayNames, h1]]
    go_enter Try.func27, Try.ntmps27
    go_wp2
    go_ret
    exact ⟨rfl, Below.refl _ _⟩

theorem IsRus.slc {w : World} {F : Nat → Prop} {v : Value} {l : List Ru} (h : IsRus w F v l) : ∃ p c, v = .slice p l.length c := by
  obtain ⟨_, h, _⟩ := h
  exact h.slc
/-- A variable of three cells, behind what is new. -/
theorem var3 {w w' : World} {a b c : Value} {t : TypeId} (hb : Below (w.alloc (.cells #[a, b, c] t)).heap.size (w.alloc (.cells #[a, b, c] t)) w') : w'.cell? ⟨w.heap.size, 0, none⟩ = some a ∧ w'.cell? ⟨w.heap.size, 1, none⟩ = some b ∧ w'.cell? ⟨w.heap.size, 2, none⟩ = some c := by
  have hz : (w.alloc (.cells #[a, b, c] t)).heap.size = w.heap.size + 1 := by simp
  have hc : ∀ j, w'.cell? ⟨w.heap.size, j, none⟩ = (w.alloc (.cells #[a, b, c] t)).cell? ⟨w.heap.size, j, none⟩ := fun j => hb.cell (p := ⟨_, _, none⟩) (by rw [hz]; exact Nat.lt_succ_self _)
  exact ⟨(hc 0).trans (World.cell?_alloc_at _ _ _ _ rfl), (hc 1).trans (World.cell?_alloc_at _ _ _ _ rfl), (hc 2).trans (World.cell?_alloc_at _ _ _ _ rfl)⟩
set_option maxRecDepth 100000 in
set_option maxHeartbeats 4000000 in
theorem may_any (g : Gr) (v1 v2 : Value) (w : World) {F : Nat → Prop} (hg : GrIs w F v1 v2 g) (hl : ∀ s, s ∈ g.names → s.size ≤ maxLen) (hS : Short g.rules) : Calls Try.prog 20 #[.agg #[.int .i64 g.start, v1, v2]] w fun e w' => e = .returned (.bool (mayG g)) ∧ Below w.heap.size w w' := by
  have M1 : ∀ w2, Below w.heap.size w w2 → Calls Try.prog 27 #[v1] w2 fun e w' => e = .returned (.bool (mayNames g.names)) ∧ Below w2.heap.size w2 w' := fun w2 hb => mayNames_any v1 g.names w2 (hg.1.any hb) hl
  have M2 : ∀ w2, Calls Try.prog 28 #[.int .i64 g.start, .int .i64 (g.names.length : Int)] w2 fun e w' => e = .returned (.bool (isNum g.start g.names.length)) ∧ w2 = w' := fun w2 => isNumber_any _ _ _
  obtain ⟨q1, c1, hv1, hk, -⟩ := hg.1
  have hkm := hk.1
  have M3 : ∀ w2, Below w.heap.size w w2 → Calls Try.prog 29 #[v2, .int .i64 (g.names.length : Int)] w2 fun e w' => e = .returned (.bool (mayHeads g.names.length (-1) g.rules)) ∧ Below w2.heap.size w2 w' := fun w2 hb => mayHeads_any _ v2 g.rules w2 (hg.2.any hb) hkm
  have M4 : ∀ w2, Below w.heap.size w w2 → Calls Try.prog 30 #[v2, .int .i64 (g.names.length : Int)] w2 fun e w' => e = .returned (.bool (mayRules g.names.length g.rules)) ∧ Below w2.heap.size w2 w' := fun w2 hb => mayRules_any _ v2 g.rules w2 (hg.2.any hb) hS
  obtain ⟨q2, c2, hv2⟩ := hg.2.slc
  subst hv1 hv2
  unfold mayG
  generalize mayHeads g.names.length (-1) g.rules = r3 at M3 ⊢
  generalize mayRules g.names.length g.rules = r4 at M4 ⊢
  generalize mayNames g.names = r1 at M1 ⊢
  generalize isNum g.start g.names.length = r2 at M2 ⊢
  generalize g.names.length = n at M1 M2 M3 M4 hkm
  generalize g.start = z at M2 ⊢
  generalize g.rules.length = m at M3 M4
  unfold maxLen at hkm
  clear hk hg hl hS
  cases r1 with
  | false =>
    show Calls _ _ _ _ fun e w' => e = .returned (.bool false) ∧ _
    go_enter Try.func20, Try.ntmps20
    go_wp2_with (go_at_call 27; refine (M1 _ (bel1 _ _)).mono ?_; rintro e w1 ⟨rfl, b1⟩)
    go_ret
    exact ⟨rfl, bel_al (Below.refl _ _) (Nat.le_refl _) _ b1⟩
  | true =>
    cases r2 with
    | false =>
      show Calls _ _ _ _ fun e w' => e = .returned (.bool false) ∧ _
      go_enter Try.func20, Try.ntmps20
      go_wp2_with (first | (go_at_call 27; refine (M1 _ (bel1 _ _)).mono ?_; rintro e w1 ⟨rfl, b1⟩; obtain ⟨x0, x1, x2⟩ := var3 b1) | (go_at_call 28; refine (M2 _).mono ?_; rintro e w2 ⟨rfl, rfl⟩))
      go_ret
      exact ⟨rfl, bel_al (Below.refl _ _) (Nat.le_refl _) _ b1⟩
    | true =>
      cases r3 with
      | false =>
        show Calls _ _ _ _ fun e w' => e = .returned (.bool false) ∧ _
        go_enter Try.func20, Try.ntmps20
        go_wp2_with (first | (go_at_call 27; refine (M1 _ (bel1 _ _)).mono ?_; rintro e w1 ⟨rfl, b1⟩; obtain ⟨x0, x1, x2⟩ := var3 b1; have B1 : Hid (Below w.heap.size w w1) := bel_al (Below.refl _ _) (Nat.le_refl _) _ b1) | (go_at_call 28; refine (M2 _).mono ?_; rintro e w2 ⟨rfl, rfl⟩) | (go_at_call 29; refine (M3 _ B1.out).mono ?_; rintro e w3 ⟨rfl, b3⟩))
        go_ret
        exact ⟨rfl, B1.out.trans (b3.mono B1.out.size)⟩
      | true =>
        cases r4 with
        | false =>
          show Calls _ _ _ _ fun e w' => e = .returned (.bool false) ∧ _
          go_enter Try.func20, Try.ntmps20
          go_wp2_with (first | (go_at_call 27; refine (M1 _ (bel1 _ _)).mono ?_; rintro e w1 ⟨rfl, b1⟩; obtain ⟨x0, x1, x2⟩ := var3 b1; have B1 : Hid (Below w.heap.size w w1) := bel_al (Below.refl _ _) (Nat.le_refl _) _ b1) | (go_at_call 28; refine (M2 _).mono ?_; rintro e w2 ⟨rfl, rfl⟩) | (go_at_call 29; refine (M3 _ B1.out).mono ?_; rintro e w3 ⟨rfl, b3⟩; have B3 : Hid (Below w.heap.size w w3) := B1.out.trans (b3.mono B1.out.size); obtain ⟨y0, y1, y2⟩ := var3 (b1.trans (b3.mono b1.size))) | (go_at_call 30; refine (M4 _ B3.out).mono ?_; rintro e w4 ⟨rfl, b4⟩))
          go_ret
          exact ⟨rfl, B3.out.trans (b4.mono B3.out.size)⟩
        | true =>
          show Calls _ _ _ _ fun e w' => e = .returned (.bool true) ∧ _
          go_enter Try.func20, Try.ntmps20
          go_wp2_with (first | (go_at_call 27; refine (M1 _ (bel1 _ _)).mono ?_; rintro e w1 ⟨rfl, b1⟩; obtain ⟨x0, x1, x2⟩ := var3 b1; have B1 : Hid (Below w.heap.size w w1) := bel_al (Below.refl _ _) (Nat.le_refl _) _ b1) | (go_at_call 28; refine (M2 _).mono ?_; rintro e w2 ⟨rfl, rfl⟩) | (go_at_call 29; refine (M3 _ B1.out).mono ?_; rintro e w3 ⟨rfl, b3⟩; have B3 : Hid (Below w.heap.size w w3) := B1.out.trans (b3.mono B1.out.size); obtain ⟨y0, y1, y2⟩ := var3 (b1.trans (b3.mono b1.size))) | (go_at_call 30; refine (M4 _ B3.out).mono ?_; rintro e w4 ⟨rfl, b4⟩))
          go_ret
          exact ⟨rfl, B3.out.trans (b4.mono B3.out.size)⟩
end Go.Proofs.Ytopokicdgdjgkaa
