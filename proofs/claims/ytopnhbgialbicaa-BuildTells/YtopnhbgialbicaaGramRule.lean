import Derived.Test.YtopnhbgialbicaaGramMay
import Derived.Test.YtopnhbgialbicaaLexPlac
/- Heads, rules, names: the program's tests against their plain functions. -/
namespace Go.Proofs.Ytopnhbgialbicaa
set_option linter.unusedVariables false
open Go.ChangeShapes Go.WideShapes Go.ChangeAt Go.RowKit

theorem drop_at {α : Type} {l : List α} {k : Nat} {a : α} (h : l[k]? = some a) : l.drop k = a :: l.drop (k + 1) := by
  have hlt : k < l.length := (List.getElem?_eq_some_iff.1 h).1
  have e : l[k] = a := (List.getElem?_eq_some_iff.1 h).2
  rw [List.drop_eq_getElem_cons hlt, e]
theorem bel_al {B : Nat} {w w1 w2 : World} (h : Below B w w1) (hB : B ≤ w1.heap.size) (o : Obj) (h2 : Below (w1.alloc o).heap.size (w1.alloc o) w2) : Below B w w2 :=
  (h.alloc hB o).trans (h2.mono (Nat.le_trans hB (le_alloc _ _)))
theorem Reads.slc {w : World} {F : Nat → Prop} {v : Value} {n : Nat} {cs : List Value} (h : Reads w F v n cs) : ∃ p c, v = .slice p n c := by
  obtain ⟨p, c, e, _⟩ := h
  exact ⟨p, c, e⟩
theorem IsCns.slc {w : World} {F : Nat → Prop} {v : Value} {l : List Cn} (h : IsCns w F v l) : ∃ p c, v = .slice p l.length c := by
  obtain ⟨_, h, _⟩ := h
  exact h.slc

set_option maxHeartbeats 4000000 in
set_option maxRecDepth 100000 in
theorem mayHeads_any (K : Nat) (v : Value) (l : List Ru) (w : World) {F : Nat → Prop} (ha : IsRus w F v l) (hK : K ≤ maxLen) : Calls Try.prog 18 #[v, .int .i64 (K : Int)] w fun e w' => e = .returned (.bool (mayHeads K (-1) l)) ∧ Below w.heap.size w w' := by
  obtain ⟨us, ⟨p, cp, rfl, hm, hca⟩, hla, hia⟩ := ha
  replace hm := hm.1
  unfold maxLen at hm hK
  have HA : Hid (0 < l.length → ∃ g o, p = some ⟨g, o, none⟩ ∧ F g ∧ g < w.heap.size ∧ (∀ j c, (rusV l us)[j]? = some c → w.cell? ⟨g, o + j, none⟩ = some c) ∧ ∀ j, j < ((rusV l us)).length → w.frozen? ⟨g, o + j, none⟩ = false) := hca
  have IA : Hid (us.length = l.length ∧ ∀ (k : Nat) (c : Ru) (u : Value), l[k]? = some c → us[k]? = some u → IsCns w F u c.conj) := ⟨hla, hia⟩
  clear hca hla hia
  obtain ⟨R, hR⟩ : ∃ R, R = mayHeads K (-1) l := ⟨_, rfl⟩
  have HR : Hid (R = mayHeads K (-1) l) := hR
  rw [← hR]
  clear hR
  go_enter Try.func18, Try.ntmps18
  go_wp2
  go_loopw [5, 10] (fun x i wr => ∃ (k : Nat) (z : Int), k ≤ l.length ∧ x = .int .i64 z ∧ i = .int .i64 k ∧ Hid (Below w.heap.size w wr) ∧ Hid (mayHeads K z (l.drop k) = R) ∧ -1 ≤ z ∧ (z < (K : Int) ∨ z = -1)) (fun _ i _ => l.length - (intOf i).toNat)
  case atStart => exact ⟨0, -1, by omega, rfl, rfl, Below.refl _ _, HR.out.symm, by omega, Or.inr rfl⟩
  case round =>
    obtain ⟨k, z, hk, rfl, rfl, HW, HT, hz1, hz2⟩ := hrel
    have hzz : z < 9223372036854775807 := by omega
    by_cases hlt : k < l.length
    · obtain ⟨t, ht⟩ : ∃ t, l[k]? = some t := ⟨_, List.getElem?_eq_getElem hlt⟩
      obtain ⟨u, hu⟩ : ∃ u, us[k]? = some u := ⟨_, List.getElem?_eq_getElem (by rw [IA.out.1]; exact hlt)⟩
      obtain ⟨g1, o1, hp, -, hg1, ca, -⟩ := HA.out (by omega)
      subst hp
      obtain ⟨i0, i1⟩ := rusV_at l us k t u ht hu
      have a0 := (HW.out.cell (p := ⟨_, _, none⟩) hg1).trans (ca _ _ i0)
      have a1 := (HW.out.cell (p := ⟨_, _, none⟩) hg1).trans (reas (ca _ _ i1))
      obtain ⟨u1, u2, hx⟩ := (IA.out.2 k t u ht hu).slc
      subst hx
      have HD : Hid (l.drop k = t :: l.drop (k + 1)) := drop_at ht
      obtain ⟨hd, cj⟩ := t
      simp only at a0 a1
      have NU := fun w => isNumber_any hd K w
      cases hn : isNum hd K with
      | false =>
        rw [hn] at NU
        have HN : Hid (R = false) := by show _ = _; rw [← HT.out, HD.out]; unfold mayHeads; rw [hn]; rfl
        clear ca ht hu hg1 i0 i1 hn
        go_wp2_with (go_at_call 17; refine (NU _).mono ?_; rintro e wn ⟨rfl, rfl⟩)
        go_ret
        exact ⟨by rw [HN.out]; rfl, HW.out.alloc HW.out.size _⟩
      | true =>
        rw [hn] at NU
        have hn1 : 0 ≤ hd ∧ hd < (K : Int) := by simpa [isNum] using hn
        by_cases e1 : hd = z
        · have HN : Hid (mayHeads K hd (l.drop (k + 1)) = R) := by show _ = _; rw [← HT.out, HD.out]; rw [mayHeads, hn]; simp [e1]
          clear ca ht hu hg1 i0 i1 hn
          subst e1
          have e1' : (hd != hd) = false := by simp
          go_wp2_with (go_at_call 17; refine (NU _).mono ?_; rintro e wn ⟨rfl, rfl⟩)
          go_roundw
          case rel => exact ⟨k + 1, hd, by omega, rfl, by go_num, HW.out.alloc HW.out.size _, HN, by omega, Or.inl hn1.2⟩
          case measure => simp [intOf]; omega
        · by_cases e2 : hd = z + 1
          · have HN : Hid (mayHeads K hd (l.drop (k + 1)) = R) := by show _ = _; rw [← HT.out, HD.out]; rw [mayHeads, hn]; simp [e2]
            clear ca ht hu hg1 i0 i1 hn
            have e1' : (hd != z) = true := by simp [e1]
            subst e2
            have e2' : (z + 1 != z + 1) = false := by simp
            go_wp2_with (go_at_call 17; refine (NU _).mono ?_; rintro e wn ⟨rfl, rfl⟩)
            go_roundw
            case rel => exact ⟨k + 1, z + 1, by omega, rfl, by go_num, HW.out.alloc HW.out.size _, HN, by omega, Or.inl hn1.2⟩
            case measure => simp [intOf]; omega
          · have HN : Hid (R = false) := by show _ = _; rw [← HT.out, HD.out]; rw [mayHeads, hn]; simp [e1, e2]
            clear ca ht hu hg1 i0 i1 hn
            have e1' : (hd != z) = true := by simp [e1]
            have e2' : (hd != z + 1) = true := by simp [e2]
            go_wp2_with (go_at_call 17; refine (NU _).mono ?_; rintro e wn ⟨rfl, rfl⟩)
            go_ret
            exact ⟨by rw [HN.out]; rfl, HW.out.alloc HW.out.size _⟩
    · obtain rfl : k = l.length := by omega
      have HN : Hid (R = decide (z = (K : Int) - 1)) := by show _ = _; rw [← HT.out, List.drop_length]; rfl
      by_cases e1 : z = (K : Int) - 1
      · have e1' : (z == (K : Int) - 1) = true := by simp [e1]
        go_wp2
        go_ret
        exact ⟨by rw [HN.out]; simp [e1, go_sem], HW.out⟩
      · have e1' : (z == (K : Int) - 1) = false := by simp [e1]
        go_wp2
        go_ret
        exact ⟨by rw [HN.out]; simp [e1, go_sem], HW.out⟩
end Go.Proofs.Ytopnhbgialbicaa
/- The rules of a grammar: the program's test against its plain function. -/
namespace Go.Proofs.Ytopnhbgialbicaa
set_option linter.unusedVariables false
open Go.ChangeShapes Go.WideShapes Go.ChangeAt Go.RowKit

def goOn (K : Nat) (l : List Ru) : Option Nat → Bool
  | none => false
  | some m => mayRs K m l
theorem mayRs_cons (K n : Nat) (r : Ru) (l : List Ru) : mayRs K n (r :: l) = if 1 ≤ r.conj.length ∧ r.conj.length ≤ 8 then goOn K l (mayCs K n r.conj) else false := by
  rw [mayRs]
  split
  · cases mayCs K n r.conj <;> rfl
  · rfl
/-- No row is longer than memory. -/
def Short (l : List Ru) : Prop := ∀ r, r ∈ l → ∀ c, c ∈ r.conj → c.seq.length ≤ 140737488355328
set_option maxRecDepth 100000 in
set_option maxHeartbeats 4000000 in
theorem mayRules_any (K : Nat) (v : Value) (l : List Ru) (w : World) {F : Nat → Prop} (ha : IsRus w F v l) (hS : Short l) : Calls Try.prog 19 #[v, .int .i64 (K : Int)] w fun e w' => e = .returned (.bool (mayRules K l)) ∧ Below w.heap.size w w' := by
  obtain ⟨us, ⟨p, cp, rfl, hm, hca⟩, hla, hia⟩ := ha
  replace hm := hm.1
  unfold maxLen at hm
  have HS0 : Hid (Short l) := hS
  clear hS
  have HA : Hid (0 < l.length → ∃ g o, p = some ⟨g, o, none⟩ ∧ F g ∧ g < w.heap.size ∧ (∀ j c, (rusV l us)[j]? = some c → w.cell? ⟨g, o + j, none⟩ = some c) ∧ ∀ j, j < ((rusV l us)).length → w.frozen? ⟨g, o + j, none⟩ = false) := hca
  have IA : Hid (us.length = l.length ∧ ∀ (k : Nat) (c : Ru) (u : Value), l[k]? = some c → us[k]? = some u → IsCns w F u c.conj) := ⟨hla, hia⟩
  clear hca hla hia
  by_cases h1 : 1 ≤ l.length
  · by_cases h2 : l.length ≤ 256
    · rw [show mayRules K l = mayRs K 0 l by simp [mayRules, h1, h2]]
      obtain ⟨R, hR⟩ : ∃ R, R = mayRs K 0 l := ⟨_, rfl⟩
      have HR : Hid (R = mayRs K 0 l) := hR
      rw [← hR]
      clear hR
      go_enter Try.func19, Try.ntmps19
      go_wp2
      go_loopw [5, 20] (fun x i wr => ∃ (k n : Nat), k ≤ l.length ∧ n ≤ 1024 ∧ x = .int .i64 n ∧ i = .int .i64 k ∧ Hid (Below w.heap.size w wr) ∧ Hid (mayRs K n (l.drop k) = R)) (fun _ i _ => l.length - (intOf i).toNat)
      case atStart => exact ⟨0, 0, by omega, by omega, rfl, rfl, Below.refl _ _, HR.out.symm⟩
      case round =>
        obtain ⟨k, n, hk, hn, rfl, rfl, HW, HT⟩ := hrel
        by_cases hlt : k < l.length
        · obtain ⟨t, ht⟩ : ∃ t, l[k]? = some t := ⟨_, List.getElem?_eq_getElem hlt⟩
          obtain ⟨u, hu⟩ : ∃ u, us[k]? = some u := ⟨_, List.getElem?_eq_getElem (by rw [IA.out.1]; exact hlt)⟩
          obtain ⟨g1, o1, hp, -, hg1, ca, -⟩ := HA.out (by omega)
          subst hp
          obtain ⟨i0, i1⟩ := rusV_at l us k t u ht hu
          have a0 := (HW.out.cell (p := ⟨_, _, none⟩) hg1).trans (ca _ _ i0)
          have a1 := (HW.out.cell (p := ⟨_, _, none⟩) hg1).trans (reas (ca _ _ i1))
          have HC : Hid (IsCns w F u t.conj) := IA.out.2 k t u ht hu
          have HT2 := HT.out
          have HS1 : Hid (∀ c, c ∈ t.conj → c.seq.length ≤ 140737488355328) := HS0.out t (List.mem_of_getElem? ht)
          rw [drop_at ht, mayRs_cons] at HT2
          obtain ⟨hd, cj⟩ := t
          simp only at a0 a1 HC HT2 HS1
          clear ca ht hu hg1 i0 i1
          by_cases e1 : 1 ≤ cj.length
          · by_cases e2 : cj.length ≤ 8
            · rw [if_pos ⟨e1, e2⟩] at HT2
              have HO : Hid (goOn K (l.drop (k + 1)) (mayCs K n cj) = R) := HT2
              clear HT2
              obtain ⟨vs, ⟨q, cq, hx, -, hcb⟩, hlb, hib⟩ := HC.out
              subst hx
              have HB : Hid (0 < cj.length → ∃ g o, q = some ⟨g, o, none⟩ ∧ F g ∧ g < w.heap.size ∧ (∀ j c, (cnsV cj vs)[j]? = some c → w.cell? ⟨g, o + j, none⟩ = some c) ∧ ∀ j, j < ((cnsV cj vs)).length → w.frozen? ⟨g, o + j, none⟩ = false) := hcb
              have IB : Hid (vs.length = cj.length ∧ ∀ (k : Nat) (c : Cn) (u : Value), cj[k]? = some c → vs[k]? = some u → IsSys w F u c.seq) := ⟨hlb, hib⟩
              clear hcb hlb hib
              go_wp2
              have HX : Hid (Below w.heap.size w (wr.alloc (.cells #[.int .i64 hd, .slice q cj.length cq] 53))) := HW.out.alloc HW.out.size _
              have hws : w.heap.size ≤ wr.heap.size := HW.out.size
              go_loopw [5, 37] (fun x i wz => ∃ (j m : Nat), j ≤ cj.length ∧ m ≤ 1024 ∧ x = .int .i64 m ∧ i = .int .i64 j ∧ Hid (Below w.heap.size w wz) ∧ Hid (goOn K (l.drop (k + 1)) (mayCs K m (cj.drop j)) = R)) (fun _ i _ => cj.length - (intOf i).toNat)
              case atStart => exact ⟨0, n, by omega, by omega, rfl, rfl, HX, HO⟩
              case round =>
                obtain ⟨j, m, hj, hm2, rfl, rfl, HZ, HY⟩ := hrel
                by_cases hjt : j < cj.length
                · obtain ⟨c, hc⟩ : ∃ c, cj[j]? = some c := ⟨_, List.getElem?_eq_getElem hjt⟩
                  obtain ⟨y, hy⟩ : ∃ y, vs[j]? = some y := ⟨_, List.getElem?_eq_getElem (by rw [IB.out.1]; exact hjt)⟩
                  obtain ⟨g2, o2, hq, -, hg2, cb, -⟩ := HB.out (by omega)
                  subst hq
                  obtain ⟨j0, j1⟩ := cnsV_at cj vs j c y hc hy
                  have b0 := (HZ.out.cell (p := ⟨_, _, none⟩) hg2).trans (cb _ _ j0)
                  have b1 := (HZ.out.cell (p := ⟨_, _, none⟩) hg2).trans (reas (cb _ _ j1))
                  have HS : Hid (IsSys w F y c.seq) := IB.out.2 j c y hc hy
                  have HY2 := HY.out
                  have hsl := HS1.out c (List.mem_of_getElem? hc)
                  rw [drop_at hc, mayCs] at HY2
                  obtain ⟨ng, sq⟩ := c
                  simp only at b0 b1 HS HY2 hsl
                  have MR : ∀ w2, Below w.heap.size w w2 → Calls Try.prog 33 #[y, .int .i64 (K : Int)] w2 fun e w' => e = .returned (.bool (mayRow K sq)) ∧ Below w2.heap.size w2 w' := fun w2 hb => mayRow_any K y sq w2 (Reads.any HS.out hb)
                  obtain ⟨y1, y3, hx⟩ := Reads.slc HS.out
                  subst hx
                  clear cb hc hy hg2 j0 j1
                  by_cases f1 : m + sq.length ≤ 1024
                  · cases f2 : mayRow K sq with
                    | true =>
                      rw [f2] at MR
                      rw [if_pos ⟨f1, f2⟩] at HY2
                      have HN : Hid (goOn K (l.drop (k + 1)) (mayCs K (m + sq.length) (cj.drop (j + 1))) = R) := HY2
                      clear HY2 f2
                      go_wp2_with (go_at_call 33; refine (MR _ (HZ.out.alloc HZ.out.size _)).mono ?_; rintro e w3 ⟨rfl, b3⟩)
                      go_roundw
                      case rel => exact ⟨j + 1, m + sq.length, by omega, f1, by go_num, by go_num, bel_al HZ.out HZ.out.size _ b3, HN⟩
                      case measure => simp [intOf]; omega
                    | false =>
                      rw [f2] at MR
                      rw [if_neg (by rintro ⟨-, h⟩; rw [f2] at h; cases h)] at HY2
                      have HN : Hid (R = false) := HY2.symm
                      clear HY2 f2
                      go_wp2_with (go_at_call 33; refine (MR _ (HZ.out.alloc HZ.out.size _)).mono ?_; rintro e w3 ⟨rfl, b3⟩)
                      go_ret
                      exact ⟨by rw [HN.out]; rfl, bel_al HZ.out HZ.out.size _ b3⟩
                  · rw [if_neg (by rintro ⟨h, -⟩; exact f1 h)] at HY2
                    have HN : Hid (R = false) := HY2.symm
                    clear HY2
                    clear MR
                    go_wp2
                    go_ret
                    exact ⟨by rw [HN.out]; rfl, HZ.out.alloc HZ.out.size _⟩
                · obtain rfl : j = cj.length := by omega
                  have HY2 := HY.out
                  rw [List.drop_length] at HY2
                  have HN : Hid (mayRs K m (l.drop (k + 1)) = R) := HY2
                  clear HY2
                  go_wp2
                  go_roundw
                  case rel => exact ⟨k + 1, m, by omega, hm2, rfl, by go_num, HZ, HN⟩
                  case measure => simp [intOf]; omega
            · rw [if_neg (by rintro ⟨-, h⟩; exact e2 h)] at HT2
              have HN : Hid (R = false) := HT2.symm
              clear HT2
              obtain ⟨q, cq, hx⟩ := HC.out.slc
              subst hx
              go_wp2
              go_ret
              exact ⟨by rw [HN.out]; rfl, HW.out.alloc HW.out.size _⟩
          · rw [if_neg (by rintro ⟨h, -⟩; exact e1 h)] at HT2
            have HN : Hid (R = false) := HT2.symm
            clear HT2
            obtain ⟨q, cq, hx⟩ := HC.out.slc
            subst hx
            go_wp2
            go_ret
            exact ⟨by rw [HN.out]; rfl, HW.out.alloc HW.out.size _⟩
        · obtain rfl : k = l.length := by omega
          have HT2 := HT.out
          rw [List.drop_length] at HT2
          have HN : Hid (R = true) := HT2.symm
          go_wp2
          go_ret
          exact ⟨by rw [HN.out]; rfl, HW.out⟩
    · rw [show mayRules K l = false by simp [mayRules, h1, h2]]
      go_enter Try.func19, Try.ntmps19
      go_wp2
      go_ret
      exact ⟨rfl, Below.refl _ _⟩
  · rw [show mayRules K l = false by simp [mayRules, h1]]
    go_enter Try.func19, Try.ntmps19
    go_wp2
    go_ret
    exact ⟨rfl, Below.refl _ _⟩
end Go.Proofs.Ytopnhbgialbicaa
