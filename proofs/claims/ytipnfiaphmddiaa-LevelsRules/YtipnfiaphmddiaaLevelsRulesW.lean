import Derived.Test.YtipnfiaphmddiaaStrTop
import Derived.Test.YtipnfiaphmddiaaStrT
import Derived.Test.YtipnfiaphmddiaaRefEdg
/- LevelsRules: walked. -/
namespace Go.Proofs.Ytipnfiaphmddiaa
set_option linter.unusedVariables false
open Go.ChangeShapes Go.WideShapes Go.ChangeAt Go.RowKit

/-- A grammar in a block of its own, and what is behind it. -/
def Bx (W : World) (s : Int) (v1 v2 : Value) (w : World) : Prop := Below W.heap.size W w ∧ W.heap.size < w.heap.size ∧ w.cell? ⟨W.heap.size, 0, none⟩ = some (.int .i64 s) ∧ w.cell? ⟨W.heap.size, 1, none⟩ = some v1 ∧ w.cell? ⟨W.heap.size, 2, none⟩ = some v2
theorem Bx.new (W : World) (s : Int) (v1 v2 : Value) : Bx W s v1 v2 (W.alloc (.cells #[.int .i64 s, v1, v2] 25)) :=
  ⟨bel1 _ _, by simp, World.cell?_alloc_at _ _ _ _ rfl, World.cell?_alloc_at _ _ _ _ rfl, World.cell?_alloc_at _ _ _ _ rfl⟩
theorem Bx.any {W : World} {s : Int} {v1 v2 : Value} {w w' : World} (h : Bx W s v1 v2 w) (hb : Below w.heap.size w w') : Bx W s v1 v2 w' :=
  ⟨h.1.trans (hb.mono h.1.size), Nat.lt_of_lt_of_le h.2.1 hb.size, (hb.cell (p := ⟨_, _, none⟩) h.2.1).trans h.2.2.1, (hb.cell (p := ⟨_, _, none⟩) h.2.1).trans h.2.2.2.1, (hb.cell (p := ⟨_, _, none⟩) h.2.1).trans h.2.2.2.2⟩
set_option maxHeartbeats 4000000 in
set_option maxRecDepth 100000 in
theorem levelsRules_no (W : World) (s : Int) (v1 v2 : Value) (k1 k2 : Option Addr × Nat × Nat) (e1 : v1 = .slice k1.1 k1.2.1 k1.2.2) (e2 : v2 = .slice k2.1 k2.2.1 k2.2.2)
    (KS : ∀ w, Below W.heap.size W w → Calls Try.prog 9 #[.agg #[.int .i64 s, v1, v2]] w fun e w' => e = .returned (.tuple #[.slice none 0 0, .slice none 0 0, .int .i64 800]) ∧ Hid (Below w.heap.size w w'))
    (KE : ∀ w, Below W.heap.size W w → Calls Try.prog 10 #[.agg #[.int .i64 s, v1, v2]] w fun e w' => e = .returned (.tuple #[.slice none 0 0, .int .i64 600]) ∧ Hid (Below w.heap.size w w')) :
    Calls Try.prog 3 #[.agg #[.int .i64 s, v1, v2]] W fun e W' => e = .returned (.bool true) ∧ Below W.heap.size W W' := by
  have HX1 : Hid (Bx W s v1 v2 (W.alloc (.cells #[.int .i64 s, v1, v2] 25))) := Bx.new _ _ _ _
  have HS : Hid (∀ w, Below W.heap.size W w → Calls Try.prog 9 #[.agg #[.int .i64 s, v1, v2]] w fun e w' => e = .returned (.tuple #[.slice none 0 0, .slice none 0 0, .int .i64 800]) ∧ Hid (Below w.heap.size w w')) := KS
  have HE : Hid (∀ w, Below W.heap.size W w → Calls Try.prog 10 #[.agg #[.int .i64 s, v1, v2]] w fun e w' => e = .returned (.tuple #[.slice none 0 0, .int .i64 600]) ∧ Hid (Below w.heap.size w w')) := KE
  subst e1 e2
  clear KS KE
  go_enter Try.func3, Try.ntmps3
  go_wp2_with (first
    | (go_at_call 8; refine (awake8_any _).mono ?_; rintro e wa ⟨rfl, ba⟩; have XA : Hid (Bx _ _ _ _ wa) := HX1.out.any ba.out; obtain ⟨-, z1, c0, c1, c2⟩ := XA.out)
    | (go_at_call 9; refine (HS.out _ XA.out.1).mono ?_; rintro e wb ⟨rfl, bb⟩; have XB : Hid (Bx _ _ _ _ wb) := XA.out.any bb.out; clear z1 c0 c1 c2; obtain ⟨-, z1, c0, c1, c2⟩ := XB.out)
    | (go_at_call 10; refine (HE.out _ XB.out.1).mono ?_; rintro e wc ⟨rfl, bc⟩; have XC : Hid (Bx _ _ _ _ wc) := XB.out.any bc.out)
    | (go_at_call 11; refine (num_any _ _).mono ?_; rintro e wn ⟨rfl, rfl⟩))
  go_ret
  exact ⟨rfl, XC.out.1⟩
set_option maxHeartbeats 4000000 in
set_option maxRecDepth 100000 in
theorem levelsRules_ok (W : World) (s : Int) (v1 v2 : Value) (n : Nat) (L : List Ed) (f : Nat → Nat) (k1 : Option Addr × Nat) (k2 : Option Addr × Nat × Nat) (e1 : v1 = .slice k1.1 n k1.2) (e2 : v2 = .slice k2.1 k2.2.1 k2.2.2) (hn : n ≤ 64) (h0 : 0 < n) (hL : edsB (n : Int) L = true) (hl : L.length ≤ 100000) (hs : ∀ e, e ∈ L → f e.2.1.toNat + stp e ≤ f e.1.toNat) (hf : ∀ i, i < n → f i < n)
    (KS : ∀ w, Below W.heap.size W w → Calls Try.prog 9 #[.agg #[.int .i64 s, v1, v2]] w fun e w' => ∃ u, e = .returned (.tuple #[u, .slice none 0 0, .int .i64 0]) ∧ Hid (IsInts w' (fun i => w.heap.size ≤ i) u (levL n f)) ∧ Hid (Below w.heap.size w w'))
    (KE : ∀ w, Below W.heap.size W w → Calls Try.prog 10 #[.agg #[.int .i64 s, v1, v2]] w fun e w' => ∃ v, e = .returned (.tuple #[v, .int .i64 0]) ∧ Hid (IsEds w' (fun i => w.heap.size ≤ i) v L) ∧ Hid (Below w.heap.size w w')) :
    Calls Try.prog 3 #[.agg #[.int .i64 s, v1, v2]] W fun e W' => e = .returned (.bool true) ∧ Below W.heap.size W W' := by
  have HX1 : Hid (Bx W s v1 v2 (W.alloc (.cells #[.int .i64 s, v1, v2] 25))) := Bx.new _ _ _ _
  have HS : Hid (∀ w, Below W.heap.size W w → Calls Try.prog 9 #[.agg #[.int .i64 s, v1, v2]] w fun e w' => ∃ u, e = .returned (.tuple #[u, .slice none 0 0, .int .i64 0]) ∧ Hid (IsInts w' (fun i => w.heap.size ≤ i) u (levL n f)) ∧ Hid (Below w.heap.size w w')) := KS
  have HE : Hid (∀ w, Below W.heap.size W w → Calls Try.prog 10 #[.agg #[.int .i64 s, v1, v2]] w fun e w' => ∃ v, e = .returned (.tuple #[v, .int .i64 0]) ∧ Hid (IsEds w' (fun i => w.heap.size ≤ i) v L) ∧ Hid (Below w.heap.size w w')) := KE
  have HSL : Hid (∀ e, e ∈ L → f e.2.1.toNat + stp e ≤ f e.1.toNat) := hs
  have HFN : Hid (∀ i, i < n → f i < n) := hf
  have HL : Hid (edsB (n : Int) L = true) := hL
  subst e1 e2
  clear KS KE hs hf hL
  go_enter Try.func3, Try.ntmps3
  go_upto_region 5 with (first
    | (go_at_call 8; refine (awake8_any _).mono ?_; rintro e wa ⟨rfl, ba⟩; have XA : Hid (Bx _ _ _ _ wa) := HX1.out.any ba.out; obtain ⟨-, z1, c0, c1, c2⟩ := XA.out)
    | (go_at_call 9; refine (HS.out _ XA.out.1).mono ?_; rintro e wb ⟨u, rfl, IU, bb⟩; have XB : Hid (Bx _ _ _ _ wb) := XA.out.any bb.out; clear z1 c0 c1 c2; obtain ⟨-, z1, c0, c1, c2⟩ := XB.out)
    | (go_at_call 10; refine (HE.out _ XB.out.1).mono ?_; rintro e wc ⟨v, rfl, IE, bc⟩; have XC : Hid (Bx _ _ _ _ wc) := XB.out.any bc.out; clear z1 c0 c1 c2))
  obtain ⟨-, z1, c0, c1, c2⟩ := XC.out
  have IU2 : Hid (IsInts wc _ u (levL n f)) := IU.out.any bc.out
  obtain ⟨p3, c3, hu⟩ := IU2.out.slc
  rw [levL_length] at hu
  obtain ⟨p4, c4, hv⟩ := IE.out.slc
  subst hu hv
  clear IU
  go_wp2_with (go_at_call 11; refine (num_any _ _).mono ?_; rintro e wn ⟨rfl, rfl⟩)
  go_loopw [9] (fun x wr => ∃ k : Nat, k ≤ L.length ∧ x = .int .i64 k ∧ Hid (Below wc.heap.size wc wr)) (fun x _ => L.length - (intOf x).toNat)
  case atStart => exact ⟨0, Nat.zero_le _, rfl, Below.refl _ _⟩
  case round =>
    obtain ⟨k, hk, rfl, HB⟩ := hrel
    by_cases hlt : k < L.length
    · obtain ⟨t, ht⟩ : ∃ t, L[k]? = some t := ⟨_, List.getElem?_eq_getElem hlt⟩
      obtain ⟨g1, o1, hp, hg1, a0, a1, a2⟩ := (IE.out.any HB.out).at ht
      subst hp
      have htm := List.mem_of_getElem? ht
      have hed := edB_lt (List.all_eq_true.1 HL.out t htm)
      have hst := HSL.out t htm
      obtain ⟨t0, t1, t2⟩ := t
      simp only at a0 a1 a2 hed hst
      obtain ⟨x, rfl⟩ : ∃ x : Nat, t0 = (x : Int) := ⟨t0.toNat, by omega⟩
      obtain ⟨y, rfl⟩ : ∃ y : Nat, t1 = (y : Int) := ⟨t1.toNat, by omega⟩
      rw [Int.toNat_natCast, Int.toNat_natCast] at hst
      have hx : x < n := by omega
      have hy : y < n := by omega
      obtain ⟨g2, o2, hp2, hg2, cx⟩ := (IU2.out.any HB.out).at (levL_at f hx)
      obtain ⟨g3, o3, hp3, hg3, cy⟩ := (IU2.out.any HB.out).at (levL_at f hy)
      subst hp2
      simp only [Option.some.injEq, Addr.mk.injEq, and_true] at hp3
      obtain ⟨rfl, rfl⟩ := hp3
      obtain ⟨fx, hfx⟩ : ∃ fx, fx = f x := ⟨_, rfl⟩
      obtain ⟨fy, hfy⟩ : ∃ fy, fy = f y := ⟨_, rfl⟩
      rw [← hfx] at cx hst
      rw [← hfy] at cy hst
      clear ht htm hed hfx hfy
      cases t2 with
      | false =>
        have n1 : ¬ (fx : Int) < (fy : Int) := by have : stp ((x : Int), (y : Int), false) = 0 := rfl; omega
        have n4 : ¬ fx < fy := by omega
        have n5 : decide ((fx : Int) < (fy : Int)) = false := by simpa using n4
        have n6 : decide (fx < fy) = false := by simpa using n4
        clear hst
        go_wp2
        go_quiet (fail)
        go_wp2
        go_roundw
        case rel => exact ⟨k + 1, by omega, by go_num, bel_drewN HB.out⟩
        case measure => simp [intOf]; omega
      | true =>
        have e9 : stp ((x : Int), (y : Int), true) = 1 := rfl
        have n1 : ¬ (fx : Int) < (fy : Int) := by omega
        have n2 : ((fx : Int) == (fy : Int)) = false := by simp; omega
        have n3 : ¬ fx = fy := by omega
        have n4 : ¬ fx < fy := by omega
        have n5 : decide ((fx : Int) < (fy : Int)) = false := by simpa using n4
        have n6 : decide (fx < fy) = false := by simpa using n4
        clear hst e9
        go_wp2
        go_quiet (fail)
        go_wp2
        go_roundw
        case rel => exact ⟨k + 1, by omega, by go_num, bel_drewN HB.out⟩
        case measure => simp [intOf]; omega
    · obtain rfl : k = L.length := by omega
      have XD : Hid (Bx _ _ _ _ wr) := XC.out.any HB.out
      clear z1 c0 c1 c2
      go_wp2
      go_loopw [8, 10] (fun z x wr => ∃ k m : Nat, k ≤ n ∧ x = .int .i64 k ∧ z = .int .i64 m ∧ m < n ∧ Hid (Below wc.heap.size wc wr)) (fun _ x _ => n - (intOf x).toNat)
      case atStart => exact ⟨0, 0, Nat.zero_le _, rfl, rfl, h0, HB⟩
      case round =>
        obtain ⟨k, m, hk, rfl, rfl, hm, HB⟩ := hrel
        by_cases hlt : k < n
        · obtain ⟨g2, o2, hp2, hg2, cx⟩ := (IU2.out.any HB.out).at (levL_at f hlt)
          subst hp2
          have hfk := HFN.out k hlt
          obtain ⟨fk, hfk2⟩ : ∃ fk, fk = f k := ⟨_, rfl⟩
          rw [← hfk2] at cx hfk
          clear hfk2
          go_wp2
          go_roundw
          case rel => exact ⟨k + 1, max m fk, by omega, by go_num, by congr 1; omega, by omega, HB⟩
          case measure => simp [intOf]; omega
        · obtain rfl : k = n := by omega
          have XE : Hid (Bx _ _ _ _ wr) := XC.out.any HB.out
          obtain ⟨-, z1, c0, c1, c2⟩ := XE.out
          have m1 : (m : Int) < (k : Int) := by omega
          go_wp2
          go_ret
          exact ⟨by simp [go_sem], XE.out.1⟩
end Go.Proofs.Ytipnfiaphmddiaa
/- LevelsRules, where there is a cycle: walked; and all of it. -/
namespace Go.Proofs.Ytipnfiaphmddiaa
set_option linter.unusedVariables false
open Go.ChangeShapes Go.WideShapes Go.ChangeAt Go.RowKit

def wantB (a b : Nat) (i : Nat) (e : Ed) : Bool := decide (e.1 = (a : Int)) && decide (e.2.1 = (b : Int)) && (e.2.2 || decide (0 < i))
theorem any_take {p : Ed → Bool} {l : List Ed} {k : Nat} {t : Ed} (ht : l[k]? = some t) : (l.take (k + 1)).any p = ((l.take k).any p || p t) := by
  rw [List.take_add_one, ht]; simp
set_option maxHeartbeats 8000000 in
set_option maxRecDepth 100000 in
theorem levelsRules_cyc (W : World) (s : Int) (v1 v2 : Value) (n : Nat) (L : List Ed) (C : List Nat) (k1 : Option Addr × Nat) (k2 : Option Addr × Nat × Nat) (e1 : v1 = .slice k1.1 n k1.2) (e2 : v2 = .slice k2.1 k2.2.1 k2.2.2) (hL : edsB (n : Int) L = true) (hl : L.length ≤ 100000) (hc0 : 0 < C.length) (hc1 : C.length ≤ 1000)
    (hC : ∀ i, i < C.length → ∃ a b : Nat, C[i]? = some a ∧ C[(i + 1) % C.length]? = some b ∧ L.any (wantB a b i) = true)
    (KS : ∀ w, Below W.heap.size W w → Calls Try.prog 9 #[.agg #[.int .i64 s, v1, v2]] w fun e w' => ∃ u, e = .returned (.tuple #[.slice none 0 0, u, .int .i64 801]) ∧ Hid (IsInts w' (fun i => w.heap.size ≤ i) u (C.map fun i => ((i : Nat) : Int))) ∧ Hid (Below w.heap.size w w'))
    (KE : ∀ w, Below W.heap.size W w → Calls Try.prog 10 #[.agg #[.int .i64 s, v1, v2]] w fun e w' => ∃ v, e = .returned (.tuple #[v, .int .i64 0]) ∧ Hid (IsEds w' (fun i => w.heap.size ≤ i) v L) ∧ Hid (Below w.heap.size w w')) :
    Calls Try.prog 3 #[.agg #[.int .i64 s, v1, v2]] W fun e W' => e = .returned (.bool true) ∧ Below W.heap.size W W' := by
  have HX1 : Hid (Bx W s v1 v2 (W.alloc (.cells #[.int .i64 s, v1, v2] 25))) := Bx.new _ _ _ _
  have HS : Hid (∀ w, Below W.heap.size W w → Calls Try.prog 9 #[.agg #[.int .i64 s, v1, v2]] w fun e w' => ∃ u, e = .returned (.tuple #[.slice none 0 0, u, .int .i64 801]) ∧ Hid (IsInts w' (fun i => w.heap.size ≤ i) u (C.map fun i => ((i : Nat) : Int))) ∧ Hid (Below w.heap.size w w')) := KS
  have HE : Hid (∀ w, Below W.heap.size W w → Calls Try.prog 10 #[.agg #[.int .i64 s, v1, v2]] w fun e w' => ∃ v, e = .returned (.tuple #[v, .int .i64 0]) ∧ Hid (IsEds w' (fun i => w.heap.size ≤ i) v L) ∧ Hid (Below w.heap.size w w')) := KE
  obtain ⟨m, hm⟩ : ∃ m, m = C.length := ⟨_, rfl⟩
  rw [← hm] at hc0 hc1 hC
  have HC : Hid (∀ i, i < m → ∃ a b : Nat, C[i]? = some a ∧ C[(i + 1) % m]? = some b ∧ L.any (wantB a b i) = true) := hC
  have HL : Hid (edsB (n : Int) L = true) := hL
  have HM : Hid (m = C.length) := hm
  subst e1 e2
  clear KS KE hC hL hm
  go_enter Try.func3, Try.ntmps3
  go_upto_region 5 with (first
    | (go_at_call 8; refine (awake8_any _).mono ?_; rintro e wa ⟨rfl, ba⟩; have XA : Hid (Bx _ _ _ _ wa) := HX1.out.any ba.out; obtain ⟨-, z1, c0, c1, c2⟩ := XA.out)
    | (go_at_call 9; refine (HS.out _ XA.out.1).mono ?_; rintro e wb ⟨u, rfl, IU, bb⟩; have XB : Hid (Bx _ _ _ _ wb) := XA.out.any bb.out; clear z1 c0 c1 c2; obtain ⟨-, z1, c0, c1, c2⟩ := XB.out)
    | (go_at_call 10; refine (HE.out _ XB.out.1).mono ?_; rintro e wc ⟨v, rfl, IE, bc⟩; have XC : Hid (Bx _ _ _ _ wc) := XB.out.any bc.out; clear z1 c0 c1 c2))
  have IU2 : Hid (IsInts wc _ u (C.map fun i => ((i : Nat) : Int))) := IU.out.any bc.out
  obtain ⟨p3, c3, hu⟩ := IU2.out.slc
  rw [List.length_map, ← HM.out] at hu
  obtain ⟨p4, c4, hv⟩ := IE.out.slc
  subst hu hv
  clear IU
  have n1 : ((m : Int) == 0) = false := by simp; omega
  have n2 : ¬ m = 0 := by omega
  have n3 : decide ((m : Int) = 0) = false := by simpa using n2
  go_wp2_with (go_at_call 11; refine (num_any _ _).mono ?_; rintro e wn ⟨rfl, rfl⟩)
  go_loopw [11] (fun x wr => ∃ k : Nat, k ≤ m ∧ x = .int .i64 k ∧ Hid (Below wc.heap.size wc wr)) (fun x _ => m - (intOf x).toNat)
  case atStart => exact ⟨0, Nat.zero_le _, rfl, Below.refl _ _⟩
  case round =>
    obtain ⟨i, hi, rfl, HB⟩ := hrel
    by_cases hlt : i < m
    · obtain ⟨a, b, ha, hb, hw⟩ := HC.out i hlt
      have hml : (i + 1) % m < m := Nat.mod_lt _ hc0
      obtain ⟨g2, o2, hp2, hg2, ca⟩ := (IU2.out.any HB.out).at (k := i) (z := (a : Int)) (by rw [List.getElem?_map, ha]; rfl)
      obtain ⟨g3, o3, hp3, hg3, cb⟩ := (IU2.out.any HB.out).at (k := (i + 1) % m) (z := (b : Int)) (by rw [List.getElem?_map, hb]; rfl)
      subst hp2
      simp only [Option.some.injEq, Addr.mk.injEq, and_true] at hp3
      obtain ⟨rfl, rfl⟩ := hp3
      have hrem : Int.tmod ((i : Int) + 1) (m : Int) = (((i + 1) % m : Nat) : Int) := by
        rw [show (i : Int) + 1 = ((i + 1 : Nat) : Int) by omega, ← Int.ofNat_tmod]
      obtain ⟨r, hr⟩ : ∃ r, r = (i + 1) % m := ⟨_, rfl⟩
      rw [← hr] at hml cb hrem
      have HW : Hid (L.any (wantB a b i) = true) := hw
      have HCA : Hid (∀ w', Below wc.heap.size wc w' → w'.cell? ⟨g2, o2 + i, none⟩ = some (.int .i64 (a : Int))) := fun w' hb' => by
        obtain ⟨g5, o5, hp5, hg5, c5⟩ := (IU2.out.any hb').at (k := i) (z := (a : Int)) (by rw [List.getElem?_map, ha]; rfl)
        simp only [Option.some.injEq, Addr.mk.injEq, and_true] at hp5
        obtain ⟨rfl, rfl⟩ := hp5
        exact c5
      clear ha hb hw hr
      go_wp2
      go_loopw [13, 14] (fun c x wr => ∃ j : Nat, j ≤ L.length ∧ x = .int .i64 j ∧ c = .bool ((L.take j).any (wantB a b i)) ∧ Hid (Below wc.heap.size wc wr)) (fun _ x _ => L.length - (intOf x).toNat)
      case atStart => exact ⟨0, Nat.zero_le _, rfl, rfl, HB⟩
      case round =>
        obtain ⟨j, hj, rfl, rfl, HB2⟩ := hrel
        by_cases hlj : j < L.length
        · obtain ⟨t, ht⟩ : ∃ t, L[j]? = some t := ⟨_, List.getElem?_eq_getElem hlj⟩
          obtain ⟨g1, o1, hp, hg1, a0, a1, a2⟩ := (IE.out.any HB2.out).at ht
          subst hp
          obtain ⟨t0, t1, t2⟩ := t
          simp only at a0 a1 a2
          have hn := any_take (p := wantB a b i) ht
          have c5 := HCA.out _ HB2.out
          cases hth : (L.take j).any (wantB a b i) with
          | true =>
            have HN : Hid ((L.take (j + 1)).any (wantB a b i) = true) := by show _ = _; rw [hn, hth]; rfl
            clear hn hth ht
            go_wp2
            go_quiet (fail)
            go_wp2
            go_roundw
            case rel => exact ⟨j + 1, by omega, by go_num, by rw [HN.out], bel_drewN HB2.out⟩
            case measure => simp [intOf]; omega
          | false =>
            have HN0 : Hid ((L.take (j + 1)).any (wantB a b i) = wantB a b i (t0, t1, t2)) := by show _ = _; rw [hn, hth]; rfl
            clear hn hth ht
            by_cases h1 : t0 = (a : Int)
            · subst h1
              by_cases h2 : t1 = (b : Int)
              · subst h2
                cases t2 with
                | true =>
                  have HN : Hid ((L.take (j + 1)).any (wantB a b i) = true) := by show _ = _; rw [HN0.out]; simp [wantB]
                  go_wp2
                  go_quiet (fail)
                  go_wp2
                  go_roundw
                  case rel => exact ⟨j + 1, by omega, by go_num, by rw [HN.out], bel_drewN HB2.out⟩
                  case measure => simp [intOf]; omega
                | false =>
                  by_cases h3 : 0 < i
                  · have HN : Hid ((L.take (j + 1)).any (wantB a b i) = true) := by show _ = _; rw [HN0.out]; simp [wantB, h3]
                    have h4 : (i : Int) > 0 := by omega
                    have h5 : decide ((i : Int) > 0) = true := by simpa using h3
                    go_wp2
                    go_quiet (fail)
                    go_wp2
                    go_roundw
                    case rel => exact ⟨j + 1, by omega, by go_num, by rw [HN.out], bel_drewN HB2.out⟩
                    case measure => simp [intOf]; omega
                  · have HN : Hid ((L.take (j + 1)).any (wantB a b i) = false) := by show _ = _; rw [HN0.out]; simp [wantB, h3]
                    have h4 : ¬ (i : Int) > 0 := by omega
                    have h5 : decide ((i : Int) > 0) = false := by simpa using h3
                    have h7 : decide (0 < i) = false := by simpa using h3
                    go_wp2
                    go_quiet (fail)
                    go_wp2
                    go_roundw
                    case rel => exact ⟨j + 1, by omega, by go_num, by rw [HN.out], bel_drewN HB2.out⟩
                    case measure => simp [intOf]; omega
              · have HN : Hid ((L.take (j + 1)).any (wantB a b i) = false) := by show _ = _; rw [HN0.out]; simp [wantB, h2]
                have h3 : (t1 == (b : Int)) = false := by simpa using h2
                have h4 : decide (t1 = (b : Int)) = false := by simpa using h2
                go_wp2
                go_quiet (fail)
                go_wp2
                go_roundw
                case rel => exact ⟨j + 1, by omega, by go_num, by rw [HN.out], bel_drewN HB2.out⟩
                case measure => simp [intOf]; omega
            · have HN : Hid ((L.take (j + 1)).any (wantB a b i) = false) := by show _ = _; rw [HN0.out]; simp [wantB, h1]
              have h3 : (t0 == (a : Int)) = false := by simpa using h1
              have h4 : decide (t0 = (a : Int)) = false := by simpa using h1
              go_wp2
              go_quiet (fail)
              go_wp2
              go_roundw
              case rel => exact ⟨j + 1, by omega, by go_num, by rw [HN.out], bel_drewN HB2.out⟩
              case measure => simp [intOf]; omega
        · obtain rfl : j = L.length := by omega
          have hth : (L.take L.length).any (wantB a b i) = true := by rw [List.take_length]; exact HW.out
          rw [hth]
          clear hth
          go_wp2
          go_roundw
          case rel => exact ⟨i + 1, by omega, by go_num, HB2⟩
          case measure => simp [intOf]; omega
    · obtain rfl : i = m := by omega
      have XD : Hid (Bx _ _ _ _ wr) := XC.out.any HB.out
      go_wp2
      go_ret
      exact ⟨rfl, XD.out.1⟩
theorem want_any {L : List Ed} {e : Ed} {a b i : Nat} {n : Nat} (hl : edsB (n : Int) L = true) (he : e ∈ L) (h1 : e.1.toNat = a) (h2 : e.2.1.toNat = b) (h3 : e.2.2 = true ∨ 0 < i) : L.any (wantB a b i) = true := by
  rw [List.any_eq_true]
  refine ⟨e, he, ?_⟩
  have := edB_lt (List.all_eq_true.1 hl e he)
  unfold wantB
  simp only [Bool.and_eq_true, Bool.or_eq_true, decide_eq_true_eq]
  exact ⟨⟨by omega, by omega⟩, h3⟩
theorem levelsRules_walk (W : World) (g : Gr) (v1 v2 : Value) (ga : GrIs W Any v1 v2 g) (gn : ∀ s, s ∈ g.names → s.size ≤ maxLen ∧ s.size ≤ reachBytes) (gs : ∀ r, r ∈ g.rules → ∀ c, c ∈ r.conj → c.seq.length * 24 ≤ reachBytes) (w0 : (Lit.int .i64 g.start).wf = true) :
    Calls Try.prog 3 #[.agg #[.int .i64 g.start, v1, v2]] W fun e W' => e = .returned (.bool true) ∧ Below W.heap.size W W' := by
  have hS : Short g.rules := fun r hr c hc => by have := gs r hr c hc; unfold reachBytes at this; omega
  have hN : ∀ s, s ∈ g.names → s.size ≤ maxLen := fun s h => (gn s h).1
  obtain ⟨p1, l1, hv1⟩ : ∃ p c, v1 = .slice p g.names.length c := by obtain ⟨p, c, e, _⟩ := ga.1; exact ⟨_, _, e⟩
  obtain ⟨p2, c2, hv2⟩ := ga.2.slc
  cases hM : mayG g with
  | false =>
    exact levelsRules_no W g.start v1 v2 (p1, g.names.length, l1) (p2, g.rules.length, c2) hv1 hv2 (fun w hb => strata_no g v1 v2 w (ga.any hb) hN hS hM) (fun w hb => refEdges_no g v1 v2 w (ga.any hb) hN hM)
  | true =>
    have hm := mayE_edges hM
    obtain ⟨h0, h1, hl⟩ := mayE_all hm
    have hlen : (edgesT g).length ≤ 100000 := by
      have h1 := allE_len hM
      have h2 := addAll_len (allE g.rules) []
      have h3 := (sort_perm (addAll [] (allE g.rules))).length_eq
      unfold edgesT
      simp only [List.length_nil] at h2
      omega
    cases hc : (edgesT g).find? (badE g.names.length (edgesT g)) with
    | none =>
      have hcl := clean_of hl hc
      exact levelsRules_ok W g.start v1 v2 g.names.length (edgesT g) (levT g.names.length (edgesT g)) (p1, l1) (p2, g.rules.length, c2) hv1 hv2 (by omega) (mayG_pos hM) hl hlen (fun e he => lev_edge hl hcl he) (fun i hi => lev_lt hl hcl hi)
        (fun w hb => strata_ok g v1 v2 w (ga.any hb) hN hS hM hc) (fun w hb => refEdges_ok g v1 v2 w (ga.any hb) hN hM)
    | some t =>
      have htm := List.mem_of_find?_eq_some hc
      have hbad := (bad_iff hl htm).1 (List.find?_some hc)
      have hed := edB_lt (List.all_eq_true.1 hl t htm)
      -- the distances are the same in each call
      obtain ⟨f, hf⟩ : ∃ f, FarIs (edgesT g) t.1.toNat f := by
        refine ⟨fun i => open Classical in if h : ∃ k, St (edgesT g) k i t.1.toNat then ((Classical.choose (exists_least h) : Nat) : Int) else -1, fun i => ?_⟩
        by_cases h : ∃ k, St (edgesT g) k i t.1.toNat
        · right
          have h2 := Classical.choose_spec (exists_least h)
          exact ⟨_, dif_pos h, h2.1, h2.2⟩
        · left
          exact ⟨dif_neg h, fun k hk => h ⟨k, hk⟩⟩
      obtain ⟨d, hd⟩ : ∃ d : Nat, f t.2.1.toNat = (d : Int) := by
        obtain ⟨k, hk⟩ := hbad.2
        rcases hf t.2.1.toNat with ⟨_, h⟩ | ⟨d, h, _⟩
        · exact absurd hk (h k)
        · exact ⟨d, h⟩
      have hd64 : d < g.names.length := by
        have := far_le hl (by omega) hf t.2.1.toNat
        omega
      have hte : ((t.1.toNat : Int), (t.2.1.toNat : Int), true) ∈ edgesT g := by
        have : ((t.1.toNat : Int), (t.2.1.toNat : Int), true) = t := by
          refine Prod.ext (by simp; omega) (Prod.ext (by simp; omega) hbad.1.symm)
        rw [this]; exact htm
      refine levelsRules_cyc W g.start v1 v2 g.names.length (edgesT g) (t.1.toNat :: wayT (edgesT g) f d t.2.1.toNat) (p1, l1) (p2, g.rules.length, c2) hv1 hv2 hl hlen (by simp) (by simp [wayT_length]; omega) (fun i hi => ?_) (fun w hb => ?_) (fun w hb => refEdges_ok g v1 v2 w (ga.any hb) hN hM)
      · rw [List.length_cons, wayT_length] at hi ⊢
        obtain ⟨a, b, h1, h2, e, he, h3, h4, h5⟩ := cyc_edges (n := g.names.length) hf hd hte hi
        exact ⟨a, b, h1, h2, want_any hl he h3 h4 h5⟩
      · refine (strata_cyc g v1 v2 w (ga.any hb) hN hS hM t hc).mono ?_
        rintro e w' ⟨u, f', h1, h2, h3, h4⟩
        obtain rfl := hf.unique h2.out
        refine ⟨u, h1, ?_, h4⟩
        have h5 := h3.out
        unfold cycT at h5
        rw [hd, Int.toNat_natCast] at h5
        exact h5
end Go.Proofs.Ytipnfiaphmddiaa
