/- DependsMore, walked. -/
import Derived.Test.YtdoibpgkfdpbdaaDeepC
import Derived.Test.YtdoibpgkfdpbdaaDepMoreP
import Derived.Deep.RegionHeld3
import Derived.BigRegion
namespace Go.Proofs.Ytdoibpgkfdpbdaa
set_option linter.unusedVariables false
set_option linter.unusedSimpArgs false
open Go.ChangeShapes Go.WideShapes Go.ChangeAt Go.RowKit

theorem Try.infoSymD : (Try.prog.info? 44).map (fun i => (i.zero, i.size, i.bytes)) = some (some (.agg #[.int .i64 0, .int .i64 0, .int .i64 0]), 3, 24) := by kernel_rfl
theorem hid_ofD {p : Prop} (h : p) : Hid p := h
theorem cell_inD {w : World} {b j : Nat} {v : Value} (h : w.cell? ⟨b, j, none⟩ = some v) : b < w.heap.size := cellC_lt h
theorem modD_lt (x : Int) (m : Nat) (hm : 0 < m) : ∃ r : Nat, r < m ∧ (IntKind.u64.wrap x).tmod (m : Int) = (r : Int) := by
  have h0 : 0 ≤ IntKind.u64.wrap x := by rw [IntKind.wrap_u64]; omega
  have h1 := Int.emod_nonneg (IntKind.u64.wrap x) (b := (m : Int)) (by omega)
  have h2 := Int.emod_lt_of_pos (IntKind.u64.wrap x) (b := (m : Int)) (by omega)
  rw [Int.tmod_eq_emod_of_nonneg h0]
  exact ⟨((IntKind.u64.wrap x) % (m : Int)).toNat, by omega, by omega⟩
theorem region_classD {P : Program} {id : Nat} {Q : Exit → Act → World → Prop} {a : Act} {w : World} {l : List Oper} {ι : Type} (f : ι → World) (hm : P.follows .mixedOrders = true) (hB : Region.lexB .any l.toArray = true) (h0 : ∃ n, w.drew = f n)
    (h : wpQuiet P l.toArray (fun w' => ∃ n, w' = f n) (fun a' => ∀ w', (∃ n, w' = f n) → Q .normal a' w') l a) : (Code.region id l.toArray true).wp P Q a w :=
  wp_region_quiet (C := fun w' => ∃ n, w' = f n) hm hB h0 (by simpa using h)
theorem family2D (I : World → Prop) (w : World) (h : I w) : ∃ (ι : Type) (f : ι → World) (n0 : ι), w = f n0 ∧ (∀ n, I (f n)) ∧ ∀ w', I w' → ∃ m, w' = f m :=
  ⟨{x // I x}, Subtype.val, ⟨w, h⟩, rfl, Subtype.property, fun w' h => ⟨⟨w', h⟩, rfl⟩⟩
theorem laterD {w w' : World} {b j : Nat} {v : Value} (h : w.cell? ⟨b, j, none⟩ = some v) (hb : Below w.heap.size w w') : w'.cell? ⟨b, j, none⟩ = some v := (hb.cell (p := ⟨b, j, none⟩) (cellC_lt h)).trans h
theorem belD_alloc {W w' : World} {o : Obj} (h : Below W.heap.size W w') : Below W.heap.size W (w'.alloc o) := h.alloc h.size o
theorem belD_drewN {B : Nat} {a w : World} (h : Below B a w) (n : Nat) : Below B a (w.drewN n) := ⟨h.os, h.tape, h.output, h.size, h.block⟩
/-- A grammar in a block of its own, and what is behind it. -/
def BxD (W : World) (s : Int) (v1 v2 : Value) (w : World) : Prop := Below W.heap.size W w ∧ W.heap.size < w.heap.size ∧ w.cell? ⟨W.heap.size, 0, none⟩ = some (.int .i64 s) ∧ w.cell? ⟨W.heap.size, 1, none⟩ = some v1 ∧ w.cell? ⟨W.heap.size, 2, none⟩ = some v2
theorem BxD.new (W : World) (s : Int) (v1 v2 : Value) : BxD W s v1 v2 (W.alloc (.cells #[.int .i64 s, v1, v2] 25)) :=
  ⟨bel1 _ _, by simp, World.cell?_alloc_at _ _ _ _ rfl, World.cell?_alloc_at _ _ _ _ rfl, World.cell?_alloc_at _ _ _ _ rfl⟩
theorem BxD.any {W : World} {s : Int} {v1 v2 : Value} {w w' : World} (h : BxD W s v1 v2 w) (hb : Below w.heap.size w w') : BxD W s v1 v2 w' :=
  ⟨h.1.trans (hb.mono h.1.size), Nat.lt_of_lt_of_le h.2.1 hb.size, (hb.cell (p := ⟨_, _, none⟩) h.2.1).trans h.2.2.1, (hb.cell (p := ⟨_, _, none⟩) h.2.1).trans h.2.2.2.1, (hb.cell (p := ⟨_, _, none⟩) h.2.1).trans h.2.2.2.2⟩
/-- Edges in memory, cell by cell. -/
def EdC (w : World) (p : Option Addr) (L : List Ed) : Prop := ∀ (k : Nat) (e : Ed), L[k]? = some e → ∃ g o, p = some ⟨g, o, none⟩ ∧ g < w.heap.size ∧ w.cell? ⟨g, o + k * 3, none⟩ = some (.int .i64 e.1) ∧ w.cell? ⟨g, o + k * 3 + 1, none⟩ = some (.int .i64 e.2.1) ∧ w.cell? ⟨g, o + k * 3 + 2, none⟩ = some (.bool e.2.2)
theorem EdC.any {w w' : World} {p : Option Addr} {L : List Ed} (h : EdC w p L) (hb : Below w.heap.size w w') : EdC w' p L := fun k e hk => by
  obtain ⟨g, o, h1, h2, h3, h4, h5⟩ := h k e hk
  exact ⟨g, o, h1, Nat.lt_of_lt_of_le h2 hb.size, (hb.cell (p := ⟨_, _, none⟩) h2).trans h3, (hb.cell (p := ⟨_, _, none⟩) h2).trans h4, (hb.cell (p := ⟨_, _, none⟩) h2).trans h5⟩
/-- The argument, the copy that is changed, the edge, the edges of the first. -/
def Dm (W : World) (hb xb : Nat) (s : Int) (v1 v2 o1 o2 : Value) (h : Gr) (x : Ed) (p : Option Addr) (L : List Ed) (w : World) : Prop := BxD W s v1 v2 w ∧ (hb < w.heap.size ∧ w.cell? ⟨hb, 0, none⟩ = some (.int .i64 s) ∧ w.cell? ⟨hb, 1, none⟩ = some o1 ∧ w.cell? ⟨hb, 2, none⟩ = some o2) ∧ (xb < w.heap.size ∧ w.cell? ⟨xb, 0, none⟩ = some (.int .i64 x.1) ∧ w.cell? ⟨xb, 1, none⟩ = some (.int .i64 x.2.1) ∧ w.cell? ⟨xb, 2, none⟩ = some (.bool x.2.2)) ∧ GrIs w Any o1 o2 h ∧ EdC w p L
theorem Dm.any {W : World} {hb xb : Nat} {s : Int} {v1 v2 o1 o2 : Value} {h : Gr} {x : Ed} {p : Option Addr} {L : List Ed} {w w' : World} (m : Dm W hb xb s v1 v2 o1 o2 h x p L w) (b : Below w.heap.size w w') : Dm W hb xb s v1 v2 o1 o2 h x p L w' :=
  ⟨m.1.any b, ⟨Nat.lt_of_lt_of_le m.2.1.1 b.size, (b.cell (p := ⟨_, _, none⟩) m.2.1.1).trans m.2.1.2.1, (b.cell (p := ⟨_, _, none⟩) m.2.1.1).trans m.2.1.2.2.1, (b.cell (p := ⟨_, _, none⟩) m.2.1.1).trans m.2.1.2.2.2⟩,
   ⟨Nat.lt_of_lt_of_le m.2.2.1.1 b.size, (b.cell (p := ⟨_, _, none⟩) m.2.2.1.1).trans m.2.2.1.2.1, (b.cell (p := ⟨_, _, none⟩) m.2.2.1.1).trans m.2.2.1.2.2.1, (b.cell (p := ⟨_, _, none⟩) m.2.2.1.1).trans m.2.2.1.2.2.2⟩, m.2.2.2.1.any b, m.2.2.2.2.any b⟩
/-- The calls at the argument. -/
def DmNo (W : World) (s : Int) (v1 v2 : Value) : Prop :=
  (∀ w, Below W.heap.size W w → Calls Try.prog 6 #[.agg #[.int .i64 s, v1, v2]] w fun e w' => e = .returned (.tuple #[.slice none 0 0, .int .i64 600]) ∧ Hid (Below w.heap.size w w')) ∧
  ∀ w, Below W.heap.size W w → Calls Try.prog 8 #[.agg #[.int .i64 s, v1, v2]] w fun e w' => e = .returned (.bool false) ∧ Hid (Below w.heap.size w w')
def DmYes (W : World) (s : Int) (v1 v2 : Value) (L : List Ed) : Prop := ∀ w, Below W.heap.size W w → Calls Try.prog 6 #[.agg #[.int .i64 s, v1, v2]] w fun e w' => ∃ p c, e = .returned (.tuple #[.slice p L.length c, .int .i64 0]) ∧ Hid (EdC w' p L) ∧ Hid (Below w.heap.size w w')
/-- The calls at the copy. -/
def DmNoH (s : Int) (h : Gr) : Prop := ∀ o1 o2 w, GrIs w Any o1 o2 h →
  (Calls Try.prog 6 #[.agg #[.int .i64 s, o1, o2]] w fun e w' => e = .returned (.tuple #[.slice none 0 0, .int .i64 600]) ∧ Hid (Below w.heap.size w w')) ∧
  Calls Try.prog 8 #[.agg #[.int .i64 s, o1, o2]] w fun e w' => e = .returned (.bool false) ∧ Hid (Below w.heap.size w w')
def HasC (w : World) (p : Option Addr) (m c : Nat) (x : Ed) : Prop := ∀ w2, Below w.heap.size w w2 → Calls Try.prog 10 #[.slice p m c, .agg #[.int .i64 x.1, .int .i64 x.2.1, .bool x.2.2]] w2 fun e w3 => e = .returned (.bool true) ∧ Hid (Below w2.heap.size w2 w3)
def DmYesH (s : Int) (h : Gr) (M : List Ed) (x : Ed) : Prop := ∀ o1 o2 w, GrIs w Any o1 o2 h → Calls Try.prog 6 #[.agg #[.int .i64 s, o1, o2]] w fun e w' => ∃ p c, e = .returned (.tuple #[.slice p M.length c, .int .i64 0]) ∧ Hid (EdC w' p M) ∧ Hid (HasC w' p M.length c x) ∧ Hid (Below w.heap.size w w')
set_option maxHeartbeats 40000000 in
set_option maxRecDepth 100000 in
theorem dependsMore_core (W : World) (g : Gr) (v1 v2 : Value) (ru cj tt : Int) (n : Nat) (hnl : n = g.names.length) (k1 : Option Addr × Nat) (k2 : Option Addr × Nat) (e1 : v1 = .slice k1.1 n k1.2) (e2 : v2 = .slice k2.1 g.rules.length k2.2) (hga : GrIs W Any v1 v2 g) (hsz : GSz reachBytes g) (L : List Ed) (hLm : L.length ≤ 100000000)
    (KA : ∀ w, Calls Try.prog 5 #[] w fun e w' => e = .returned (.bool true) ∧ Hid (Below w.heap.size w w'))
    (KQ : ∀ (a b : Int) (c : Bool) (a' b' : Int) (c' : Bool) (w : World), (Op.equalIn 10000 42 (.agg #[.int .i64 a, .int .i64 b, .bool c]) (.agg #[.int .i64 a', .int .i64 b', .bool c'])).run Try.prog w = .ok (decide (a = a' ∧ b = b' ∧ c = c')) w)
    (KC0 : ∀ w, Below W.heap.size W w → Calls Try.prog 9 #[.agg #[.int .i64 g.start, v1, v2]] w fun e w' => ∃ u1 u2, e = .returned (.agg #[.int .i64 g.start, u1, u2]) ∧ Hid (Below w.heap.size w w') ∧ Hid (CpD w g u1 u2 w'))
    (KH0 : DmNo W g.start v1 v2 ∨ ((0 < n ∧ 0 < g.rules.length ∧ ∀ r, r ∈ g.rules → 0 < r.conj.length) ∧ DmYes W g.start v1 v2 L ∧ ∀ (r c t : Nat) (ru : Ru) (cn : Cn), g.rules[r]? = some ru → ru.conj[c]? = some cn → t < n →
      DmNoH g.start (moreG g r ru c cn t) ∨ ∃ M p, OneMore L M (ru.head, (t : Int), cn.neg) p ∧ DmYesH g.start (moreG g r ru c cn t) M (ru.head, (t : Int), cn.neg))) :
    Calls Try.prog 3 #[.agg #[.int .i64 g.start, v1, v2], .int .i64 ru, .int .i64 cj, .int .i64 tt] W fun e W' => e = .returned (.bool true) ∧ Below W.heap.size W W' := by
  have HX1 : Hid (BxD W g.start v1 v2 (W.alloc (.cells #[.int .i64 g.start, v1, v2] 25))) := BxD.new _ _ _ _
  have KC := hid_ofD KC0
  have KA1 := hid_ofD KA
  have KQ1 := hid_ofD KQ
  have HNL := hid_ofD hnl
  have HGA := hid_ofD hga
  have HSZ := hid_ofD hsz
  subst e1 e2
  clear KC0 KA KQ hnl hga hsz
  rcases KH0 with ⟨B1, B2⟩ | ⟨⟨hn0, hr0, hc0⟩, C1, C2⟩
  · --SA
    go_enter Try.func3, Try.ntmps3
    go_wp2_with (first
      | (go_at_call 5; refine (KA1.out _).mono ?_; rintro e wa ⟨rfl, ba⟩; have XA : Hid (BxD _ _ _ _ wa) := HX1.out.any ba.out; obtain ⟨-, z1, c0, c1, c2⟩ := XA.out)
      | (go_at_call 7; refine (num_any _ _).mono ?_; rintro e wn ⟨rfl, rfl⟩)
      | (go_at_call 8; refine (B2 _ XB.out.1).mono ?_; rintro e w3 ⟨rfl, b3⟩; have XC : Hid (BxD _ _ _ _ w3) := XB.out.any b3.out; clear z1 c0 c1 c2)
      | (go_at_call 6; refine (B1 _ XA.out.1).mono ?_; rintro e w1 ⟨rfl, b1⟩; have XB : Hid (BxD _ _ _ _ w1) := XA.out.any b1.out; clear z1 c0 c1 c2; obtain ⟨-, z1, c0, c1, c2⟩ := XB.out))
    go_ret
    exact ⟨rfl, XC.out.1⟩
  · have HN0 := hid_ofD hn0
    have HR0 := hid_ofD hr0
    have HC0 := hid_ofD hc0
    have KC1 := hid_ofD C1
    have KC2 := hid_ofD C2
    obtain ⟨M, hM⟩ : ∃ M, M = g.rules.length := ⟨_, rfl⟩
    have HM : Hid (M = g.rules.length) := hM
    have hM0 : 0 < M := by rw [hM]; exact hr0
    have hrl : M * 32 ≤ reachBytes := by rw [hM]; exact HSZ.out.2.1
    have hnl : n * 16 ≤ reachBytes := by rw [HNL.out]; exact HSZ.out.1
    rw [← hM] at HX1 HGA KC KC1 ⊢
    obtain ⟨nL, hnL⟩ : ∃ k, k = L.length := ⟨_, rfl⟩
    have HNLL : Hid (nL = L.length) := hnL
    have hnL8 : nL ≤ 100000000 := by rw [hnL]; exact hLm
    clear hM hnL hLm hn0 hr0 hc0 C1 C2
    -- the places
    have hM9 : M ≤ 4398046511104 := by unfold reachBytes at hrl; omega
    have hn9 : n ≤ 8796093022208 := by unfold reachBytes at hnl; omega
    obtain ⟨k, hk, ek⟩ := modD_lt ru M hM0
    obtain ⟨t, ht, et⟩ := modD_lt tt n HN0.out
    have ewM : IntKind.u64.wrap (M : Int) = (M : Int) := by rw [IntKind.wrap_u64]; omega
    have ewM0 : ¬ ((M : Int) = 0) := by omega
    have wk : IntKind.i64.wrap (k : Int) = (k : Int) := by rw [IntKind.wrap_i64]; omega
    have hkM : (k : Int) < (M : Int) := by omega
    have ewn : IntKind.u64.wrap (n : Int) = (n : Int) := by rw [IntKind.wrap_u64]; omega
    have ewn0 : ¬ ((n : Int) = 0) := by have := HN0.out; omega
    have ewn1 : ¬ (n = 0) := by have := HN0.out; omega
    have wt : IntKind.i64.wrap (t : Int) = (t : Int) := by rw [IntKind.wrap_i64]; omega
    obtain ⟨r, hr⟩ : ∃ r, g.rules[k]? = some r := ⟨_, List.getElem?_eq_getElem (by rw [← HM.out]; exact hk)⟩
    have HR : Hid (g.rules[k]? = some r) := hr
    have hrm : r ∈ g.rules := List.mem_of_getElem? hr
    obtain ⟨q, hq⟩ : ∃ q, q = r.conj.length := ⟨_, rfl⟩
    have HQ : Hid (q = r.conj.length) := hq
    have hq0 : 0 < q := by rw [hq]; exact HC0.out r hrm
    have hq32 : q * 32 ≤ reachBytes := by rw [hq]; exact (HSZ.out.2.2 r hrm).1
    have hq9 : q ≤ 4398046511104 := by unfold reachBytes at hq32; omega
    obtain ⟨c, hc, ec⟩ := modD_lt cj q hq0
    have ewq : IntKind.u64.wrap (q : Int) = (q : Int) := by rw [IntKind.wrap_u64]; omega
    have ewq0 : ¬ ((q : Int) = 0) := by omega
    have wc : IntKind.i64.wrap (c : Int) = (c : Int) := by rw [IntKind.wrap_i64]; omega
    have hcq : (c : Int) < (q : Int) := by omega
    obtain ⟨cn, hcn⟩ : ∃ x, r.conj[c]? = some x := ⟨_, List.getElem?_eq_getElem (by rw [← hq]; exact hc)⟩
    have HCN : Hid (r.conj[c]? = some cn) := hcn
    have hs24 : cn.seq.length * 24 ≤ reachBytes := (HSZ.out.2.2 r hrm).2 cn (List.mem_of_getElem? hcn)
    -- where they lie
    have HI2 : Hid (IsRus W Any (.slice k2.1 M k2.2) g.rules) := HGA.out.2
    obtain ⟨g1, o1, u, hp1, a0, a1, icn⟩ := HI2.out.row hr
    obtain ⟨pk, ck⟩ := k2
    simp only at hp1
    subst hp1
    obtain ⟨p3, c3, hu⟩ := icn.slc
    rw [← hq] at hu
    subst hu
    obtain ⟨g2, o2, u2, hp2, d0, d1, isy⟩ := icn.row hcn
    subst hp2
    have hg1 := cellC_lt a0
    have hg2 := cellC_lt d0
    have HCE : Hid (∀ w', Below W.heap.size W w' → w'.cell? ⟨g1, o1 + k * 2, none⟩ = some (.int .i64 r.head) ∧ w'.cell? ⟨g1, o1 + k * 2 + 1, none⟩ = some (.slice (some ⟨g2, o2, none⟩) q c3) ∧ w'.cell? ⟨g2, o2 + c * 2, none⟩ = some (.bool cn.neg)) := fun w' h => ⟨(h.cell (p := ⟨_, _, none⟩) hg1).trans a0, (h.cell (p := ⟨_, _, none⟩) hg1).trans a1, (h.cell (p := ⟨_, _, none⟩) hg2).trans d0⟩
    have KH2 := hid_ofD (KC2.out k c t r cn hr hcn ht)
    clear a0 a1 d0 d1 isy icn hg1 hg2 hr hcn hq hrm KC2
    go_enter Try.func3, Try.ntmps3
    go_upto_region 6 with (first
      | (go_at_call 5; refine (KA1.out _).mono ?_; rintro e wa ⟨rfl, ba⟩; have XA : Hid (BxD _ _ _ _ wa) := HX1.out.any ba.out; obtain ⟨-, z1, c0, c1, c2⟩ := XA.out)
      | (go_at_call 7; refine (num_any _ _).mono ?_; rintro e wn ⟨rfl, rfl⟩)
      | (go_at_call 6; refine (KC1.out _ XA.out.1).mono ?_; rintro e w1 ⟨pa, ca, rfl, ia, b1⟩; rw [← HNLL.out]; have XB : Hid (BxD _ _ _ _ w1) := XA.out.any b1.out; clear z1 c0 c1 c2; obtain ⟨-, z1, c0, c1, c2⟩ := XB.out))
    obtain ⟨y0, y1, y2⟩ := HCE.out w1 XB.out.1
    go_upto_region 8 with fail
    go_upto_region 9 with (go_at_call 9; refine (KC.out _ XB.out.1).mono ?_; rintro e w2 ⟨u1, u2, rfl, bc, CP⟩; have HCP : Hid (CpD _ _ _ _ w2) := CP; obtain ⟨B, F, us, hBb, m0, on, nn, vss, dp⟩ := HCP.out; obtain ⟨q1, m1, hu1⟩ := row_slice on; obtain ⟨q2, d2, hu2⟩ := row_slice m0.oo; rw [← HNL.out] at hu1; rw [← HM.out] at hu2; subst hu1 hu2; have HBB := hid_ofD hBb; have HM0 := hid_ofD m0; have HON := hid_ofD on; have HNN := hid_ofD nn; have HDP := hid_ofD dp; clear hBb m0 on nn dp CP HCP z1 c0 c1 c2 y0 y1 y2)
    obtain ⟨Y, hY⟩ : ∃ Y, Y = w2.alloc (.cells #[.int .i64 g.start, .slice q1 n m1, .slice q2 M d2] 25) := ⟨_, rfl⟩
    rw [← hY]
    obtain ⟨hb, hhb⟩ : ∃ b, b = w2.heap.size := ⟨_, rfl⟩
    rw [← hhb]
    have HBY : Hid (Below w2.heap.size w2 Y) := by show Below _ _ _; rw [hY]; exact bel1 _ _
    have HW2 : Hid (Below W.heap.size W w2) := XB.out.1.trans (bc.out.mono XB.out.1.size)
    have HVB : Hid (Y.heap[hb]? = some (.cells #[.int .i64 g.start, .slice q1 n m1, .slice q2 M d2] 25)) := by show _ = _; rw [hY, hhb]; exact heap_alloc_new _ _
    have HWY : Hid (Below W.heap.size W Y) := HW2.out.trans (HBY.out.mono HW2.out.size)
    have XY : Hid (BxD _ _ _ _ Y) := (XB.out.any bc.out).any HBY.out
    have IAY : Hid (EdC Y pa L) := (ia.out.any bc.out).any HBY.out
    have HBW : Hid (w2.heap.size = hb ∧ Y.heap.size = hb + 1) := ⟨hhb.symm, by rw [hY, hhb]; simp⟩
    obtain ⟨-, z1, c0, c1, c2⟩ := XY.out
    obtain ⟨y0, y1, y2⟩ := HCE.out Y HWY.out
    have HSS : Hid (∀ w', Below Y.heap.size Y w' → Below Y.heap.size Y w' ∧ w'.cell? ⟨W.heap.size, 1, none⟩ = some (.slice k1.1 n k1.2) ∧ w'.cell? ⟨W.heap.size, 2, none⟩ = some (.slice (some ⟨g1, o1, none⟩) M ck) ∧ w'.cell? ⟨g1, o1 + k * 2, none⟩ = some (.int .i64 r.head) ∧ w'.cell? ⟨g1, o1 + k * 2 + 1, none⟩ = some (.slice (some ⟨g2, o2, none⟩) q c3) ∧ w'.cell? ⟨g2, o2 + c * 2, none⟩ = some (.bool cn.neg)) := fun w' h =>
      ⟨h, (XY.out.any h).2.2.2.1, (XY.out.any h).2.2.2.2, HCE.out w' (HWY.out.trans (h.mono HWY.out.size))⟩
    clear hY hhb bc ba HX1
    go_region_held3 (fun w' => Below Y.heap.size Y w' ∧ w'.cell? ⟨W.heap.size, 1, none⟩ = some (.slice k1.1 n k1.2) ∧ w'.cell? ⟨W.heap.size, 2, none⟩ = some (.slice (some ⟨g1, o1, none⟩) M ck) ∧ w'.cell? ⟨g1, o1 + k * 2, none⟩ = some (.int .i64 r.head) ∧ w'.cell? ⟨g1, o1 + k * 2 + 1, none⟩ = some (.slice (some ⟨g2, o2, none⟩) q c3) ∧ w'.cell? ⟨g2, o2 + c * 2, none⟩ = some (.bool cn.neg))
      ((refine HSS.out _ ?_; (repeat' (first | with_reducible assumption | with_reducible exact Below.refl _ _ | with_reducible apply Below.drew | with_reducible apply belD_alloc | with_reducible refine belC_set ?_ ?_ _)); all_goals (first | omega | (simp; done))))
      (fail)
    obtain ⟨Z, hZ⟩ : ∃ Z, Z = (Y.alloc (.cells #[.int .i64 r.head, .int .i64 (t : Int), .bool cn.neg] 42)).drew := ⟨_, rfl⟩
    rw [← hZ]
    obtain ⟨xb, hxb⟩ : ∃ b, b = Y.heap.size := ⟨_, rfl⟩
    rw [← hxb]
    have HYZ : Hid (Below Y.heap.size Y Z) := by show Below _ _ _; rw [hZ]; exact (bel1 _ _).drew
    have HXB : Hid (Z.heap[xb]? = some (.cells #[.int .i64 r.head, .int .i64 (t : Int), .bool cn.neg] 42)) := by show _ = _; rw [hZ, hxb]; exact heap_alloc_new _ _
    have HVZ : Hid (Z.heap[hb]? = some (.cells #[.int .i64 g.start, .slice q1 n m1, .slice q2 M d2] 25)) := (HYZ.out.block _ (block_lt HVB.out)).trans HVB.out
    have B2Z : Hid (Below w2.heap.size w2 Z) := HBY.out.trans (HYZ.out.mono HBY.out.size)
    have HWZ : Hid (Below W.heap.size W Z) := HWY.out.trans (HYZ.out.mono HWY.out.size)
    have XZ : Hid (BxD _ _ _ _ Z) := XY.out.any HYZ.out
    have IAZ : Hid (EdC Z pa L) := IAY.out.any HYZ.out
    have HMZ : Hid (Mk0 B F g.rules us (.slice q2 M d2) Z) := HM0.out.keep B2Z.out
    have HDZ : Hid (Dp Z B.heap.size g.rules us vss) := HDP.out.keep B2Z.out
    have HOZ : Hid (Z.ownsRow B.heap.size 9 1 (.slice q1 n m1) g.names.length (txV g.names)) := row_keep HON.out B2Z.out
    clear hZ hxb HM0 HDP HON HVB HBY HWY HW2 XY IAY HSS HYZ B2Z HCE y0 y1 y2 z1 c0 c1 c2 XA et ek ec ewM ewM0 wk hkM ewn ewn0 ewn1 wt ewq ewq0 wc hcq HGA HI2
    have hkM : (k : Int) < (M : Int) := by omega
    have hcq : (c : Int) < (q : Int) := by omega
    obtain ⟨cv, hcv⟩ : ∃ x, us[k]? = some x := ⟨_, List.getElem?_eq_getElem (by rw [HDZ.out.l1, ← HM.out]; exact hk)⟩
    obtain ⟨vs, hvs⟩ : ∃ x, vss[k]? = some x := ⟨_, List.getElem?_eq_getElem (by rw [HDZ.out.l2, ← HM.out]; exact hk)⟩
    obtain ⟨r1, r2⟩ := HDZ.out.row k r cv vs HR.out hcv hvs
    obtain ⟨uv, huv⟩ : ∃ x, vs[c]? = some x := ⟨_, List.getElem?_eq_getElem (by rw [r2.len, ← HQ.out]; exact hc)⟩
    have s1 := r2.row c cn uv HCN.out huv
    obtain ⟨gr, gd, hgr, hgr1, hgr2, hgr3, hgr4⟩ := row_at HMZ.out.oo (j := k * 2 + 1) (by rw [← HM.out]; omega)
    injection hgr with hgr hgr5 hgr6
    subst hgr
    obtain ⟨cb, cc, hcb, hcb1, hcb2, hcb3, hcb4⟩ := row_at r1 (j := c * 2 + 1) (by rw [← HQ.out]; omega)
    rw [← HQ.out] at hcb
    obtain ⟨pu, su, hpu⟩ := row_slice s1
    obtain ⟨sn, hsn⟩ : ∃ x, x = cn.seq.length := ⟨_, rfl⟩
    rw [← hsn] at hpu hs24
    have HSN : Hid (sn = cn.seq.length) := hsn
    subst hpu
    have S1 : Hid (Z.ownsRow B.heap.size 44 3 (.slice pu sn su) sn (sysV cn.seq)) := by show World.ownsRow _ _ _ _ _ _ _; rw [HSN.out]; rw [← hsn] at *; exact s1
    have f2 : Z.cell? ⟨hb, 2, none⟩ = some (.slice (some ⟨gr, 0, none⟩) M d2) := Lib.cell_of_heap HVZ.out 2
    have a1 : Z.cell? ⟨gr, k * 2 + 1, none⟩ = some (.slice (some ⟨cb, 0, none⟩) q cc) := by rw [← hcb]; exact hgr4.trans (rusV_at g.rules us k r cv HR.out hcv).2
    have b1 : Z.cell? ⟨cb, c * 2 + 1, none⟩ = some (.slice pu sn su) := hcb4.trans (cnsV_at r.conj vs c cn _ HCN.out huv).2
    have x1 : Z.cell? ⟨xb, 1, none⟩ = some (.int .i64 (t : Int)) := Lib.cell_of_heap HXB.out 1
    have HCV := hid_ofD hcv
    have HVS := hid_ofD hvs
    have HUV := hid_ofD huv
    have HCB := hid_ofD hcb
    have NG : Hid ((Value.slice pu sn su).ownBlock ≠ some gr) := fun e => row_apart S1.out HMZ.out.oo (by decide) gr e rfl
    have NC : Hid ((Value.slice pu sn su).ownBlock ≠ some cb) := fun e => row_apart S1.out r1 (by decide) cb e (by rw [hcb]; rfl)
    have NH : Hid ((Value.slice pu sn su).ownBlock ≠ some hb) := row_no S1.out (by decide) HVZ.out
    have NX : Hid ((Value.slice pu sn su).ownBlock ≠ some xb) := row_no S1.out (by decide) HXB.out
    have CG : Hid (cb ≠ gr) := fun e => row_apart r1 HMZ.out.oo (by decide) cb (by rw [hcb]; rfl) (by rw [e]; rfl)
    have CH : Hid (cb ≠ hb) := fun e => row_no r1 (by decide) HVZ.out (by rw [hcb, ← e]; rfl)
    have CX : Hid (cb ≠ xb) := fun e => row_no r1 (by decide) HXB.out (by rw [hcb, ← e]; rfl)
    have NV : Hid ((Value.slice q1 n m1).ownBlock ≠ some cb) := fun e => row_apart HOZ.out r1 (by decide) cb e (by rw [hcb]; rfl)
    obtain ⟨iy, hy0, hy1, hy2, hy3⟩ := info_parts Try.infoSymD
    have HI : Hid (Try.prog.info? 44 = some iy ∧ iy.zero = some (.agg #[.int .i64 0, .int .i64 0, .int .i64 0]) ∧ iy.size = 3 ∧ iy.bytes = 24) := ⟨hy0, hy1, hy2, hy3⟩
    have MX : Hid (sn + 1 ≤ maxLen) := by show _ ≤ _; unfold maxLen; unfold reachBytes at hs24; omega
    have BY : Hid ((sn + 1) * 24 ≤ 140737488355328) := by show _ ≤ _; unfold reachBytes at hs24; omega
    have hBZ : B.heap.size ≤ Z.heap.size := HMZ.out.bl.size
    have hhl : hb < Z.heap.size := block_lt HVZ.out
    have hxl : xb < Z.heap.size := block_lt HXB.out
    have HCB1 := hid_ofD hcb1
    have HFIN : Hid (∀ (gg cap1 : Nat) (w3 : World), (Z.alloc (.cells #[.int .i64 (t : Int), .int .i64 0, .int .i64 0] 44)).grownBy w3 (Value.slice pu sn su).ownBlock → w3.ownsRow B.heap.size 44 3 (.slice (some ⟨gg, 0, none⟩) (sn + 1) cap1) (sn + 1) (sysV cn.seq ++ [.int .i64 (t : Int), .int .i64 0, .int .i64 0]) → Dm W hb xb g.start (.slice k1.1 n k1.2) (.slice (some ⟨g1, o1, none⟩) M ck) (.slice q1 n m1) (.slice (some ⟨gr, 0, none⟩) M d2) (moreG g k r c cn t) (r.head, (t : Int), cn.neg) pa L (w3.setCell ⟨cb, c * 2 + 1, none⟩ (.slice (some ⟨gg, 0, none⟩) (sn + 1) cap1))) := by
      intro gg cap1 w3 hgrow hown1
      have hBw : Below B.heap.size B (w3.setCell ⟨cb, c * 2 + 1, none⟩ (.slice (some ⟨gg, 0, none⟩) (sn + 1) cap1)) := ((HMZ.out.bl.trans ((bel1 Z _).mono hBZ)).grown hgrow (Nat.le_trans hBZ (le_alloc _ _)) (fun b e => (S1.out.lt b e).1)).setCell (p := ⟨cb, c * 2 + 1, none⟩) HCB1.out _
      have h1w := HBB.out.trans (hBw.mono HBB.out.size)
      have hcell : ∀ b j v, b < Z.heap.size → (Value.slice pu sn su).ownBlock ≠ some b → b ≠ cb → Z.cell? ⟨b, j, none⟩ = some v → (w3.setCell ⟨cb, c * 2 + 1, none⟩ (.slice (some ⟨gg, 0, none⟩) (sn + 1) cap1)).cell? ⟨b, j, none⟩ = some v := fun b j v hl h1 h2 h =>
        (World.cell?_setCell_far w3 ⟨cb, c * 2 + 1, none⟩ ⟨b, j, none⟩ _ (Ne.symm h2)).trans ((hgrow.cell_far ⟨b, j, none⟩ (by simp; omega) (Ne.symm h1)).trans ((World.cell?_alloc_past _ _ _ hl).trans h))
      have hz : (w3.setCell ⟨cb, c * 2 + 1, none⟩ (.slice (some ⟨gg, 0, none⟩) (sn + 1) cap1)).heap.size = w3.heap.size := by simp [World.setCell]
      have h8 := hgrow.size
      simp at h8
      refine ⟨XB.out.any h1w, ⟨by rw [hz]; omega, hcell hb 0 _ hhl NH.out (Ne.symm CH.out) (Lib.cell_of_heap HVZ.out 0), hcell hb 1 _ hhl NH.out (Ne.symm CH.out) (Lib.cell_of_heap HVZ.out 1), hcell hb 2 _ hhl NH.out (Ne.symm CH.out) (Lib.cell_of_heap HVZ.out 2)⟩,
        ⟨by rw [hz]; omega, hcell xb 0 _ hxl NX.out (Ne.symm CX.out) (Lib.cell_of_heap HXB.out 0), hcell xb 1 _ hxl NX.out (Ne.symm CX.out) (Lib.cell_of_heap HXB.out 1), hcell xb 2 _ hxl NX.out (Ne.symm CX.out) (Lib.cell_of_heap HXB.out 2)⟩, ⟨?_, ?_⟩, ia.out.any h1w⟩
      · have h9 := ownsRow_setCell_other (a := ⟨cb, c * 2 + 1, none⟩) (row_grown (row_keep HOZ.out (bel1 Z (.cells #[.int .i64 (t : Int), .int .i64 0, .int .i64 0] 44))) (row_keep S1.out (bel1 _ _)) (by decide) hgrow) NV.out (.slice (some ⟨gg, 0, none⟩) (sn + 1) cap1)
        exact Reads.of h9 (fun _ _ => trivial)
      · have h6 := deep_rus (X := Z.alloc (.cells #[.int .i64 (t : Int), .int .i64 0, .int .i64 0] 44)) (w2 := w3) (cn' := moreC cn t) (nv := .slice (some ⟨gg, 0, none⟩) (sn + 1) cap1) (q' := sn + 1) HMZ.out HDZ.out HR.out HCV.out HVS.out HCN.out HUV.out HQ.out.symm HCB.out rfl (bel1 _ _) hgrow (by
          have e9 : sysV (moreC cn t).seq = sysV cn.seq ++ [.int .i64 (t : Int), .int .i64 0, .int .i64 0] := by
            show sysV (cn.seq ++ [⟨(t : Int), 0, 0⟩]) = _
            rw [sysV_append]; rfl
          rw [e9]; exact hown1) (by show sn + 1 = (cn.seq ++ [_]).length; rw [List.length_append, List.length_singleton, HSN.out])
        exact h6
    have g1' : (Z.alloc (.cells #[.int .i64 (t : Int), .int .i64 0, .int .i64 0] 44)).cell? ⟨hb, 2, none⟩ = some (.slice (some ⟨gr, 0, none⟩) M d2) := (World.cell?_alloc_past _ _ _ hhl).trans f2
    have g2' : (Z.alloc (.cells #[.int .i64 (t : Int), .int .i64 0, .int .i64 0] 44)).cell? ⟨gr, k * 2 + 1, none⟩ = some (.slice (some ⟨cb, 0, none⟩) q cc) := (World.cell?_alloc_past _ _ _ hgr2).trans a1
    have g3' : (Z.alloc (.cells #[.int .i64 (t : Int), .int .i64 0, .int .i64 0] 44)).cell? ⟨cb, c * 2 + 1, none⟩ = some (.slice pu sn su) := (World.cell?_alloc_past _ _ _ hcb2).trans b1
    have g4' : (Z.alloc (.cells #[.int .i64 (t : Int), .int .i64 0, .int .i64 0] 44)).frozen? ⟨cb, c * 2 + 1, none⟩ = false := (World.frozen?_alloc_past _ _ _ hcb2).trans hcb3
    clear hcv hvs huv hcb hsn r1 r2 s1 hgr3 hgr4 hgr5 hgr6 hcb4 hy0 hy1 hy2 hy3 HCV HVS HUV HCB HMZ HDZ HOZ HXB HVZ
    go_upto_region 10 with fail
    go_cut [] from 79 (fun wc => Hid (Dm W hb xb g.start (.slice k1.1 n k1.2) (.slice (some ⟨g1, o1, none⟩) M ck) (.slice q1 n m1) (.slice (some ⟨gr, 0, none⟩) M d2) (moreG g k r c cn t) (r.head, (t : Int), cn.neg) pa L wc))
    case first =>
      obtain ⟨gg, cap1, w3, hr5, hown1, hgrow, hat, -⟩ := run_append_lies (P := Try.prog) (Z.alloc (.cells #[.int .i64 (t : Int), .int .i64 0, .int .i64 0] 44)).drew 38 38 B.heap.size 44 iy _ 3 24 Try.underlying38 HI.out.1 HI.out.2.1 HI.out.2.2.1 HI.out.2.2.2 rfl (by omega) (.slice pu sn su) sn (sysV cn.seq) ((S1.out.alloc _).drew) ⟨Z.heap.size, 0, none⟩ 1 1 [.int .i64 (t : Int), .int .i64 0, .int .i64 0] rfl
        (World.news_of_block (cs := #[.int .i64 (t : Int), .int .i64 0, .int .i64 0]) (t := 44) (fr := (0, 0)) (heap_alloc_new Z _)) (by simp [Value.oneCell']) (by omega) MX.out BY.out (by simp; omega) (Z.heap.size + 1) (by simp)
      have hg' : (Z.alloc (.cells #[.int .i64 (t : Int), .int .i64 0, .int .i64 0] 44)).grownBy w3 (Value.slice pu sn su).ownBlock := ⟨hgrow.os, hgrow.tape, hgrow.output, hgrow.size, hgrow.block⟩
      have FIN := HFIN.out gg cap1 w3 hg' hown1
      have x1' : w3.cell? ⟨hb, 2, none⟩ = some (.slice (some ⟨gr, 0, none⟩) M d2) := (hg'.cell_far ⟨hb, 2, none⟩ (by simp; omega) (Ne.symm NH.out)).trans g1'
      have x2' : w3.cell? ⟨gr, k * 2 + 1, none⟩ = some (.slice (some ⟨cb, 0, none⟩) q cc) := (hg'.cell_far ⟨gr, k * 2 + 1, none⟩ (by simp; omega) (Ne.symm NG.out)).trans g2'
      have x3' : w3.cell? ⟨cb, c * 2 + 1, none⟩ = some (.slice pu sn su) := (hg'.cell_far ⟨cb, c * 2 + 1, none⟩ (by simp; omega) (Ne.symm NC.out)).trans g3'
      have x4' : w3.cell? ⟨xb, 1, none⟩ = some (.int .i64 (t : Int)) := (hg'.cell_far ⟨xb, 1, none⟩ (by simp; omega) (Ne.symm NX.out)).trans ((World.cell?_alloc_past _ _ _ hxl).trans x1)
      have y1' : w3.frozen? ⟨cb, c * 2 + 1, none⟩ = false := (hg'.frozen_far ⟨cb, c * 2 + 1, none⟩ (by simp; omega) (Ne.symm NC.out)).trans g4'
      have S3 : Hid (Z.cell? ⟨hb, 2, none⟩ = some (.slice (some ⟨gr, 0, none⟩) M d2) ∧ Z.cell? ⟨gr, k * 2 + 1, none⟩ = some (.slice (some ⟨cb, 0, none⟩) q cc) ∧ Z.cell? ⟨xb, 1, none⟩ = some (.int .i64 (t : Int))) := ⟨f2, a1, x1⟩
      have S4 : Hid ((Z.alloc (.cells #[.int .i64 (t : Int), .int .i64 0, .int .i64 0] 44)).cell? ⟨hb, 2, none⟩ = some (.slice (some ⟨gr, 0, none⟩) M d2) ∧ (Z.alloc (.cells #[.int .i64 (t : Int), .int .i64 0, .int .i64 0] 44)).cell? ⟨gr, k * 2 + 1, none⟩ = some (.slice (some ⟨cb, 0, none⟩) q cc) ∧ (Z.alloc (.cells #[.int .i64 (t : Int), .int .i64 0, .int .i64 0] 44)).cell? ⟨xb, 1, none⟩ = some (.int .i64 (t : Int))) := ⟨g1', g2', (World.cell?_alloc_past _ _ _ hxl).trans x1⟩
      have S5 : Hid (w3.cell? ⟨hb, 2, none⟩ = some (.slice (some ⟨gr, 0, none⟩) M d2) ∧ w3.cell? ⟨gr, k * 2 + 1, none⟩ = some (.slice (some ⟨cb, 0, none⟩) q cc) ∧ w3.cell? ⟨xb, 1, none⟩ = some (.int .i64 (t : Int))) := ⟨x1', x2', x4'⟩
      have S6 : Hid ((w3.setCell ⟨cb, c * 2 + 1, none⟩ (.slice (some ⟨gg, 0, none⟩) (sn + 1) cap1)).cell? ⟨hb, 2, none⟩ = some (.slice (some ⟨gr, 0, none⟩) M d2) ∧ (w3.setCell ⟨cb, c * 2 + 1, none⟩ (.slice (some ⟨gg, 0, none⟩) (sn + 1) cap1)).cell? ⟨gr, k * 2 + 1, none⟩ = some (.slice (some ⟨cb, 0, none⟩) q cc) ∧ (w3.setCell ⟨cb, c * 2 + 1, none⟩ (.slice (some ⟨gg, 0, none⟩) (sn + 1) cap1)).cell? ⟨xb, 1, none⟩ = some (.int .i64 (t : Int))) := ⟨(World.cell?_setCell_far w3 ⟨cb, c * 2 + 1, none⟩ ⟨hb, 2, none⟩ _ CH.out).trans x1', (World.cell?_setCell_far w3 ⟨cb, c * 2 + 1, none⟩ ⟨gr, k * 2 + 1, none⟩ _ CG.out).trans x2', (World.cell?_setCell_far w3 ⟨cb, c * 2 + 1, none⟩ ⟨xb, 1, none⟩ _ CX.out).trans x4'⟩
      have g3d : (Z.alloc (.cells #[.int .i64 (t : Int), .int .i64 0, .int .i64 0] 44)).drew.cell? ⟨cb, c * 2 + 1, none⟩ = some (.slice pu sn su) := g3'
      have b1d : Z.drew.cell? ⟨cb, c * 2 + 1, none⟩ = some (.slice pu sn su) := b1
      have LA := stepApp hr5
      unfold StepApp at LA
      clear hg' hgrow hat hown1 hr5 HFIN
      refine wp_region_noPanic ?_
      refine wp_region_held_drew (S := (fun w' => w'.cell? ⟨hb, 2, none⟩ = some (.slice (some ⟨gr, 0, none⟩) M d2) ∧ w'.cell? ⟨gr, k * 2 + 1, none⟩ = some (.slice (some ⟨cb, 0, none⟩) q cc) ∧ w'.cell? ⟨xb, 1, none⟩ = some (.int .i64 (t : Int)))) (by kernel_rfl) ?_ (fun hHeld => ?_)
      · (try dsimp only); (first | with_reducible exact S3.out | exact S3.out | exact S4.out | exact S5.out | exact S6.out)
      refine wpAnyH_take (i := 0) (oi := _) (v := ?_) rfl (by kernel_rfl) (by kernel_rfl) (by kernel_rfl) (fun _ _ _ h => h) (Or.inl ⟨by rfl, ?_⟩) (by assumption) ?_
      rotate_left
      · intro w' hSw; (try dsimp only at hSw); go_simp; (try with_reducible rfl)
      simp only [Act.put, List.setIfInBounds_toArray, List.set_cons_zero, List.set_cons_succ]
      refine wpAnyH_take (i := 1) (oi := _) (v := ?_) rfl (by kernel_rfl) (by kernel_rfl) (by kernel_rfl) (fun _ _ _ h => h) (Or.inl ⟨by rfl, ?_⟩) (by assumption) ?_
      rotate_left
      · intro w' hSw; (try dsimp only at hSw); go_simp; (try with_reducible rfl)
      simp only [Act.put, List.setIfInBounds_toArray, List.set_cons_zero, List.set_cons_succ]
      refine wpAnyH_take (i := 2) (oi := _) (v := ?_) rfl (by kernel_rfl) (by kernel_rfl) (by kernel_rfl) (fun _ _ _ h => h) (Or.inl ⟨by rfl, ?_⟩) (by assumption) ?_
      rotate_left
      · intro w' hSw; (try dsimp only at hSw); go_simp; (try with_reducible rfl)
      simp only [Act.put, List.setIfInBounds_toArray, List.set_cons_zero, List.set_cons_succ]
      refine wpAnyH_take (i := 3) (oi := _) (v := ?_) rfl (by kernel_rfl) (by kernel_rfl) (by kernel_rfl) (fun _ _ _ h => h) (Or.inl ⟨by rfl, ?_⟩) (by assumption) ?_
      rotate_left
      · intro w' hSw; (try dsimp only at hSw); go_simp; (try with_reducible rfl)
      simp only [Act.put, List.setIfInBounds_toArray, List.set_cons_zero, List.set_cons_succ]
      refine wpAnyH_take (i := 4) (oi := _) (v := ?_) rfl (by kernel_rfl) (by kernel_rfl) (by kernel_rfl) (fun _ _ _ h => h) (Or.inl ⟨by rfl, ?_⟩) (by assumption) ?_
      rotate_left
      · intro w' hSw; (try dsimp only at hSw); go_simp; (try with_reducible rfl)
      simp only [Act.put, List.setIfInBounds_toArray, List.set_cons_zero, List.set_cons_succ]
      refine wpAnyH_take (i := 5) (oi := _) (v := ?_) rfl (by kernel_rfl) (by kernel_rfl) (by kernel_rfl) (fun _ _ _ h => h) (Or.inl ⟨by rfl, ?_⟩) (by assumption) ?_
      rotate_left
      · intro w' hSw; (try dsimp only at hSw); go_simp; (try with_reducible rfl)
      simp only [Act.put, List.setIfInBounds_toArray, List.set_cons_zero, List.set_cons_succ]
      refine wpAnyH_take (i := 6) (oi := _) (v := ?_) rfl (by kernel_rfl) (by kernel_rfl) (by kernel_rfl) (fun _ _ _ h => h) (Or.inl ⟨by rfl, ?_⟩) (by assumption) ?_
      rotate_left
      · intro w' hSw; (try dsimp only at hSw); go_simp; (try with_reducible rfl)
      simp only [Act.put, List.setIfInBounds_toArray, List.set_cons_zero, List.set_cons_succ]
      refine wpAnyH_take (i := 7) (oi := _) (v := ?_) rfl (by kernel_rfl) (by kernel_rfl) (by kernel_rfl) (fun _ _ _ h => h) (Or.inl ⟨by rfl, ?_⟩) (by assumption) ?_
      rotate_left
      · intro w' hSw; (try dsimp only at hSw); go_simp; (try with_reducible rfl)
      simp only [Act.put, List.setIfInBounds_toArray, List.set_cons_zero, List.set_cons_succ]
      refine wpAnyH_take (i := 8) (oi := _) (v := ?_) rfl (by kernel_rfl) (by kernel_rfl) (by kernel_rfl) (fun _ _ _ h => h) (Or.inl ⟨by rfl, ?_⟩) (by assumption) ?_
      rotate_left
      · intro w' hSw; (try dsimp only at hSw); go_simp; (try with_reducible rfl)
      simp only [Act.put, List.setIfInBounds_toArray, List.set_cons_zero, List.set_cons_succ]
      refine wpAnyH_take (i := 9) (oi := _) (v := ?_) rfl (by kernel_rfl) (by kernel_rfl) (by kernel_rfl) (fun _ _ _ h => h) (Or.inl ⟨by rfl, ?_⟩) (by assumption) ?_
      rotate_left
      · intro w' hSw; (try dsimp only at hSw); go_simp; (try with_reducible rfl)
      simp only [Act.put, List.setIfInBounds_toArray, List.set_cons_zero, List.set_cons_succ]
      refine wpAnyH_take (i := 10) (oi := _) (v := ?_) rfl (by kernel_rfl) (by kernel_rfl) (by kernel_rfl) (fun _ _ _ h => h) (Or.inl ⟨by rfl, ?_⟩) (by assumption) ?_
      rotate_left
      · intro w' hSw; (try dsimp only at hSw); go_simp; (try with_reducible rfl)
      simp only [Act.put, List.setIfInBounds_toArray, List.set_cons_zero, List.set_cons_succ]
      refine wpAnyH_take (i := 11) (oi := _) (v := ?_) rfl (by kernel_rfl) (by kernel_rfl) (by kernel_rfl) (fun _ _ _ h => h) (Or.inl ⟨by rfl, ?_⟩) (by assumption) ?_
      rotate_left
      · intro w' hSw; (try dsimp only at hSw); go_simp; (try with_reducible rfl)
      simp only [Act.put, List.setIfInBounds_toArray, List.set_cons_zero, List.set_cons_succ]
      refine wpAnyH_take (i := 12) (oi := _) (v := ?_) rfl (by kernel_rfl) (by kernel_rfl) (by kernel_rfl) (fun _ _ _ h => h) (Or.inl ⟨by rfl, ?_⟩) (by assumption) ?_
      rotate_left
      · intro w' hSw; (try dsimp only at hSw); go_simp; (try with_reducible rfl)
      simp only [Act.put, List.setIfInBounds_toArray, List.set_cons_zero, List.set_cons_succ]
      refine wpAnyH_take (i := 13) (oi := _) (v := ?_) rfl (by kernel_rfl) (by kernel_rfl) (by kernel_rfl) (fun _ _ _ h => h) (Or.inl ⟨by rfl, ?_⟩) (by assumption) ?_
      rotate_left
      · intro w' hSw; (try dsimp only at hSw); go_simp; (try with_reducible rfl)
      simp only [Act.put, List.setIfInBounds_toArray, List.set_cons_zero, List.set_cons_succ]
      refine wpAnyH_take (i := 14) (oi := _) (v := ?_) rfl (by kernel_rfl) (by kernel_rfl) (by kernel_rfl) (fun _ _ _ h => h) (Or.inl ⟨by rfl, ?_⟩) (by assumption) ?_
      rotate_left
      · intro w' hSw; (try dsimp only at hSw); go_simp; (try with_reducible rfl)
      simp only [Act.put, List.setIfInBounds_toArray, List.set_cons_zero, List.set_cons_succ]
      refine wpAnyH_take (i := 15) (oi := _) (v := ?_) rfl (by kernel_rfl) (by kernel_rfl) (by kernel_rfl) (fun _ _ _ h => h) (Or.inl ⟨by rfl, ?_⟩) (by assumption) ?_
      rotate_left
      · intro w' hSw; (try dsimp only at hSw); go_simp; (try with_reducible rfl)
      simp only [Act.put, List.setIfInBounds_toArray, List.set_cons_zero, List.set_cons_succ]
      refine wpAnyH_take (i := 17) (oi := _) (v := ?_) rfl (by kernel_rfl) (by kernel_rfl) (by kernel_rfl) (fun _ _ _ h => h) (Or.inl ⟨by rfl, ?_⟩) (by assumption) ?_
      rotate_left
      · intro w' hSw; (try dsimp only at hSw); go_simp; (try with_reducible rfl)
      simp only [Act.put, List.setIfInBounds_toArray, List.set_cons_zero, List.set_cons_succ]
      refine wpAnyH_take (i := 18) (oi := _) (v := ?_) rfl (by kernel_rfl) (by kernel_rfl) (by kernel_rfl) (fun _ _ _ h => h) (Or.inl ⟨by rfl, ?_⟩) (by assumption) ?_
      rotate_left
      · intro w' hSw; (try dsimp only at hSw); go_simp; (try with_reducible rfl)
      simp only [Act.put, List.setIfInBounds_toArray, List.set_cons_zero, List.set_cons_succ]
      refine wpAnyH_take (i := 19) (oi := _) (v := ?_) rfl (by kernel_rfl) (by kernel_rfl) (by kernel_rfl) (fun _ _ _ h => h) (Or.inl ⟨by rfl, ?_⟩) (by assumption) ?_
      rotate_left
      · intro w' hSw; (try dsimp only at hSw); go_simp; (try with_reducible rfl)
      simp only [Act.put, List.setIfInBounds_toArray, List.set_cons_zero, List.set_cons_succ]
      refine wpAnyH_ready (rs := [16, 20]) (by kernel_rfl) (by simp) ?_
      refine AllReadyH.cons rfl (fun K hK => ?_) ?_
      · go_simp
        refine hK.out _ _ ?_ (fun hHeld => ?_)
        · (try dsimp only); (first | with_reducible exact S3.out | exact S3.out | exact S4.out | exact S5.out | exact S6.out)
        clear hK K
        refine wpAnyH_ready (rs := [20]) (by kernel_rfl) (by simp) ?_
        refine AllReadyH.cons rfl (fun K hK => ?_) ?_
        · go_simp
          refine hK.out _ _ ?_ (fun hHeld => ?_)
          · (try dsimp only); (first | with_reducible exact S3.out | exact S3.out | exact S4.out | exact S5.out | exact S6.out)
          clear hK K
          refine wpAnyH_ready (rs := [21]) (by kernel_rfl) (by simp) ?_
          refine AllReadyH.cons rfl (fun K hK => ?_) ?_
          · ((with_reducible refine LA _ _ _ _ _ _ ?_ ?_ ?_ ?_); rfl; exact ⟨_, _, rfl, rfl, rfl⟩; rfl)
            refine hK.out _ _ ?_ (fun hHeld => ?_)
            · (try dsimp only); (first | with_reducible exact S3.out | exact S3.out | exact S4.out | exact S5.out | exact S6.out)
            clear hK K
            refine wpAnyH_take (i := 22) (oi := _) (v := ?_) rfl (by kernel_rfl) (by kernel_rfl) (by kernel_rfl) (fun _ _ _ h => h) (Or.inl ⟨by rfl, ?_⟩) (by assumption) ?_
            rotate_left
            · intro w' hSw; (try dsimp only at hSw); go_simp; (try with_reducible rfl)
            simp only [Act.put, List.setIfInBounds_toArray, List.set_cons_zero, List.set_cons_succ]
            refine wpAnyH_take (i := 23) (oi := _) (v := ?_) rfl (by kernel_rfl) (by kernel_rfl) (by kernel_rfl) (fun _ _ _ h => h) (Or.inl ⟨by rfl, ?_⟩) (by assumption) ?_
            rotate_left
            · intro w' hSw; (try dsimp only at hSw); go_simp; (try with_reducible rfl)
            simp only [Act.put, List.setIfInBounds_toArray, List.set_cons_zero, List.set_cons_succ]
            refine wpAnyH_ready (rs := [24]) (by kernel_rfl) (by simp) ?_
            refine AllReadyH.cons rfl (fun K hK => ?_) ?_
            · go_simp
              refine hK.out _ _ ?_ (fun hHeld => ?_)
              · (try dsimp only); (first | with_reducible exact S3.out | exact S3.out | exact S4.out | exact S5.out | exact S6.out)
              clear hK K
              refine wpAnyH_done (by kernel_rfl) ?_ _
              refine NoPanic.normal ?_
              go_wp2
              go_meet
              case rel => exact FIN
            exact AllReadyH.nil
          exact AllReadyH.nil
        exact AllReadyH.nil
      refine AllReadyH.cons rfl (fun K hK => ?_) ?_
      · go_simp
        refine hK.out _ _ ?_ (fun hHeld => ?_)
        · (try dsimp only); (first | with_reducible exact S3.out | exact S3.out | exact S4.out | exact S5.out | exact S6.out)
        clear hK K
        refine wpAnyH_ready (rs := [16]) (by kernel_rfl) (by simp) ?_
        refine AllReadyH.cons rfl (fun K hK => ?_) ?_
        · go_simp
          refine hK.out _ _ ?_ (fun hHeld => ?_)
          · (try dsimp only); (first | with_reducible exact S3.out | exact S3.out | exact S4.out | exact S5.out | exact S6.out)
          clear hK K
          refine wpAnyH_ready (rs := [21]) (by kernel_rfl) (by simp) ?_
          refine AllReadyH.cons rfl (fun K hK => ?_) ?_
          · ((with_reducible refine LA _ _ _ _ _ _ ?_ ?_ ?_ ?_); rfl; exact ⟨_, _, rfl, rfl, rfl⟩; rfl)
            refine hK.out _ _ ?_ (fun hHeld => ?_)
            · (try dsimp only); (first | with_reducible exact S3.out | exact S3.out | exact S4.out | exact S5.out | exact S6.out)
            clear hK K
            refine wpAnyH_take (i := 22) (oi := _) (v := ?_) rfl (by kernel_rfl) (by kernel_rfl) (by kernel_rfl) (fun _ _ _ h => h) (Or.inl ⟨by rfl, ?_⟩) (by assumption) ?_
            rotate_left
            · intro w' hSw; (try dsimp only at hSw); go_simp; (try with_reducible rfl)
            simp only [Act.put, List.setIfInBounds_toArray, List.set_cons_zero, List.set_cons_succ]
            refine wpAnyH_take (i := 23) (oi := _) (v := ?_) rfl (by kernel_rfl) (by kernel_rfl) (by kernel_rfl) (fun _ _ _ h => h) (Or.inl ⟨by rfl, ?_⟩) (by assumption) ?_
            rotate_left
            · intro w' hSw; (try dsimp only at hSw); go_simp; (try with_reducible rfl)
            simp only [Act.put, List.setIfInBounds_toArray, List.set_cons_zero, List.set_cons_succ]
            refine wpAnyH_ready (rs := [24]) (by kernel_rfl) (by simp) ?_
            refine AllReadyH.cons rfl (fun K hK => ?_) ?_
            · go_simp
              refine hK.out _ _ ?_ (fun hHeld => ?_)
              · (try dsimp only); (first | with_reducible exact S3.out | exact S3.out | exact S4.out | exact S5.out | exact S6.out)
              clear hK K
              refine wpAnyH_done (by kernel_rfl) ?_ _
              refine NoPanic.normal ?_
              go_wp2
              go_meet
              case rel => exact FIN
            exact AllReadyH.nil
          exact AllReadyH.nil
        exact AllReadyH.nil
      exact AllReadyH.nil
    case rest =>
      obtain ⟨V, hV⟩ : ∃ V, V = wc := ⟨_, rfl⟩
      subst hV
      have M0 : Hid (Dm W hb xb g.start (.slice k1.1 n k1.2) (.slice (some ⟨g1, o1, none⟩) M ck) (.slice q1 n m1) (.slice (some ⟨gr, 0, none⟩) M d2) (moreG g k r c cn t) (r.head, (t : Int), cn.neg) pa L V) := hcut
      clear hcut HFIN g1' g2' g3' g4' f2 a1 b1 x1 hcb1 hcb2 hcb3 hgr1 hgr2 NG NC NH NX CG CH CX NV HI MX BY S1 HSN HCB1 hBZ hhl hxl hs24 HQ HCN HR hq32 hq9 hcq hkM hM9 hn9 hrl hnl hM0 hk ht hc hq0 XZ XB ia IAZ HWZ HBB HNN KC KC1 HC0 HR0 HN0
      obtain ⟨⟨-, z1, c0, c1, c2⟩, ⟨z2, t0, t1, t2⟩, -, -, -⟩ := M0.out
      rcases KH2.out with A | ⟨Ms, p, om, A⟩
      · --SC
        have A1 := hid_ofD (A _ _ _ M0.out.2.2.2.1).1
        go_wp2_with (first
          | (go_at_call 7; refine (num_any _ _).mono ?_; rintro e wn ⟨rfl, rfl⟩)
          | (go_at_call 8; refine (A _ _ _ M1.out.2.2.2.1).2.mono ?_; rintro e w5 ⟨rfl, b5⟩; have M2 : Hid (Dm _ _ _ _ _ _ _ _ _ _ _ _ w5) := M1.out.any b5.out; clear z1 c0 c1 c2 z2 t0 t1 t2)
          | (go_at_call 6; refine A1.out.mono ?_; rintro e w4 ⟨rfl, b4⟩; have M1 : Hid (Dm _ _ _ _ _ _ _ _ _ _ _ _ w4) := M0.out.any b4.out; clear z1 c0 c1 c2 z2 t0 t1 t2; obtain ⟨⟨-, z1, c0, c1, c2⟩, ⟨z2, t0, t1, t2⟩, -, -, -⟩ := M1.out))
        go_ret
        exact ⟨rfl, M2.out.1.1⟩
      · --SD
        have HOM := hid_ofD om
        have A1 := hid_ofD (A _ _ _ M0.out.2.2.2.1)
        obtain ⟨nM, hnM⟩ : ∃ x, x = Ms.length := ⟨_, rfl⟩
        have HNM : Hid (nM = Ms.length) := hnM
        clear hnM
        go_upto_region 14 with (first
          | (go_at_call 7; refine (num_any _ _).mono ?_; rintro e wn ⟨rfl, rfl⟩)
          | (go_at_call 6; refine A1.out.mono ?_; rintro e w4 ⟨pb, cb', rfl, ib, hb4, b4⟩; rw [← HNM.out]; have M1 : Hid (Dm _ _ _ _ _ _ _ _ _ _ _ _ w4) := M0.out.any b4.out; clear z1 c0 c1 c2 z2 t0 t1 t2; obtain ⟨⟨-, z1, c0, c1, c2⟩, ⟨z2, t0, t1, t2⟩, ⟨z3, r0, r1, r2⟩, -, ia⟩ := M1.out))
        have HIA := hid_ofD ia
        have HMI := hid_ofD M1
        have RX : Hid (∀ w', Below w4.heap.size w4 w' → w'.cell? ⟨xb, 0, none⟩ = some (.int .i64 r.head) ∧ w'.cell? ⟨xb, 1, none⟩ = some (.int .i64 (t : Int)) ∧ w'.cell? ⟨xb, 2, none⟩ = some (.bool cn.neg)) := fun w' h => ⟨laterD r0 h, laterD r1 h, laterD r2 h⟩
        have HW4 : Hid (Below W.heap.size W w4) := M1.out.1.1
        have hnM8 : nM ≤ 100000001 := by
          have h9 := om.len
          have h8 := hnL8
          rw [HNM.out]; rw [HNLL.out] at h8; omega
        have LEN : Hid ((p = nM ∧ nL = nM) ∨ (p < nM ∧ nM = nL + 1)) := by have h9 := om.len; rw [← HNM.out, ← HNLL.out] at h9; exact h9
        obtain ⟨rh, hrh⟩ : ∃ x, x = r.head := ⟨_, rfl⟩
        obtain ⟨ng, hng⟩ : ∃ x, x = cn.neg := ⟨_, rfl⟩
        rw [← hrh, ← hng] at RX HOM hb4
        have HB4 := hid_ofD hb4
        clear z1 c0 c1 c2 z2 t0 t1 t2 z3 r0 r1 r2 ia om A hrh hng M0 M1 A1 KH2 b4 hb4
        go_wp2
        go_loopw [17, 18] (fun x y wr => ∃ i : Nat, i ≤ nM ∧ y = .int .i64 (i : Int) ∧ x = .int .i64 ((if i ≤ p then i else i - 1 : Nat) : Int) ∧ Hid (Below w4.heap.size w4 wr)) (fun _ y _ => nM - (intOf y).toNat)
        case atStart => exact ⟨0, Nat.zero_le _, rfl, by simp, Below.refl _ _⟩
        case round =>
          obtain ⟨i, hi, rfl, rfl, HB⟩ := hrel
          obtain ⟨V4, hV4⟩ : ∃ x, x = wr := ⟨_, rfl⟩
          subst hV4
          obtain ⟨kk, hkk⟩ : ∃ x, x = (if i ≤ p then i else i - 1) := ⟨_, rfl⟩
          rw [← hkk]
          have HKK := hid_ofD hkk
          clear hkk
          by_cases hlt : i < nM
          · have hltI : (i : Int) < (nM : Int) := by omega
            obtain ⟨e, he⟩ : ∃ e, Ms[i]? = some e := ⟨_, List.getElem?_eq_getElem (by rw [← HNM.out]; exact hlt)⟩
            obtain ⟨gb', ob', hpb, -, b0, b1, b2⟩ := (ib.out.any HB.out) i e he
            obtain ⟨x0, x1, x2⟩ := RX.out V4 HB.out
            have hi0 : (0 : Int) ≤ (i : Int) := by omega
            have hk0 : (0 : Int) ≤ (kk : Int) := by omega
            obtain ⟨ea, eb, ec⟩ := e
            subst hpb
            simp only at b0 b1 b2
            by_cases hip : i = p
            · --SH
              have HE : Hid ((ea, eb, ec) = (rh, (t : Int), ng) ∧ L[p]? ≠ some (rh, (t : Int), ng)) := HOM.out.at' _ (by rw [← hip]; exact he)
              have hkp : kk = i := by rw [HKK.out, if_pos (by omega)]
              have hE := HE.out.1
              injection hE with e1 hE
              injection hE with e2 e3
              subst e1 e2 e3
              subst hkp
              by_cases hkL : kk < nL
              · obtain ⟨y, hy⟩ : ∃ y, L[kk]? = some y := ⟨_, List.getElem?_eq_getElem (by rw [← HNLL.out]; exact hkL)⟩
                obtain ⟨ga', oa', hpa, -, a0, a1, a2⟩ := (HIA.out.any HB.out) kk y hy
                subst hpa
                obtain ⟨ya, yb, yc⟩ := y
                simp only at a0 a1 a2
                have hltK : (kk : Int) < (nL : Int) := by omega
                have NE : (decide (ya = ea ∧ yb = (t : Int) ∧ yc = ec)) = false := decide_eq_false (fun h => HE.out.2 (by rw [← hip, hy, h.1, h.2.1, h.2.2]))
                have q1 := KQ1.out ya yb yc ea (t : Int) ec
                rw [NE] at q1
                have q2 := KQ1.out ea (t : Int) ec ea (t : Int) ec
                rw [decide_eq_true ⟨rfl, rfl, rfl⟩] at q2
                have HIP := hid_ofD hip
                clear hy he hip NE HE hkL hlt hi
                go_upto_region 18 with fail
                go_quiet (fail)
                go_wp2
                go_quiet (fail)
                go_wp2
                go_roundw
                case rel => exact ⟨kk + 1, by omega, by go_num, by rw [if_neg (by have := HIP.out; omega)]; simp, (belD_drewN HB.out _)⟩
                case measure => simp [intOf]; omega
              · have hltK : ¬ (kk : Int) < (nL : Int) := by omega
                have q2 := KQ1.out ea (t : Int) ec ea (t : Int) ec
                rw [decide_eq_true ⟨rfl, rfl, rfl⟩] at q2
                have HIP := hid_ofD hip
                clear he hip HE hkL hlt hi
                go_upto_region 18 with fail
                go_quiet (fail)
                go_wp2
                go_quiet (fail)
                go_wp2
                go_roundw
                case rel => exact ⟨kk + 1, by omega, by go_num, by rw [if_neg (by have := HIP.out; omega)]; simp, (belD_drewN HB.out _)⟩
                case measure => simp [intOf]; omega
            · --SI
              have hy : L[kk]? = some (ea, eb, ec) := by
                rw [HKK.out]
                by_cases hlp : i ≤ p
                · rw [if_pos hlp]; exact HOM.out.lo i _ he (by omega)
                · rw [if_neg hlp]; exact HOM.out.hi i _ he (by omega)
              have hkL : kk < nL := by rw [HNLL.out]; exact (List.getElem?_eq_some_iff.1 hy).1
              obtain ⟨ga', oa', hpa, -, a0, a1, a2⟩ := (HIA.out.any HB.out) kk _ hy
              subst hpa
              simp only at a0 a1 a2
              have hltK : (kk : Int) < (nL : Int) := by omega
              have q1 := KQ1.out ea eb ec ea eb ec
              rw [decide_eq_true ⟨rfl, rfl, rfl⟩] at q1
              have HIP := hid_ofD hip
              clear hy he hip hkL hlt hi x0 x1 x2
              go_upto_region 18 with fail
              go_quiet (fail)
              go_wp2
              go_roundw
              case rel => exact ⟨i + 1, by omega, by go_num, (by
                have h1 := HIP.out
                have h2 := HKK.out
                by_cases hlp : i ≤ p
                · rw [if_pos hlp] at h2; rw [if_pos (by omega), h2]; go_num
                · rw [if_neg hlp] at h2
                  rw [if_neg (by omega)]
                  have h3 : i + 1 - 1 = kk + 1 := by omega
                  rw [h3]; go_num), (belD_drewN HB.out _)⟩
              case measure => simp [intOf]; omega
          · --SJ
            obtain rfl : nM = i := by omega
            have hltI : ¬ (nM : Int) < (nM : Int) := by omega
            obtain rfl : kk = nL := by
              rw [HKK.out]
              rcases LEN.out with ⟨h1, h2⟩ | ⟨h1, h2⟩
              · rw [if_pos (by omega)]; omega
              · rw [if_neg (by omega)]; omega
            obtain ⟨x0, x1, x2⟩ := RX.out V4 HB.out
            have HQ2 : Hid (∀ w2, Below V4.heap.size V4 w2 → Calls Try.prog 10 #[.slice pb nM cb', .agg #[.int .i64 rh, .int .i64 (t : Int), .bool ng]] w2 fun e w3 => e = .returned (.bool true) ∧ Hid (Below V4.heap.size V4 w3)) := fun w2 h => by
              have h7 := HB4.out w2 (HB.out.trans (h.mono HB.out.size))
              rw [← HNM.out] at h7
              exact h7.mono fun e w3 h8 => ⟨h8.1, h.trans (h8.2.out.mono h.size)⟩
            have le1 : (nM : Int) - (kk : Int) ≤ 1 := by rcases LEN.out with ⟨h1, h2⟩ | ⟨h1, h2⟩ <;> omega
            clear hlt hi
            go_wp2_with (first | (go_at_call 10; refine (HQ2.out _ (Below.refl _ _)).mono ?_; rintro e w9 ⟨rfl, b9⟩; have H9 : Hid (Below w4.heap.size w4 w9) := HB.out.trans (b9.out.mono HB.out.size)))
            go_ret
            exact ⟨rfl, HW4.out.trans (H9.out.mono HW4.out.size)⟩
end Go.Proofs.Ytdoibpgkfdpbdaa
