import Derived.Test.YtejhdhlpdcfedaaGreatGramLow
import Derived.Test.YtejhdhlpdcfedaaGreatGramAid
import Derived.Test.YtejhdhlpdcfedaaGreatNulT
import Derived.BigQuiet
import Derived.ProofKit
import Derived.OpenShut
import Derived.WalkLawsBesides
import Derived.Deep.CutRange
import Derived.Deep.RegionHeld3
import Derived.Laws.ResultCell
import Derived.PlainAid
/- The document's table in memory; its small functions, walked: span, place, Rank, RestRank, Has, Rest. -/
namespace Go.Proofs.YtejhdhlpdcfedaaGreat
set_option linter.unusedVariables false
open Go.ChangeShapes Go.WideShapes Go.ChangeAt Go.RowKit

/-- How many places the first c conjuncts have; the first q rules. -/
def offC (l : List Cn) (c : Nat) : Nat := ((l.take c).map fun d => d.seq.length + 1).sum
def offR (l : List Ru) (q : Nat) : Nat := ((l.take q).map fun r => offC r.conj r.conj.length).sum
/-- A block of numbers. -/
def IBk (w : World) (b n : Nat) (h : Nat → Int) : Prop := w.heap[b]? = some (.cells (((List.range n).map fun i => Value.int .i64 (h i)).toArray) 3)
section
variable {w w' : World} {b n : Nat} {h : Nat → Int}
theorem blk_ltT {w : World} {b : Nat} {o : Obj} (h : w.heap[b]? = some o) : b < w.heap.size := by
  rcases Nat.lt_or_ge b w.heap.size with h1 | h1
  · exact h1
  · rw [Array.getElem?_eq_none h1] at h; cases h
theorem IBk.lt (k : IBk w b n h) : b < w.heap.size := blk_ltT k
theorem IBk.cell (k : IBk w b n h) {j : Nat} (hj : j < n) : w.cell? ⟨b, j, none⟩ = some (.int .i64 (h j)) := by
  rw [Lib.cell_of_heap k j]; simp [hj]
theorem IBk.frozen (k : IBk w b n h) (j : Nat) : w.frozen? ⟨b, j, none⟩ = false := by simp [World.frozen?, show w.heap[b]? = _ from k]
theorem IBk.keep (k : IBk w b n h) (hb : Below w.heap.size w w') : IBk w' b n h := (hb.block b k.lt).trans k
end
/-- What a table is made of. -/
structure Tp where
  g : Gr
  W : ByteArray
  v1 : Value
  v2 : Value
  cv : Value
  nb : Nat
  rb : Nat
def Tp.m (t : Tp) : Nat := t.W.size
def Tp.wide (t : Tp) : Nat := (t.m + 1) * (t.m + 1)
def Tp.nn (t : Tp) : Nat := t.g.names.length * t.wide
def Tp.rn (t : Tp) : Nat := offR t.g.rules t.g.rules.length * t.wide
/-- Rows of numbers: where each conjunct's places begin. -/
def ConIs (w : World) (F : Nat → Prop) (cv : Value) (l : List Ru) : Prop := ∃ us : List Value, us.length = l.length ∧ Reads w F cv l.length us ∧ ∀ (q : Nat) (r : Ru) (u : Value), l[q]? = some r → us[q]? = some u → Reads w F u r.conj.length ((List.range r.conj.length).map fun c => Value.int .i64 ((offR l q + offC r.conj c : Nat) : Int))
def TbIs (w : World) (F : Nat → Prop) (tb : Nat) (t : Tp) : Prop :=
  w.heap[tb]? = some (.cells #[.int .i64 t.g.start, t.v1, t.v2, .string t.W, .int .i64 (t.wide : Int), .slice (some ⟨t.nb, 0, none⟩) t.nn t.nn, t.cv, .slice (some ⟨t.rb, 0, none⟩) t.rn t.rn] 72) ∧ GrIs w F t.v1 t.v2 t.g ∧ ConIs w F t.cv t.g.rules
theorem ConIs.any {w w' : World} {F : Nat → Prop} {cv : Value} {l : List Ru} (h : ConIs w F cv l) (hb : Below w.heap.size w w') : ConIs w' F cv l := by
  obtain ⟨us, h1, h2, h3⟩ := h
  exact ⟨us, h1, h2.any hb, fun q r u e1 e2 => (h3 q r u e1 e2).any hb⟩
theorem TbIs.any {w w' : World} {F : Nat → Prop} {tb : Nat} {t : Tp} (h : TbIs w F tb t) (hb : Below w.heap.size w w') : TbIs w' F tb t :=
  ⟨(hb.block tb (blk_ltT h.1)).trans h.1, h.2.1.any hb, h.2.2.any hb⟩
/-- A span that is one. -/
def spn (t : Tp) (i j : Nat) : Nat := i * (t.m + 1) + j
theorem spn_lt {t : Tp} {i j : Nat} (h : i ≤ j) (hj : j ≤ t.m) : spn t i j < t.wide := by
  unfold spn Tp.wide
  have h1 : i * (t.m + 1) ≤ t.m * (t.m + 1) := Nat.mul_le_mul_right _ (by omega)
  have h2 : (t.m + 1) * (t.m + 1) = t.m * (t.m + 1) + (t.m + 1) := by rw [Nat.succ_mul]
  omega
set_option maxHeartbeats 4000000 in
set_option maxRecDepth 100000 in
theorem span_any (t : Tp) (tb i j : Nat) (w : World) {F : Nat → Prop} (h : TbIs w F tb t) (hij : i ≤ j) (hj : j ≤ t.m) (hm : t.m ≤ 32) :
    Calls Tryz.prog 43 #[.pointer (some ⟨tb, 0, none⟩), .int .i64 (i : Int), .int .i64 (j : Int)] w fun e w' => e = .returned (.int .i64 ((spn t i j : Nat) : Int)) ∧ w = w' := by
  have c3 : w.cell? ⟨tb, 3, none⟩ = some (.string t.W) := Lib.cell_of_heap h.1 3
  obtain ⟨m, hmm⟩ : ∃ m, m = t.W.size := ⟨_, rfl⟩
  have hj2 : j ≤ m := by rw [hmm]; exact hj
  have hm2 : m ≤ 32 := by rw [hmm]; exact hm
  have HS : Hid (((spn t i j : Nat) : Int) = (i : Int) * ((m : Int) + 1) + (j : Int)) := by
    show _ = _
    unfold spn Tp.m
    rw [← hmm]; push_cast; rfl
  have n1 : ¬ (i : Int) < 0 := by omega
  have n2 : ¬ (j : Int) < (i : Int) := by omega
  have n3 : ¬ (m : Int) < (j : Int) := by omega
  obtain ⟨pr, hpr⟩ : ∃ pr : Nat, pr = i * (m + 1) := ⟨_, rfl⟩
  have hpz : pr ≤ 32 * 33 := by rw [hpr]; exact Nat.mul_le_mul (by omega) (by omega)
  have hp1 : (i : Int) * ((m : Int) + 1) = (pr : Int) := by rw [hpr]; push_cast; rfl
  rw [hp1] at HS
  have hsz : t.W.size = m := hmm.symm
  clear h hij hj hm hpr hmm
  go_enter Tryz.func43, Tryz.ntmps43
  go_wp2
  go_ret
  exact ⟨by rw [HS.out]; rfl, rfl⟩
/-- A place that is one. -/
def PlIs (t : Tp) (q c p : Nat) : Prop := ∃ r d, t.g.rules[q]? = some r ∧ r.conj[c]? = some d ∧ p ≤ d.seq.length
def plc (t : Tp) (q c p : Nat) : Nat := offR t.g.rules q + offC ((t.g.rules.getD q ⟨0, []⟩).conj) c + p
theorem Reads.celT {w : World} {F : Nat → Prop} {v : Value} {n : Nat} {cs : List Value} (h : Reads w F v n cs) {k : Nat} {u : Value} (hk : cs[k]? = some u) (hn : 0 < n) : ∃ g o c, v = .slice (some ⟨g, o, none⟩) n c ∧ g < w.heap.size ∧ w.cell? ⟨g, o + k, none⟩ = some u := by
  obtain ⟨p, c, rfl, _, hc⟩ := h
  obtain ⟨g, o, rfl, _, hg, cc, _⟩ := hc hn
  exact ⟨g, o, c, rfl, hg, cc k u hk⟩
set_option maxHeartbeats 4000000 in
set_option maxRecDepth 100000 in
theorem place_any (t : Tp) (tb q c p : Nat) (w : World) {F : Nat → Prop} (h : TbIs w F tb t) (hp : PlIs t q c p) (hz : offR t.g.rules q + offC ((t.g.rules.getD q ⟨0, []⟩).conj) c + p ≤ 100000) :
    Calls Tryz.prog 68 #[.pointer (some ⟨tb, 0, none⟩), .agg #[.int .i64 (q : Int), .int .i64 (c : Int), .int .i64 (p : Int)]] w fun e w' => e = .returned (.int .i64 ((plc t q c p : Nat) : Int)) ∧ Hid (Below w.heap.size w w') := by
  obtain ⟨r, d, hr, hd, hpl⟩ := hp
  have hgd : (t.g.rules.getD q ⟨0, []⟩).conj = r.conj := by rw [List.getD_eq_getElem?_getD, hr]; rfl
  rw [hgd] at hz
  obtain ⟨X, hX⟩ : ∃ X, X = w.alloc (.cells #[.int .i64 (q : Int), .int .i64 (c : Int), .int .i64 (p : Int)] 119) := ⟨_, rfl⟩
  have hXb : Below w.heap.size w X := by rw [hX]; exact bel1 _ _
  have x0 : X.cell? ⟨w.heap.size, 0, none⟩ = some (.int .i64 (q : Int)) := by rw [hX]; exact World.cell?_alloc_at _ _ _ _ rfl
  have x1 : X.cell? ⟨w.heap.size, 1, none⟩ = some (.int .i64 (c : Int)) := by rw [hX]; exact World.cell?_alloc_at _ _ _ _ rfl
  have x2 : X.cell? ⟨w.heap.size, 2, none⟩ = some (.int .i64 (p : Int)) := by rw [hX]; exact World.cell?_alloc_at _ _ _ _ rfl
  have hT := h.any hXb
  obtain ⟨hblk, hg, us, hul, hcr, hci⟩ := hT
  have hq : q < t.g.rules.length := (List.getElem?_eq_some_iff.1 hr).1
  have hc : c < r.conj.length := (List.getElem?_eq_some_iff.1 hd).1
  obtain ⟨u, hu⟩ : ∃ u, us[q]? = some u := ⟨_, List.getElem?_eq_getElem (by omega)⟩
  obtain ⟨g5, o5, c5, hcv, hg5, d5⟩ := hcr.celT hu (by omega)
  obtain ⟨g6, o6, c6, hu6, hg6, d6⟩ := (hci q r u hr hu).celT (k := c) (u := .int .i64 ((offR t.g.rules q + offC r.conj c : Nat) : Int)) (by simp [hc]) (by omega)
  obtain ⟨p2, c2, hv2⟩ : ∃ p c, t.v2 = .slice p t.g.rules.length c := by obtain ⟨vs, ⟨p, c, e, _⟩, _⟩ := hg.2; exact ⟨p, c, e⟩
  have hg2 := hg.2
  rw [hv2] at hg2
  obtain ⟨g1, o1, u1, hp1, a0, a1, hcn⟩ := hg2.row hr
  subst hp1
  obtain ⟨p3, c3, hu3⟩ : ∃ p c, u1 = .slice p r.conj.length c := by obtain ⟨vs, ⟨p, c, e, _⟩, _⟩ := hcn; exact ⟨p, c, e⟩
  subst hu3
  obtain ⟨g3, o3, u3, hp3, b0, b1, hsy⟩ := hcn.row hd
  subst hp3
  obtain ⟨p4, c4, hu4⟩ := IsSys.slc hsy
  subst hu4 hu6
  have t2 : X.cell? ⟨tb, 2, none⟩ = some t.v2 := Lib.cell_of_heap hblk 2
  have t6 : X.cell? ⟨tb, 6, none⟩ = some t.cv := Lib.cell_of_heap hblk 6
  rw [hv2] at t2
  rw [hcv] at t6
  obtain ⟨N, hN⟩ : ∃ N, N = t.g.rules.length := ⟨_, rfl⟩
  obtain ⟨C, hC⟩ : ∃ C, C = r.conj.length := ⟨_, rfl⟩
  obtain ⟨S, hS⟩ : ∃ S, S = d.seq.length := ⟨_, rfl⟩
  obtain ⟨O, hO⟩ : ∃ O, O = offR t.g.rules q + offC r.conj c := ⟨_, rfl⟩
  rw [← hN] at t2 t6 hq
  rw [← hC] at a1 d5 hc
  rw [← hS] at b1 hpl
  rw [← hO] at d6 hz
  have HP : Hid (((plc t q c p : Nat) : Int) = (O : Int) + (p : Int)) := by
    show _ = _
    unfold plc
    rw [hgd, ← hO]; push_cast; rfl
  have n1 : decide ((q : Int) < 0) = false := decide_eq_false (by omega)
  have n2 : decide ((N : Int) ≤ (q : Int)) = false := decide_eq_false (by omega)
  have n3 : decide ((c : Int) < 0) = false := decide_eq_false (by omega)
  have n4 : decide ((C : Int) ≤ (c : Int)) = false := decide_eq_false (by omega)
  have n5 : decide ((p : Int) < 0) = false := decide_eq_false (by omega)
  have n6 : decide ((S : Int) < (p : Int)) = false := decide_eq_false (by omega)
  have m1 : ¬ (q : Int) < 0 := by omega
  have m2 : ¬ (N : Int) ≤ (q : Int) := by omega
  have m3 : ¬ (c : Int) < 0 := by omega
  have m4 : ¬ (C : Int) ≤ (c : Int) := by omega
  have m5 : ¬ (p : Int) < 0 := by omega
  have m6 : ¬ (S : Int) < (p : Int) := by omega
  have HB : Hid (Below w.heap.size w X) := hXb
  clear h hr hd hgd hXb hblk hg hg2 hul hcr hci hu hcv hv2 a0 b0 hsy hcn hN hC hS hO
  go_enter Tryz.func68, Tryz.ntmps68
  go_upto_region 1 with fail
  rw [← hX]
  clear hX
  go_quiet (fail)
  go_wp2
  go_quiet (fail)
  go_wp2
  go_ret
  exact ⟨by rw [HP.out]; rfl, below_drewN (below_drewN HB.out _) _⟩
end Go.Proofs.YtejhdhlpdcfedaaGreat
/- The document's table: Rank, RestRank, Has, Rest, On, walked. -/
namespace Go.Proofs.YtejhdhlpdcfedaaGreat
set_option linter.unusedVariables false
open Go.ChangeShapes Go.WideShapes Go.ChangeAt Go.RowKit

def nameIx (t : Tp) (x i j : Nat) : Nat := x * t.wide + spn t i j
def restIx (t : Tp) (q c p i j : Nat) : Nat := plc t q c p * t.wide + spn t i j
theorem nameIx_lt {t : Tp} {x i j : Nat} (hx : x < t.g.names.length) (h : i ≤ j) (hj : j ≤ t.m) : nameIx t x i j < t.nn := by
  unfold nameIx Tp.nn
  have h1 := spn_lt h hj
  have h2 : (x + 1) * t.wide ≤ t.g.names.length * t.wide := Nat.mul_le_mul_right _ hx
  have h3 : (x + 1) * t.wide = x * t.wide + t.wide := Nat.succ_mul _ _
  omega
theorem wide_le {t : Tp} (hm : t.m ≤ 32) : t.wide ≤ 1089 := by
  unfold Tp.wide
  have := Nat.mul_le_mul (show t.m + 1 ≤ 33 by omega) (show t.m + 1 ≤ 33 by omega)
  omega
set_option maxHeartbeats 4000000 in
set_option maxRecDepth 100000 in
theorem rank_any (t : Tp) (tb x i j : Nat) (hN : Nat → Int) (w : World) {F : Nat → Prop} (h : TbIs w F tb t) (hI : IBk w t.nb t.nn hN) (hx : x < t.g.names.length) (hn : t.g.names.length ≤ 64) (hij : i ≤ j) (hj : j ≤ t.m) (hm : t.m ≤ 32) :
    Calls Tryz.prog 27 #[.pointer (some ⟨tb, 0, none⟩), .int .i64 (x : Int), .int .i64 (i : Int), .int .i64 (j : Int)] w fun e w' => e = .returned (.int .i64 (hN (nameIx t x i j))) ∧ ∃ n, w' = w.drewN n := by
  have KS := span_any t tb i j w h hij hj hm
  have t1 : w.cell? ⟨tb, 1, none⟩ = some t.v1 := Lib.cell_of_heap h.1 1
  have t4 : w.cell? ⟨tb, 4, none⟩ = some (.int .i64 (t.wide : Int)) := Lib.cell_of_heap h.1 4
  have t5 : w.cell? ⟨tb, 5, none⟩ = some (.slice (some ⟨t.nb, 0, none⟩) t.nn t.nn) := Lib.cell_of_heap h.1 5
  obtain ⟨p1, c1, hv1⟩ : ∃ p c, t.v1 = .slice p t.g.names.length c := by obtain ⟨p, c, e, _⟩ := h.2.1.1; exact ⟨_, _, e⟩
  rw [hv1] at t1
  have hlt := nameIx_lt hx hij hj
  have hsl := spn_lt hij hj
  have hwd := wide_le hm
  have ck := hI.cell hlt
  obtain ⟨z, hz⟩ : ∃ z, z = hN (nameIx t x i j) := ⟨_, rfl⟩
  obtain ⟨ix, hix⟩ : ∃ ix, ix = nameIx t x i j := ⟨_, rfl⟩
  obtain ⟨sp, hsp⟩ : ∃ sp, sp = spn t i j := ⟨_, rfl⟩
  obtain ⟨wd, hwe⟩ : ∃ wd, wd = t.wide := ⟨_, rfl⟩
  obtain ⟨n, hnn⟩ : ∃ n, n = t.g.names.length := ⟨_, rfl⟩
  have he : ix = x * wd + sp := by rw [hix, hwe, hsp]; rfl
  rw [← hz] at ck ⊢
  rw [← hix] at ck hlt
  rw [← hsp] at KS hsl
  rw [← hwe] at t4 hwd hsl
  rw [← hnn] at t1 hx hn
  have hxw : x * wd ≤ 64 * 1089 := Nat.mul_le_mul (by omega) hwd
  obtain ⟨xw, hxe⟩ : ∃ xw, xw = x * wd := ⟨_, rfl⟩
  have hmul : (x : Int) * (wd : Int) = (xw : Int) := by rw [hxe]; push_cast; rfl
  rw [← hxe] at hxw he
  obtain ⟨nn, hne⟩ : ∃ nn, nn = t.nn := ⟨_, rfl⟩
  rw [← hne] at t5 hlt
  have hsum : (xw : Int) + (sp : Int) = (ix : Int) := by rw [he]; push_cast; rfl
  have hlt2 : (ix : Int) < (nn : Int) := by omega
  have n1 : ¬ (sp : Int) < 0 := by omega
  have n2 : ¬ (x : Int) < 0 := by omega
  have n3 : ¬ (n : Int) ≤ (x : Int) := by omega
  have hw1 : IntKind.i64.wrap (xw : Int) = (xw : Int) := by rw [IntKind.wrap_i64]; omega
  have hw2 : IntKind.i64.wrap (ix : Int) = (ix : Int) := by rw [IntKind.wrap_i64]; omega
  clear h hI hij hj hm hv1 hz hix hsp hwe hnn he hxe hne
  go_enter Tryz.func27, Tryz.ntmps27
  go_upto_region 4 with (go_at_call 43; refine KS.mono ?_; rintro e w2 ⟨rfl, rfl⟩)
  go_quiet (fail)
  go_wp2
  go_ret
  exact ⟨rfl, _, rfl⟩
set_option maxHeartbeats 2000000 in
theorem hasT_any (t : Tp) (tb x i j : Nat) (hN : Nat → Int) (w : World) {F : Nat → Prop} (h : TbIs w F tb t) (hI : IBk w t.nb t.nn hN) (hx : x < t.g.names.length) (hn : t.g.names.length ≤ 64) (hij : i ≤ j) (hj : j ≤ t.m) (hm : t.m ≤ 32) :
    Calls Tryz.prog 16 #[.pointer (some ⟨tb, 0, none⟩), .int .i64 (x : Int), .int .i64 (i : Int), .int .i64 (j : Int)] w fun e w' => e = .returned (.bool (decide (0 < hN (nameIx t x i j)))) ∧ ∃ n, w' = w.drewN n := by
  have KR := rank_any t tb x i j hN w h hI hx hn hij hj hm
  generalize hN (nameIx t x i j) = z at KR
  clear h hI
  go_enter Tryz.func16, Tryz.ntmps16
  go_wp2_with (go_at_call 27; refine KR.mono ?_; rintro e w2 ⟨rfl, n, rfl⟩)
  go_ret
  exact ⟨rfl, _, rfl⟩
theorem restIx_lt {t : Tp} {q c p i j : Nat} (hp : plc t q c p < offR t.g.rules t.g.rules.length) (h : i ≤ j) (hj : j ≤ t.m) : restIx t q c p i j < t.rn := by
  unfold restIx Tp.rn
  have h1 := spn_lt h hj
  have h2 : (plc t q c p + 1) * t.wide ≤ offR t.g.rules t.g.rules.length * t.wide := Nat.mul_le_mul_right _ hp
  have h3 : (plc t q c p + 1) * t.wide = plc t q c p * t.wide + t.wide := Nat.succ_mul _ _
  omega
theorem take_sum_le (f : Cn → Nat) : ∀ (l : List Cn) (c : Nat) (d : Cn), l[c]? = some d → ((l.take c).map f).sum + f d ≤ (l.map f).sum
  | [], c, d, h => by simp at h
  | a :: l, 0, d, h => by
    obtain rfl : a = d := by simpa using h
    simp
  | a :: l, c + 1, d, h => by
    have := take_sum_le f l c d (by simpa using h)
    simp only [List.take_succ_cons, List.map_cons, List.sum_cons]; omega
theorem take_sum_leR (f : Ru → Nat) : ∀ (l : List Ru) (c : Nat) (d : Ru), l[c]? = some d → ((l.take c).map f).sum + f d ≤ (l.map f).sum
  | [], c, d, h => by simp at h
  | a :: l, 0, d, h => by
    obtain rfl : a = d := by simpa using h
    simp
  | a :: l, c + 1, d, h => by
    have := take_sum_leR f l c d (by simpa using h)
    simp only [List.take_succ_cons, List.map_cons, List.sum_cons]; omega
/-- A place that is one has a number below their count. -/
theorem plc_lt {t : Tp} {q c p : Nat} (h : PlIs t q c p) : plc t q c p < offR t.g.rules t.g.rules.length := by
  obtain ⟨r, d, hr, hd, hp⟩ := h
  have hgd : (t.g.rules.getD q ⟨0, []⟩).conj = r.conj := by rw [List.getD_eq_getElem?_getD, hr]; rfl
  unfold plc
  rw [hgd]
  have h1 := take_sum_leR (fun r => offC r.conj r.conj.length) t.g.rules q r hr
  have h2 := take_sum_le (fun d => d.seq.length + 1) r.conj c d hd
  have e1 : offR t.g.rules t.g.rules.length = (t.g.rules.map fun r => offC r.conj r.conj.length).sum := by unfold offR; rw [List.take_length]
  have e2 : offC r.conj r.conj.length = (r.conj.map fun d => d.seq.length + 1).sum := by unfold offC; rw [List.take_length]
  have e3 : offR t.g.rules q = ((t.g.rules.take q).map fun r => offC r.conj r.conj.length).sum := rfl
  have e4 : offC r.conj c = ((r.conj.take c).map fun d => d.seq.length + 1).sum := rfl
  have h3 : offR t.g.rules q + offC r.conj r.conj.length ≤ (t.g.rules.map fun r => offC r.conj r.conj.length).sum := h1
  have h4 : offC r.conj c + (d.seq.length + 1) ≤ (r.conj.map fun d => d.seq.length + 1).sum := h2
  omega
set_option maxHeartbeats 4000000 in
set_option maxRecDepth 100000 in
theorem restRank_any (t : Tp) (tb q c p i j : Nat) (hR : Nat → Int) (w : World) {F : Nat → Prop} (h : TbIs w F tb t) (hI : IBk w t.rb t.rn hR) (hp : PlIs t q c p) (hz : offR t.g.rules t.g.rules.length ≤ 4000) (hij : i ≤ j) (hj : j ≤ t.m) (hm : t.m ≤ 32) :
    Calls Tryz.prog 93 #[.pointer (some ⟨tb, 0, none⟩), .agg #[.int .i64 (q : Int), .int .i64 (c : Int), .int .i64 (p : Int)], .int .i64 (i : Int), .int .i64 (j : Int)] w fun e w' => e = .returned (.int .i64 (hR (restIx t q c p i j))) ∧ Hid (Below w.heap.size w w') := by
  have hpl := plc_lt hp
  have hz2 : offR t.g.rules q + offC ((t.g.rules.getD q ⟨0, []⟩).conj) c + p ≤ 100000 := by
    have : plc t q c p = offR t.g.rules q + offC ((t.g.rules.getD q ⟨0, []⟩).conj) c + p := rfl
    omega
  obtain ⟨X, hX⟩ : ∃ X, X = w.alloc (.cells #[.int .i64 (q : Int), .int .i64 (c : Int), .int .i64 (p : Int)] 119) := ⟨_, rfl⟩
  have hXb : Below w.heap.size w X := by rw [hX]; exact bel1 _ _
  have x0 : X.cell? ⟨w.heap.size, 0, none⟩ = some (.int .i64 (q : Int)) := by rw [hX]; exact World.cell?_alloc_at _ _ _ _ rfl
  have x1 : X.cell? ⟨w.heap.size, 1, none⟩ = some (.int .i64 (c : Int)) := by rw [hX]; exact World.cell?_alloc_at _ _ _ _ rfl
  have x2 : X.cell? ⟨w.heap.size, 2, none⟩ = some (.int .i64 (p : Int)) := by rw [hX]; exact World.cell?_alloc_at _ _ _ _ rfl
  have hzX : w.heap.size < X.heap.size := by rw [hX]; simp
  have hT := h.any hXb
  have hI2 := hI.keep hXb
  obtain ⟨sp, hsp⟩ : ∃ sp, sp = spn t i j := ⟨_, rfl⟩
  obtain ⟨pl, hpe⟩ : ∃ pl, pl = plc t q c p := ⟨_, rfl⟩
  have KS0 : ∀ w', Below X.heap.size X w' → Calls Tryz.prog 43 #[.pointer (some ⟨tb, 0, none⟩), .int .i64 (i : Int), .int .i64 (j : Int)] w' fun e w'' => e = .returned (.int .i64 (sp : Int)) ∧ w' = w'' := fun w' hb => by rw [hsp]; exact span_any t tb i j w' (hT.any hb) hij hj hm
  have KP0 : ∀ w', Below X.heap.size X w' → Calls Tryz.prog 68 #[.pointer (some ⟨tb, 0, none⟩), .agg #[.int .i64 (q : Int), .int .i64 (c : Int), .int .i64 (p : Int)]] w' fun e w'' => e = .returned (.int .i64 (pl : Int)) ∧ Hid (Below w'.heap.size w' w'') := fun w' hb => by rw [hpe]; exact place_any t tb q c p w' (hT.any hb) hp hz2
  have KS : Hid (∀ w', Below X.heap.size X w' → Calls Tryz.prog 43 #[.pointer (some ⟨tb, 0, none⟩), .int .i64 (i : Int), .int .i64 (j : Int)] w' fun e w'' => e = .returned (.int .i64 (sp : Int)) ∧ w' = w'') := KS0
  have KP : Hid (∀ w', Below X.heap.size X w' → Calls Tryz.prog 68 #[.pointer (some ⟨tb, 0, none⟩), .agg #[.int .i64 (q : Int), .int .i64 (c : Int), .int .i64 (p : Int)]] w' fun e w'' => e = .returned (.int .i64 (pl : Int)) ∧ Hid (Below w'.heap.size w' w'')) := KP0
  have HSS : Hid (∀ w', Below X.heap.size X w' → Below X.heap.size X w' ∧ w'.cell? ⟨w.heap.size, 0, none⟩ = some (.int .i64 (q : Int)) ∧ w'.cell? ⟨w.heap.size, 1, none⟩ = some (.int .i64 (c : Int)) ∧ w'.cell? ⟨w.heap.size, 2, none⟩ = some (.int .i64 (p : Int))) := fun w' hb =>
    ⟨hb, (hb.cell (p := ⟨_, _, none⟩) hzX).trans x0, (hb.cell (p := ⟨_, _, none⟩) hzX).trans x1, (hb.cell (p := ⟨_, _, none⟩) hzX).trans x2⟩
  have hlt := restIx_lt hpl hij hj
  have hsl := spn_lt hij hj
  have hwd := wide_le hm
  obtain ⟨z, hze⟩ : ∃ z, z = hR (restIx t q c p i j) := ⟨_, rfl⟩
  obtain ⟨ix, hix⟩ : ∃ ix, ix = restIx t q c p i j := ⟨_, rfl⟩
  obtain ⟨wd, hwe⟩ : ∃ wd, wd = t.wide := ⟨_, rfl⟩
  obtain ⟨rn, hrn⟩ : ∃ rn, rn = t.rn := ⟨_, rfl⟩
  have he : ix = pl * wd + sp := by rw [hix, hwe, hsp, hpe]; rfl
  have hcell : Hid (∀ w', Below X.heap.size X w' → w'.cell? ⟨tb, 4, none⟩ = some (.int .i64 (wd : Int)) ∧ w'.cell? ⟨tb, 7, none⟩ = some (.slice (some ⟨t.rb, 0, none⟩) rn rn) ∧ w'.cell? ⟨t.rb, ix, none⟩ = some (.int .i64 z)) := fun w' hb => by
    refine ⟨?_, ?_, ?_⟩
    · rw [hwe]; exact Lib.cell_of_heap (hT.any hb).1 4
    · rw [hrn]; exact Lib.cell_of_heap (hT.any hb).1 7
    · rw [hze, hix]; exact (hI2.keep hb).cell hlt
  rw [← hze]
  rw [← hix, ← hrn] at hlt
  rw [← hsp, ← hwe] at hsl
  rw [← hwe] at hwd
  rw [← hpe] at hpl
  have hxw : pl * wd ≤ 4000 * 1089 := Nat.mul_le_mul (by omega) hwd
  obtain ⟨xw, hxe⟩ : ∃ xw, xw = pl * wd := ⟨_, rfl⟩
  have hmul : (pl : Int) * (wd : Int) = (xw : Int) := by rw [hxe]; push_cast; rfl
  rw [← hxe] at hxw he
  have hsum : (xw : Int) + (sp : Int) = (ix : Int) := by rw [he]; push_cast; rfl
  have hlt2 : (ix : Int) < (rn : Int) := by omega
  have n1 : ¬ (sp : Int) < 0 := by omega
  have n2 : ¬ (pl : Int) < 0 := by omega
  have hw1 : IntKind.i64.wrap (xw : Int) = (xw : Int) := by rw [IntKind.wrap_i64]; omega
  have hw2 : IntKind.i64.wrap (ix : Int) = (ix : Int) := by rw [IntKind.wrap_i64]; omega
  have HXb : Hid (Below w.heap.size w X) := hXb
  obtain ⟨nb, hnb⟩ : ∃ nb, nb = w.heap.size := ⟨_, rfl⟩
  rw [← hnb] at HSS
  have HNB : Hid (nb = w.heap.size) := hnb
  clear h hI hp hz hz2 hij hj hm hXb x0 x1 x2 hzX hT hI2 hsp hpe KS0 KP0 hze hix hwe hrn he hxe hpl
  go_enter Tryz.func93, Tryz.ntmps93
  go_upto_region 1 with fail
  rw [← hX, ← hnb]
  clear hX hnb
  go_region_held3 (fun w' => Below X.heap.size X w' ∧ w'.cell? ⟨nb, 0, none⟩ = some (.int .i64 (q : Int)) ∧ w'.cell? ⟨nb, 1, none⟩ = some (.int .i64 (c : Int)) ∧ w'.cell? ⟨nb, 2, none⟩ = some (.int .i64 (p : Int)))
    ((refine HSS.out _ ?_; (repeat' (first | with_reducible assumption | with_reducible exact Below.refl _ _ | with_reducible apply Below.drew))))
    ((first
      | (go_at_call 43; refine (KS.out _ (by repeat' (first | assumption | exact Below.refl _ _ | apply Below.drew))).mono ?_; rintro e w5 ⟨rfl, rfl⟩)
      | (go_at_call 68; refine (KP.out _ (by repeat' (first | assumption | exact Below.refl _ _ | apply Below.drew))).mono ?_; rintro e w7 ⟨rfl, b7⟩; have b8 : Below X.heap.size X w7 := Below.trans (b := X.drew) (Below.refl _ _).drew b7.out)))
  obtain ⟨d4, d7, dz⟩ := hcell.out w7 b8
  have HB8 : Hid (Below w.heap.size w w7) := HXb.out.trans (b8.mono HXb.out.size)
  go_wp2
  go_quiet (fail)
  go_wp2
  go_ret
  exact ⟨rfl, below_drewN HB8.out _⟩
set_option maxHeartbeats 2000000 in
theorem restT_any (t : Tp) (tb q c p i j : Nat) (hR : Nat → Int) (w : World) {F : Nat → Prop} (h : TbIs w F tb t) (hI : IBk w t.rb t.rn hR) (hp : PlIs t q c p) (hz : offR t.g.rules t.g.rules.length ≤ 4000) (hij : i ≤ j) (hj : j ≤ t.m) (hm : t.m ≤ 32) :
    Calls Tryz.prog 66 #[.pointer (some ⟨tb, 0, none⟩), .agg #[.int .i64 (q : Int), .int .i64 (c : Int), .int .i64 (p : Int)], .int .i64 (i : Int), .int .i64 (j : Int)] w fun e w' => e = .returned (.bool (decide (0 < hR (restIx t q c p i j)))) ∧ Hid (Below w.heap.size w w') := by
  have KR : ∀ o, Calls Tryz.prog 93 #[.pointer (some ⟨tb, 0, none⟩), .agg #[.int .i64 (q : Int), .int .i64 (c : Int), .int .i64 (p : Int)], .int .i64 (i : Int), .int .i64 (j : Int)] (w.alloc o) fun e w' => e = .returned (.int .i64 (hR (restIx t q c p i j))) ∧ Hid (Below w.heap.size w w') := fun o =>
    (restRank_any t tb q c p i j hR (w.alloc o) (h.any (bel1 _ _)) (hI.keep (bel1 _ _)) hp hz hij hj hm).mono fun e w' h => ⟨h.1, (bel1 w o).trans (h.2.out.mono (bel1 w o).size)⟩
  generalize hR (restIx t q c p i j) = z at KR
  clear h hI
  go_enter Tryz.func66, Tryz.ntmps66
  go_wp2_with (go_at_call 93; refine (KR _).mono ?_; rintro e w2 ⟨rfl, b2⟩)
  go_ret
  exact ⟨rfl, b2⟩
end Go.Proofs.YtejhdhlpdcfedaaGreat
/- The document's table: On, Symbol, Byte, walked. -/
namespace Go.Proofs.YtejhdhlpdcfedaaGreat
set_option linter.unusedVariables false
open Go.ChangeShapes Go.WideShapes Go.ChangeAt Go.RowKit

theorem results_cellT {fn : Func} {p : Tmp} {ty : TypeId} (h : fn.results = #[.cell p ty]) (tmps : Array Value) (P : Program) (w : World) :
    (results fn tmps).run P w = ((asAddr (tmps.getD p undef)).run P w).andThen fun a w₁ => (loadVar ty a).run P w₁ := by
  simp only [results, h]
  simp [Sem.run_bind, Result.andThen]
set_option maxHeartbeats 2000000 in
theorem onT_any (q c p : Nat) (hp : p ≤ 100000) (w : World) :
    Calls Tryz.prog 96 #[.agg #[.int .i64 (q : Int), .int .i64 (c : Int), .int .i64 (p : Int)]] w fun e w' => e = .returned (.agg #[.int .i64 (q : Int), .int .i64 (c : Int), .int .i64 ((p + 1 : Nat) : Int)]) ∧ Hid (Below w.heap.size w w') := by
  have e1 : ((p + 1 : Nat) : Int) = (p : Int) + 1 := by omega
  rw [e1]
  clear e1
  go_enter Tryz.func96, Tryz.ntmps96
  go_wp2
  (try simp only [Exit.inBlock, Exit.then])
  refine bodyPost_ret (v := .agg #[.int .i64 (q : Int), .int .i64 (c : Int), .int .i64 ((p : Int) + 1)]) ?_ rfl ⟨rfl, ?_⟩
  · rw [results_cellT rfl]
    go_simp
  · first
      | exact (bel1 _ _).alloc (by simp) _
      | exact ((bel1 w _).alloc (by simp) _)
/-- The symbol at a place, and whether there is one. -/
def symAt (l : List Sy) (p : Nat) : Sy × Bool := match l[p]? with | some s => (s, true) | none => (⟨0, 0, 0⟩, false)
set_option maxHeartbeats 4000000 in
set_option maxRecDepth 100000 in
theorem symT_any (t : Tp) (tb q c p : Nat) (r : Ru) (d : Cn) (w : World) {F : Nat → Prop} (h : TbIs w F tb t) (hr : t.g.rules[q]? = some r) (hd : r.conj[c]? = some d) (hpl : p ≤ d.seq.length) :
    Calls Tryz.prog 94 #[.pointer (some ⟨tb, 0, none⟩), .agg #[.int .i64 (q : Int), .int .i64 (c : Int), .int .i64 (p : Int)]] w fun e w' => e = .returned (.tuple #[.agg #[.int .i64 (symAt d.seq p).1.name, .int .i64 (symAt d.seq p).1.lo, .int .i64 (symAt d.seq p).1.hi], .bool (symAt d.seq p).2]) ∧ Hid (Below w.heap.size w w') := by
  obtain ⟨X, hX⟩ : ∃ X, X = (w.alloc (.cells #[.int .i64 (q : Int), .int .i64 (c : Int), .int .i64 (p : Int)] 119)).alloc (.cells #[.int .i64 0, .int .i64 0, .int .i64 0] 57) := ⟨_, rfl⟩
  have hXb : Below w.heap.size w X := by rw [hX]; exact (bel1 _ _).alloc (by simp) _
  have hX0 : X.heap[w.heap.size]? = some (.cells #[.int .i64 (q : Int), .int .i64 (c : Int), .int .i64 (p : Int)] 119) := by
    rw [hX]; exact ((bel1 _ _).block _ (by simp)).trans (heap_alloc_new w _)
  have hX1 : X.heap[w.heap.size + 1]? = some (.cells #[.int .i64 0, .int .i64 0, .int .i64 0] 57) := by
    have h9 := heap_alloc_new (w.alloc (.cells #[.int .i64 (q : Int), .int .i64 (c : Int), .int .i64 (p : Int)] 119)) (.cells #[.int .i64 0, .int .i64 0, .int .i64 0] 57)
    rw [show (w.alloc (.cells #[.int .i64 (q : Int), .int .i64 (c : Int), .int .i64 (p : Int)] 119)).heap.size = w.heap.size + 1 by simp] at h9
    rw [hX]; exact h9
  have x0 := Lib.cell_of_heap hX0 0
  have x1 := Lib.cell_of_heap hX0 1
  have x2 := Lib.cell_of_heap hX0 2
  have x0 : X.cell? ⟨w.heap.size, 0, none⟩ = some (.int .i64 (q : Int)) := x0
  have x1 : X.cell? ⟨w.heap.size, 1, none⟩ = some (.int .i64 (c : Int)) := x1
  have x2 : X.cell? ⟨w.heap.size, 2, none⟩ = some (.int .i64 (p : Int)) := x2
  have hT := h.any hXb
  obtain ⟨hblk, hg, -⟩ := hT
  have hq : q < t.g.rules.length := (List.getElem?_eq_some_iff.1 hr).1
  have hc : c < r.conj.length := (List.getElem?_eq_some_iff.1 hd).1
  obtain ⟨p2, c2, hv2⟩ : ∃ p c, t.v2 = .slice p t.g.rules.length c := by obtain ⟨vs, ⟨p, c, e, _⟩, _⟩ := hg.2; exact ⟨p, c, e⟩
  have hg2 := hg.2
  rw [hv2] at hg2
  obtain ⟨g1, o1, u1, hp1, a0, a1, hcn⟩ := hg2.row hr
  subst hp1
  obtain ⟨p3, c3, hu3⟩ : ∃ p c, u1 = .slice p r.conj.length c := by obtain ⟨vs, ⟨p, c, e, _⟩, _⟩ := hcn; exact ⟨p, c, e⟩
  subst hu3
  obtain ⟨g3, o3, u3, hp3, b0, b1, hsy⟩ := hcn.row hd
  subst hp3
  obtain ⟨p4, c4, hu4⟩ := IsSys.slc hsy
  subst hu4
  have t2 : X.cell? ⟨tb, 2, none⟩ = some t.v2 := Lib.cell_of_heap hblk 2
  rw [hv2] at t2
  obtain ⟨N, hN⟩ : ∃ N, N = t.g.rules.length := ⟨_, rfl⟩
  obtain ⟨C, hC⟩ : ∃ C, C = r.conj.length := ⟨_, rfl⟩
  obtain ⟨S, hS⟩ : ∃ S, S = d.seq.length := ⟨_, rfl⟩
  have HSL : Hid (S = d.seq.length) := hS
  rw [← hN] at t2 hq
  rw [← hC] at a1 hc
  rw [← hS] at b1 hpl hsy
  have HB : Hid (Below w.heap.size w X) := hXb
  have fz : X.frozen? ⟨w.heap.size + 1, 0, none⟩ = false := by unfold World.frozen?; rw [hX1]; simp
  have fz1 : X.frozen? ⟨w.heap.size + 1, 1, none⟩ = false := by unfold World.frozen?; rw [hX1]; simp
  have fz2 : X.frozen? ⟨w.heap.size + 1, 2, none⟩ = false := by unfold World.frozen?; rw [hX1]; simp
  have s0 : X.cell? ⟨w.heap.size + 1, 0, none⟩ = some (.int .i64 0) := Lib.cell_of_heap hX1 0
  have s1 : X.cell? ⟨w.heap.size + 1, 1, none⟩ = some (.int .i64 0) := Lib.cell_of_heap hX1 1
  have s2 : X.cell? ⟨w.heap.size + 1, 2, none⟩ = some (.int .i64 0) := Lib.cell_of_heap hX1 2
  by_cases hps : p = S
  · have HSY : Hid (symAt d.seq p = (⟨0, 0, 0⟩, false)) := by show _ = _; unfold symAt; rw [List.getElem?_eq_none (by rw [← hS]; omega)]
    have e1 : ((p : Int) == (S : Int)) = true := by rw [beq_iff_eq]; omega
    clear h hr hd hXb hblk hg hg2 hv2 a0 b0 hsy hcn hN hC hS hps hX0 hX1
    rw [HSY.out]
    go_enter Tryz.func94, Tryz.ntmps94
    go_upto_region 1 with fail
    rw [← hX]
    clear hX
    go_quiet (fail)
    go_wp2
    (try simp only [Exit.inBlock, Exit.then])
    refine bodyPost_ret (v := .tuple #[.agg #[.int .i64 0, .int .i64 0, .int .i64 0], .bool false]) ?_ rfl ⟨rfl, ((((below_drewN HB.out _).setCell (p := ⟨w.heap.size + 1, _, none⟩) (Nat.le_succ _) _).setCell (p := ⟨w.heap.size + 1, _, none⟩) (Nat.le_succ _) _).setCell (p := ⟨w.heap.size + 1, _, none⟩) (Nat.le_succ _) _)⟩
    rw [results_cell_tmp rfl]
    go_simp
  · obtain ⟨sy, hsx⟩ : ∃ sy, d.seq[p]? = some sy := ⟨_, List.getElem?_eq_getElem (by omega)⟩
    have HSY : Hid (symAt d.seq p = (sy, true)) := by show _ = _; unfold symAt; rw [hsx]
    obtain ⟨g7, o7, hp7, hg7, f0, f1, f2⟩ : ∃ g o, p4 = some ⟨g, o, none⟩ ∧ g < X.heap.size ∧ X.cell? ⟨g, o + p * 3, none⟩ = some (.int .i64 sy.name) ∧ X.cell? ⟨g, o + p * 3 + 1, none⟩ = some (.int .i64 sy.lo) ∧ X.cell? ⟨g, o + p * 3 + 2, none⟩ = some (.int .i64 sy.hi) := by
      obtain ⟨p9, c9, e9, _, hcc⟩ := hsy
      injection e9 with e9
      subst e9
      obtain ⟨g, o, e, _, hg, cc, _⟩ := hcc (by omega)
      obtain ⟨k0, k1, k2⟩ := sysV_at d.seq p sy hsx
      exact ⟨g, o, e, hg, cc _ _ k0, by rw [Nat.add_assoc]; exact cc _ _ k1, by rw [Nat.add_assoc]; exact cc _ _ k2⟩
    subst hp7
    have e1 : ((p : Int) == (S : Int)) = false := by rw [beq_eq_false_iff_ne]; omega
    have e2 : (p : Int) < (S : Int) := by omega
    have e3 : ¬ p = S := hps
    obtain ⟨nm, lo, up⟩ := sy
    simp only at f0 f1 f2
    clear h hr hd hXb hblk hg hg2 hv2 a0 b0 hsy hcn hN hC hS hX0 hX1 hsx
    rw [HSY.out]
    go_enter Tryz.func94, Tryz.ntmps94
    go_upto_region 1 with fail
    rw [← hX]
    clear hX
    go_quiet (fail)
    go_wp2
    (try simp only [Exit.inBlock, Exit.then])
    refine bodyPost_ret (v := .tuple #[.agg #[.int .i64 nm, .int .i64 lo, .int .i64 up], .bool true]) ?_ rfl ⟨rfl, ((((below_drewN HB.out _).setCell (p := ⟨w.heap.size + 1, _, none⟩) (Nat.le_succ _) _).setCell (p := ⟨w.heap.size + 1, _, none⟩) (Nat.le_succ _) _).setCell (p := ⟨w.heap.size + 1, _, none⟩) (Nat.le_succ _) _)⟩
    rw [results_cell_tmp rfl]
    go_simp
set_option maxHeartbeats 4000000 in
set_option maxRecDepth 100000 in
theorem byteT_any (t : Tp) (tb : Nat) (nm lo up : Int) (i j : Nat) (w : World) {F : Nat → Prop} (h : TbIs w F tb t) (hij : i ≤ j) (hj : j ≤ t.m) (hm : t.m ≤ 32) :
    Calls Tryz.prog 95 #[.pointer (some ⟨tb, 0, none⟩), .agg #[.int .i64 nm, .int .i64 lo, .int .i64 up], .int .i64 (i : Int), .int .i64 (j : Int)] w fun e w' => e = .returned (.bool (decide (i < j) && inR (fun k => (PlainAid.bt t.W k).toNat) ⟨nm, lo, up⟩ i)) ∧ Hid (Below w.heap.size w w') := by
  obtain ⟨X, hX⟩ : ∃ X, X = w.alloc (.cells #[.int .i64 nm, .int .i64 lo, .int .i64 up] 57) := ⟨_, rfl⟩
  have hXb : Below w.heap.size w X := by rw [hX]; exact bel1 _ _
  have x1 : X.cell? ⟨w.heap.size, 1, none⟩ = some (.int .i64 lo) := by rw [hX]; exact World.cell?_alloc_at _ _ _ _ rfl
  have x2 : X.cell? ⟨w.heap.size, 2, none⟩ = some (.int .i64 up) := by rw [hX]; exact World.cell?_alloc_at _ _ _ _ rfl
  have t3 : X.cell? ⟨tb, 3, none⟩ = some (.string t.W) := Lib.cell_of_heap (h.any hXb).1 3
  have hA := PlainAid.get_bt t.W
  obtain ⟨m, hmm⟩ : ∃ m, m = t.W.size := ⟨_, rfl⟩
  have hj2 : j ≤ m := by rw [hmm]; exact hj
  have b1 := PlainAid.bt_nonneg t.W i
  have b2 := PlainAid.bt_le t.W i
  have HB : Hid (Below w.heap.size w X) := hXb
  have HV : Hid ((decide (i < j) && inR (fun k => (PlainAid.bt t.W k).toNat) ⟨nm, lo, up⟩ i) = (decide (i < j) && (decide (lo ≤ PlainAid.bt t.W i) && decide (PlainAid.bt t.W i ≤ up)))) := by
    show _ = _
    unfold inR
    have e : (((PlainAid.bt t.W i).toNat : Nat) : Int) = PlainAid.bt t.W i := by omega
    simp only [e]
  rw [HV.out]
  have hsz : t.W.size = m := hmm.symm
  clear h hXb hj hm hmm HV
  by_cases hlt : i < j
  · have d1 : decide ((i : Int) < (j : Int)) = true := decide_eq_true (by omega)
    have l1 : (i : Int) < (j : Int) := by omega
    have l2 : i < t.W.size := by omega
    have l3 : (i : Int) < (t.W.size : Int) := by omega
    have d2 : decide (i < j) = true := decide_eq_true hlt
    rw [d2]
    by_cases h1 : lo ≤ PlainAid.bt t.W i
    · have g1 : decide (lo ≤ PlainAid.bt t.W i) = true := decide_eq_true h1
      by_cases h2 : PlainAid.bt t.W i ≤ up
      · have g2 : decide (PlainAid.bt t.W i ≤ up) = true := decide_eq_true h2
        rw [g1, g2]
        go_enter Tryz.func95, Tryz.ntmps95
        go_upto_region 1 with fail
        rw [← hX]
        clear hX
        go_quiet (fail)
        go_wp2
        go_ret
        exact ⟨rfl, below_drewN HB.out _⟩
      · have g2 : decide (PlainAid.bt t.W i ≤ up) = false := decide_eq_false h2
        rw [g1, g2]
        go_enter Tryz.func95, Tryz.ntmps95
        go_upto_region 1 with fail
        rw [← hX]
        clear hX
        go_quiet (fail)
        go_wp2
        go_ret
        exact ⟨rfl, below_drewN HB.out _⟩
    · have g1 : decide (lo ≤ PlainAid.bt t.W i) = false := decide_eq_false h1
      rw [g1]
      go_enter Tryz.func95, Tryz.ntmps95
      go_upto_region 1 with fail
      rw [← hX]
      clear hX
      go_quiet (fail)
      go_wp2
      go_ret
      exact ⟨rfl, below_drewN HB.out _⟩
  · have d1 : decide ((i : Int) < (j : Int)) = false := decide_eq_false (by omega)
    have d2 : decide (i < j) = false := decide_eq_false hlt
    rw [d2]
    go_enter Tryz.func95, Tryz.ntmps95
    go_upto_region 1 with fail
    rw [← hX]
    clear hX
    go_quiet (fail)
    go_wp2
    go_ret
    exact ⟨rfl, below_drewN HB.out _⟩
end Go.Proofs.YtejhdhlpdcfedaaGreat
/- The document's table: rest, by what is in already; walked. -/
namespace Go.Proofs.YtejhdhlpdcfedaaGreat
set_option linter.unusedVariables false
open Go.ChangeShapes Go.WideShapes Go.ChangeAt Go.RowKit

def btsT (t : Tp) : Nat → Nat := fun k => (PlainAid.bt t.W k).toNat
/-- What a table's numbers say: a name, a place. -/
def hasN (t : Tp) (hN : Nat → Int) (x i j : Nat) : Bool := decide (0 < hN (nameIx t x i j))
def hasR (t : Tp) (hR : Nat → Int) (q c p i j : Nat) : Bool := decide (0 < hR (restIx t q c p i j))
def hitT (t : Tp) (hN hR : Nat → Int) (q c p x i j k : Nat) : Bool := decide (i ≤ k) && (hasN t hN x i k && hasR t hR q c (p + 1) k j)
def stepT (t : Tp) (hN hR : Nat → Int) (q c p : Nat) (l : List Sy) (i j : Nat) : Bool :=
  match l[p]? with
  | none => decide (i = j)
  | some s => if s.name = -1 then decide (i < j) && (inR (btsT t) s i && hasR t hR q c (p + 1) (i + 1) j) else (List.range (j + 1)).any (hitT t hN hR q c p s.name.toNat i j)
set_option maxHeartbeats 4000000 in
set_option maxRecDepth 100000 in
theorem restD_any (t : Tp) (tb q c p i j : Nat) (r : Ru) (d : Cn) (hN hR : Nat → Int) (w : World) {F : Nat → Prop} (h : TbIs w F tb t) (hI : IBk w t.nb t.nn hN) (hJ : IBk w t.rb t.rn hR) (hr : t.g.rules[q]? = some r) (hd : r.conj[c]? = some d) (hpl : p ≤ d.seq.length) (hsy : ∀ s, s ∈ d.seq → s.name = -1 ∨ 0 ≤ s.name ∧ s.name < (t.g.names.length : Int)) (hn : t.g.names.length ≤ 64) (hz : offR t.g.rules t.g.rules.length ≤ 4000) (hij : i ≤ j) (hj : j ≤ t.m) (hm : t.m ≤ 32) :
    Calls Tryz.prog 67 #[.pointer (some ⟨tb, 0, none⟩), .agg #[.int .i64 (q : Int), .int .i64 (c : Int), .int .i64 (p : Int)], .int .i64 (i : Int), .int .i64 (j : Int)] w fun e w' => e = .returned (.bool (stepT t hN hR q c p d.seq i j)) ∧ Hid (Below w.heap.size w w') := by
  have hm2 : j ≤ 32 := by omega
  have hpz : p ≤ 100000 := by
    have h1 := plc_lt (t := t) (q := q) (c := c) (p := p) ⟨r, d, hr, hd, hpl⟩
    have h2 : p ≤ plc t q c p := by unfold plc; omega
    omega
  have KSY : Hid (∀ w', Below w.heap.size w w' → Calls Tryz.prog 94 #[.pointer (some ⟨tb, 0, none⟩), .agg #[.int .i64 (q : Int), .int .i64 (c : Int), .int .i64 (p : Int)]] w' fun e w'' => e = .returned (.tuple #[.agg #[.int .i64 (symAt d.seq p).1.name, .int .i64 (symAt d.seq p).1.lo, .int .i64 (symAt d.seq p).1.hi], .bool (symAt d.seq p).2]) ∧ Hid (Below w'.heap.size w' w'')) := fun w' hb => symT_any t tb q c p r d w' (h.any hb) hr hd hpl
  have KON : Hid (∀ w', Calls Tryz.prog 96 #[.agg #[.int .i64 (q : Int), .int .i64 (c : Int), .int .i64 (p : Int)]] w' fun e w'' => e = .returned (.agg #[.int .i64 (q : Int), .int .i64 (c : Int), .int .i64 ((p + 1 : Nat) : Int)]) ∧ Hid (Below w'.heap.size w' w'')) := fun w' => onT_any q c p hpz w'
  have KRS : Hid (∀ k w', p < d.seq.length → k ≤ j → Below w.heap.size w w' → Calls Tryz.prog 66 #[.pointer (some ⟨tb, 0, none⟩), .agg #[.int .i64 (q : Int), .int .i64 (c : Int), .int .i64 ((p + 1 : Nat) : Int)], .int .i64 ((k : Nat) : Int), .int .i64 (j : Int)] w' fun e w'' => e = .returned (.bool (hasR t hR q c (p + 1) k j)) ∧ Hid (Below w'.heap.size w' w'')) := fun k w' h1 h2 hb => restT_any t tb q c (p + 1) k j hR w' (h.any hb) (hJ.keep hb) ⟨r, d, hr, hd, h1⟩ hz h2 hj hm
  have KHS : Hid (∀ x k w', x < t.g.names.length → i ≤ k → k ≤ j → Below w.heap.size w w' → Calls Tryz.prog 16 #[.pointer (some ⟨tb, 0, none⟩), .int .i64 ((x : Nat) : Int), .int .i64 (i : Int), .int .i64 ((k : Nat) : Int)] w' fun e w'' => e = .returned (.bool (hasN t hN x i k)) ∧ ∃ n, w'' = w'.drewN n) := fun x k w' h1 h2 h3 hb => hasT_any t tb x i k hN w' (h.any hb) (hI.keep hb) h1 hn h2 (by omega) hm
  have KBY : Hid (∀ nm lo up w', Below w.heap.size w w' → Calls Tryz.prog 95 #[.pointer (some ⟨tb, 0, none⟩), .agg #[.int .i64 nm, .int .i64 lo, .int .i64 up], .int .i64 (i : Int), .int .i64 (j : Int)] w' fun e w'' => e = .returned (.bool (decide (i < j) && inR (btsT t) ⟨nm, lo, up⟩ i)) ∧ Hid (Below w'.heap.size w' w'')) := fun nm lo up w' hb => byteT_any t tb nm lo up i j w' (h.any hb) hij hj hm
  obtain ⟨X, hX⟩ : ∃ X, X = w.alloc (.cells #[.int .i64 (q : Int), .int .i64 (c : Int), .int .i64 (p : Int)] 119) := ⟨_, rfl⟩
  have HXb : Hid (Below w.heap.size w X) := by rw [hX]; exact bel1 _ _
  have hX0 : X.heap[w.heap.size]? = some (.cells #[.int .i64 (q : Int), .int .i64 (c : Int), .int .i64 (p : Int)] 119) := by rw [hX]; exact heap_alloc_new w _
  have HBX : Hid (∀ w', Below X.heap.size X w' → w'.cell? ⟨w.heap.size, 0, none⟩ = some (.int .i64 (q : Int)) ∧ w'.cell? ⟨w.heap.size, 1, none⟩ = some (.int .i64 (c : Int)) ∧ w'.cell? ⟨w.heap.size, 2, none⟩ = some (.int .i64 (p : Int)) ∧ w.heap.size < w'.heap.size) := fun w' hb => by
    have h1 := (hb.block _ (blk_ltT hX0)).trans hX0
    exact ⟨Lib.cell_of_heap h1 0, Lib.cell_of_heap h1 1, Lib.cell_of_heap h1 2, blk_ltT h1⟩
  cases hs : d.seq[p]? with
  | none =>
    have HV : Hid (stepT t hN hR q c p d.seq i j = decide (i = j)) := by show _ = _; unfold stepT; rw [hs]
    have HA : Hid (symAt d.seq p = (⟨0, 0, 0⟩, false)) := by show _ = _; unfold symAt; rw [hs]
    have KSY1 := KSY.out X HXb.out
    rw [HA.out] at KSY1
    rw [HV.out]
    obtain ⟨x0, x1, x2, x3⟩ := HBX.out X (Below.refl _ _)
    clear h hI hJ hr hd hpl hsy hs
    by_cases e : i = j
    · have e1 : ((i : Int) == (j : Int)) = true := by rw [beq_iff_eq]; omega
      have e2 : decide (i = j) = true := decide_eq_true e
      rw [e2]
      clear e2 e
      go_enter Tryz.func67, Tryz.ntmps67
      go_upto_region 1 with fail
      rw [← hX]
      clear hX hX0
      go_wp2_with (go_at_call 94; refine KSY1.mono ?_; rintro e w2 ⟨rfl, b2⟩; have HB2 : Hid (Below w.heap.size w w2) := HXb.out.trans (b2.out.mono HXb.out.size))
      go_ret
      exact ⟨rfl, HB2.out.alloc HB2.out.size _⟩
    · have e1 : ((i : Int) == (j : Int)) = false := by rw [beq_eq_false_iff_ne]; omega
      have e2 : decide (i = j) = false := decide_eq_false e
      rw [e2]
      clear e2
      go_enter Tryz.func67, Tryz.ntmps67
      go_upto_region 1 with fail
      rw [← hX]
      clear hX hX0
      go_wp2_with (go_at_call 94; refine KSY1.mono ?_; rintro e w2 ⟨rfl, b2⟩; have HB2 : Hid (Below w.heap.size w w2) := HXb.out.trans (b2.out.mono HXb.out.size))
      go_ret
      exact ⟨rfl, HB2.out.alloc HB2.out.size _⟩
  | some s =>
    have HA : Hid (symAt d.seq p = (s, true)) := by show _ = _; unfold symAt; rw [hs]
    have KSY1 := KSY.out X HXb.out
    rw [HA.out] at KSY1
    have hps : p < d.seq.length := (List.getElem?_eq_some_iff.1 hs).1
    have hsn := hsy s (List.mem_of_getElem? hs)
    obtain ⟨x0, x1, x2, x3⟩ := HBX.out X (Below.refl _ _)
    by_cases hnm : s.name = -1
    · have HV : Hid (stepT t hN hR q c p d.seq i j = (decide (i < j) && inR (btsT t) s i && hasR t hR q c (p + 1) (i + 1) j)) := by show _ = _; unfold stepT; rw [hs]; simp only [if_pos hnm, Bool.and_assoc]
      rw [HV.out]
      obtain ⟨nm, lo, up⟩ := s
      simp only at hnm KSY1
      subst hnm
      obtain ⟨B, hB⟩ : ∃ B, B = (decide (i < j) && inR (btsT t) ⟨-1, lo, up⟩ i) := ⟨_, rfl⟩
      have KB1 := KBY.out (-1) lo up
      rw [← hB] at KB1 ⊢
      have HKB : Hid (∀ w', Below w.heap.size w w' → Calls Tryz.prog 95 #[.pointer (some ⟨tb, 0, none⟩), .agg #[.int .i64 (-1), .int .i64 lo, .int .i64 up], .int .i64 (i : Int), .int .i64 (j : Int)] w' fun e w'' => e = .returned (.bool B) ∧ Hid (Below w'.heap.size w' w'')) := KB1
      have hBi : B = true → i + 1 ≤ j := fun e => by rw [hB] at e; simp only [Bool.and_eq_true, decide_eq_true_eq] at e; omega
      clear h hI hJ hr hd hpl hsy hs hsn hB KB1 HV
      cases B with
      | false =>
        rw [show (false && hasR t hR q c (p + 1) (i + 1) j) = false from rfl]
        clear hBi
        go_enter Tryz.func67, Tryz.ntmps67
        go_upto_region 1 with fail
        rw [← hX]
        clear hX hX0
        go_wp2_with (first
          | (go_at_call 94; refine KSY1.mono ?_; rintro e w2 ⟨rfl, b2⟩; have HB2 : Hid (Below w.heap.size w w2) := HXb.out.trans (b2.out.mono HXb.out.size))
          | (go_at_call 95; refine (HKB.out _ (HB2.out.alloc HB2.out.size _)).mono ?_; rintro e w3 ⟨rfl, b3⟩; have HB3 : Hid (Below w.heap.size w w3) := (HB2.out.alloc HB2.out.size _).trans (b3.out.mono (HB2.out.alloc HB2.out.size _).size)))
        go_ret
        exact ⟨rfl, HB3⟩
      | true =>
        have hij1 := hBi rfl
        have KR1 := KRS.out (i + 1)
        obtain ⟨V, hV⟩ : ∃ V, V = hasR t hR q c (p + 1) (i + 1) j := ⟨_, rfl⟩
        rw [← hV] at KR1 ⊢
        have HKR : Hid (∀ w', Below w.heap.size w w' → Calls Tryz.prog 66 #[.pointer (some ⟨tb, 0, none⟩), .agg #[.int .i64 (q : Int), .int .i64 (c : Int), .int .i64 ((p + 1 : Nat) : Int)], .int .i64 ((i : Int) + 1), .int .i64 (j : Int)] w' fun e w'' => e = .returned (.bool V) ∧ Hid (Below w'.heap.size w' w'')) := fun w' hb => by
          have h9 := KR1 w' hps hij1 hb
          rw [show (((i + 1 : Nat)) : Int) = (i : Int) + 1 by omega] at h9
          exact h9
        rw [show (true && V) = V from rfl]
        clear hBi hV KR1
        go_enter Tryz.func67, Tryz.ntmps67
        go_upto_region 1 with fail
        rw [← hX]
        clear hX hX0
        go_wp2_with (first
          | (go_at_call 94; refine KSY1.mono ?_; rintro e w2 ⟨rfl, b2⟩; have HB2 : Hid (Below w.heap.size w w2) := HXb.out.trans (b2.out.mono HXb.out.size); clear x0 x1 x2 x3)
          | (go_at_call 95; refine (HKB.out _ (HB2.out.alloc HB2.out.size _)).mono ?_; rintro e w3 ⟨rfl, b3⟩; have HB3 : Hid (Below w.heap.size w w3) := (HB2.out.alloc HB2.out.size _).trans (b3.out.mono (HB2.out.alloc HB2.out.size _).size); obtain ⟨y0, y1, y2, y3⟩ := HBX.out w3 ((b2.out.alloc b2.out.size _).trans (b3.out.mono (b2.out.alloc b2.out.size _).size)))
          | (go_at_call 96; refine (KON.out _).mono ?_; rintro e w4 ⟨rfl, b4⟩; have HB4 : Hid (Below w.heap.size w w4) := HB3.out.trans (b4.out.mono HB3.out.size))
          | (go_at_call 66; refine (HKR.out _ HB4.out).mono ?_; rintro e w5 ⟨rfl, b5⟩; have HB5 : Hid (Below w.heap.size w w5) := HB4.out.trans (b5.out.mono HB4.out.size)))
        go_ret
        exact ⟨rfl, HB5⟩
    · have hsn2 := hsn.resolve_left hnm
      have HV : Hid (stepT t hN hR q c p d.seq i j = (List.range (j + 1)).any (hitT t hN hR q c p s.name.toNat i j)) := by show _ = _; unfold stepT; rw [hs]; simp only [if_neg hnm]
      rw [HV.out]
      obtain ⟨nm, lo, up⟩ := s
      simp only at hnm KSY1 hsn2 ⊢
      obtain ⟨x, rfl⟩ : ∃ x : Nat, nm = (x : Int) := ⟨nm.toNat, by omega⟩
      rw [Int.toNat_natCast]
      have hx : x < t.g.names.length := by omega
      have HKH : Hid (∀ k w', i ≤ k → k ≤ j → Below w.heap.size w w' → Calls Tryz.prog 16 #[.pointer (some ⟨tb, 0, none⟩), .int .i64 (x : Int), .int .i64 (i : Int), .int .i64 ((k : Nat) : Int)] w' fun e w'' => e = .returned (.bool (hasN t hN x i k)) ∧ ∃ n, w'' = w'.drewN n) := fun k w' h1 h2 hb => KHS.out x k w' hx h1 h2 hb
      have HKR : Hid (∀ k w', k ≤ j → Below w.heap.size w w' → Calls Tryz.prog 66 #[.pointer (some ⟨tb, 0, none⟩), .agg #[.int .i64 (q : Int), .int .i64 (c : Int), .int .i64 ((p + 1 : Nat) : Int)], .int .i64 ((k : Nat) : Int), .int .i64 (j : Int)] w' fun e w'' => e = .returned (.bool (hasR t hR q c (p + 1) k j)) ∧ Hid (Below w'.heap.size w' w'')) := fun k w' h2 hb => KRS.out k w' hps h2 hb
      obtain ⟨P, hP⟩ : ∃ P, P = hitT t hN hR q c p x i j := ⟨_, rfl⟩
      have HP : Hid (∀ k, P k = (decide (i ≤ k) && (hasN t hN x i k && hasR t hR q c (p + 1) k j))) := fun k => by rw [hP]; rfl
      rw [← hP]
      obtain ⟨R, hRe⟩ : ∃ R, R = (List.range (j + 1)).any P := ⟨_, rfl⟩
      have HR : Hid (R = (List.range (j + 1)).any P) := hRe
      rw [← hRe]
      have nn0 : ¬ (x : Int) < 0 := by omega
      clear h hI hJ hr hd hpl hsy hs hsn hsn2 hnm hP hRe hx HV
      go_enter Tryz.func67, Tryz.ntmps67
      go_upto_region 1 with fail
      rw [← hX]
      clear hX hX0
      go_upto_region 6 with (go_at_call 94; refine KSY1.mono ?_; rintro e w2 ⟨rfl, b2⟩; have HB2 : Hid (Below w.heap.size w w2) := HXb.out.trans (b2.out.mono HXb.out.size); clear x0 x1 x2 x3)
      obtain ⟨Y, hY⟩ : ∃ Y, Y = w2.alloc (.cells #[.int .i64 (x : Int), .int .i64 lo, .int .i64 up] 57) := ⟨_, rfl⟩
      rw [← hY]
      have HYX : Hid (Below X.heap.size X Y) := by rw [hY]; exact b2.out.alloc b2.out.size _
      have HYW : Hid (Below w.heap.size w Y) := HXb.out.trans (HYX.out.mono HXb.out.size)
      have hY0 : Y.heap[w2.heap.size]? = some (.cells #[.int .i64 (x : Int), .int .i64 lo, .int .i64 up] 57) := by rw [hY]; exact heap_alloc_new w2 _
      obtain ⟨nb, hnb⟩ : ∃ nb, nb = w2.heap.size := ⟨_, rfl⟩
      rw [← hnb] at hY0 ⊢
      have HYC : Hid (∀ w', Below Y.heap.size Y w' → w'.cell? ⟨nb, 0, none⟩ = some (.int .i64 (x : Int)) ∧ nb < w'.heap.size) := fun w' hb => ⟨Lib.cell_of_heap ((hb.block _ (blk_ltT hY0)).trans hY0) 0, blk_ltT ((hb.block _ (blk_ltT hY0)).trans hY0)⟩
      clear hY hY0 hnb HB2 b2
      go_wp2
      go_loopw [11] (fun z wr => ∃ k : Nat, i ≤ k ∧ k ≤ j + 1 ∧ z = .int .i64 k ∧ Hid ((List.range k).any P = false) ∧ Hid (Below Y.heap.size Y wr)) (fun z _ => j + 1 - (intOf z).toNat)
      case atStart =>
        refine ⟨i, Nat.le_refl _, by omega, rfl, ?_, Below.refl _ _⟩
        show _ = _
        rw [List.any_eq_false]
        intro k hk
        rw [HP.out k, decide_eq_false (by have := List.mem_range.1 hk; omega)]; simp
      case round =>
        obtain ⟨k, hik, hk, rfl, HF, HB⟩ := hrel
        have HBW : Hid (Below w.heap.size w wr) := HYW.out.trans (HB.out.mono HYW.out.size)
        have HBXr : Hid (Below X.heap.size X wr) := HYX.out.trans (HB.out.mono HYX.out.size)
        obtain ⟨v0, v1⟩ := HYC.out wr HB.out
        by_cases hkj : k ≤ j
        · have hkj2 : (k : Int) ≤ (j : Int) := by omega
          have KH1 := HKH.out k wr hik hkj HBW.out
          have hPk := HP.out k
          rw [decide_eq_true hik, Bool.true_and] at hPk
          cases hh : hasN t hN x i k with
          | false =>
            rw [hh] at KH1 hPk
            have HF2 : Hid ((List.range (k + 1)).any P = false) := by show _ = _; rw [List.range_succ, List.any_append, HF.out]; simp [hPk]
            clear hPk hh
            go_wp2_with (go_at_call 16; refine KH1.mono ?_; rintro e w3 ⟨rfl, n, rfl⟩)
            go_roundw
            case rel => exact ⟨k + 1, by omega, by omega, by go_num, HF2, below_drewN HB.out _⟩
            case measure => simp [intOf]; omega
          | true =>
            rw [hh, Bool.true_and] at hPk
            rw [hh] at KH1
            have HKR1 : Hid (∀ w', Below w.heap.size w w' → Calls Tryz.prog 66 #[.pointer (some ⟨tb, 0, none⟩), .agg #[.int .i64 (q : Int), .int .i64 (c : Int), .int .i64 ((p + 1 : Nat) : Int)], .int .i64 (k : Int), .int .i64 (j : Int)] w' fun e w'' => e = .returned (.bool (P k)) ∧ Hid (Below w'.heap.size w' w'')) := fun w' hb => by rw [hPk]; exact HKR.out k w' hkj hb
            obtain ⟨z0, z1, z2, z3⟩ := HBX.out wr HBXr.out
            have HPT : Hid (P k = true → R = true) := fun e => by rw [HR.out, List.any_eq_true]; exact ⟨k, List.mem_range.2 (by omega), e⟩
            have HPF : Hid (P k = false → (List.range (k + 1)).any P = false) := fun e => by rw [List.range_succ, List.any_append, HF.out]; simp [e]
            obtain ⟨b, hb⟩ : ∃ b, b = P k := ⟨_, rfl⟩
            rw [← hb] at HKR1 HPT HPF
            clear hPk hh hb
            cases b with
            | true =>
              have HRT : Hid (R = true) := HPT.out rfl
              go_wp2_with (first
                | (go_at_call 16; refine KH1.mono ?_; rintro e w3 ⟨rfl, n, rfl⟩)
                | (go_at_call 96; refine (KON.out _).mono ?_; rintro e w4 ⟨rfl, b4⟩; have HB4 : Hid (Below w.heap.size w w4) := (below_drewN HBW.out n).trans (b4.out.mono HBW.out.size))
                | (go_at_call 66; refine (HKR1.out _ HB4.out).mono ?_; rintro e w5 ⟨rfl, b5⟩; have HB5 : Hid (Below w.heap.size w w5) := HB4.out.trans (b5.out.mono HB4.out.size)))
              go_ret
              exact ⟨by rw [HRT.out]; rfl, HB5⟩
            | false =>
              have HF2 : Hid ((List.range (k + 1)).any P = false) := HPF.out rfl
              go_wp2_with (first
                | (go_at_call 16; refine KH1.mono ?_; rintro e w3 ⟨rfl, n, rfl⟩)
                | (go_at_call 96; refine (KON.out _).mono ?_; rintro e w4 ⟨rfl, b4⟩; have HB4 : Hid (Below w.heap.size w w4) := (below_drewN HBW.out n).trans (b4.out.mono HBW.out.size); have HC4 : Hid (Below Y.heap.size Y w4) := (below_drewN HB.out n).trans (b4.out.mono HB.out.size))
                | (go_at_call 66; refine (HKR1.out _ HB4.out).mono ?_; rintro e w5 ⟨rfl, b5⟩; have HC5 : Hid (Below Y.heap.size Y w5) := HC4.out.trans (b5.out.mono HC4.out.size)))
              go_roundw
              case rel => exact ⟨k + 1, by omega, by omega, by go_num, HF2, HC5⟩
              case measure => simp [intOf]; omega
        · obtain rfl : k = j + 1 := by omega
          have HRF : Hid (R = false) := by show _ = _; rw [HR.out]; exact HF.out
          have hnk : ¬ ((j + 1 : Nat) : Int) ≤ (j : Int) := by omega
          go_wp2
          go_ret
          exact ⟨by rw [HRF.out]; rfl, HBW⟩
end Go.Proofs.YtejhdhlpdcfedaaGreat
/- The document's table: Holds, walked. -/
namespace Go.Proofs.YtejhdhlpdcfedaaGreat
set_option linter.unusedVariables false
open Go.ChangeShapes Go.WideShapes Go.ChangeAt Go.RowKit

theorem IsCns.lngU {w : World} {F : Nat → Prop} {v : Value} {l : List Cn} (h : IsCns w F v l) : ∃ p c, v = .slice p l.length c ∧ l.length ≤ maxLen := by
  obtain ⟨vs, ⟨p, c, e, hm, _⟩, _⟩ := h
  exact ⟨p, c, e, hm.1⟩
theorem cellU_lt {w : World} {b j : Nat} {v : Value} (h : w.cell? ⟨b, j, none⟩ = some v) : b < w.heap.size := by
  by_cases hh : b < w.heap.size
  · exact hh
  · unfold World.cell? at h
    rw [Array.getElem?_eq_none (by simpa using hh)] at h; cases h
/-- A conjunct of a rule holds of a span, by what is in. -/
def conT (t : Tp) (hR : Nat → Int) (q : Nat) (l : List Cn) (i j c : Nat) : Bool := !(hasR t hR q c 0 i j == (l.getD c ⟨false, []⟩).neg)
def holT (t : Tp) (hR : Nat → Int) (q : Nat) (l : List Cn) (i j : Nat) : Bool := (List.range l.length).all (conT t hR q l i j)
set_option maxHeartbeats 1000000 in
set_option maxRecDepth 100000 in
theorem holdsT_any (t : Tp) (tb q i j : Nat) (r : Ru) (hR : Nat → Int) (w : World) {F : Nat → Prop} (h : TbIs w F tb t) (hJ : IBk w t.rb t.rn hR) (hr : t.g.rules[q]? = some r) (hz : offR t.g.rules t.g.rules.length ≤ 4000) (hij : i ≤ j) (hj : j ≤ t.m) (hm : t.m ≤ 32) :
    Calls Tryz.prog 69 #[.pointer (some ⟨tb, 0, none⟩), .int .i64 (q : Int), .int .i64 (i : Int), .int .i64 (j : Int)] w fun e w' => e = .returned (.bool (holT t hR q r.conj i j)) ∧ Hid (Below w.heap.size w w') := by
  have KRS : Hid (∀ (c : Nat) (d : Cn) (w' : World), r.conj[c]? = some d → Below w.heap.size w w' → Calls Tryz.prog 66 #[.pointer (some ⟨tb, 0, none⟩), .agg #[.int .i64 (q : Int), .int .i64 (c : Int), .int .i64 ((0 : Nat) : Int)], .int .i64 (i : Int), .int .i64 (j : Int)] w' fun e w'' => e = .returned (.bool (hasR t hR q c 0 i j)) ∧ Hid (Below w'.heap.size w' w'')) := fun c d w' hd hb => restT_any t tb q c 0 i j hR w' (h.any hb) (hJ.keep hb) ⟨r, d, hr, hd, Nat.zero_le _⟩ hz hij hj hm
  have KR0 : Hid (∀ (c : Nat) (d : Cn) (w' : World), r.conj[c]? = some d → Below w.heap.size w w' → Calls Tryz.prog 66 #[.pointer (some ⟨tb, 0, none⟩), .agg #[.int .i64 (q : Int), .int .i64 (c : Int), .int .i64 0], .int .i64 (i : Int), .int .i64 (j : Int)] w' fun e w'' => e = .returned (.bool (hasR t hR q c 0 i j)) ∧ Hid (Below w'.heap.size w' w'')) := fun c d w' hd hb => KRS.out c d w' hd hb
  obtain ⟨p2, c2, hv2⟩ : ∃ p c, t.v2 = .slice p t.g.rules.length c := by obtain ⟨vs, ⟨p, c, e, _⟩, _⟩ := h.2.1.2; exact ⟨p, c, e⟩
  have hg2 := h.2.1.2
  rw [hv2] at hg2
  obtain ⟨g1, o1, u1, hp1, a0, a1, hcn⟩ := hg2.row hr
  subst hp1
  obtain ⟨p3, c3, hu3, hl0⟩ := IsCns.lngU hcn
  subst hu3
  have hl9 : r.conj.length ≤ 9223372036854775807 := by unfold maxLen at hl0; omega
  have hq : q < t.g.rules.length := (List.getElem?_eq_some_iff.1 hr).1
  have t2 : w.cell? ⟨tb, 2, none⟩ = some t.v2 := Lib.cell_of_heap h.1 2
  rw [hv2] at t2
  obtain ⟨N, hN⟩ : ∃ N, N = t.g.rules.length := ⟨_, rfl⟩
  rw [← hN] at t2 hq
  obtain ⟨hd, l⟩ := r
  clear KRS
  simp only at KR0 a0 a1 hcn hl9 ⊢
  have hqN : (q : Int) < (N : Int) := by omega
  obtain ⟨X, hX⟩ : ∃ X, X = w.alloc (.cells #[.int .i64 hd, .slice p3 l.length c3] 40) := ⟨_, rfl⟩
  have HXb : Hid (Below w.heap.size w X) := by rw [hX]; exact bel1 _ _
  have hX0 : X.heap[w.heap.size]? = some (.cells #[.int .i64 hd, .slice p3 l.length c3] 40) := by rw [hX]; exact heap_alloc_new w _
  obtain ⟨nb, hnb⟩ : ∃ nb, nb = w.heap.size := ⟨_, rfl⟩
  rw [← hnb] at hX0
  have HXC : Hid (∀ w', Below X.heap.size X w' → w'.cell? ⟨nb, 1, none⟩ = some (.slice p3 l.length c3)) := fun w' hb => Lib.cell_of_heap ((hb.block _ (blk_ltT hX0)).trans hX0) 1
  have HCN : Hid (∀ w', Below w.heap.size w w' → IsCns w' F (.slice p3 l.length c3) l) := fun w' hb => hcn.any hb
  obtain ⟨R, hRe⟩ : ∃ R, R = holT t hR q l i j := ⟨_, rfl⟩
  obtain ⟨P, hP⟩ : ∃ P, P = conT t hR q l i j := ⟨_, rfl⟩
  have HR : Hid (R = (List.range l.length).all P) := by show _ = _; rw [hRe, hP]; rfl
  have HP : Hid (∀ (c : Nat) (d : Cn), l[c]? = some d → P c = !(hasR t hR q c 0 i j == d.neg)) := fun c d e => by rw [hP]; unfold conT; rw [List.getD_eq_getElem?_getD, e]; rfl
  rw [← hRe]
  clear h hJ hr hg2 hcn hl0 hRe hP hN hv2 hX0
  go_enter Tryz.func69, Tryz.ntmps69
  go_wp2
  rw [← hX, ← hnb]
  clear hX hnb
  go_loopw [10] (fun z wr => ∃ k : Nat, k ≤ l.length ∧ z = .int .i64 k ∧ Hid ((List.range k).all P = true) ∧ Hid (Below X.heap.size X wr)) (fun z _ => l.length - (intOf z).toNat)
  case atStart => exact ⟨0, Nat.zero_le _, rfl, rfl, Below.refl _ _⟩
  case round =>
    obtain ⟨k, hk, rfl, HF, HB⟩ := hrel
    have HBW : Hid (Below w.heap.size w wr) := HXb.out.trans (HB.out.mono HXb.out.size)
    have x1 := HXC.out wr HB.out
    by_cases hlt : k < l.length
    · obtain ⟨d, hd1⟩ : ∃ d, l[k]? = some d := ⟨_, List.getElem?_eq_getElem hlt⟩
      obtain ⟨g4, o4, u4, hp4, b0, b1, hsy⟩ := (HCN.out wr HBW.out).row hd1
      subst hp4
      have hPk := HP.out k d hd1
      have KE : Hid (∀ w2, Below wr.heap.size wr w2 → Calls Tryz.prog 66 #[.pointer (some ⟨tb, 0, none⟩), .agg #[.int .i64 (q : Int), .int .i64 (k : Int), .int .i64 0], .int .i64 (i : Int), .int .i64 (j : Int)] w2 fun e w'' => e = .returned (.bool (hasR t hR q k 0 i j)) ∧ Hid (Below w2.heap.size w2 w'')) := fun w2 hb => KR0.out k d w2 hd1 (HBW.out.trans (hb.mono HBW.out.size))
      obtain ⟨e0, he0⟩ : ∃ e0, e0 = hasR t hR q k 0 i j := ⟨_, rfl⟩
      rw [← he0] at KE hPk
      obtain ⟨ng, sq⟩ := d
      simp only at b0 hPk
      have HSS : Hid (∀ w', Below wr.heap.size wr w' → Below wr.heap.size wr w' ∧ w'.cell? ⟨nb, 1, none⟩ = some (.slice (some ⟨g4, o4, none⟩) l.length c3) ∧ w'.cell? ⟨g4, o4 + k * 2, none⟩ = some (.bool ng)) := fun w' h =>
        ⟨h, (h.cell (p := ⟨_, _, none⟩) (cellU_lt x1)).trans x1, (h.cell (p := ⟨_, _, none⟩) (cellU_lt b0)).trans b0⟩
      have HTA : Hid ((e0 == ng) = false → (List.range (k + 1)).all P = true) := fun h => by rw [List.range_succ, List.all_append, HF.out]; simp [hPk, h]
      have HFA : Hid ((e0 == ng) = true → R = false) := fun h => by rw [HR.out, List.all_eq_false]; exact ⟨k, List.mem_range.2 hlt, by rw [hPk, h]; simp⟩
      clear hsy he0 hPk hd1 b1
      go_wp2
      go_region_held3 (fun w' => Below wr.heap.size wr w' ∧ w'.cell? ⟨nb, 1, none⟩ = some (.slice (some ⟨g4, o4, none⟩) l.length c3) ∧ w'.cell? ⟨g4, o4 + k * 2, none⟩ = some (.bool ng))
        ((refine HSS.out _ ?_; (repeat' (first | with_reducible assumption | with_reducible exact Below.refl _ _ | with_reducible apply Below.drew))))
        ((go_at_call 66; refine (KE.out _ (by repeat' (first | exact Below.refl _ _ | apply Below.drew))).mono ?_; rintro e w3 ⟨rfl, b3⟩; have b4 : Below wr.heap.size wr w3 := Below.trans (b := wr.drew) (Below.refl _ _).drew b3.out))
      have HB3 : Hid (Below X.heap.size X w3) := HB.out.trans (b4.mono HB.out.size)
      have HW3 : Hid (Below w.heap.size w w3) := HBW.out.trans (b4.mono HBW.out.size)
      cases e0 <;> cases ng
      · have HN : Hid (R = false) := HFA.out rfl
        go_wp2
        go_ret
        exact ⟨by rw [HN.out]; rfl, HW3⟩
      · have HN : Hid ((List.range (k + 1)).all P = true) := HTA.out rfl
        go_wp2
        go_roundw
        case rel => exact ⟨k + 1, by omega, by go_num, HN, HB3⟩
        case measure => simp [intOf]; omega
      · have HN : Hid ((List.range (k + 1)).all P = true) := HTA.out rfl
        go_wp2
        go_roundw
        case rel => exact ⟨k + 1, by omega, by go_num, HN, HB3⟩
        case measure => simp [intOf]; omega
      · have HN : Hid (R = false) := HFA.out rfl
        go_wp2
        go_ret
        exact ⟨by rw [HN.out]; rfl, HW3⟩
    · obtain rfl : k = l.length := by omega
      have HN : Hid (R = true) := by show _ = _; rw [HR.out]; exact HF.out
      go_wp2
      go_ret
      exact ⟨by rw [HN.out]; rfl, HBW⟩
end Go.Proofs.YtejhdhlpdcfedaaGreat
/- The document's table: ranked, walked. -/
namespace Go.Proofs.YtejhdhlpdcfedaaGreat
set_option linter.unusedVariables false
open Go.ChangeShapes Go.WideShapes Go.ChangeAt Go.RowKit

/-- A conjunct of a rule is negated, or has a number among these. -/
def rnkT (t : Tp) (hQ : Nat → Int) (q : Nat) (l : List Cn) (i j c : Nat) : Bool := (l.getD c ⟨false, []⟩).neg || !(hQ (restIx t q c 0 i j) == 0)
def ranT (t : Tp) (hQ : Nat → Int) (q : Nat) (l : List Cn) (i j : Nat) : Bool := (List.range l.length).all (rnkT t hQ q l i j)
set_option maxHeartbeats 1000000 in
set_option maxRecDepth 100000 in
theorem rankedT_any (t : Tp) (tb qb q i j : Nat) (r : Ru) (hQ : Nat → Int) (w : World) {F : Nat → Prop} (h : TbIs w F tb t) (hJ : IBk w qb t.rn hQ) (hr : t.g.rules[q]? = some r) (hz : offR t.g.rules t.g.rules.length ≤ 4000) (hij : i ≤ j) (hj : j ≤ t.m) (hm : t.m ≤ 32) :
    Calls Tryz.prog 70 #[.pointer (some ⟨tb, 0, none⟩), .slice (some ⟨qb, 0, none⟩) t.rn t.rn, .int .i64 (q : Int), .int .i64 (i : Int), .int .i64 (j : Int)] w fun e w' => e = .returned (.bool (ranT t hQ q r.conj i j)) ∧ Hid (Below w.heap.size w w') := by
  have HTB : Hid (∀ w', Below w.heap.size w w' → TbIs w' F tb t ∧ IBk w' qb t.rn hQ) := fun w' hb => ⟨h.any hb, hJ.keep hb⟩
  obtain ⟨sp, hsp⟩ : ∃ sp, sp = spn t i j := ⟨_, rfl⟩
  have KS : Hid (∀ w', Below w.heap.size w w' → Calls Tryz.prog 43 #[.pointer (some ⟨tb, 0, none⟩), .int .i64 (i : Int), .int .i64 (j : Int)] w' fun e w'' => e = .returned (.int .i64 (sp : Int)) ∧ w' = w'') := fun w' hb => by rw [hsp]; exact span_any t tb i j w' (h.any hb) hij hj hm
  obtain ⟨p2, c2, hv2⟩ : ∃ p c, t.v2 = .slice p t.g.rules.length c := by obtain ⟨vs, ⟨p, c, e, _⟩, _⟩ := h.2.1.2; exact ⟨p, c, e⟩
  have hg2 := h.2.1.2
  rw [hv2] at hg2
  obtain ⟨g1, o1, u1, hp1, a0, a1, hcn⟩ := hg2.row hr
  subst hp1
  obtain ⟨p3, c3, hu3, hl0⟩ := IsCns.lngU hcn
  subst hu3
  have hl9 : r.conj.length ≤ 9223372036854775807 := by unfold maxLen at hl0; omega
  have hq : q < t.g.rules.length := (List.getElem?_eq_some_iff.1 hr).1
  have t2 : w.cell? ⟨tb, 2, none⟩ = some t.v2 := Lib.cell_of_heap h.1 2
  rw [hv2] at t2
  have HCI : Hid (∀ (c : Nat) (d : Cn) (w' : World), r.conj[c]? = some d → Below w.heap.size w w' → ∃ g5 o5 c5 g6 o6 c6, w'.cell? ⟨tb, 6, none⟩ = some (.slice (some ⟨g5, o5, none⟩) t.g.rules.length c5) ∧ w'.cell? ⟨g5, o5 + q, none⟩ = some (.slice (some ⟨g6, o6, none⟩) r.conj.length c6) ∧ w'.cell? ⟨g6, o6 + c, none⟩ = some (.int .i64 ((plc t q c 0 : Nat) : Int)) ∧ w'.cell? ⟨tb, 4, none⟩ = some (.int .i64 (t.wide : Int)) ∧ w'.cell? ⟨qb, restIx t q c 0 i j, none⟩ = some (.int .i64 (hQ (restIx t q c 0 i j))) ∧ plc t q c 0 < offR t.g.rules t.g.rules.length) := fun c d w' hd hb => by
    have hp := plc_lt (t := t) (q := q) (c := c) (p := 0) ⟨r, d, hr, hd, Nat.zero_le _⟩
    have hT := h.any hb
    have hgd : (t.g.rules.getD q ⟨0, []⟩).conj = r.conj := by rw [List.getD_eq_getElem?_getD, hr]; rfl
    obtain ⟨hblk, hg, us, hul, hcr, hci⟩ := hT
    have hc : c < r.conj.length := (List.getElem?_eq_some_iff.1 hd).1
    obtain ⟨u, hu⟩ : ∃ u, us[q]? = some u := ⟨_, List.getElem?_eq_getElem (by omega)⟩
    obtain ⟨g5, o5, c5, hcv, hg5, d5⟩ := hcr.celT hu (by omega)
    obtain ⟨g6, o6, c6, hu6, hg6, d6⟩ := (hci q r u hr hu).celT (k := c) (u := .int .i64 ((offR t.g.rules q + offC r.conj c : Nat) : Int)) (by simp [hc]) (by omega)
    have t6 : w'.cell? ⟨tb, 6, none⟩ = some t.cv := Lib.cell_of_heap hblk 6
    have e : plc t q c 0 = offR t.g.rules q + offC r.conj c := by unfold plc; rw [hgd]; rfl
    refine ⟨g5, o5, c5, g6, o6, c6, by rw [t6, hcv], by rw [d5, hu6], by rw [d6, e], Lib.cell_of_heap hblk 4, (hJ.keep hb).cell (restIx_lt hp hij hj), hp⟩
  obtain ⟨N, hN⟩ : ∃ N, N = t.g.rules.length := ⟨_, rfl⟩
  rw [← hN] at t2 hq
  have HCI2 : Hid (∀ (c : Nat) (d : Cn) (w' : World), r.conj[c]? = some d → Below w.heap.size w w' → ∃ g5 o5 c5 g6 o6 c6 : Nat, ∃ pl wd ix : Nat, w'.cell? ⟨tb, 6, none⟩ = some (.slice (some ⟨g5, o5, none⟩) N c5) ∧ w'.cell? ⟨g5, o5 + q, none⟩ = some (.slice (some ⟨g6, o6, none⟩) r.conj.length c6) ∧ w'.cell? ⟨g6, o6 + c, none⟩ = some (.int .i64 (pl : Int)) ∧ w'.cell? ⟨tb, 4, none⟩ = some (.int .i64 (wd : Int)) ∧ w'.cell? ⟨qb, ix, none⟩ = some (.int .i64 (hQ (restIx t q c 0 i j))) ∧ pl ≤ 4000 ∧ wd ≤ 1089 ∧ sp < wd ∧ ix = pl * wd + sp ∧ ix < t.rn) := fun c d w' hd hb => by
    obtain ⟨g5, o5, c5, g6, o6, c6, k1, k2, k3, k4, k5, k6⟩ := HCI.out c d w' hd hb
    rw [hN]
    exact ⟨g5, o5, c5, g6, o6, c6, _, _, _, k1, k2, k3, k4, k5, by omega, wide_le hm, by rw [hsp]; exact spn_lt hij hj, by rw [hsp]; rfl, restIx_lt k6 hij hj⟩
  obtain ⟨hd, l⟩ := r
  clear HCI
  simp only at HCI2 a0 a1 hcn hl9 ⊢
  have hqN : (q : Int) < (N : Int) := by omega
  obtain ⟨X, hX⟩ : ∃ X, X = w.alloc (.cells #[.int .i64 hd, .slice p3 l.length c3] 40) := ⟨_, rfl⟩
  have HXb : Hid (Below w.heap.size w X) := by rw [hX]; exact bel1 _ _
  have hX0 : X.heap[w.heap.size]? = some (.cells #[.int .i64 hd, .slice p3 l.length c3] 40) := by rw [hX]; exact heap_alloc_new w _
  obtain ⟨nb, hnb⟩ : ∃ nb, nb = w.heap.size := ⟨_, rfl⟩
  rw [← hnb] at hX0
  have HXC : Hid (∀ w', Below X.heap.size X w' → w'.cell? ⟨nb, 1, none⟩ = some (.slice p3 l.length c3)) := fun w' hb => Lib.cell_of_heap ((hb.block _ (blk_ltT hX0)).trans hX0) 1
  have HCN : Hid (∀ w', Below w.heap.size w w' → IsCns w' F (.slice p3 l.length c3) l) := fun w' hb => hcn.any hb
  obtain ⟨R, hRe⟩ : ∃ R, R = ranT t hQ q l i j := ⟨_, rfl⟩
  obtain ⟨P, hP⟩ : ∃ P, P = rnkT t hQ q l i j := ⟨_, rfl⟩
  have HR : Hid (R = (List.range l.length).all P) := by show _ = _; rw [hRe, hP]; rfl
  have HP : Hid (∀ (c : Nat) (d : Cn), l[c]? = some d → P c = (d.neg || !(hQ (restIx t q c 0 i j) == 0))) := fun c d e => by rw [hP]; unfold rnkT; rw [List.getD_eq_getElem?_getD, e]; rfl
  rw [← hRe]
  obtain ⟨rn, hrn⟩ : ∃ rn, rn = t.rn := ⟨_, rfl⟩
  rw [← hrn] at HCI2 ⊢
  clear h hJ hr hg2 hcn hl0 hRe hP hN hv2 hX0 HTB hsp hrn hz hij hj hm
  go_enter Tryz.func70, Tryz.ntmps70
  go_wp2
  rw [← hX, ← hnb]
  clear hX hnb
  go_loopw [12] (fun z wr => ∃ k : Nat, k ≤ l.length ∧ z = .int .i64 k ∧ Hid ((List.range k).all P = true) ∧ Hid (Below X.heap.size X wr)) (fun z _ => l.length - (intOf z).toNat)
  case atStart => exact ⟨0, Nat.zero_le _, rfl, rfl, Below.refl _ _⟩
  case round =>
    obtain ⟨k, hk, rfl, HF, HB⟩ := hrel
    have HBW : Hid (Below w.heap.size w wr) := HXb.out.trans (HB.out.mono HXb.out.size)
    have x1 := HXC.out wr HB.out
    by_cases hlt : k < l.length
    · obtain ⟨d, hd1⟩ : ∃ d, l[k]? = some d := ⟨_, List.getElem?_eq_getElem hlt⟩
      obtain ⟨g4, o4, u4, hp4, b0, b1, hsy⟩ := (HCN.out wr HBW.out).row hd1
      subst hp4
      have hPk := HP.out k d hd1
      obtain ⟨g5, o5, c5, g6, o6, c6, pl, wd, ix, k1, k2, k3, k4, k5, k6, k7, k8, k9, k10⟩ := HCI2.out k d wr hd1 HBW.out
      obtain ⟨z, hze⟩ : ∃ z, z = hQ (restIx t q k 0 i j) := ⟨_, rfl⟩
      rw [← hze] at k5 hPk
      obtain ⟨ng, sq⟩ := d
      simp only at b0 hPk
      have KS1 := KS.out wr HBW.out
      cases ng with
      | true =>
        have HN : Hid ((List.range (k + 1)).all P = true) := by show _ = _; rw [List.range_succ, List.all_append, HF.out]; simp [hPk]
        clear hsy hze hPk hd1 b1 k1 k2 k3 k4 k5 k6 k7 k8 k9 k10 KS1
        go_wp2
        go_quiet (fail)
        go_wp2
        go_roundw
        case rel => exact ⟨k + 1, by omega, by go_num, HN, below_drewN HB.out _⟩
        case measure => simp [intOf]; omega
      | false =>
        rw [Bool.false_or] at hPk
        obtain ⟨pw, hpw⟩ : ∃ pw, pw = pl * wd := ⟨_, rfl⟩
        have hpz : pw ≤ 4000 * 1089 := by rw [hpw]; exact Nat.mul_le_mul k6 k7
        have hmul : (pl : Int) * (wd : Int) = (pw : Int) := by rw [hpw]; push_cast; rfl
        rw [← hpw] at k9
        have hsum : (pw : Int) + (sp : Int) = (ix : Int) := by rw [k9]; push_cast; rfl
        have hlt2 : (ix : Int) < (rn : Int) := by omega
        have hw1 : IntKind.i64.wrap (pw : Int) = (pw : Int) := by rw [IntKind.wrap_i64]; omega
        have hw2 : IntKind.i64.wrap (ix : Int) = (ix : Int) := by rw [IntKind.wrap_i64]; omega
        have HTA : Hid ((z == 0) = false → (List.range (k + 1)).all P = true) := fun h => by rw [List.range_succ, List.all_append, HF.out]; simp [hPk, h]
        have HFA : Hid ((z == 0) = true → R = false) := fun h => by rw [HR.out, List.all_eq_false]; exact ⟨k, List.mem_range.2 hlt, by rw [hPk, h]; simp⟩
        have KE : Hid (∀ w2, Below wr.heap.size wr w2 → Calls Tryz.prog 43 #[.pointer (some ⟨tb, 0, none⟩), .int .i64 (i : Int), .int .i64 (j : Int)] w2 fun e w'' => e = .returned (.int .i64 (sp : Int)) ∧ w2 = w'') := fun w2 hb => KS.out w2 (HBW.out.trans (hb.mono HBW.out.size))
        have HSS : Hid (∀ w', Below wr.heap.size wr w' → Below wr.heap.size wr w' ∧ w'.cell? ⟨nb, 1, none⟩ = some (.slice (some ⟨g4, o4, none⟩) l.length c3) ∧ w'.cell? ⟨g4, o4 + k * 2, none⟩ = some (.bool false) ∧ w'.cell? ⟨tb, 6, none⟩ = some (.slice (some ⟨g5, o5, none⟩) N c5) ∧ w'.cell? ⟨g5, o5 + q, none⟩ = some (.slice (some ⟨g6, o6, none⟩) l.length c6) ∧ w'.cell? ⟨g6, o6 + k, none⟩ = some (.int .i64 (pl : Int)) ∧ w'.cell? ⟨tb, 4, none⟩ = some (.int .i64 (wd : Int)) ∧ w'.cell? ⟨qb, ix, none⟩ = some (.int .i64 z)) := fun w' h =>
          ⟨h, (h.cell (p := ⟨_, _, none⟩) (cellU_lt x1)).trans x1, (h.cell (p := ⟨_, _, none⟩) (cellU_lt b0)).trans b0, (h.cell (p := ⟨_, _, none⟩) (cellU_lt k1)).trans k1, (h.cell (p := ⟨_, _, none⟩) (cellU_lt k2)).trans k2, (h.cell (p := ⟨_, _, none⟩) (cellU_lt k3)).trans k3, (h.cell (p := ⟨_, _, none⟩) (cellU_lt k4)).trans k4, (h.cell (p := ⟨_, _, none⟩) (cellU_lt k5)).trans k5⟩
        clear hsy hze hPk hd1 b1 k9 hpw KS1 a0 a1 t2
        go_wp2
        go_region_held3 (fun w' => Below wr.heap.size wr w' ∧ w'.cell? ⟨nb, 1, none⟩ = some (.slice (some ⟨g4, o4, none⟩) l.length c3) ∧ w'.cell? ⟨g4, o4 + k * 2, none⟩ = some (.bool false) ∧ w'.cell? ⟨tb, 6, none⟩ = some (.slice (some ⟨g5, o5, none⟩) N c5) ∧ w'.cell? ⟨g5, o5 + q, none⟩ = some (.slice (some ⟨g6, o6, none⟩) l.length c6) ∧ w'.cell? ⟨g6, o6 + k, none⟩ = some (.int .i64 (pl : Int)) ∧ w'.cell? ⟨tb, 4, none⟩ = some (.int .i64 (wd : Int)) ∧ w'.cell? ⟨qb, ix, none⟩ = some (.int .i64 z))
          ((refine HSS.out _ ?_; (repeat' (first | with_reducible assumption | with_reducible exact Below.refl _ _ | with_reducible apply Below.drew))))
          ((go_at_call 43; refine (KE.out _ (by repeat' (first | exact Below.refl _ _ | apply Below.drew))).mono ?_; rintro e w3 ⟨rfl, rfl⟩; have b4 : Below wr.heap.size wr wr.drew := (Below.refl _ _).drew))
        have HB3 : Hid (Below X.heap.size X wr.drew) := HB.out.drew
        have HW3 : Hid (Below w.heap.size w wr.drew) := HBW.out.drew
        by_cases hz0 : z = 0
        · have HN : Hid (R = false) := HFA.out (by rw [hz0]; rfl)
          have e1 : (z == 0) = true := by rw [hz0]; rfl
          go_wp2
          go_ret
          exact ⟨by rw [HN.out]; rfl, HW3⟩
        · have e1 : (z == 0) = false := by rw [beq_eq_false_iff_ne]; exact hz0
          have HN : Hid ((List.range (k + 1)).all P = true) := HTA.out e1
          go_wp2
          go_roundw
          case rel => exact ⟨k + 1, by omega, by go_num, HN, HB3⟩
          case measure => simp [intOf]; omega
    · obtain rfl : k = l.length := by omega
      have HN : Hid (R = true) := by show _ = _; rw [HR.out]; exact HF.out
      go_wp2
      go_ret
      exact ⟨by rw [HN.out]; rfl, HBW⟩
end Go.Proofs.YtejhdhlpdcfedaaGreat
