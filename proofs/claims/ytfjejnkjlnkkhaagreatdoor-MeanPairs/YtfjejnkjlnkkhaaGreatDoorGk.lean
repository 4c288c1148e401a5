import Derived.Test.YtfjejnkjlnkkhaaGreatDoorStrTop
import Derived.Test.YtfjejnkjlnkkhaaGreatDoorGi
import Derived.Deep.RegionHeld3
import Derived.BigQuiet
import Derived.Deep.Heap
import Derived.Deep.Cut
import Derived.Test.YtfjejnkjlnkkhaaGreatDoorGc
import Derived.PlainAid
import Derived.RangeFuncNested
import Derived.RangeFuncBound
import Derived.RangeFuncCalls
import Derived.RangeFuncLeaves
import Derived.Shelf.Abstract
import Derived.Shelf.RegionOpen
import Derived.WalkKit
import Derived.OwnWalkIn
import Derived.TacticsInMore
import Derived.LoopNIn
import Derived.LoopIn
/- The symbol at a place of a grammar (package symbols). -/
namespace Go.Proofs.YtfjejnkjlnkkhaaGreatDoor
set_option linter.unusedVariables false
open Go.ChangeShapes Go.WideShapes Go.ChangeAt Go.RowKit

section
variable {F : Nat → Prop} {w w' : World}
theorem cn_at {p : Option Addr} {n cc : Nat} {l : List Cn} (h : IsCns w F (.slice p n cc) l) {c : Nat} {d : Cn} (hd : l[c]? = some d) : ∃ gp o p2 c2, p = some ⟨gp, o, none⟩ ∧ gp < w.heap.size ∧ w.cell? ⟨gp, o + c * 2, none⟩ = some (.bool d.neg) ∧ w.cell? ⟨gp, o + c * 2 + 1, none⟩ = some (.slice p2 d.seq.length c2) ∧ IsSys w F (.slice p2 d.seq.length c2) d.seq := by
  obtain ⟨g1, o1, u, h1, h2, h3, h4⟩ := h.row hd
  obtain ⟨p2, c2, rfl⟩ := h4.slc
  exact ⟨g1, o1, p2, c2, h1, block_lt_of_cell h2, h2, h3, h4⟩
theorem sy_at {p : Option Addr} {n cc : Nat} {l : List Sy} (h : IsSys w F (.slice p n cc) l) {k : Nat} {s : Sy} (hs : l[k]? = some s) : ∃ gp o, p = some ⟨gp, o, none⟩ ∧ F gp ∧ gp < w.heap.size ∧ w.cell? ⟨gp, o + k * 3, none⟩ = some (.int .i64 s.name) ∧ w.cell? ⟨gp, o + k * 3 + 1, none⟩ = some (.int .i64 s.lo) ∧ w.cell? ⟨gp, o + k * 3 + 2, none⟩ = some (.int .i64 s.hi) := by
  obtain ⟨p2, c2, e2, _, hc⟩ := h
  injection e2 with e3
  subst e3
  have hlt := (List.getElem?_eq_some_iff.1 hs).1
  obtain ⟨gp, o, e, hF, hg, cc, _⟩ := hc (by omega)
  obtain ⟨a0, a1, a2⟩ := sysV_at l k s hs
  exact ⟨gp, o, e, hF, hg, cc _ _ a0, by rw [Nat.add_assoc]; exact cc _ _ a1, by rw [Nat.add_assoc]; exact cc _ _ a2⟩
end
set_option maxHeartbeats 4000000 in
set_option maxRecDepth 100000 in
/-- The symbol at a place that is there. -/
theorem symAt_any (F : Nat → Prop) (L : List Ru) (st : Int) (v1 : Value) (pr : Option Addr) (cr : Nat) (w : World) (ru : IsRus w F (.slice pr L.length cr) L) {q c p : Nat} {r : Ru} {d : Cn} (hr : L[q]? = some r) (hd : r.conj[c]? = some d) (hp : p ≤ d.seq.length) (hin : PlIn L) :
    Calls Tryz.prog 63 #[.agg #[.int .i64 st, v1, .slice pr L.length cr], .agg #[.int .i64 (q : Int), .int .i64 (c : Int), .int .i64 (p : Int)]] w fun e w' =>
      (match d.seq[p]? with
        | none => e = .returned (.tuple #[.agg #[.int .i64 0, .int .i64 0, .int .i64 0], .bool false])
        | some s => e = .returned (.tuple #[.agg #[.int .i64 s.name, .int .i64 s.lo, .int .i64 s.hi], .bool true])) ∧ Hid (Below w.heap.size w w') := by
  obtain ⟨g1, o1, u1', e1, -, -, -⟩ := ru.row hr
  subst e1
  obtain ⟨X1, hX1⟩ : ∃ X1, X1 = w.alloc (.cells #[.int .i64 st, v1, .slice (some ⟨g1, o1, none⟩) L.length cr] 25) := ⟨_, rfl⟩
  obtain ⟨X2, hX2⟩ : ∃ X2, X2 = X1.alloc (.cells #[.int .i64 (q : Int), .int .i64 (c : Int), .int .i64 (p : Int)] 56) := ⟨_, rfl⟩
  obtain ⟨X, hX⟩ : ∃ X, X = X2.alloc (.cells #[.int .i64 0, .int .i64 0, .int .i64 0] 44) := ⟨_, rfl⟩
  have s1 : X1.heap.size = w.heap.size + 1 := by rw [hX1]; simp
  have s2 : X2.heap.size = w.heap.size + 2 := by rw [hX2]; simp [s1]
  have s3 : X.heap.size = w.heap.size + 3 := by rw [hX]; simp [s2]
  have hb1 : Below w.heap.size w X1 := by rw [hX1]; exact bel1 _ _
  have hb2 : Below X1.heap.size X1 X2 := by rw [hX2]; exact bel1 _ _
  have hb3 : Below X2.heap.size X2 X := by rw [hX]; exact bel1 _ _
  have hXb : Below w.heap.size w X := (hb1.trans (hb2.mono (by omega))).trans (hb3.mono (by omega))
  obtain ⟨g1', o1', u1, e1, a0, a1, hcn⟩ := (ru.any hXb).row hr
  injection e1 with e1
  injection e1 with e1 e2
  subst e1 e2
  obtain ⟨p1, c1, hu1⟩ := lngC hcn
  subst hu1
  obtain ⟨g2, o2, p2, c2, e2, hg2, b0, b1, hsy⟩ := cn_at hcn hd
  subst e2
  have hq := (List.getElem?_eq_some_iff.1 hr).1
  have hc := (List.getElem?_eq_some_iff.1 hd).1
  obtain ⟨n0, hn0⟩ : ∃ n0, n0 = w.heap.size := ⟨_, rfl⟩
  obtain ⟨n1, hn1⟩ : ∃ n1, n1 = X1.heap.size := ⟨_, rfl⟩
  obtain ⟨n2, hn2⟩ : ∃ n2, n2 = X2.heap.size := ⟨_, rfl⟩
  have y0 : ∀ k, X.cell? ⟨n0, k, none⟩ = X1.cell? ⟨n0, k, none⟩ := fun k => (hb3.cell (p := ⟨n0, k, none⟩) (by show n0 < _; omega)).trans (hb2.cell (p := ⟨n0, k, none⟩) (by show n0 < _; omega))
  have y1 : ∀ k, X.cell? ⟨n1, k, none⟩ = X2.cell? ⟨n1, k, none⟩ := fun k => hb3.cell (p := ⟨n1, k, none⟩) (by show n1 < _; omega)
  have t0 : X.cell? ⟨n0, 0, none⟩ = some (.int .i64 st) := by rw [y0, hn0, hX1]; exact World.cell?_alloc_at _ _ _ _ rfl
  have t1 : X.cell? ⟨n0, 1, none⟩ = some v1 := by rw [y0, hn0, hX1]; exact World.cell?_alloc_at _ _ _ _ rfl
  have t2 : X.cell? ⟨n0, 2, none⟩ = some (.slice (some ⟨g1, o1, none⟩) L.length cr) := by rw [y0, hn0, hX1]; exact World.cell?_alloc_at _ _ _ _ rfl
  have x0 : X.cell? ⟨n1, 0, none⟩ = some (.int .i64 (q : Int)) := by rw [y1, hn1, hX2]; exact World.cell?_alloc_at _ _ _ _ rfl
  have x1 : X.cell? ⟨n1, 1, none⟩ = some (.int .i64 (c : Int)) := by rw [y1, hn1, hX2]; exact World.cell?_alloc_at _ _ _ _ rfl
  have x2 : X.cell? ⟨n1, 2, none⟩ = some (.int .i64 (p : Int)) := by rw [y1, hn1, hX2]; exact World.cell?_alloc_at _ _ _ _ rfl
  have z0 : X.cell? ⟨n2, 0, none⟩ = some (.int .i64 0) := by rw [hn2, hX]; exact World.cell?_alloc_at _ _ _ _ rfl
  have z1 : X.cell? ⟨n2, 1, none⟩ = some (.int .i64 0) := by rw [hn2, hX]; exact World.cell?_alloc_at _ _ _ _ rfl
  have z2 : X.cell? ⟨n2, 2, none⟩ = some (.int .i64 0) := by rw [hn2, hX]; exact World.cell?_alloc_at _ _ _ _ rfl
  have f0 : X.frozen? ⟨n2, 0, none⟩ = false := by rw [hn2, hX]; exact World.frozen?_alloc_at _ _ _ _ rfl
  have f1 : X.frozen? ⟨n2, 1, none⟩ = false := by rw [hn2, hX]; exact World.frozen?_alloc_at _ _ _ _ rfl
  have f2 : X.frozen? ⟨n2, 2, none⟩ = false := by rw [hn2, hX]; exact World.frozen?_alloc_at _ _ _ _ rfl
  have hzz : n2 < X.heap.size := by omega
  have hle : w.heap.size ≤ n2 := by omega
  have hcl9 : c < 9223372036854775807 := by have := (hin.2 r (List.mem_of_getElem? hr)).1; omega
  have hpl9 : p < 9223372036854775807 := by have := (hin.2 r (List.mem_of_getElem? hr)).2 d (List.mem_of_getElem? hd); omega
  have HB : Hid (Below w.heap.size w X) := hXb
  have k1 : n1 = w.heap.size + 1 := by omega
  have k2 : n2 = w.heap.size + 1 + 1 := by omega
  clear y0 y1 s1 s2 s3 hb1 hb2 hb3 hn1 hn2
  by_cases hlt : p < d.seq.length
  · obtain ⟨s, hs⟩ : ∃ s, d.seq[p]? = some s := ⟨_, List.getElem?_eq_getElem hlt⟩
    obtain ⟨g3, o3, e3, -, hg3, d0, d1, d2⟩ := sy_at hsy hs
    subst e3
    rw [hs]
    obtain ⟨nm, lo, up⟩ := s
    simp only at d0 d1 d2 ⊢
    have ne1 : ((p : Int) == (d.seq.length : Int)) = false := by rw [beq_eq_false_iff_ne]; omega
    have ne2 : ¬ (p : Int) = (d.seq.length : Int) := by omega
    generalize d.seq.length = m at *
    generalize r.conj.length = n at *
    generalize L.length = l at *
    clear ru hcn hsy hs hr hd hXb hin hp
    go_enter Tryz.func63, Tryz.ntmps63
    go_upto_region 1 with fail
    rw [← hX1, ← hX2, ← hX, ← k2, ← k1, ← hn0]
    clear hX hX1 hX2 hn0 k1 k2
    go_quiet (fail)
    go_wp2
    (try simp only [Exit.inBlock, Exit.then])
    refine bodyPost_ret (v := .tuple #[.agg #[.int .i64 nm, .int .i64 lo, .int .i64 up], .bool true]) ?_ rfl ⟨rfl, ((((below_drewN HB.out _).setCell (p := ⟨n2, _, none⟩) hle _).setCell (p := ⟨n2, _, none⟩) hle _).setCell (p := ⟨n2, _, none⟩) hle _)⟩
    rw [results_cell_tmp rfl]
    go_simp
  · have hs : d.seq[p]? = none := List.getElem?_eq_none (by omega)
    rw [hs]
    obtain rfl : p = d.seq.length := by omega
    simp only
    generalize d.seq.length = m at *
    generalize r.conj.length = n at *
    generalize L.length = l at *
    clear ru hcn hsy hs hr hd hXb hin hp
    go_enter Tryz.func63, Tryz.ntmps63
    go_upto_region 1 with fail
    rw [← hX1, ← hX2, ← hX, ← k2, ← k1, ← hn0]
    clear hX hX1 hX2 hn0 k1 k2
    go_quiet (fail)
    go_wp2
    (try simp only [Exit.inBlock, Exit.then])
    refine bodyPost_ret (v := .tuple #[.agg #[.int .i64 0, .int .i64 0, .int .i64 0], .bool false]) ?_ rfl ⟨rfl, ((((below_drewN HB.out _).setCell (p := ⟨n2, _, none⟩) hle _).setCell (p := ⟨n2, _, none⟩) hle _).setCell (p := ⟨n2, _, none⟩) hle _)⟩
    rw [results_cell_tmp rfl]
    go_simp
end Go.Proofs.YtfjejnkjlnkkhaaGreatDoor
/- The work on a table in memory; symbol, holds, leads of the program. -/
namespace Go.Proofs.YtfjejnkjlnkkhaaGreatDoor
set_option linter.unusedVariables false
open Go.ChangeShapes Go.WideShapes Go.ChangeAt Go.RowKit

/-- Rows of numbers in memory. -/
def IsIss (w : World) (F : Nat → Prop) (v : Value) (n : Nat) (f : Nat → List Int) : Prop :=
  ∃ vs, Reads w F v n vs ∧ vs.length = n ∧ ∀ k u, k < n → vs[k]? = some u → IsInts w F u (f k)
theorem IsIss.keep {w w' : World} {F : Nat → Prop} {v : Value} {n : Nat} {f : Nat → List Int} (h : IsIss w F v n f) (hs : Stay F w w') : IsIss w' F v n f := by
  obtain ⟨vs, h1, h2, h3⟩ := h
  exact ⟨vs, h1.keep hs (fun _ h => h), h2, fun k u hk hu => (h3 k u hk hu).keep hs (fun _ h => h)⟩
theorem Reads.num {w : World} {F : Nat → Prop} {v : Value} {l : List Int} (h : IsInts w F v l) : ∃ p c, v = .slice p l.length c ∧ l.length ≤ maxLen ∧ ∀ k z, l[k]? = some z → ∃ g o, p = some ⟨g, o, none⟩ ∧ F g ∧ g < w.heap.size ∧ w.cell? ⟨g, o + k, none⟩ = some (.int .i64 z) := by
  obtain ⟨p, c, e, hm, hc⟩ := h
  refine ⟨p, c, e, hm.1, fun k z hk => ?_⟩
  have hlt := (List.getElem?_eq_some_iff.1 hk).1
  obtain ⟨g, o, e1, hF, hg, cc, _⟩ := hc (by omega)
  exact ⟨g, o, e1, hF, hg, cc k _ (by unfold intsV; rw [List.getElem?_map, hk]; rfl)⟩
theorem IsIss.row {w : World} {F : Nat → Prop} {p : Option Addr} {n c : Nat} {f : Nat → List Int} (h : IsIss w F (.slice p n c) n f) {k : Nat} (hk : k < n) : ∃ g o u, p = some ⟨g, o, none⟩ ∧ F g ∧ g < w.heap.size ∧ w.cell? ⟨g, o + k, none⟩ = some u ∧ IsInts w F u (f k) := by
  obtain ⟨vs, ⟨p2, c2, e, hm, hc⟩, h2, h3⟩ := h
  injection e with e
  subst e
  obtain ⟨g, o, e1, hF, hg, cc, _⟩ := hc (by omega)
  have hu : vs[k]? = some vs[k] := List.getElem?_eq_getElem (by omega)
  exact ⟨g, o, _, e1, hF, hg, cc k _ hu, h3 k _ hk hu⟩
/-- Words that bear the rules' names. -/
def IsNds (w : World) (F : Nat → Prop) (v : Value) (L : List Ru) : Prop := ∃ zs : List Nat, zs.length = L.length ∧ Reads w F v L.length (zs.map fun (z : Nat) => Value.int .u64 (z : Int)) ∧ ∀ (q : Nat) (r : Ru) (z : Nat), L[q]? = some r → zs[q]? = some z → NdW r z
theorem IsNds.keep {w w' : World} {F : Nat → Prop} {v : Value} {L : List Ru} (h : IsNds w F v L) (hs : Stay F w w') : IsNds w' F v L := by
  obtain ⟨zs, h1, h2, h3⟩ := h
  exact ⟨zs, h1, h2.keep hs (fun _ h => h), h3⟩
theorem IsNds.at {w : World} {F : Nat → Prop} {p : Option Addr} {n c : Nat} {L : List Ru} (h : IsNds w F (.slice p n c) L) {q : Nat} {r : Ru} (hr : L[q]? = some r) : ∃ g o z, p = some ⟨g, o, none⟩ ∧ g < w.heap.size ∧ w.cell? ⟨g, o + q, none⟩ = some (.int .u64 ((z : Nat) : Int)) ∧ NdW r z := by
  obtain ⟨zs, h1, ⟨p2, c2, e, hm, hc⟩, h3⟩ := h
  injection e with e
  subst e
  have hlt := (List.getElem?_eq_some_iff.1 hr).1
  obtain ⟨g, o, e1, hF, hg, cc, _⟩ := hc (by omega)
  have hu : zs[q]? = some zs[q] := List.getElem?_eq_getElem (by omega)
  exact ⟨g, o, _, e1, hg, cc q _ (by rw [List.getElem?_map, hu]; rfl), h3 q r _ hr hu⟩
/-- Where the work lies. -/
structure Md where
  tb : Nat
  kb : Nat
  hb : Nat
  rb : Nat
  B : Nat
  v1 : Value
  pr : Option Addr
  cr : Nat
  pp : Option Addr
  cp : Nat
  pw : Option Addr
  cw : Nat
  pn : Option Addr
  cn : Nat
  pa : Option Addr
  ca : Nat
/-- How many names and rests there are. -/
def allN (g : Gr) : Nat := g.names.length + (ruP 0 g.rules).length
structure Wm (F : Nat → Prop) (g : Gr) (W : ByteArray) (D : Md) (w : World) : Prop where
  t0 : w.cell? ⟨D.tb, 0, none⟩ = some (.int .i64 (W.size : Int))
  t1 : w.cell? ⟨D.tb, 1, none⟩ = some (.int .i64 (g.names.length : Int))
  t3 : w.cell? ⟨D.tb, 3, none⟩ = some (.slice (some ⟨D.hb, 0, none⟩) (allN g) (allN g))
  t4 : w.cell? ⟨D.tb, 4, none⟩ = some (.slice (some ⟨D.rb, 0, none⟩) (allN g * (W.size + 1) * (W.size + 1)) (allN g * (W.size + 1) * (W.size + 1)))
  k0 : w.cell? ⟨D.kb, 0, none⟩ = some (.pointer (some ⟨D.tb, 0, none⟩))
  k1 : w.cell? ⟨D.kb, 1, none⟩ = some (.int .i64 g.start)
  k2 : w.cell? ⟨D.kb, 2, none⟩ = some D.v1
  k3 : w.cell? ⟨D.kb, 3, none⟩ = some (.slice D.pr g.rules.length D.cr)
  k4 : w.cell? ⟨D.kb, 4, none⟩ = some (.string W)
  k5 : w.cell? ⟨D.kb, 5, none⟩ = some (.slice D.pp (ruP 0 g.rules).length D.cp)
  k6 : w.cell? ⟨D.kb, 6, none⟩ = some (.slice D.pw g.rules.length D.cw)
  k7 : w.cell? ⟨D.kb, 7, none⟩ = some (.slice D.pn g.rules.length D.cn)
  k8 : w.cell? ⟨D.kb, 8, none⟩ = some (.slice D.pa g.names.length D.ca)
  ru : IsRus w F (.slice D.pr g.rules.length D.cr) g.rules
  pl : IsPls w F (.slice D.pp (ruP 0 g.rules).length D.cp) (ruP 0 g.rules)
  wh : IsIss w F (.slice D.pw g.rules.length D.cw) g.rules.length (whL g.names.length g.rules)
  nd : IsNds w F (.slice D.pn g.rules.length D.cn) g.rules
  ah : IsIss w F (.slice D.pa g.names.length D.ca) g.names.length (ahL g.names.length g.rules)
  ft : F D.tb
  fk : F D.kb
  lo : D.B ≤ w.heap.size
/-- Its blocks lie below B, and apart from the two tables. -/
structure Fm (F : Nat → Prop) (D : Md) : Prop where
  lt : ∀ i, F i → i < D.B
  nh : ¬ F D.hb
  nr : ¬ F D.rb
  hr : D.hb ≠ D.rb
  hB : D.hb < D.B
  rB : D.rb < D.B
section
variable {F : Nat → Prop} {g : Gr} {W : ByteArray} {D : Md} {w w' : World}
theorem Wm.keep (h : Wm F g W D w) (hs : Stay F w w') : Wm F g W D w' := by
  have ct : ∀ o v, w.cell? ⟨D.tb, o, none⟩ = some v → w'.cell? ⟨D.tb, o, none⟩ = some v := fun o v hc => (World.cell?_of_block (a := ⟨D.tb, o, none⟩) (hs.blk _ h.ft)).trans hc
  have ck : ∀ o v, w.cell? ⟨D.kb, o, none⟩ = some v → w'.cell? ⟨D.kb, o, none⟩ = some v := fun o v hc => (World.cell?_of_block (a := ⟨D.kb, o, none⟩) (hs.blk _ h.fk)).trans hc
  exact ⟨ct _ _ h.t0, ct _ _ h.t1, ct _ _ h.t3, ct _ _ h.t4, ck _ _ h.k0, ck _ _ h.k1, ck _ _ h.k2, ck _ _ h.k3, ck _ _ h.k4, ck _ _ h.k5, ck _ _ h.k6, ck _ _ h.k7, ck _ _ h.k8, h.ru.keep hs (fun _ h => h), Reads.keep h.pl hs (fun _ h => h), h.wh.keep hs, h.nd.keep hs, h.ah.keep hs, h.ft, h.fk, Nat.le_trans h.lo hs.size⟩
theorem Wm.any (h : Wm F g W D w) (hF : Fm F D) (hb : Below w.heap.size w w') : Wm F g W D w' := h.keep ⟨hb.size, fun i hi => hb.block i (Nat.lt_of_lt_of_le (hF.lt i hi) h.lo)⟩
theorem Wm.bu (h : Wm F g W D w) (hF : Fm F D) (hb : Bu D.hb w w') : Wm F g W D w' := h.keep (hb.stay fun i hi => ⟨Nat.lt_of_lt_of_le (hF.lt i hi) h.lo, fun e => hF.nh (e ▸ hi)⟩)
/-- A rule's row, a conjunct's row, its symbols. -/
theorem Wm.rule (h : Wm F g W D w) {q : Nat} {r : Ru} (hr : g.rules[q]? = some r) : ∃ gp o p c, D.pr = some ⟨gp, o, none⟩ ∧ w.cell? ⟨gp, o + q * 2, none⟩ = some (.int .i64 r.head) ∧ w.cell? ⟨gp, o + q * 2 + 1, none⟩ = some (.slice p r.conj.length c) ∧ IsCns w F (.slice p r.conj.length c) r.conj := by
  obtain ⟨g1, o1, u, h1, h2, h3, h4⟩ := h.ru.row hr
  obtain ⟨p, c, rfl⟩ := lngC h4
  exact ⟨g1, o1, p, c, h1, h2, h3, h4⟩
end
/-- The symbol at a place that is there. -/
theorem symbol_any (F : Nat → Prop) (g : Gr) (W : ByteArray) (D : Md) (w : World) (h : Wm F g W D w) (hF : Fm F D) {q c p : Nat} {r : Ru} {d : Cn} (hr : g.rules[q]? = some r) (hd : r.conj[c]? = some d) (hp : p ≤ d.seq.length) (hin : PlIn g.rules) :
    Calls Tryz.prog 63 #[.agg #[.int .i64 g.start, D.v1, .slice D.pr g.rules.length D.cr], .agg #[.int .i64 (q : Int), .int .i64 (c : Int), .int .i64 (p : Int)]] w fun e w' =>
      (match d.seq[p]? with
        | none => e = .returned (.tuple #[.agg #[.int .i64 0, .int .i64 0, .int .i64 0], .bool false])
        | some s => e = .returned (.tuple #[.agg #[.int .i64 s.name, .int .i64 s.lo, .int .i64 s.hi], .bool true])) ∧ Hid (Below w.heap.size w w') := symAt_any F g.rules g.start D.v1 D.pr D.cr w h.ru hr hd hp hin
end Go.Proofs.YtfjejnkjlnkkhaaGreatDoor
/- holds, leads, IsByte of the program. -/
namespace Go.Proofs.YtfjejnkjlnkkhaaGreatDoor
set_option linter.unusedVariables false
set_option linter.unusedSimpArgs false
open Go.ChangeShapes Go.WideShapes Go.ChangeAt Go.RowKit

theorem rangeAll {p : Nat → Bool} (k : Nat) : (List.range (k + 1)).all p = ((List.range k).all p && p k) := by
  rw [List.range_succ, List.all_append]; simp
theorem rangeNo {p : Nat → Bool} {n k : Nat} (hk : k < n) (hp : p k = false) : (List.range n).all p = false := by
  rw [List.all_eq_false]
  exact ⟨k, List.mem_range.2 hk, by rw [hp]; decide⟩
set_option maxHeartbeats 4000000 in
set_option maxRecDepth 100000 in
theorem holdsM_any (F : Nat → Prop) (g : Gr) (W : ByteArray) (D : Md) (T : SpM) (w : World) (h : Wm F g W D w) (hF : Fm F D) (hH : HasAt w D.hb (allN g) T) {q : Nat} {r : Ru} (hr : g.rules[q]? = some r) (i j : Nat) (hi : i ≤ 32) (hj : j ≤ 32) (hin : PlIn g.rules) :
    Calls Tryz.prog 71 #[.pointer (some ⟨D.kb, 0, none⟩), .int .i64 (q : Int), .int .i64 (i : Int), .int .i64 (j : Int)] w fun e w' => e = .returned (.bool (holM g.names.length g.rules T q r i j)) ∧ Hid (Below w.heap.size w w') := by
  have HW : Hid (Wm F g W D w) := h
  have HF : Hid (Fm F D) := hF
  have HH : Hid (HasAt w D.hb (allN g) T) := hH
  have HR : Hid (g.rules[q]? = some r) := hr
  obtain ⟨g1, o1, p1, c1, e1, a0, a1, hcn⟩ := h.rule hr
  have HC : Hid (IsCns w F (.slice p1 r.conj.length c1) r.conj) := hcn
  have hk3 := h.k3
  rw [e1] at hk3
  have hq := (List.getElem?_eq_some_iff.1 hr).1
  obtain ⟨R, hR⟩ : ∃ R, R = holM g.names.length g.rules T q r i j := ⟨_, rfl⟩
  have HRR : Hid (R = (List.range r.conj.length).all fun c => !(rsT g.names.length g.rules T q c 0 i j == (r.conj.getD c ⟨false, []⟩).neg)) := hR
  rw [← hR]
  have hn9 : r.conj.length ≤ 8 := (hin.2 r (List.mem_of_getElem? hr)).1
  obtain ⟨n, hn⟩ : ∃ n, n = r.conj.length := ⟨_, rfl⟩
  have HN : Hid (n = r.conj.length) := hn
  obtain ⟨l, hl⟩ : ∃ l, l = g.rules.length := ⟨_, rfl⟩
  have HL : Hid (l = g.rules.length) := hl
  rw [← hn] at a1 hn9
  rw [← hl] at hk3 hq
  clear h hF hH hr hcn hR hin hn hl
  go_enter Tryz.func71, Tryz.ntmps71
  go_wp2
  go_loopw [21] (fun x wr => ∃ k : Nat, k ≤ n ∧ x = .int .i64 k ∧ Hid (Below w.heap.size w wr) ∧ Hid ((List.range k).all (fun c => !(rsT g.names.length g.rules T q c 0 i j == (r.conj.getD c ⟨false, []⟩).neg)) = true)) (fun x _ => n - (intOf x).toNat)
  case atStart => exact ⟨0, Nat.zero_le _, rfl, Below.refl _ _, rfl⟩
  case round =>
    obtain ⟨k, hk, rfl, HB, HT⟩ := hrel
    by_cases hlt : k < n
    · obtain ⟨d, hd⟩ : ∃ d, r.conj[k]? = some d := ⟨_, List.getElem?_eq_getElem (by rw [← HN.out]; exact hlt)⟩
      obtain ⟨g2, o2, p2, c2, e2, hg2, b0, b1, hsy⟩ := cn_at (HC.out.any HB.out) hd
      subst e2
      have hcn9 : (r.conj.getD k ⟨false, []⟩).neg = d.neg := by rw [List.getD_eq_getElem?_getD, hd]; rfl
      have hall := rangeAll (p := fun c => !(rsT g.names.length g.rules T q c 0 i j == (r.conj.getD c ⟨false, []⟩).neg)) k
      have hno := fun hh => rangeNo (p := fun c => !(rsT g.names.length g.rules T q c 0 i j == (r.conj.getD c ⟨false, []⟩).neg)) (show k < r.conj.length by rw [← HN.out]; exact hlt) hh
      simp only [hcn9] at hall hno
      obtain ⟨V, hV⟩ : ∃ V, V = wr.alloc (.cells #[.bool d.neg, .slice p2 d.seq.length c2] 48) := ⟨_, rfl⟩
      have hVb : Below wr.heap.size wr V := by rw [hV]; exact bel1 _ _
      have hVB : Below w.heap.size w V := HB.out.trans (hVb.mono HB.out.size)
      have HBV : Hid (Below w.heap.size w V) := hVB
      have hWV := HW.out.any HF.out hVB
      have hHV := HH.out.any hVB
      obtain ⟨g4, o4, u4, e4, -, hg4, x4, hi4⟩ := hWV.wh.row (k := q) (List.getElem?_eq_some_iff.1 HR.out).1
      obtain ⟨p5, c5, e5, hm5, hz5⟩ := Reads.num hi4
      have hwl := whL_len (N := g.names.length) HR.out
      have hwa := whL_at (N := g.names.length) HR.out hd
      obtain ⟨g6, o6, e6, -, hg6, x6⟩ := hz5 k _ hwa
      subst e5 e6
      rw [hwl, ← HN.out] at x4
      have k6 := hWV.k6
      rw [e4, ← HL.out] at k6
      have k0 := hWV.k0
      have t3 := hWV.t3
      have q0 : V.cell? ⟨wr.heap.size, 0, none⟩ = some (.bool d.neg) := by rw [hV]; exact World.cell?_alloc_at _ _ _ _ rfl
      obtain ⟨y, hy⟩ : ∃ y, y = g.names.length + ofRu g.rules q k := ⟨_, rfl⟩
      have hyA : y < allN g := by
        have := ofRu_lt HR.out hd (Nat.zero_le d.seq.length)
        rw [hy]; unfold allN; omega
      have hA9 : allN g ≤ 1000000 ∨ 1000000 < allN g := by omega
      have hT : rsT g.names.length g.rules T q k 0 i j = T y i j := by rw [hy]; rfl
      rw [hT] at hall hno
      rw [← hy] at x6
      obtain ⟨b, hb⟩ : ∃ b, b = T y i j := ⟨_, rfl⟩
      rw [← hb] at hall hno
      have KC : ∀ m, Calls Tryz.prog 32 #[.pointer (some ⟨D.hb, y * 66, none⟩), .int .i64 (i : Int), .int .i64 (j : Int)] (V.drewN m) fun e w' => e = .returned (.bool b) ∧ w' = V.drewN m := fun m => by
        rw [hb]
        exact (hasSp_any y i j (hHV.any (below_drewN (Below.refl _ _) m)) hyA hi hj).mono fun e w' ⟨h1, h2⟩ => ⟨h1, h2.symm⟩
      have HALL : Hid ((b == d.neg) = false → (List.range (k + 1)).all (fun c => !(rsT g.names.length g.rules T q c 0 i j == (r.conj.getD c ⟨false, []⟩).neg)) = true) := fun hh => by
        rw [hall, HT.out, hh]; rfl
      have HNO : Hid ((b == d.neg) = true → R = false) := fun hh => by
        rw [HRR.out]; exact hno (by rw [hh]; rfl)
      have HFIN : Hid (∀ m, Below w.heap.size w (V.drewN m)) := fun m => below_drewN HBV.out m
      obtain ⟨nb, hnb⟩ : ∃ nb, nb = wr.heap.size := ⟨_, rfl⟩
      obtain ⟨z, hz⟩ : ∃ z, z = d.seq.length := ⟨_, rfl⟩
      obtain ⟨al, hal⟩ : ∃ al, al = allN g := ⟨_, rfl⟩
      rw [← hal] at t3 hyA
      rw [← hz] at hV b1
      rw [← hnb] at q0
      generalize d.neg = ng at *
      clear hd hsy hcn9 hall hno hVb hVB hWV hHV hi4 hz5 hwl hwa hy hT hb hA9 hal hz hm5 e4
      cases b <;> cases ng
      · have HR2 := HNO.out rfl
        have HR2 : Hid (R = false) := HR2
        go_upto_region 4 with fail
        rw [← hV, ← hnb]
        clear hV hnb
        go_quiet ((go_at_call 32; exact Calls.quiet_of_same (KC _)))
        go_wp2
        go_ret
        exact ⟨by rw [HR2.out]; rfl, HFIN.out _⟩
      · have HA2 : Hid _ := HALL.out rfl
        go_upto_region 4 with fail
        rw [← hV, ← hnb]
        clear hV hnb
        go_quiet ((go_at_call 32; exact Calls.quiet_of_same (KC _)))
        go_wp2
        go_roundw
        case rel => exact ⟨k + 1, by omega, by go_num, HFIN.out _, HA2⟩
        case measure => simp [intOf]; omega
      · have HA2 : Hid _ := HALL.out rfl
        go_upto_region 4 with fail
        rw [← hV, ← hnb]
        clear hV hnb
        go_quiet ((go_at_call 32; exact Calls.quiet_of_same (KC _)))
        go_wp2
        go_roundw
        case rel => exact ⟨k + 1, by omega, by go_num, HFIN.out _, HA2⟩
        case measure => simp [intOf]; omega
      · have HR2 : Hid (R = false) := HNO.out rfl
        go_upto_region 4 with fail
        rw [← hV, ← hnb]
        clear hV hnb
        go_quiet ((go_at_call 32; exact Calls.quiet_of_same (KC _)))
        go_wp2
        go_ret
        exact ⟨by rw [HR2.out]; rfl, HFIN.out _⟩
    · obtain rfl : k = n := by omega
      have HN2 : Hid (R = true) := by show _ = _; rw [HRR.out, ← HN.out]; exact HT.out
      go_wp2
      go_ret
      exact ⟨by rw [HN2.out]; rfl, HB⟩
/-- The bytes of a text. -/
def btsW (W : ByteArray) : Nat → Nat := fun k => (PlainAid.bt W k).toNat
set_option maxHeartbeats 1000000 in
theorem isByte_any (nm lo up z : Int) (hz0 : 0 ≤ z) (hz1 : z ≤ 255) (w : World) :
    Calls Tryz.prog 98 #[.agg #[.int .i64 nm, .int .i64 lo, .int .i64 up], .int .u8 z] w fun e w' => e = .returned (.bool (decide (nm = -1) && (decide (lo ≤ z) && decide (z ≤ up)))) ∧ w' = w.alloc (.cells #[.int .i64 nm, .int .i64 lo, .int .i64 up] 44) := by
  by_cases h0 : nm = -1
  · subst h0
    by_cases h1 : lo ≤ z
    · have g1 : decide (lo ≤ z) = true := decide_eq_true h1
      by_cases h2 : z ≤ up
      · have g2 : decide (z ≤ up) = true := decide_eq_true h2
        go_enter Tryz.func98, Tryz.ntmps98
        go_wp2
        go_ret
        exact ⟨ret_boolM (by simp [g1, g2]), rfl⟩
      · have g2 : decide (z ≤ up) = false := decide_eq_false h2
        go_enter Tryz.func98, Tryz.ntmps98
        go_wp2
        go_ret
        exact ⟨ret_boolM (by simp [g1, g2]), rfl⟩
    · have g1 : decide (lo ≤ z) = false := decide_eq_false h1
      go_enter Tryz.func98, Tryz.ntmps98
      go_wp2
      go_ret
      exact ⟨ret_boolM (by simp [g1]), rfl⟩
  · have g0 : (nm == -1) = false := by rw [beq_eq_false_iff_ne]; exact h0
    go_enter Tryz.func98, Tryz.ntmps98
    go_wp2
    go_ret
    exact ⟨ret_boolM (by simp [h0]), rfl⟩
end Go.Proofs.YtfjejnkjlnkkhaaGreatDoor
/- leads of the program. -/
namespace Go.Proofs.YtfjejnkjlnkkhaaGreatDoor
set_option linter.unusedVariables false
set_option linter.unusedSimpArgs false
open Go.ChangeShapes Go.WideShapes Go.ChangeAt Go.RowKit

theorem region_classM {P : Program} {id : Nat} {Q : Exit → Act → World → Prop} {a : Act} {w : World} {l : List Oper} {ι : Type} (f : ι → World) (hm : P.follows .mixedOrders = true) (hB : Region.lexB .any l.toArray = true) (h0 : ∃ n, w.drew = f n)
    (h : wpQuiet P l.toArray (fun w' => ∃ n, w' = f n) (fun a' => ∀ w', (∃ n, w' = f n) → Q .normal a' w') l a) : (Code.region id l.toArray true).wp P Q a w :=
  wp_region_quiet (C := fun w' => ∃ n, w' = f n) hm hB h0 (by simpa using h)
/-- The worlds of a property, as a family. -/
theorem family2M (I : World → Prop) (w : World) (h : I w) : ∃ (ι : Type) (f : ι → World) (n0 : ι), w = f n0 ∧ (∀ n, I (f n)) ∧ ∀ w', I w' → ∃ m, w' = f m :=
  ⟨{x // I x}, Subtype.val, ⟨w, h⟩, rfl, Subtype.property, fun w' h => ⟨⟨w', h⟩, rfl⟩⟩
/-- Has a symbol with the rest behind it a span, by the table? -/
def ledB (b : Nat → Nat) (T : SpM) (s : Sy) (y i j : Nat) : Bool := if s.name = -1 then decide (i < j) && (inR b s i && T y (i + 1) j) else (List.range 64).any fun k => T s.name.toNat i k && T y k j
theorem and_zero (T : SpM) (x i y j : Nat) : (bits .and .u64 ((frW T x i : Nat) : Int) ((toW T y j : Nat) : Int) == 0) = !((List.range 64).any fun k => T x i k && T y k j) := by
  rw [bits_and_u64_nat _ _ (frW_lt T x i) (toW_lt T y j), Bool.eq_iff_iff, beq_iff_eq, Bool.not_eq_true', ← Bool.not_eq_true, List.any_eq_true]
  constructor
  · rintro h ⟨k, hk, hh⟩
    have hk := List.mem_range.1 hk
    have h0 : frW T x i &&& toW T y j = 0 := by exact_mod_cast h
    have := congrArg (fun z : Nat => z.testBit k) h0
    simp only [Nat.testBit_and, frW_at T x i hk, toW_at T y j hk, Nat.zero_testBit] at this
    rw [this] at hh; cases hh
  · intro h
    have : frW T x i &&& toW T y j = 0 := Nat.eq_of_testBit_eq fun k => by
      rw [Nat.testBit_and, Nat.zero_testBit]
      by_cases hk : k < 64
      · rw [frW_at T x i hk, toW_at T y j hk]
        cases hh : T x i k && T y k j with
        | false => rfl
        | true => exact absurd ⟨k, List.mem_range.2 hk, hh⟩ h
      · unfold frW; rw [bitsN_at]; simp [hk]
    rw [this]; rfl
set_option maxHeartbeats 4000000 in
set_option maxRecDepth 100000 in
theorem leads_any (F : Nat → Prop) (g : Gr) (W : ByteArray) (D : Md) (T : SpM) (w : World) (h : Wm F g W D w) (hF : Fm F D) (hH : HasAt w D.hb (allN g) T) (nm lo up : Int) (hs : nm = -1 ∨ 0 ≤ nm ∧ nm < (g.names.length : Int)) (y i j : Nat) (hy : y < allN g) (hij : i ≤ j) (hj : j ≤ W.size) (hm : W.size ≤ 32) :
    Calls Tryz.prog 118 #[.pointer (some ⟨D.kb, 0, none⟩), .agg #[.int .i64 nm, .int .i64 lo, .int .i64 up], .int .i64 (y : Int), .int .i64 (i : Int), .int .i64 (j : Int)] w fun e w' => e = .returned (.bool (ledB (btsW W) T ⟨nm, lo, up⟩ y i j)) ∧ Hid (Below w.heap.size w w') := by
  obtain ⟨X, hX⟩ : ∃ X, X = w.alloc (.cells #[.int .i64 nm, .int .i64 lo, .int .i64 up] 44) := ⟨_, rfl⟩
  have hXb : Below w.heap.size w X := by rw [hX]; exact bel1 _ _
  have hWX := h.any hF hXb
  have hHX := hH.any hXb
  have x0 : X.cell? ⟨w.heap.size, 0, none⟩ = some (.int .i64 nm) := by rw [hX]; exact World.cell?_alloc_at _ _ _ _ rfl
  have x1 : X.cell? ⟨w.heap.size, 1, none⟩ = some (.int .i64 lo) := by rw [hX]; exact World.cell?_alloc_at _ _ _ _ rfl
  have x2 : X.cell? ⟨w.heap.size, 2, none⟩ = some (.int .i64 up) := by rw [hX]; exact World.cell?_alloc_at _ _ _ _ rfl
  have k0 := hWX.k0
  have k4 := hWX.k4
  have t3 := hWX.t3
  have HB : Hid (Below w.heap.size w X) := hXb
  obtain ⟨nb, hnb⟩ : ∃ nb, nb = w.heap.size := ⟨_, rfl⟩
  have hnl : nb < X.heap.size := by rw [hnb, hX]; simp
  rw [← hnb] at x0 x1 x2
  obtain ⟨al, hal⟩ : ∃ al, al = allN g := ⟨_, rfl⟩
  have hNA : g.names.length ≤ al := by rw [hal]; unfold allN; omega
  rw [← hal] at t3 hy hHX
  by_cases hn : nm = -1
  · subst hn
    have e0 : ledB (btsW W) T ⟨-1, lo, up⟩ y i j = (decide (i < j) && (inR (btsW W) ⟨-1, lo, up⟩ i && T y (i + 1) j)) := by unfold ledB; simp
    rw [e0]
    by_cases hlt : i < j
    · have d1 : decide ((i : Int) < (j : Int)) = true := decide_eq_true (by omega)
      have l1 : (i : Int) < (j : Int) := by omega
      have d2 : decide (i < j) = true := decide_eq_true hlt
      rw [d2, Bool.true_and]
      have b1 := PlainAid.bt_nonneg W i
      have b2 := PlainAid.bt_le W i
      have hA := PlainAid.get_bt W
      have l2 : i < W.size := by omega
      have l3 : (i : Int) < (W.size : Int) := by omega
      obtain ⟨bI, hbI⟩ : ∃ bI, bI = inR (btsW W) ⟨-1, lo, up⟩ i := ⟨_, rfl⟩
      obtain ⟨bT, hbT⟩ : ∃ bT, bT = T y (i + 1) j := ⟨_, rfl⟩
      rw [← hbI, ← hbT]
      have hin : (decide ((-1 : Int) = -1) && (decide (lo ≤ PlainAid.bt W i) && decide (PlainAid.bt W i ≤ up))) = bI := by
        rw [hbI]; unfold inR btsW
        have e : (((PlainAid.bt W i).toNat : Nat) : Int) = PlainAid.bt W i := by omega
        simp only [e]; simp
      have KI : Hid (∀ w', Below X.heap.size X w' → Calls Tryz.prog 98 #[.agg #[.int .i64 (-1), .int .i64 lo, .int .i64 up], .int .u8 (PlainAid.bt W i)] w' fun e w'' => e = .returned (.bool bI) ∧ Below X.heap.size X w'') := fun w' hb => by
        rw [← hin]
        exact (isByte_any (-1) lo up _ b1 b2 w').mono fun e w'' ⟨h1, h2⟩ => ⟨h1, by rw [h2]; exact hb.alloc hb.size _⟩
      have KT : Hid (∀ w', Below X.heap.size X w' → Calls Tryz.prog 32 #[.pointer (some ⟨D.hb, y * 66, none⟩), .int .i64 ((i : Int) + 1), .int .i64 (j : Int)] w' fun e w'' => e = .returned (.bool bT) ∧ Below X.heap.size X w'') := fun w' hb => by
        rw [hbT]
        have := (hasSp_any y (i + 1) j (hHX.any hb) hy (by omega) (by omega)).mono (R' := fun e w'' => e = .returned (.bool (T y (i + 1) j)) ∧ Below X.heap.size X w'') fun e w'' ⟨h1, h2⟩ => ⟨h1, by rw [← h2]; exact hb⟩
        rw [show ((i + 1 : Nat) : Int) = (i : Int) + 1 by omega] at this
        exact this
      have HC : Hid (∀ w', Below X.heap.size X w' → w'.cell? ⟨nb, 0, none⟩ = some (.int .i64 (-1)) ∧ w'.cell? ⟨nb, 1, none⟩ = some (.int .i64 lo) ∧ w'.cell? ⟨nb, 2, none⟩ = some (.int .i64 up) ∧ w'.cell? ⟨D.kb, 0, none⟩ = some (.pointer (some ⟨D.tb, 0, none⟩)) ∧ w'.cell? ⟨D.kb, 4, none⟩ = some (.string W) ∧ w'.cell? ⟨D.tb, 3, none⟩ = some (.slice (some ⟨D.hb, 0, none⟩) al al)) := fun w' hb =>
        ⟨(hb.cell (p := ⟨_, _, none⟩) (block_lt_of_cell x0)).trans x0, (hb.cell (p := ⟨_, _, none⟩) (block_lt_of_cell x1)).trans x1, (hb.cell (p := ⟨_, _, none⟩) (block_lt_of_cell x2)).trans x2, (hb.cell (p := ⟨_, _, none⟩) (block_lt_of_cell k0)).trans k0, (hb.cell (p := ⟨_, _, none⟩) (block_lt_of_cell k4)).trans k4, (hb.cell (p := ⟨_, _, none⟩) (block_lt_of_cell t3)).trans t3⟩
      have hyI : (y : Int) < (al : Int) := by omega
      clear h hF hH hXb hWX hHX hs hal hin hbI hbT e0 d2 b1 b2
      go_enter Tryz.func118, Tryz.ntmps118
      go_upto_region 2 with fail
      rw [← hX, ← hnb]
      clear hX hnb
      obtain ⟨ι, fw, n0, hf0, hfw, hcl⟩ := family2M (fun w' => Below X.heap.size X w') X.drew (Below.refl _ _).drew
      have hne0 : Nonempty ι := ⟨n0⟩
      have z0 := fun n => (HC.out (fw n) (hfw n)).1
      have z1 := fun n => (HC.out (fw n) (hfw n)).2.1
      have z2 := fun n => (HC.out (fw n) (hfw n)).2.2.1
      have z3 := fun n => (HC.out (fw n) (hfw n)).2.2.2.1
      have z4 := fun n => (HC.out (fw n) (hfw n)).2.2.2.2.1
      have z5 := fun n => (HC.out (fw n) (hfw n)).2.2.2.2.2
      refine region_classM fw (by kernel_rfl) (by kernel_rfl) ⟨n0, hf0⟩ ?_
      clear hf0 x0 x1 x2 k0 k4 t3
      cases bI
      · repeat (go_big_quiet_step ((go_at_call 98; (with_reducible refine (KI.out _ (hfw _)).mono ?_; rintro e w' ⟨rfl, hb⟩; exact ⟨rfl, hcl _ hb⟩))))
        refine wpQuiet_nil ?_
        intro w9 hw9
        obtain ⟨mm, rfl⟩ := hw9
        have H9 : Hid (Below w.heap.size w (fw mm)) := HB.out.trans ((hfw mm).mono HB.out.size)
        generalize fw mm = w9 at H9
        clear hcl hfw hne0 n0 z0 z1 z2 z3 z4 z5
        clear fw
        go_wp2
        go_ret
        exact ⟨rfl, H9⟩
      · repeat (go_big_quiet_step (first | (go_at_call 98; (with_reducible refine (KI.out _ (hfw _)).mono ?_; rintro e w' ⟨rfl, hb⟩; exact ⟨rfl, hcl _ hb⟩)) | (go_at_call 32; (with_reducible refine (KT.out _ (hfw _)).mono ?_; rintro e w' ⟨rfl, hb⟩; exact ⟨rfl, hcl _ hb⟩))))
        refine wpQuiet_nil ?_
        intro w9 hw9
        obtain ⟨mm, rfl⟩ := hw9
        have H9 : Hid (Below w.heap.size w (fw mm)) := HB.out.trans ((hfw mm).mono HB.out.size)
        generalize fw mm = w9 at H9
        clear hcl hfw hne0 n0 z0 z1 z2 z3 z4 z5
        clear fw
        go_wp2
        go_ret
        exact ⟨rfl, H9⟩
    · have d1 : decide ((i : Int) < (j : Int)) = false := decide_eq_false (by omega)
      have d2 : decide (i < j) = false := decide_eq_false hlt
      rw [d2, Bool.false_and]
      clear h hF hH hXb hWX hHX hs hal e0 d2
      go_enter Tryz.func118, Tryz.ntmps118
      go_upto_region 2 with fail
      rw [← hX, ← hnb]
      clear hX hnb
      go_quiet (fail)
      go_wp2
      go_ret
      exact ⟨rfl, below_drewN HB.out _⟩
  · obtain ⟨x, rfl⟩ : ∃ x : Nat, nm = (x : Int) := ⟨nm.toNat, by have := hs.resolve_left hn; omega⟩
    have hx : x < al := by have := hs.resolve_left hn; omega
    have e0 : ledB (btsW W) T ⟨(x : Int), lo, up⟩ y i j = (List.range 64).any fun k => T x i k && T y k j := by unfold ledB; rw [if_neg hn]; rfl
    have hz := and_zero T x i y j
    rw [← e0] at hz
    obtain ⟨R, hR⟩ : ∃ R, R = ledB (btsW W) T ⟨(x : Int), lo, up⟩ y i j := ⟨_, rfl⟩
    rw [← hR] at hz ⊢
    have f1 := hHX.fr x i hx (by omega)
    have f2 := hHX.to y j hy (by omega)
    have ne1 : ((x : Int) == -1) = false := by rw [beq_eq_false_iff_ne]; omega
    have hi2 : (i : Int) < 33 := by omega
    have hj2 : (j : Int) < 33 := by omega
    have HZ : Hid ((bits .and .u64 ((frW T x i : Nat) : Int) ((toW T y j : Nat) : Int) == 0) = !R) := hz
    generalize frW T x i = a1 at *
    generalize toW T y j = a2 at *
    clear h hF hH hXb hWX hHX hs hal e0 hR hz
    go_enter Tryz.func118, Tryz.ntmps118
    go_upto_region 3 with fail
    rw [← hX, ← hnb]
    clear hX hnb
    go_quiet (fail)
    go_wp2
    go_ret
    refine ⟨ret_boolM ?_, below_drewN HB.out _⟩
    have := HZ.out
    cases R with
    | false => simp at this; simp [this]
    | true => simp at this; simp [this]
end Go.Proofs.YtfjejnkjlnkkhaaGreatDoor
/- A rule's rests of a span taken up from the ends on, plain. -/
namespace Go.Proofs.YtfjejnkjlnkkhaaGreatDoor
set_option linter.unusedVariables false

section
variable {b : Nat → Nat} {n N : Nat} {L : List Ru} {f : Nat → Nat} {k : Nat} {D : Nat → Nat → Prop} {H T0 T : SpM} {i j : Nat} {C : Nat → Bool} {R : Nat → Prop} {q : Nat} {r : Ru}
/-- The rests of conjuncts below c are taken up, and of c the last m places. -/
structure Ad (b : Nat → Nat) (n N : Nat) (L : List Ru) (f : Nat → Nat) (k : Nat) (D : Nat → Nat → Prop) (H T0 : SpM) (i j : Nat) (C : Nat → Bool) (R : Nat → Prop) (q : Nat) (r : Ru) (c m : Nat) (T : SpM) : Prop where
  gp : Gp b n N L f k D H T0 T i j C R
  cp : ∀ c' p d, r.conj[c']? = some d → p ≤ d.seq.length → (c' < c ∨ (c' = c ∧ d.seq.length < p + m)) → restB b (nmT N T) (d.seq.drop p) i j = true → rsT N L T q c' p i j = true
theorem Ad.step {c m p : Nat} {d : Cn} (h : Ad b n N L f k D H T0 i j C R q r c m T) (hr : L[q]? = some r) (hd : r.conj[c]? = some d) (hp : p + m = d.seq.length) (hi : i ≤ j) (hj : j ≤ n) (x : Bool) (h1 : x = true → restB b (nmT N T) (d.seq.drop p) i j = true) (h2 : restB b (nmT N T) (d.seq.drop p) i j = true → x = true) :
    Ad b n N L f k D H T0 i j C R q r c (m + 1) (if x = true then putS3 T (N + ofRu L q c + p) i j else T) := by
  cases x with
  | true =>
    rw [if_pos rfl]
    have e1 : nmT N (putS3 T (N + ofRu L q c + p) i j) = nmT N T := nmT_rest (by omega) i j
    refine ⟨h.gp.rest hr hd (by omega) hi hj (h1 rfl), fun c' p' d' g1 g2 g3 g4 => ?_⟩
    rw [e1] at g4
    by_cases e : c' = c ∧ p' = p
    · obtain ⟨rfl, rfl⟩ := e
      unfold rsT putS3; simp
    · refine putS3_le (h.cp c' p' d' g1 g2 ?_ g4)
      rcases g3 with g3 | ⟨rfl, g3⟩
      · exact Or.inl g3
      · refine Or.inr ⟨rfl, ?_⟩
        rw [hd] at g1
        injection g1 with g1
        subst g1
        have : p' ≠ p := fun e2 => e ⟨rfl, e2⟩
        omega
  | false =>
    rw [if_neg (by decide)]
    refine ⟨h.gp, fun c' p' d' g1 g2 g3 g4 => ?_⟩
    by_cases e : c' = c ∧ p' = p
    · obtain ⟨rfl, rfl⟩ := e
      rw [hd] at g1
      injection g1 with g1
      subst g1
      exact absurd (h2 g4) (by decide)
    · refine h.cp c' p' d' g1 g2 ?_ g4
      rcases g3 with g3 | ⟨rfl, g3⟩
      · exact Or.inl g3
      · refine Or.inr ⟨rfl, ?_⟩
        rw [hd] at g1
        injection g1 with g1
        subst g1
        have : p' ≠ p := fun e2 => e ⟨rfl, e2⟩
        omega
theorem Ad.next {c m : Nat} {d : Cn} (h : Ad b n N L f k D H T0 i j C R q r c m T) (hd : r.conj[c]? = some d) (hm : m = d.seq.length + 1) : Ad b n N L f k D H T0 i j C R q r (c + 1) 0 T := by
  refine ⟨h.gp, fun c' p' d' g1 g2 g3 g4 => h.cp c' p' d' g1 g2 ?_ g4⟩
  rcases g3 with g3 | ⟨rfl, g3⟩
  · by_cases e : c' = c
    · subst e
      rw [hd] at g1
      injection g1 with g1
      subst g1
      exact Or.inr ⟨rfl, by omega⟩
    · exact Or.inl (by omega)
  · omega
theorem Ad.begin (h : Gp b n N L f k D H T0 T i j C R) : Ad b n N L f k D H T0 i j C R q r 0 0 T :=
  ⟨h, fun c' p d _ h2 h3 => by omega⟩
theorem Ad.fin (h : Ad b n N L f k D H T0 i j C R q r r.conj.length 0 T) : ∀ c p d, r.conj[c]? = some d → p ≤ d.seq.length → restB b (nmT N T) (d.seq.drop p) i j = true → rsT N L T q c p i j = true :=
  fun c p d hd hp => h.cp c p d hd hp (Or.inl (List.getElem?_eq_some_iff.1 hd).1)
/-- What leads says is right. -/
theorem led_sound (h : Sd b n N L f k D H T) (hN : NmIn N L) (hr : L[q]? = some r) {c p : Nat} {d : Cn} {s : Sy} (hd : r.conj[c]? = some d) (hs : d.seq[p]? = some s) (hl : ledB b T s (N + ofRu L q c + (p + 1)) i j = true) : restB b (nmT N T) (d.seq.drop p) i j = true := by
  have hlt := (List.getElem?_eq_some_iff.1 hs).1
  rw [restB_drop hs]
  unfold ledB at hl
  split
  · rename_i e
    rw [if_pos e] at hl
    simp only [Bool.and_eq_true, decide_eq_true_eq] at hl ⊢
    exact ⟨hl.1, hl.2.1, h.snd q c (p + 1) (i + 1) j r d hr hd hlt hl.2.2⟩
  · rename_i e
    rw [if_neg e] at hl
    rw [List.any_eq_true] at hl ⊢
    obtain ⟨z, _, hz⟩ := hl
    simp only [Bool.and_eq_true] at hz
    have hx := (hN r (List.mem_of_getElem? hr)).2 d (List.mem_of_getElem? hd) s (List.mem_of_getElem? hs) e
    have h1 := h.spn _ _ _ hz.1
    have h2 := h.spn _ _ _ hz.2
    refine ⟨z, List.mem_range.2 (by omega), ?_⟩
    simp only [Bool.and_eq_true, decide_eq_true_eq]
    exact ⟨h1.1, by rw [nmT_at hx]; exact hz.1, h.snd q c (p + 1) z j r d hr hd hlt hz.2⟩
theorem led_comp (h : Sd b n N L f k D H T) (hN : NmIn N L) (hr : L[q]? = some r) (hk : f r.head.toNat = k) {c p : Nat} {d : Cn} {s : Sy} (hd : r.conj[c]? = some d) (hs : d.seq[p]? = some s) (hn : n < 64) (hj : j ≤ n) (hD : ∀ a, i < a → a ≤ j → D a j)
    (hc : restB b (nmT N T) (d.seq.drop (p + 1)) i j = true → rsT N L T q c (p + 1) i j = true) (hl : restB b (nmT N T) (d.seq.drop p) i j = true) : ledB b T s (N + ofRu L q c + (p + 1)) i j = true := by
  have hlt := (List.getElem?_eq_some_iff.1 hs).1
  rw [restB_drop hs] at hl
  unfold ledB
  split
  · rename_i e
    rw [if_pos e] at hl
    simp only [Bool.and_eq_true, decide_eq_true_eq] at hl ⊢
    exact ⟨hl.1, hl.2.1, h.dn q c (p + 1) (i + 1) j r d hr hd hk hlt (hD (i + 1) (by omega) (by omega)) hl.2.2⟩
  · rename_i e
    rw [if_neg e] at hl
    rw [List.any_eq_true] at hl ⊢
    obtain ⟨z, hz0, hz⟩ := hl
    have hzj := List.mem_range.1 hz0
    simp only [Bool.and_eq_true, decide_eq_true_eq] at hz
    have hx := (hN r (List.mem_of_getElem? hr)).2 d (List.mem_of_getElem? hd) s (List.mem_of_getElem? hs) e
    refine ⟨z, List.mem_range.2 (by omega), ?_⟩
    rw [Bool.and_eq_true]
    rw [nmT_at hx] at hz
    refine ⟨hz.2.1, ?_⟩
    by_cases e2 : z = i
    · subst e2; exact hc hz.2.2
    · exact h.dn q c (p + 1) z j r d hr hd hk hlt (hD z (by omega) (by omega)) hz.2.2
end
/-- The steps that a walk over a rule's rests takes, of whatever table. -/
structure AdZ (b : Nat → Nat) (N : Nat) (L : List Ru) (q : Nat) (r : Ru) (i j : Nat) (Z : Nat → Nat → SpM → Prop) : Prop where
  en : ∀ c d T, r.conj[c]? = some d → Z c 0 T → Z c 1 (if i = j then putS3 T (N + ofRu L q c + d.seq.length) i j else T)
  sy : ∀ c d p m s T, r.conj[c]? = some d → d.seq[p]? = some s → p + m = d.seq.length → Z c m T → Z c (m + 1) (if ledB b T s (N + ofRu L q c + (p + 1)) i j = true then putS3 T (N + ofRu L q c + p) i j else T)
  nx : ∀ c d T, r.conj[c]? = some d → Z c (d.seq.length + 1) T → Z (c + 1) 0 T
theorem ad_z {b : Nat → Nat} {n N : Nat} {L : List Ru} {f : Nat → Nat} {k : Nat} {D : Nat → Nat → Prop} {H T0 : SpM} {i j : Nat} {C : Nat → Bool} {R : Nat → Prop} {q : Nat} {r : Ru} (hN : NmIn N L) (hr : L[q]? = some r) (hk : f r.head.toNat = k) (hi : i ≤ j) (hj : j ≤ n) (hn : n < 64) (hD : ∀ a, i < a → a ≤ j → D a j) :
    AdZ b N L q r i j (Ad b n N L f k D H T0 i j C R q r) := by
  refine ⟨fun c d T hd h => ?_, fun c d p m s T hd hs hp h => ?_, fun c d T hd h => h.next hd rfl⟩
  · have := h.step hr hd (p := d.seq.length) (by omega) hi hj (decide (i = j)) (fun e => by rw [restB_end]; exact e) (fun e => by rw [restB_end] at e; exact e)
    simpa using this
  · refine h.step hr hd hp hi hj _ (led_sound h.gp.sd hN hr hd hs) (led_comp h.gp.sd hN hr hk hd hs hn hj hD (h.cp c (p + 1) d hd ?_ (Or.inr ⟨rfl, by omega⟩)))
    have := (List.getElem?_eq_some_iff.1 hs).1; omega
end Go.Proofs.YtfjejnkjlnkkhaaGreatDoor
/- Ranges over functions: a region that draws within a round; marks among the deferred calls; slices.Backward over symbols. -/
namespace Go.Proofs.YtfjejnkjlnkkhaaGreatDoor
set_option linter.unusedVariables false
set_option linter.unusedSimpArgs false
open Go.ChangeShapes Go.WideShapes Go.ChangeAt Go.RowKit Go.Shelf
attribute [local go_sem] Oper.semAt_some

theorem rowsIn_wide {n : Nat} {P : Program} {row : String} {args : Array Value} {w : World} {R : Value → World → Prop} (h : Rows P row args w R) : RowsIn Fence.wide n P row args w R :=
  fun c cs _ => let ⟨v, w', r, s⟩ := h c cs; ⟨v, w', r, stepsIn_wide.2 s⟩
/-- A region's operations, none of which defers, within a round. -/
theorem wpOpsIn_round {P : Program} {ops : Array Oper} {Q : Exit → Act → World → Prop} {l n : Nat} (hd : ∀ (i : Nat) (o : Oper), ops[i]? = some o → ∀ c, o.op ≠ .defer c) (hQ : ¬ LetsOut Q) : ∀ (is : List Nat) (a : Act) (w : World), wpOps P ops Q is a w → wpOpsIn (Fence.wide.inRound l) n P ops Q is a w
  | [], a, w, h => h
  | i :: is, a, w, h => by
    have ih := wpOpsIn_round (P := P) (n := n) (l := l) hd hQ is
    unfold wpOps at h
    unfold wpOpsIn
    cases ho : ops[i]? with
    | none => simp only [ho] at h ⊢; exact ih a w h
    | some o =>
      simp only [ho] at h ⊢
      by_cases hw : Region.wanted o (yielded ops a.tmps) = true
      · rw [if_pos hw] at h ⊢
        rcases h with h | ⟨_, h⟩
        · refine ⟨fun f _ => trivial, ?_⟩
          rw [Oper.semAt_eq _ _ _ (hd i o ho)]
          unfold Oper.wp at h
          revert h
          generalize (execOp a.eval o).run P w = x
          intro h
          unfold Oper.upon at h
          unfold Oper.uponIn
          split at h
          · exact ih _ _ h
          · exact ih _ _ h
          · exact ih _ _ h
          · refine ⟨fun h9 => (by cases h9), CallsIn.inRound l (callsIn_wide.2 (h.mono ?_))⟩
            intro e w'' he
            cases e with
            | returned v => exact ih _ _ he
            | panicked ch => exact he
            | outgrown => exact he
          · refine ⟨fun h9 => (by cases h9), ?_⟩
            exact rowsIn_wide (n := n - 1) (h.mono fun v w'' hv => ih _ _ hv)
          · exact h
          · exact h.elim
        · exact absurd h hQ
      · rw [if_neg hw] at h ⊢
        exact ⟨fun f _ => trivial, ih _ _ h⟩
def noDefer (o : Oper) : Bool := match o.op with | .defer _ => false | _ => true
theorem noDefer_all {ops : Array Oper} (h : ops.all noDefer = true) (i : Nat) (o : Oper) (ho : ops[i]? = some o) (c : Call) : o.op ≠ .defer c := fun e => by
  obtain ⟨hi, e2⟩ := Array.getElem?_eq_some_iff.1 ho
  have := Array.all_eq_true.1 h i hi
  rw [e2] at this
  unfold noDefer at this
  rw [e] at this; cases this
theorem wpIn_region_held_round {P : Program} {ops : Array Oper} {Q : Exit → Act → World → Prop} {S : World → Prop} {id l n : Nat} {a : Act} {w : World} (hm : P.follows .mixedOrders = true) (hd : ops.all noDefer = true) (hQ : ¬ LetsOut Q) (hS : S w.drew)
    (h : S w.drew → wpAnyH P .any ops Q S ops.size (Array.replicate ops.size false) a w.drew) : (Code.region id ops true).wpIn (Fence.wide.inRound l) n P Q a w :=
  wpIn_region_draw fun t => wpOpsIn_round (noDefer_all hd) hQ _ _ _ (by
    simp only [Region.schedule, hm, Bool.true_or, if_true]
    exact wpAny_sound ops.size t _ a _ (wpAny_of_held _ _ _ _ (h hS)))
/-- Marks of loops among the deferred calls, each of a block of its own. -/
def Marks (B : Nat) : List Deferred → World → Prop
  | [], _ => True
  | d :: ds, w => (∃ D, d = { target := .collected D, args := #[] } ∧ B ≤ D ∧ w.heap[D]? = some (.deferred (some [])) ∧ ∀ d' ∈ ds, ∀ D', d'.target = .collected D' → D' < D) ∧ Marks B ds w
theorem Marks.keep {B : Nat} {w w' : World} : ∀ {ds : List Deferred}, (∀ d ∈ ds, ∀ D, d.target = .collected D → w'.heap[D]? = w.heap[D]?) → Marks B ds w → Marks B ds w'
  | [], _, _ => trivial
  | d :: ds, hk, ⟨⟨D, h1, h2, h3, h4⟩, h5⟩ => ⟨⟨D, h1, h2, (hk d (List.mem_cons_self ..) D (by rw [h1])).trans h3, h4⟩, Marks.keep (fun d' hd' => hk d' (List.mem_cons_of_mem _ hd')) h5⟩
theorem Marks.ge {B : Nat} {w : World} : ∀ {ds : List Deferred}, Marks B ds w → ∀ d ∈ ds, ∀ D, d.target = .collected D → B ≤ D ∧ ∃ o, w.heap[D]? = some o ∧ o.isCells = false
  | [], _, d, hd, _, _ => by cases hd
  | e :: ds, ⟨⟨D, h1, h2, h3, h4⟩, h5⟩, d, hd, D', hD' => by
    rcases List.mem_cons.1 hd with rfl | hd
    · rw [h1] at hD'
      injection hD' with hD'
      rw [← hD']; exact ⟨h2, _, h3, rfl⟩
    · exact h5.ge d hd D' hD'
theorem Marks.lt {B : Nat} {w : World} : ∀ {ds : List Deferred}, Marks B ds w → ∀ d ∈ ds, ∀ D, d.target = .collected D → D < w.heap.size
  | [], _, d, hd, _, _ => by cases hd
  | e :: ds, ⟨⟨D, h1, h2, h3, h4⟩, h5⟩, d, hd, D', hD' => by
    rcases List.mem_cons.1 hd with rfl | hd
    · rw [h1] at hD'
      injection hD' with hD'
      rw [← hD']; exact (Array.getElem?_eq_some_iff.1 h3).1
    · exact h5.lt d hd D' hD'
/-- A function leaves through its marks. -/
theorem leaves_marks {P : Program} {fn : Func} {tmps : Array Value} {n B : Nat} {v : Value} (hres : ∀ w, (results fn tmps).run P w = .ok v w) {R : Ending → World → Prop} : ∀ (ds : List Deferred) (w : World), Marks B ds w →
    (∀ w', w'.os = w.os → w'.tape = w.tape → w'.output = w.output → w'.heap.size = w.heap.size → (∀ k, (k < B ∨ ∃ o, w.heap[k]? = some o ∧ o.isCells = true) → w'.heap[k]? = w.heap[k]?) → R (.returned v) w') → LeavesInM Fence.wide n P fn tmps R ds .returning w
  | [], w, _, hR => by
    refine ⟨_, hres w, ?_⟩
    exact hR w rfl rfl rfl rfl (fun _ _ => rfl)
  | d :: ds, w, ⟨⟨D, h1, h2, h3, h4⟩, h5⟩, hR => by
    refine ⟨by simp, .inl ⟨D, _, by rw [h1], run_takeDeferred h3, ?_⟩⟩
    have hsz : (w.putObj D (.deferred none)).heap.size = w.heap.size := by simp [World.putObj]
    refine leaves_marks hres ds _ (Marks.keep (w := w) (fun d' hd' D' hD' => World.putObj_heap_other (Nat.ne_of_lt (h4 d' hd' D' hD'))) h5) fun w' g1 g2 g3 g4 g5 => hR w' g1 g2 g3 (g4.trans hsz) fun k hk => ?_
    have hne : k ≠ D := by
      rcases hk with hk | ⟨o, ho, hc⟩
      · omega
      · rintro rfl
        rw [h3] at ho
        injection ho with ho
        rw [← ho] at hc; cases hc
    refine (g5 k ?_).trans (World.putObj_heap_other hne)
    rcases hk with hk | ⟨o, ho, hc⟩
    · exact Or.inl hk
    · exact Or.inr ⟨o, (World.putObj_heap_other hne).trans ho, hc⟩
/-- Rows of cells stay, but for the blocks E; new ones may come, what is no row may turn. -/
structure Bc (E : Nat → Prop) (w w' : World) : Prop where
  size : w.heap.size ≤ w'.heap.size
  same : ∀ (k : Nat) (o : Obj), ¬ E k → w.heap[k]? = some o → o.isCells = true → w'.heap[k]? = some o
theorem Bc.refl (E : Nat → Prop) (w : World) : Bc E w w := ⟨Nat.le_refl _, fun _ _ _ h _ => h⟩
theorem Bc.trans {E : Nat → Prop} {u v w : World} (h : Bc E u v) (k : Bc E v w) : Bc E u w := ⟨Nat.le_trans h.size k.size, fun i o hi ho hc => k.same i o hi (h.same i o hi ho hc) hc⟩
theorem Bc.of {E : Nat → Prop} {b : Nat} {w w' : World} (h : Bu b w w') (hE : E b) : Bc E w w' := ⟨h.size, fun k o hk ho _ => (h.block k (Array.getElem?_eq_some_iff.1 ho).1 (fun e => hk (e ▸ hE))).trans ho⟩
theorem Bc.ofB {E : Nat → Prop} {w w' : World} (h : Below w.heap.size w w') : Bc E w w' := ⟨h.size, fun k o hk ho _ => (h.block k (Array.getElem?_eq_some_iff.1 ho).1).trans ho⟩
theorem Bc.set {E : Nat → Prop} {w : World} {b o : Nat} (hE : E b) (v : Value) : Bc E w (w.setCell ⟨b, o, none⟩ v) := ⟨by rw [Go.Deep.nblk_setCell]; exact Nat.le_refl _, fun k ob hk ho _ => (Go.Deep.blk_setCell_other w ⟨b, o, none⟩ v k (fun e => hk (by rw [e]; exact hE))).trans ho⟩
theorem Bc.put {E : Nat → Prop} {w : World} {l : Nat} {o o' : Obj} (h : w.heap[l]? = some o) (hc : o.isCells = false) : Bc E w (w.putObj l o') := ⟨by simp, fun k o2 hk ho2 hc2 => by
  have : k ≠ l := by rintro rfl; rw [h] at ho2; injection ho2 with e; rw [← e, hc] at hc2; cases hc2
  exact (World.putObj_heap_other this).trans ho2⟩
theorem Bc.cell {E : Nat → Prop} {w w' : World} (h : Bc E w w') {k o : Nat} {v : Value} (hk : ¬ E k) (hc : w.cell? ⟨k, o, none⟩ = some v) : w'.cell? ⟨k, o, none⟩ = some v := by
  have hlt := block_lt_of_cell hc
  have ho : w.heap[k]? = some w.heap[k] := Array.getElem?_eq_getElem hlt
  have hcc : (w.heap[k]).isCells = true := by
    unfold World.cell? at hc
    simp only [ho] at hc
    cases h9 : w.heap[k] <;> rw [h9] at hc <;> first | rfl | cases hc
  exact (World.cell?_of_block (a := ⟨k, o, none⟩) ((h.same k _ hk ho hcc).trans ho.symm)).trans hc
/-- The law of a range over a function whose body never leaves, in a function that is no round; the loop's variable in a block of its own. -/
theorem range_box {P : Program} {α : Type} {g : Operand} {ps : Array Tmp} {assign body : Code} {Q : Exit → Act → World → Prop} {a : Act} {w : World} {gf : Nat} {lb : Array Value} (hg : a.eval g = .func (.func gf) #[] lb) (eg : ∀ args w, (callFunc gf args).run P w = .ok (.enter gf args) w)
    {encs : α → Array Value} {Kp : World → World → Prop} {S Sp : List α → Prop} {N : Nat} (hseq : SeqStopsK Fence.wide 3 P gf lb encs Kp S Sp N w)
    (hKt : ∀ {A B C : World}, Kp A B → Kp B C → Kp A C) (hKb : ∀ (W : World) (l : Nat) (o o' : Obj), w.heap.size ≤ l → W.heap[l]? = some o → o.isCells = false → o.isWalk = false → Kp W (W.putObj l o')) (hKa : ∀ (W : World) (o : Obj), Kp W (W.alloc o)) (hps : ∀ x, (encs x).size = ps.size)
    (I : List α → World → Prop) (hI : OwnFrom w.heap.size I) (hIs : ∀ pre W, I pre W → w.heap.size ≤ W.heap.size) (h0 : I [] w) (slot : Nat) (cells : α → Array Value) (ty : TypeId)
    (hassign : ∀ (l : Nat) (x : α) (W : World) (K : Act → World → Prop), K { tmps := ((ps.zip (encs x)).foldl (fun t (p, v) => t.setIfInBounds p v) a.tmps).setIfInBounds slot (.pointer (some ⟨W.heap.size, 0, none⟩)), defers := [] } (W.alloc (.cells (cells x) ty)) →
      assign.wpIn (Fence.wide.inRound l) 2 P (Exit.then K (fun _ _ _ => False)) { tmps := (ps.zip (encs x)).foldl (fun t (p, v) => t.setIfInBounds p v) a.tmps, defers := [] } W)
    (hbody : ∀ (l : Nat) (pre : List α) (x : α) (Bx : Nat) (W : World), I pre W → W.heap[Bx]? = some (.cells (cells x) ty) → w.heap.size ≤ Bx → pre.length < N →
      body.wpIn (Fence.wide.inRound l) 2 P (ownPostG w.heap.size Kp I (fun _ _ _ => False) (pre ++ [x]) W) { tmps := ((ps.zip (encs x)).foldl (fun t (p, v) => t.setIfInBounds p v) a.tmps).setIfInBounds slot (.pointer (some ⟨Bx, 0, none⟩)), defers := [] } W)
    (hdone : ∀ (D : Nat) (xs : List α) (W : World), w.heap.size ≤ D → S xs → I xs W → W.heap[D]? = some (.deferred (some [])) → Q .normal { a with defers := { target := .collected D, args := #[] } :: a.defers } W) :
    (Code.rangeFunc g ps assign body).wp P Q a w := by
  refine (wpIn_wide (n := 4)).1 ?_
  refine wpIn_rangeFunc_ownH rfl (by omega) hg trivial eg hseq hKt hKb (Below.refl _ _) hps I (fun _ _ _ => False) hI (fun _ _ _ _ _ h _ _ => h) h0
    (fun x a' W => ∃ Bx, (w.heap.size ≤ Bx ∧ W.heap[Bx]? = some (.cells (cells x) ty)) ∧ a' = { tmps := ((ps.zip (encs x)).foldl (fun t (p, v) => t.setIfInBounds p v) a.tmps).setIfInBounds slot (.pointer (some ⟨Bx, 0, none⟩)), defers := [] })
    (fun x a' s W W' row hs hg hr => ?_) (fun l pre x W K hi hK => ?_) (fun l pre x a' W hl hr hi hax hlen => ?_) (fun D xs W hD hS hi hk => hdone D xs W hD hS hi hk) (fun D c pre W hD _ h _ => h.elim)
  · obtain ⟨Bx, ⟨h1, h2⟩, h3⟩ := hs
    refine ⟨Bx, ⟨h1, ?_⟩, h3⟩
    rw [hg.block Bx (Array.getElem?_eq_some_iff.1 h2).1 (fun e => ?_)]
    · exact h2
    · obtain ⟨_, o, ho, hc⟩ := hr Bx e.symm
      rw [h2] at ho
      injection ho with ho
      rw [← ho] at hc; cases hc
  · refine hassign l x W K (hK _ _ ((KeepsOthers.alloc _ _).from _) (hKa _ _) (hI.alloc _ hi) ⟨W.heap.size, ⟨hIs pre W hi, heap_alloc_new _ _⟩, rfl⟩)
  · obtain ⟨Bx, ⟨h1, h2⟩, rfl⟩ := hax
    exact hbody l pre x Bx W hi h2 h1 hlen
/-- The same; the loop's variable in a slot. -/
theorem range_tmp {P : Program} {α : Type} {g : Operand} {ps : Array Tmp} {assign body : Code} {Q : Exit → Act → World → Prop} {a : Act} {w : World} {gf : Nat} {lb : Array Value} (hg : a.eval g = .func (.func gf) #[] lb) (eg : ∀ args w, (callFunc gf args).run P w = .ok (.enter gf args) w)
    {encs : α → Array Value} {Kp : World → World → Prop} {S Sp : List α → Prop} {N : Nat} (hseq : SeqStopsK Fence.wide 3 P gf lb encs Kp S Sp N w)
    (hKt : ∀ {A B C : World}, Kp A B → Kp B C → Kp A C) (hKr : ∀ W, Kp W W) (hKb : ∀ (W : World) (l : Nat) (o o' : Obj), w.heap.size ≤ l → W.heap[l]? = some o → o.isCells = false → o.isWalk = false → Kp W (W.putObj l o')) (hps : ∀ x, (encs x).size = ps.size)
    (I : List α → World → Prop) (hI : OwnFrom w.heap.size I) (h0 : I [] w) (slot : Nat) (val : α → Value)
    (hassign : ∀ (l : Nat) (x : α) (W : World) (K : Act → World → Prop), K { tmps := ((ps.zip (encs x)).foldl (fun t (p, v) => t.setIfInBounds p v) a.tmps).setIfInBounds slot (val x), defers := [] } W →
      assign.wpIn (Fence.wide.inRound l) 2 P (Exit.then K (fun _ _ _ => False)) { tmps := (ps.zip (encs x)).foldl (fun t (p, v) => t.setIfInBounds p v) a.tmps, defers := [] } W)
    (hbody : ∀ (l : Nat) (pre : List α) (x : α) (W : World), I pre W → pre.length < N →
      body.wpIn (Fence.wide.inRound l) 2 P (ownPostG w.heap.size Kp I (fun _ _ _ => False) (pre ++ [x]) W) { tmps := ((ps.zip (encs x)).foldl (fun t (p, v) => t.setIfInBounds p v) a.tmps).setIfInBounds slot (val x), defers := [] } W)
    (hdone : ∀ (D : Nat) (xs : List α) (W : World), w.heap.size ≤ D → S xs → I xs W → W.heap[D]? = some (.deferred (some [])) → Q .normal { a with defers := { target := .collected D, args := #[] } :: a.defers } W) :
    (Code.rangeFunc g ps assign body).wp P Q a w := by
  refine (wpIn_wide (n := 4)).1 ?_
  refine wpIn_rangeFunc_ownH rfl (by omega) hg trivial eg hseq hKt hKb (Below.refl _ _) hps I (fun _ _ _ => False) hI (fun _ _ _ _ _ h _ _ => h) h0
    (fun x a' W => a' = { tmps := ((ps.zip (encs x)).foldl (fun t (p, v) => t.setIfInBounds p v) a.tmps).setIfInBounds slot (val x), defers := [] })
    (fun x a' s W W' row hs hg hr => hs) (fun l pre x W K hi hK => hassign l x W K (hK _ _ (KeepsFrom.refl _ _) (hKr _) hi rfl)) (fun l pre x a' W hl hr hi hax hlen => by subst hax; exact hbody l pre x W hi hlen) (fun D xs W hD hS hi hk => hdone D xs W hD hS hi hk) (fun D c pre W hD _ h _ => h.elim)
end Go.Proofs.YtfjejnkjlnkkhaaGreatDoor
/- slices.Backward over symbols, as a range over it wants it. -/
namespace Go.Proofs.YtfjejnkjlnkkhaaGreatDoor
set_option linter.unusedVariables false
set_option linter.unusedSimpArgs false
open Go.ChangeShapes Go.WideShapes Go.ChangeAt Go.RowKit Go.Shelf
attribute [local go_sem] Oper.semAt_some

def symD (l : List Sy) (k : Nat) : Sy := l.getD k ⟨-1, 0, 0⟩
theorem symD_at {l : List Sy} {k : Nat} {s : Sy} (h : l[k]? = some s) : symD l k = s := by unfold symD; rw [List.getD_eq_getElem?_getD, h]; rfl
/-- The first m of n - 1, n - 2, .. -/
def dwn (n : Nat) : Nat → List Nat
  | 0 => []
  | m + 1 => dwn n m ++ [n - 1 - m]
theorem dwn_len (n : Nat) : ∀ m, (dwn n m).length = m
  | 0 => rfl
  | m + 1 => by simp [dwn, dwn_len n m]
/-- What yield is handed. -/
def bkE (l : List Sy) (k : Nat) : Array Value := #[.int .i64 (k : Int), .agg #[.int .i64 (symD l k).name, .int .i64 (symD l k).lo, .int .i64 (symD l k).hi]]
/-- A row of symbols, aside of block hb. -/
def SyCs (W : World) (E : Nat → Prop) (p : Option Addr) (sq : List Sy) : Prop := ∀ (k : Nat) (s : Sy), sq[k]? = some s → ∃ gp o, p = some ⟨gp, o, none⟩ ∧ ¬ E gp ∧ W.cell? ⟨gp, o + k * 3, none⟩ = some (.int .i64 s.name) ∧ W.cell? ⟨gp, o + k * 3 + 1, none⟩ = some (.int .i64 s.lo) ∧ W.cell? ⟨gp, o + k * 3 + 2, none⟩ = some (.int .i64 s.hi)
theorem SyCs.keep {W W' : World} {E : Nat → Prop} {p : Option Addr} {sq : List Sy} (h : SyCs W E p sq) (hk : Bc E W W') : SyCs W' E p sq := fun k s hs => by
  obtain ⟨gp, o, h1, h2, h3, h4, h5⟩ := h k s hs
  exact ⟨gp, o, h1, h2, hk.cell h2 h3, hk.cell h2 h4, hk.cell h2 h5⟩
set_option maxHeartbeats 2000000 in
set_option maxRecDepth 100000 in
theorem back1_in (m l Bs : Nat) (E : Nat → Prop) (hm : 1 ≤ m) (p : Option Addr) (cap : Nat) (sq : List Sy) (W : World) (hs : SyCs W E p sq) (hBs : ¬ E Bs) (hc : W.cell? ⟨Bs, 0, none⟩ = some (.slice p sq.length cap)) (h9 : sq.length ≤ 64) (J Jx : List Nat → World → Prop)
    (hY : ∀ pre x W1, J pre W1 → pre.length < sq.length → YieldAt Fence.wide (m - 1) Tryz.prog l (bkE sq x) W1 fun e W' => (e = .returned (.bool true) ∧ J (pre ++ [x]) W' ∧ Bc E W1 W') ∨ (e = .returned (.bool false) ∧ Jx (pre ++ [x]) W')) (h0 : J [] W) :
    CallsIn Fence.wide m Tryz.prog 130 #[.func (.yield l) #[] #[], .pointer (some ⟨Bs, 0, none⟩)] W fun e W' => (∃ v, e = .returned v) ∧
      ((∃ ys, ys = dwn sq.length sq.length ∧ J ys W') ∨ (∃ pre : List Nat, True ∧ Jx pre W')) := by
  have HS : Hid (SyCs W E p sq) := hs
  have HC : Hid (∀ wr, Bc E W wr → wr.cell? ⟨Bs, 0, none⟩ = some (.slice p sq.length cap)) := fun wr hb2 => hb2.cell hBs hc
  have HY : Hid (∀ pre x W1, J pre W1 → pre.length < sq.length → YieldAt Fence.wide (m - 1) Tryz.prog l (bkE sq x) W1 fun e W' => (e = .returned (.bool true) ∧ J (pre ++ [x]) W' ∧ Bc E W1 W') ∨ (e = .returned (.bool false) ∧ Jx (pre ++ [x]) W')) := hY
  have H0 : Hid (J [] W) := h0
  obtain ⟨n, hn⟩ : ∃ n, n = sq.length := ⟨_, rfl⟩
  have HN : Hid (n = sq.length) := hn
  rw [← hn] at hc h9 HC HY
  rw [← hn]
  clear hs hY h0 hn
  refine callsIn_of_wp Tryz.func130 rfl trivial ?_ rfl
  simp only [Tryz.ntmps130, List.size_toArray, List.length_cons, List.length_nil, Nat.reduceAdd, Nat.reduceSub, Array.replicate_succ, Array.replicate_zero, List.push_toArray, List.append_toArray, List.nil_append, List.cons_append]
  gi_wp2
  gi_loopw [3] (fun i wr => ∃ k : Nat, k ≤ n ∧ i = .int .i64 ((k : Int) - 1) ∧ Hid (J (dwn n (n - k)) wr) ∧ Hid (Bc E W wr)) (fun i _ => (intOf i + 1).toNat)
  case atStart => exact ⟨n, Nat.le_refl _, rfl, by rw [Nat.sub_self]; exact H0, Bc.refl _ _⟩
  case round =>
    obtain ⟨k, hk, rfl, HJ, HB⟩ := hrel
    clear hc
    cases k with
    | zero =>
      rw [show ((0 : Nat) : Int) - 1 = -1 by omega]
      have HJ2 : Hid (J (dwn n n) wr) := HJ
      gi_wp2
      go_end0
      exact ⟨⟨_, rfl⟩, .inl ⟨_, rfl, HJ2.out⟩⟩
    | succ k =>
      rw [show ((k + 1 : Nat) : Int) - 1 = (k : Int) by omega]
      obtain ⟨s, hs⟩ : ∃ s, sq[k]? = some s := ⟨_, List.getElem?_eq_getElem (by rw [← HN.out]; omega)⟩
      obtain ⟨gp, o, ep, -, a0, a1, a2⟩ := HS.out.keep HB.out k s hs
      have hg := block_lt_of_cell a0
      subst ep
      have hcx := HC.out wr HB.out
      obtain ⟨fn, tmps, assign, body, hy, hR⟩ := HY.out _ k wr HJ.out (by rw [dwn_len]; omega)
      unfold bkE at hy
      rw [symD_at hs] at hy
      obtain ⟨nm, lo, up⟩ := s
      dsimp only at hy a0 a1 a2
      have HD : Hid (dwn n (n - (k + 1)) ++ [k] = dwn n (n - k)) := by
        show _ = _
        rw [show n - k = n - (k + 1) + 1 by omega]
        show _ = dwn n (n - (k + 1)) ++ [n - 1 - (n - (k + 1))]
        rw [show n - 1 - (n - (k + 1)) = k by omega]
      clear hs
      gi_wp2
      refine hR.mono ?_
      rintro e W3 (⟨rfl, hJ3, hk3⟩ | ⟨rfl, hJx3⟩)
      · have HJ3 : Hid (J (dwn n (n - k)) W3) := by show J _ _; rw [← HD.out]; exact hJ3
        have HB3 : Hid (Bc E W W3) := HB.out.trans hk3
        clear hJ3 hk3
        gi_wp2
        go_roundw
        case rel => exact ⟨k, by omega, rfl, HJ3, HB3⟩
        case measure => simp [intOf]
      · have HJ3 : Hid (Jx (dwn n (n - (k + 1)) ++ [k]) W3) := hJx3
        gi_wp2
        refine bodyPost_ret (results_none rfl _ _ _) rfl ?_
        exact ⟨⟨_, rfl⟩, .inr ⟨_, trivial, HJ3.out⟩⟩
theorem back_stops (m Bs : Nat) (E : Nat → Prop) (hm : 1 ≤ m) (p : Option Addr) (cap : Nat) (sq : List Sy) (w : World) (hs : SyCs w E p sq) (hBs : ¬ E Bs) (hc : w.cell? ⟨Bs, 0, none⟩ = some (.slice p sq.length cap)) (h9 : sq.length ≤ 64) :
    SeqStopsK Fence.wide m Tryz.prog 130 #[.pointer (some ⟨Bs, 0, none⟩)] (bkE sq) (Bc E) (fun ys => ys = dwn sq.length sq.length) (fun _ => True) sq.length w := fun l J Jx W hW _ _ hY h0 =>
  back1_in m l Bs E hm p cap sq W (hs.keep (Bc.ofB hW)) hBs ((hW.cell (p := ⟨Bs, 0, none⟩) (block_lt_of_cell hc)).trans hc) h9 J Jx hY h0
set_option maxHeartbeats 1000000 in
theorem backward_any (p : Option Addr) (n cap : Nat) (w : World) :
    Calls Tryz.prog 117 #[.slice p n cap] w fun e w' => e = .returned (.func (.func 130) #[] #[.pointer (some ⟨w.heap.size, 0, none⟩)]) ∧ w' = w.alloc (.cells #[.slice p n cap] 45) := by
  go_enter Tryz.func117, Tryz.ntmps117
  have hmf : ∀ (fn : Fn) (first cap : Array Value) (w : World), (Instr.makeFunc fn first cap).run Tryz.prog w = .ok (.func fn first cap) w := fun _ _ _ _ => rfl
  go_wp2
  go_ret
  exact ⟨rfl, rfl⟩
end Go.Proofs.YtfjejnkjlnkkhaaGreatDoor
