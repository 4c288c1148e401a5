import Derived.Test.YtfjejnkjlnkkhaaGreatDoorGm
import Derived.BigRegion
/- An empty table is made. -/
namespace Go.Proofs.YtfjejnkjlnkkhaaGreatDoor
set_option linter.unusedVariables false
set_option linter.unusedSimpArgs false
open Go.ChangeShapes Go.WideShapes Go.ChangeAt Go.RowKit Go.Maps

def zS : Array Value := (List.replicate 66 (Value.int .u64 0)).toArray
theorem Tryz.infoSpans : (Tryz.prog.info? 82).map (fun i => (i.zero, i.size, i.bytes)) = some (some (.agg zS), 66, 528) := by kernel_rfl
theorem Tryz.infoI32 : (Tryz.prog.info? 21).map (fun i => (i.zero, i.size, i.bytes)) = some (some (.int .i32 0), 1, 4) := by kernel_rfl
theorem make_map (n : Int) (w : World) : (Instr.makeMap 73 (some (.int .i64 n))).run Tryz.prog w = .ok (.map (some w.heap.size)) (w.alloc (.map #[] 0)) := by
  simp [Instr.makeMap, run_underlying Tryz.underPl, asInt, asIntOf, Result.andThen]
def hasZ (A : Nat) : Obj := .cells (madeCells zS (A * 66)) 82
def rnkZ (Z : Nat) : Obj := .cells (madeCells #[.int .i32 0] Z) 21
theorem make_has (A : Nat) (hA : A ≤ 200000) (w : World) : (Instr.makeSlice 74 (.int .i64 (A : Int)) (.int .i64 (A : Int))).run Tryz.prog w = .ok (.slice (some ⟨w.heap.size, 0, none⟩) A A) (w.alloc (hasZ A)) := by
  obtain ⟨i, hi, hz, hs, hb⟩ := info_partsP Tryz.infoSpans
  have h := run_make (P := Tryz.prog) w 74 82 i _ Tryz.underlying74 hi hz .i64 .i64 (A : Int) (A : Int) (by omega) (Int.le_refl _) (by rw [hb]; omega) (by omega)
  simp only [Int.toNat_natCast, hs] at h
  exact h
theorem make_rnk (Z : Nat) (hZ : Z ≤ 217800000) (w : World) : (Instr.makeSlice 75 (.int .i64 (Z : Int)) (.int .i64 (Z : Int))).run Tryz.prog w = .ok (.slice (some ⟨w.heap.size, 0, none⟩) Z Z) (w.alloc (rnkZ Z)) := by
  obtain ⟨i, hi, hz, hs, hb⟩ := info_partsP Tryz.infoI32
  have h := run_make (P := Tryz.prog) w 75 21 i _ Tryz.underlying75 hi hz .i64 .i64 (Z : Int) (Z : Int) (by omega) (Int.le_refl _) (by rw [hb]; omega) (by omega)
  simp only [Int.toNat_natCast, hs, Nat.mul_one] at h
  exact h
theorem zS_at (k : Nat) (hk : k < 66) : zS[k]! = .int .u64 0 := by
  have h : zS[k]? = some (.int .u64 0) := by
    unfold zS
    rw [List.getElem?_toArray, List.getElem?_replicate, if_pos hk]
  rw [getElem!_def, h]
theorem frW_no (y i : Nat) : frW (fun _ _ _ => false) y i = 0 := by
  unfold frW
  refine Nat.eq_of_testBit_eq fun j => ?_
  rw [bitsN_at]; simp
theorem toW_no (y i : Nat) : toW (fun _ _ _ => false) y i = 0 := by
  unfold toW
  refine Nat.eq_of_testBit_eq fun j => ?_
  rw [bitsN_at]; simp
theorem HasAt.zero {w : World} {b A : Nat} (h : w.heap[b]? = some (hasZ A)) : HasAt w b A (fun _ _ _ => false) := by
  have key : ∀ k, k < A * 66 → w.cell? ⟨b, k, none⟩ = some (.int .u64 0) := fun k hk => by
    unfold hasZ at h
    rw [Lib.cell_of_heap h]
    unfold madeCells
    have hz : zS.size = 66 := by unfold zS; simp
    rw [Array.getElem?_map, Array.getElem?_range, if_pos hk, hz]
    exact congrArg some (zS_at _ (Nat.mod_lt _ (by omega)))
  refine ⟨(Array.getElem?_eq_some_iff.1 h).1, fun y i hy hi => ?_, fun y j hy hj => ?_, fun k => ?_⟩
  · rw [frW_no]; exact key _ (by omega)
  · rw [toW_no]; exact key _ (by omega)
  · unfold hasZ at h; unfold World.frozen?; rw [h]; simp
theorem RkAt.zero {w : World} {b Z : Nat} (h : w.heap[b]? = some (rnkZ Z)) : RkAt w b Z (fun _ => 0) := by
  refine ⟨(Array.getElem?_eq_some_iff.1 h).1, fun z hz => ?_, fun k => ?_⟩
  · unfold rnkZ at h
    rw [Lib.cell_of_heap h]
    unfold madeCells
    rw [Array.getElem?_map, Array.getElem?_range, if_pos hz]
    simp [Nat.mod_one]
  · unfold rnkZ at h; unfold World.frozen?; rw [h]; simp
/-- An empty table: its five cells, and the three it has. -/
structure Em (N A n : Nat) (w : World) (tb hb rb mb : Nat) (w' : World) : Prop where
  tc : w'.heap[tb]? = some (.cells #[.int .i64 (n : Int), .int .i64 (N : Int), .map (some mb), .slice (some ⟨hb, 0, none⟩) A A, .slice (some ⟨rb, 0, none⟩) (A * (n + 1) * (n + 1)) (A * (n + 1) * (n + 1))] 77)
  hc : w'.heap[hb]? = some (hasZ A)
  rc : w'.heap[rb]? = some (rnkZ (A * (n + 1) * (n + 1)))
  mc : w'.heap[mb]? = some (.map #[] 0)
  lo : w.heap.size ≤ tb ∧ w.heap.size ≤ hb ∧ w.heap.size ≤ rb ∧ w.heap.size ≤ mb
  be : Below w.heap.size w w'
theorem Em.ne {N A n : Nat} {w : World} {tb hb rb mb : Nat} {w' : World} (h : Em N A n w tb hb rb mb w') : tb ≠ hb ∧ tb ≠ rb ∧ tb ≠ mb ∧ hb ≠ rb ∧ hb ≠ mb ∧ rb ≠ mb := by
  refine ⟨?_, ?_, ?_, ?_, ?_, ?_⟩
  · rintro rfl; have := h.tc.symm.trans h.hc; unfold hasZ at this; injection this with this; injection this with _ this; exact absurd this (by decide)
  · rintro rfl; have := h.tc.symm.trans h.rc; unfold rnkZ at this; injection this with this; injection this with _ this; exact absurd this (by decide)
  · rintro rfl; have := h.tc.symm.trans h.mc; cases this
  · rintro rfl; have := h.hc.symm.trans h.rc; unfold rnkZ hasZ at this; injection this with this; injection this with _ this; exact absurd this (by decide)
  · rintro rfl; have := h.hc.symm.trans h.mc; unfold hasZ at this; cases this
  · rintro rfl; have := h.rc.symm.trans h.mc; unfold rnkZ at this; cases this
theorem Em.any {N A n : Nat} {w : World} {tb hb rb mb : Nat} {w' w'' : World} (h : Em N A n w tb hb rb mb w') (hb' : Below w'.heap.size w' w'') : Em N A n w tb hb rb mb w'' := by
  have l : ∀ {k : Nat} {o : Obj}, w'.heap[k]? = some o → w''.heap[k]? = some o := fun {k o} hk => (hb'.block k (Array.getElem?_eq_some_iff.1 hk).1).trans hk
  exact ⟨l h.tc, l h.hc, l h.rc, l h.mc, h.lo, h.be.trans (hb'.mono h.be.size)⟩
theorem Em.of {N A n : Nat} {w V : World} {hb rb mb : Nat} (hc : V.heap[hb]? = some (hasZ A)) (rc : V.heap[rb]? = some (rnkZ (A * (n + 1) * (n + 1)))) (mc : V.heap[mb]? = some (.map #[] 0)) (lo : w.heap.size ≤ hb ∧ w.heap.size ≤ rb ∧ w.heap.size ≤ mb) (be : Below w.heap.size w V) :
    Em N A n w V.heap.size hb rb mb (V.alloc (.cells #[.int .i64 (n : Int), .int .i64 (N : Int), .map (some mb), .slice (some ⟨hb, 0, none⟩) A A, .slice (some ⟨rb, 0, none⟩) (A * (n + 1) * (n + 1)) (A * (n + 1) * (n + 1))] 77)) := by
  have l : ∀ {k : Nat} {o o' : Obj}, V.heap[k]? = some o → (V.alloc o').heap[k]? = some o := fun {k o o'} hk => (Below.heap_alloc V _ k (Array.getElem?_eq_some_iff.1 hk).1).trans hk
  exact ⟨heap_alloc_new V _, l hc, l rc, l mc, ⟨be.size, lo⟩, be.alloc be.size _⟩
theorem newA (w : World) (o1 o2 o3 : Obj) : (((w.alloc o1).alloc o2).alloc o3).heap[w.heap.size]? = some o1 := by
  rw [Below.heap_alloc _ _ _ (by simp; omega), Below.heap_alloc _ _ _ (by simp)]
  exact heap_alloc_new w o1
theorem newB (w : World) (o1 o2 o3 : Obj) : (((w.alloc o1).alloc o2).alloc o3).heap[w.heap.size + 1]? = some o2 := by
  rw [Below.heap_alloc _ _ _ (by simp)]
  have := heap_alloc_new (w.alloc o1) o2
  rw [show (w.alloc o1).heap.size = w.heap.size + 1 by simp] at this
  exact this
theorem newC (w : World) (o1 o2 o3 : Obj) : (((w.alloc o1).alloc o2).alloc o3).heap[w.heap.size + 1 + 1]? = some o3 := by
  have := heap_alloc_new ((w.alloc o1).alloc o2) o3
  rw [show ((w.alloc o1).alloc o2).heap.size = w.heap.size + 1 + 1 by simp] at this
  exact this
theorem newL (w : World) (o1 o2 o3 : Obj) : w.heap.size + 1 + 1 + 1 = (((w.alloc o1).alloc o2).alloc o3).heap.size := by simp
theorem newBe (w : World) (o1 o2 o3 : Obj) : Below w.heap.size w (((w.alloc o1).alloc o2).alloc o3) := ((bel1 _ _).alloc (by simp) _).alloc (by simp; omega) _
theorem Em.fin {N A n : Nat} {w w' : World} {tb tb' hb rb mb : Nat} (h : Em N A n w tb hb rb mb w') (e : tb' = tb) : Em N A n w tb' hb rb mb w'.drew := by
  subst e
  exact ⟨h.tc, h.hc, h.rc, h.mc, h.lo, h.be.drew⟩
set_option maxHeartbeats 4000000 in
set_option maxRecDepth 100000 in
theorem empty_any (N P n : Nat) (hN : N ≤ 64) (hP : P ≤ 133120) (hn : n ≤ 32) (w : World) :
    Calls Tryz.prog 43 #[.int .i64 (N : Int), .int .i64 (P : Int), .int .i64 (n : Int)] w fun e w' => ∃ tb hb rb mb, e = .returned (.pointer (some ⟨tb, 0, none⟩)) ∧ Hid (Em N (N + P) n w tb hb rb mb w') := by
  obtain ⟨A, hA⟩ : ∃ A, A = N + P := ⟨_, rfl⟩
  obtain ⟨Z, hZ⟩ : ∃ Z, Z = A * (n + 1) * (n + 1) := ⟨_, rfl⟩
  have hAl : A ≤ 200000 := by omega
  have h1 : A * (n + 1) ≤ 200000 * 33 := Nat.mul_le_mul hAl (by omega)
  have hZl : Z ≤ 217800000 := by
    rw [hZ]
    exact Nat.le_trans (Nat.mul_le_mul h1 (show n + 1 ≤ 33 by omega)) (by omega)
  have mk1 := make_map
  have mk2 := make_has A hAl
  have mk3 := make_rnk Z hZl
  have w1 : IntKind.i64.wrap ((N : Int) + (P : Int)) = (A : Int) := by rw [IntKind.wrap_i64]; omega
  have w2 : IntKind.i64.wrap ((n : Int) + 1) = (n : Int) + 1 := by rw [IntKind.wrap_i64]; omega
  obtain ⟨B, hB⟩ : ∃ B, B = A * (n + 1) := ⟨_, rfl⟩
  have w3 : IntKind.i64.wrap ((A : Int) * ((n : Int) + 1)) = (B : Int) := by
    rw [show (A : Int) * ((n : Int) + 1) = (B : Int) by rw [hB]; push_cast; rfl, IntKind.wrap_i64]; omega
  have w4 : IntKind.i64.wrap ((B : Int) * ((n : Int) + 1)) = (Z : Int) := by
    rw [show (B : Int) * ((n : Int) + 1) = (Z : Int) by rw [hZ, hB]; push_cast; rfl, IntKind.wrap_i64]; omega
  have HOF : Hid (∀ (V : World) (hb rb mb : Nat), V.heap[hb]? = some (hasZ A) → V.heap[rb]? = some (rnkZ Z) → V.heap[mb]? = some (.map #[] 0) → w.heap.size ≤ hb ∧ w.heap.size ≤ rb ∧ w.heap.size ≤ mb → Below w.heap.size w V →
      Em N A n w V.heap.size hb rb mb (V.alloc (.cells #[.int .i64 (n : Int), .int .i64 (N : Int), .map (some mb), .slice (some ⟨hb, 0, none⟩) A A, .slice (some ⟨rb, 0, none⟩) Z Z] 77))) := fun V hb rb mb a1 a2 a3 a4 a5 => by
    rw [hZ] at a2 ⊢
    exact Em.of a1 a2 a3 a4 a5
  rw [← hA]
  clear hA hZ hB h1
  go_enter Tryz.func43, Tryz.ntmps43
  go_wp2
  go_region
  all_goals
    go_wp2
    go_ret
    refine ⟨_, _, _, _, rfl, Em.fin (HOF.out _ _ _ _ ?_ ?_ ?_ ?_ ?_) ?_⟩
    · first | exact newA _ _ _ _ | exact newB _ _ _ _ | exact newC _ _ _ _
    · first | exact newA _ _ _ _ | exact newB _ _ _ _ | exact newC _ _ _ _
    · first | exact newA _ _ _ _ | exact newB _ _ _ _ | exact newC _ _ _ _
    · omega
    · exact newBe _ _ _ _
    · exact newL _ _ _ _
end Go.Proofs.YtfjejnkjlnkkhaaGreatDoor
/- A table's work is being laid: what lies where. -/
namespace Go.Proofs.YtfjejnkjlnkkhaaGreatDoor
set_option linter.unusedVariables false
set_option linter.unusedSimpArgs false
open Go.ChangeShapes Go.WideShapes Go.ChangeAt Go.RowKit Go.Maps

/-- Where it is laid: the map, the rows of whole conjuncts, the needs, the rows ahead; all below lo. -/
structure Ls where
  mb : Nat
  wb : Nat
  nb : Nat
  ab : Nat
  lo : Nat
  nr : Nat
  nn : Nat
structure LsOk (S : Ls) : Prop where
  m : S.mb < S.lo
  w : S.wb < S.lo
  n : S.nb < S.lo
  a : S.ab < S.lo
  mw : S.mb ≠ S.wb
  mn : S.mb ≠ S.nb
  ma : S.mb ≠ S.ab
  wn : S.wb ≠ S.nb
  wa : S.wb ≠ S.ab
  na : S.nb ≠ S.ab
/-- The cell of a row: of a rule, or of a name. -/
def adB (S : Ls) (k : Nat) : Nat := if k < S.nr then S.wb else S.ab
def adO (S : Ls) (k : Nat) : Nat := if k < S.nr then k else k - S.nr
theorem adB_lt {S : Ls} (h : LsOk S) (k : Nat) : adB S k < S.lo := by unfold adB; split; exact h.w; exact h.a
theorem ad_inj {S : Ls} (h : LsOk S) {k k' : Nat} (h1 : adB S k = adB S k') (h2 : adO S k = adO S k') : k = k' := by
  have := h.wa
  unfold adB at h1
  unfold adO at h2
  by_cases e1 : k < S.nr
  · by_cases e2 : k' < S.nr
    · rw [if_pos e1, if_pos e2] at h2; exact h2
    · rw [if_pos e1, if_neg e2] at h1; exact absurd h1 this
  · by_cases e2 : k' < S.nr
    · rw [if_neg e1, if_pos e2] at h1; exact absurd h1.symm this
    · rw [if_neg e1, if_neg e2] at h2; omega
/-- Below lo all stays but for four blocks. -/
structure Lk (S : Ls) (w w' : World) : Prop where
  os : w'.os = w.os
  tape : w'.tape = w.tape
  output : w'.output = w.output
  size : S.lo ≤ w'.heap.size
  block : ∀ k, k < S.lo → k ≠ S.mb → k ≠ S.wb → k ≠ S.nb → k ≠ S.ab → w'.heap[k]? = w.heap[k]?
theorem Lk.below {S : Ls} {w w' w'' : World} (h : Lk S w w') (hb : Below w'.heap.size w' w'') : Lk S w w'' :=
  ⟨hb.os.trans h.os, hb.tape.trans h.tape, hb.output.trans h.output, Nat.le_trans h.size hb.size, fun k h1 h2 h3 h4 h5 => (hb.block k (Nat.lt_of_lt_of_le h1 h.size)).trans (h.block k h1 h2 h3 h4 h5)⟩
/-- So far: the map of the places l, the needs of nl, the rows f; no row lies in X. -/
structure Lx (S : Ls) (N : Nat) (L : List Ru) (w0 : World) (l nl : List Plc) (f : Nat → List Int) (X : Nat → Prop) (w : World) : Prop where
  lk : Lk S w0 w
  mp : PlMap w S.mb N l
  rw : ∃ vs : Nat → Value, ∀ k, k < S.nr + S.nn → w.cell? ⟨adB S k, adO S k, none⟩ = some (vs k) ∧ w.ownsRow S.lo 3 1 (vs k) (f k).length (intsV (f k)) ∧ ∀ i, (vs k).ownBlock = some i → ¬ X i ∧ ∀ k', k' < S.nr + S.nn → (vs k').ownBlock = some i → k' = k
  nd : ∀ q, q < S.nr → ∃ z : Nat, w.cell? ⟨S.nb, q, none⟩ = some (.int .u64 (z : Int)) ∧ NdP L q nl z
  fw : ∀ k, w.frozen? ⟨S.wb, k, none⟩ = false
  fn : ∀ k, w.frozen? ⟨S.nb, k, none⟩ = false
  fa : ∀ k, w.frozen? ⟨S.ab, k, none⟩ = false
section
variable {S : Ls} {N : Nat} {L : List Ru} {w0 w w' : World} {l nl : List Plc} {f : Nat → List Int} {X : Nat → Prop}
theorem Lx.fz (h : Lx S N L w0 l nl f X w) (k : Nat) : w.frozen? ⟨adB S k, adO S k, none⟩ = false := by
  unfold adB
  split
  · exact h.fw _
  · exact h.fa _
theorem Lx.below (hS : LsOk S) (h : Lx S N L w0 l nl f X w) (hb : Below w.heap.size w w') : Lx S N L w0 l nl f (fun i => X i ∨ w.heap.size ≤ i) w' := by
  have hlt : ∀ k, k < S.lo → w'.heap[k]? = w.heap[k]? := fun k hk => hb.block k (Nat.lt_of_lt_of_le hk h.lk.size)
  obtain ⟨vs, hv⟩ := h.rw
  refine ⟨h.lk.below hb, h.mp.keep (hlt _ hS.m), ⟨vs, fun k hk => ?_⟩, fun q hq => ?_, fun k => ?_, fun k => ?_, fun k => ?_⟩
  · obtain ⟨h1, h2, h3⟩ := hv k hk
    refine ⟨(World.cell?_of_block (a := ⟨adB S k, adO S k, none⟩) (hlt _ (adB_lt hS k))).trans h1, row_keep h2 hb, fun i hi => ⟨fun hx => ?_, (h3 i hi).2⟩⟩
    rcases hx with hx | hx
    · exact (h3 i hi).1 hx
    · have := (h2.lt i hi).2; omega
  · obtain ⟨z, h1, h2⟩ := h.nd q hq
    exact ⟨z, (World.cell?_of_block (a := ⟨S.nb, q, none⟩) (hlt _ hS.n)).trans h1, h2⟩
  · exact (World.frozen?_of_block (a := ⟨S.wb, k, none⟩) (hlt _ hS.w)).trans (h.fw k)
  · exact (World.frozen?_of_block (a := ⟨S.nb, k, none⟩) (hlt _ hS.n)).trans (h.fn k)
  · exact (World.frozen?_of_block (a := ⟨S.ab, k, none⟩) (hlt _ hS.a)).trans (h.fa k)
theorem Lx.less {Y : Nat → Prop} (h : Lx S N L w0 l nl f X w) (hY : ∀ i, Y i → X i) : Lx S N L w0 l nl f Y w :=
  ⟨h.lk, h.mp, h.rw.imp fun vs hv k hk => ⟨(hv k hk).1, (hv k hk).2.1, fun i hi => ⟨fun hy => ((hv k hk).2.2 i hi).1 (hY i hy), ((hv k hk).2.2 i hi).2⟩⟩, h.nd, h.fw, h.fn, h.fa⟩
/-- The map has turned. -/
theorem Lx.map {l' : List Plc} (hS : LsOk S) (h : Lx S N L w0 l nl f X w) (ht : w.mapTurned w' S.mb) (hm : PlMap w' S.mb N l') : Lx S N L w0 l' nl f X w' := by
  have tg := ht.grown
  have hmb : w.heap[S.mb]? ≠ none := by
    have := h.mp.lt
    rw [Array.getElem?_eq_getElem this]; simp
  have hlt : ∀ k, k < w.heap.size → k ≠ S.mb → w'.heap[k]? = w.heap[k]? := fun k hk hne => tg.block k hk (fun e => hne (by injection e))
  have hl : ∀ {k : Nat}, k < S.lo → k < w.heap.size := fun hk => Nat.lt_of_lt_of_le hk h.lk.size
  obtain ⟨vs, hv⟩ := h.rw
  refine ⟨⟨tg.os.trans h.lk.os, tg.tape.trans h.lk.tape, tg.output.trans h.lk.output, Nat.le_trans h.lk.size tg.size, fun k h1 h2 h3 h4 h5 => (hlt k (hl h1) h2).trans (h.lk.block k h1 h2 h3 h4 h5)⟩, hm, ⟨vs, fun k hk => ?_⟩, fun q hq => ?_, fun k => ?_, fun k => ?_, fun k => ?_⟩
  · obtain ⟨h1, h2, h3⟩ := hv k hk
    have hne : adB S k ≠ S.mb := by unfold adB; split; exact Ne.symm hS.mw; exact Ne.symm hS.ma
    refine ⟨(World.cell?_of_block (a := ⟨adB S k, adO S k, none⟩) (hlt _ (hl (adB_lt hS k)) hne)).trans h1, h2.kept (w' := w') ⟨tg.os, tg.tape, tg.output, tg.size, tg.block⟩ (Or.inr fun e => ?_), h3⟩
    have := (h2.lt _ e).1
    have := hS.m
    omega
  · obtain ⟨z, h1, h2⟩ := h.nd q hq
    exact ⟨z, (World.cell?_of_block (a := ⟨S.nb, q, none⟩) (hlt _ (hl hS.n) (Ne.symm hS.mn))).trans h1, h2⟩
  · exact (World.frozen?_of_block (a := ⟨S.wb, k, none⟩) (hlt _ (hl hS.w) (Ne.symm hS.mw))).trans (h.fw k)
  · exact (World.frozen?_of_block (a := ⟨S.nb, k, none⟩) (hlt _ (hl hS.n) (Ne.symm hS.mn))).trans (h.fn k)
  · exact (World.frozen?_of_block (a := ⟨S.ab, k, none⟩) (hlt _ (hl hS.a) (Ne.symm hS.ma))).trans (h.fa k)
/-- A row has grown. -/
theorem Lx.app (hS : LsOk S) (h : Lx S N L w0 l nl f X w) {o : Obj} {k : Nat} (hk : k < S.nr + S.nn) {v : Value} (hc : w.cell? ⟨adB S k, adO S k, none⟩ = some v) {w5 : World} {gg cap : Nat} {z : Int}
    (hg : (w.alloc o).grownBy w5 v.ownBlock) (hown : w5.ownsRow S.lo 3 1 (.slice (some ⟨gg, 0, none⟩) ((f k).length + 1) cap) ((f k).length + 1) (intsV (f k) ++ [.int .i64 z])) (hat : v.ownBlock = some gg ∨ gg = w.heap.size + 1) (hX : ∀ i, X i → i ≤ w.heap.size) :
    Lx S N L w0 l nl (fun j => if j = k then f k ++ [z] else f j) X (w5.setCell ⟨adB S k, adO S k, none⟩ (.slice (some ⟨gg, 0, none⟩) ((f k).length + 1) cap)) := by
  obtain ⟨vs, hv⟩ := h.rw
  have hvk : v = vs k := by have := (hv k hk).1; rw [hc] at this; injection this
  subst hvk
  have hgl : S.lo ≤ gg := (hown.lt gg rfl).1
  have h5 : ∀ j, j < w.heap.size → (vs k).ownBlock ≠ some j → w5.heap[j]? = w.heap[j]? := fun j hj hne => (hg.block j (by simp; omega) (fun e => hne e.symm)).trans (Below.heap_alloc w _ j hj)
  have hlo : ∀ j, j < S.lo → w5.heap[j]? = w.heap[j]? := fun j hj => h5 j (Nat.lt_of_lt_of_le hj h.lk.size) (fun e => by have := ((hv k hk).2.1.lt j e).1; omega)
  obtain ⟨V, hV⟩ : ∃ V, V = w5.setCell ⟨adB S k, adO S k, none⟩ (.slice (some ⟨gg, 0, none⟩) ((f k).length + 1) cap) := ⟨_, rfl⟩
  rw [← hV]
  have hVb : ∀ j, j ≠ adB S k → V.heap[j]? = w5.heap[j]? := fun j hj => by rw [hV]; exact Go.Deep.blk_setCell_other w5 ⟨adB S k, adO S k, none⟩ _ j hj
  have hVs : V.heap.size = w5.heap.size := by rw [hV]; exact Go.Deep.nblk_setCell _ _ _
  have h5s : w.heap.size ≤ w5.heap.size := by have := hg.size; simp at this; omega
  have ck : ∀ j, w5.cell? ⟨adB S j, adO S j, none⟩ = w.cell? ⟨adB S j, adO S j, none⟩ := fun j => World.cell?_of_block (a := ⟨adB S j, adO S j, none⟩) (hlo _ (adB_lt hS j))
  have fz : ∀ b j, b < S.lo → w.frozen? ⟨b, j, none⟩ = false → V.frozen? ⟨b, j, none⟩ = false := fun b j hb hf => by
    rw [hV, World.frozen?_setCell]
    exact (World.frozen?_of_block (a := ⟨b, j, none⟩) (hlo b hb)).trans hf
  have neN : adB S k ≠ S.nb := by unfold adB; split; exact hS.wn; exact Ne.symm hS.na
  have neM : S.mb ≠ adB S k := by unfold adB; split; exact hS.mw; exact hS.ma
  refine ⟨⟨?_, ?_, ?_, ?_, fun j h1 h2 h3 h4 h5 => ?_⟩, h.mp.keep ((hVb _ neM).trans (hlo _ hS.m)), ⟨fun j => if j = k then .slice (some ⟨gg, 0, none⟩) ((f k).length + 1) cap else vs j, fun j hj => ?_⟩, fun q hq => ?_, fun j => fz _ _ hS.w (h.fw j), fun j => fz _ _ hS.n (h.fn j), fun j => fz _ _ hS.a (h.fa j)⟩
  · rw [hV]; exact hg.os.trans h.lk.os
  · rw [hV]; exact hg.tape.trans h.lk.tape
  · rw [hV]; exact hg.output.trans h.lk.output
  · rw [hVs]; exact Nat.le_trans h.lk.size h5s
  · have : j ≠ adB S k := by unfold adB; split; exact h3; exact h5
    rw [hVb j this, hlo j h1]; exact h.lk.block j h1 h2 h3 h4 h5
  · by_cases e : j = k
    · subst e
      simp only [if_true]
      refine ⟨?_, ?_, fun i hi => ?_⟩
      · rw [hV]; exact World.cell?_setCell_same _ _ _ ((ck j).trans (hv j hj).1)
      · rw [List.length_append, List.length_singleton, hV]
        have : intsV (f j ++ [z]) = intsV (f j) ++ [.int .i64 z] := by unfold intsV; simp
        rw [this]
        exact ownsRow_setCell_other (a := ⟨adB S j, adO S j, none⟩) hown (fun e => by have h9 : gg = adB S j := by simpa [Value.ownBlock] using e
                                                                                      have := adB_lt hS j; omega) _
      · have hig : gg = i := by simpa [Value.ownBlock] using hi
        subst hig
        rcases hat with ha | ha
        · refine ⟨((hv j hj).2.2 gg ha).1, fun k' hk' ho => ?_⟩
          by_cases e2 : k' = j
          · exact e2
          · rw [if_neg e2] at ho
            exact ((hv j hj).2.2 gg ha).2 k' hk' ho
        · refine ⟨fun hx => by have := hX _ hx; omega, fun k' hk' ho => ?_⟩
          by_cases e2 : k' = j
          · exact e2
          · rw [if_neg e2] at ho
            have := ((hv k' hk').2.1.lt gg ho).2
            omega
    · simp only [if_neg e]
      obtain ⟨h1, h2, h3⟩ := hv j hj
      refine ⟨?_, ?_, fun i hi => ⟨(h3 i hi).1, fun k' hk' ho => ?_⟩⟩
      · rw [hV, World.cell?_setCell_other _ _ _ _ (by intro e9; injection e9 with e8 e9; exact e (ad_inj hS e8 e9).symm)]
        exact (ck j).trans h1
      · rw [hV]
        have hne9 : (vs j).ownBlock = none ∨ (vs j).ownBlock ≠ (vs k).ownBlock := by
          cases ho : (vs j).ownBlock with
          | none => exact Or.inl rfl
          | some i => exact Or.inr fun e9 => e ((h3 i ho).2 k hk e9.symm).symm
        have r5 : w5.ownsRow S.lo 3 1 (vs j) (f j).length (intsV (f j)) := (h2.alloc o).kept hg hne9
        exact ownsRow_setCell_other (a := ⟨adB S k, adO S k, none⟩) r5 (fun e9 => by have h8 : S.lo ≤ adB S k := (h2.lt _ e9).1; have := adB_lt hS k; omega) _
      · by_cases e2 : k' = k
        · subst e2
          simp only [if_true] at ho
          have hig : gg = i := by simpa [Value.ownBlock] using ho
          subst hig
          rcases hat with ha | ha
          · exact absurd ((h3 gg hi).2 k' hk ha) (by omega)
          · have := (h2.lt gg hi).2; omega
        · rw [if_neg e2] at ho
          exact (h3 i hi).2 k' hk' ho
  · obtain ⟨z, h1, h2⟩ := h.nd q hq
    refine ⟨z, ?_, h2⟩
    rw [hV, World.cell?_setCell_other _ _ _ _ (by intro e9; injection e9 with e8 e9; exact neN e8)]
    exact (World.cell?_of_block (a := ⟨S.nb, q, none⟩) (hlo _ hS.n)).trans h1
/-- A rule's needs have grown. -/
theorem Lx.need {nl' : List Plc} (hS : LsOk S) (h : Lx S N L w0 l nl f X w) {q : Nat} (hq : q < S.nr) {z : Nat} (hz : NdP L q nl' z) (hn : ∀ q' z, q' < S.nr → q' ≠ q → NdP L q' nl z → NdP L q' nl' z) :
    Lx S N L w0 l nl' f X (w.setCell ⟨S.nb, q, none⟩ (.int .u64 (z : Int))) := by
  obtain ⟨vs, hv⟩ := h.rw
  have hVb : ∀ j, j ≠ S.nb → (w.setCell ⟨S.nb, q, none⟩ (.int .u64 (z : Int))).heap[j]? = w.heap[j]? := fun j hj => Go.Deep.blk_setCell_other w ⟨S.nb, q, none⟩ _ j hj
  refine ⟨⟨h.lk.os, h.lk.tape, h.lk.output, by rw [Go.Deep.nblk_setCell]; exact h.lk.size, fun j h1 h2 h3 h4 h5 => (hVb j h4).trans (h.lk.block j h1 h2 h3 h4 h5)⟩, h.mp.keep (hVb _ hS.mn), ⟨vs, fun k hk => ?_⟩, fun q' hq' => ?_, fun k => ?_, fun k => ?_, fun k => ?_⟩
  · obtain ⟨h1, h2, h3⟩ := hv k hk
    have hne : adB S k ≠ S.nb := by unfold adB; split; exact hS.wn; exact Ne.symm hS.na
    refine ⟨(World.cell?_of_block (a := ⟨adB S k, adO S k, none⟩) (hVb _ hne)).trans h1, ownsRow_setCell_other (a := ⟨S.nb, q, none⟩) h2 (fun e => by have h8 : S.lo ≤ S.nb := (h2.lt _ e).1; have := hS.n; omega) _, h3⟩
  · by_cases e : q' = q
    · subst e
      obtain ⟨z0, h1, -⟩ := h.nd q' hq'
      exact ⟨z, World.cell?_setCell_same _ _ _ h1, hz⟩
    · obtain ⟨z0, h1, h2⟩ := h.nd q' hq'
      refine ⟨z0, ?_, hn q' z0 hq' e h2⟩
      rw [World.cell?_setCell_other _ _ _ _ (by intro e9; injection e9 with _ e9; exact e e9.symm)]
      exact h1
  · rw [World.frozen?_setCell]; exact h.fw k
  · rw [World.frozen?_setCell]; exact h.fn k
  · rw [World.frozen?_setCell]; exact h.fa k
theorem Lx.needs {nl' : List Plc} (h : Lx S N L w0 l nl f X w) (hn : ∀ q z, q < S.nr → NdP L q nl z → NdP L q nl' z) : Lx S N L w0 l nl' f X w :=
  ⟨h.lk, h.mp, h.rw, fun q hq => (h.nd q hq).imp fun z hz => ⟨hz.1, hn q z hq hz.2⟩, h.fw, h.fn, h.fa⟩
theorem Lx.rows {f' : Nat → List Int} (h : Lx S N L w0 l nl f X w) (hf : ∀ k, k < S.nr + S.nn → f' k = f k) : Lx S N L w0 l nl f' X w :=
  ⟨h.lk, h.mp, h.rw.imp fun vs hv k hk => by rw [hf k hk]; exact hv k hk, h.nd, h.fw, h.fn, h.fa⟩
end
end Go.Proofs.YtfjejnkjlnkkhaaGreatDoor
