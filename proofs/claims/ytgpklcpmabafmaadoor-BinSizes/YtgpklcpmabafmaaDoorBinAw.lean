/- awake of layer 14, over what Bin does. -/
import Derived.Test.YtgpklcpmabafmaaDoorBinV
import Derived.Test.YtgpklcpmabafmaaDoorBinU
import Derived.Test.YtgpklcpmabafmaaDoorGramSame
import Derived.Test.YtgpklcpmabafmaaDoorLexSame
import Derived.Deep.CutRange
namespace Go.Proofs.YtgpklcpmabafmaaDoor
set_option linter.unusedVariables false
set_option linter.unusedSimpArgs false
open Go.ChangeShapes Go.WideShapes Go.ChangeAt Go.RowKit

def a14G : Gr := ⟨0, [⟨#[95, 48]⟩], [⟨0, [⟨true, [⟨-1, 97, 97⟩, ⟨0, 0, 0⟩, ⟨-1, 97, 97⟩, ⟨-1, 97, 97⟩]⟩]⟩]⟩
def a14W : Gr := ⟨0, [⟨#[95, 48]⟩, ⟨#[95, 49]⟩, ⟨#[95, 50]⟩], [⟨0, [⟨true, [⟨-1, 97, 97⟩, ⟨1, 0, 0⟩]⟩]⟩, ⟨1, [⟨false, [⟨0, 0, 0⟩, ⟨2, 0, 0⟩]⟩]⟩, ⟨2, [⟨false, [⟨-1, 97, 97⟩, ⟨-1, 97, 97⟩]⟩]⟩]⟩
theorem leK (k : Nat) (h : k ≤ 1000) : k ≤ maxLen ∧ k ≤ k := by unfold maxLen; omega
def a14P (n : Nat) : List Obj :=
  [.cells #[.int .i64 (-1), .int .i64 97, .int .i64 97] 32, .cells #[.int .i64 0, .int .i64 0, .int .i64 0] 32,
   .cells #[.string ⟨#[95, 48]⟩] 9, .cells #[.int .i64 (-1), .int .i64 97, .int .i64 97, .int .i64 0, .int .i64 0, .int .i64 0, .int .i64 (-1), .int .i64 97, .int .i64 97, .int .i64 (-1), .int .i64 97, .int .i64 97] 32,
   .cells #[.bool true, .slice (some ⟨n + 1 + 1 + 1, 0, none⟩) 4 4] 30, .cells #[.int .i64 0, .slice (some ⟨n + 1 + 1 + 1 + 1, 0, none⟩) 1 1] 35,
   .cells #[.int .i64 0, .slice (some ⟨n + 1 + 1, 0, none⟩) 1 1, .slice (some ⟨n + 1 + 1 + 1 + 1 + 1, 0, none⟩) 1 1] 27]
theorem a14_gram (X : World) (n : Nat) (h : ∀ k o, (a14P n)[k]? = some o → X.heap[n + k]? = some o) : GrIs X Any (.slice (some ⟨n + 1 + 1, 0, none⟩) 1 1) (.slice (some ⟨n + 1 + 1 + 1 + 1 + 1, 0, none⟩) 1 1) a14G := by
  have i1 : IsSys X Any (.slice (some ⟨n + 1 + 1 + 1, 0, none⟩) 4 4) [⟨-1, 97, 97⟩, ⟨0, 0, 0⟩, ⟨-1, 97, 97⟩, ⟨-1, 97, 97⟩] := reads_laid (h 3 _ rfl) (leK 4 (by omega)) rfl
  have c1 : IsCns X Any (.slice (some ⟨n + 1 + 1 + 1 + 1, 0, none⟩) 1 1) [⟨true, [⟨-1, 97, 97⟩, ⟨0, 0, 0⟩, ⟨-1, 97, 97⟩, ⟨-1, 97, 97⟩]⟩] := ⟨[_], reads_laid (h 4 _ rfl) (leK 1 (by omega)) rfl, (CnsIn.nil _ _).snoc (c := ⟨true, _⟩) i1⟩
  exact ⟨reads_laid (h 2 _ rfl) (leK 1 (by omega)) rfl, [_], reads_laid (h 5 _ rfl) (leK 1 (by omega)) rfl, (RusIn.nil _ _).snoc (c := ⟨0, _⟩) c1⟩
def a14Q (n : Nat) : List Obj :=
  [.cells #[.string ⟨#[95, 48]⟩, .string ⟨#[95, 49]⟩, .string ⟨#[95, 50]⟩] 9,
   .cells #[.int .i64 (-1), .int .i64 97, .int .i64 97, .int .i64 1, .int .i64 0, .int .i64 0] 32, .cells #[.bool true, .slice (some ⟨n + 1, 0, none⟩) 2 2] 30,
   .cells #[.int .i64 0, .int .i64 0, .int .i64 0, .int .i64 2, .int .i64 0, .int .i64 0] 32, .cells #[.bool false, .slice (some ⟨n + 1 + 1 + 1, 0, none⟩) 2 2] 30,
   .cells #[.int .i64 (-1), .int .i64 97, .int .i64 97, .int .i64 (-1), .int .i64 97, .int .i64 97] 32, .cells #[.bool false, .slice (some ⟨n + 1 + 1 + 1 + 1 + 1, 0, none⟩) 2 2] 30,
   .cells #[.int .i64 0, .slice (some ⟨n + 1 + 1, 0, none⟩) 1 1, .int .i64 1, .slice (some ⟨n + 1 + 1 + 1 + 1, 0, none⟩) 1 1, .int .i64 2, .slice (some ⟨n + 1 + 1 + 1 + 1 + 1 + 1, 0, none⟩) 1 1] 35]
theorem a14_want (X : World) (n : Nat) (h : ∀ k o, (a14Q n)[k]? = some o → X.heap[n + k]? = some o) : GrIs X Any (.slice (some ⟨n, 0, none⟩) 3 3) (.slice (some ⟨n + 1 + 1 + 1 + 1 + 1 + 1 + 1, 0, none⟩) 3 3) a14W := by
  have i1 : IsSys X Any (.slice (some ⟨n + 1, 0, none⟩) 2 2) [⟨-1, 97, 97⟩, ⟨1, 0, 0⟩] := reads_laid (h 1 _ rfl) (leK 2 (by omega)) rfl
  have i2 : IsSys X Any (.slice (some ⟨n + 1 + 1 + 1, 0, none⟩) 2 2) [⟨0, 0, 0⟩, ⟨2, 0, 0⟩] := reads_laid (h 3 _ rfl) (leK 2 (by omega)) rfl
  have i3 : IsSys X Any (.slice (some ⟨n + 1 + 1 + 1 + 1 + 1, 0, none⟩) 2 2) [⟨-1, 97, 97⟩, ⟨-1, 97, 97⟩] := reads_laid (h 5 _ rfl) (leK 2 (by omega)) rfl
  have c1 : IsCns X Any (.slice (some ⟨n + 1 + 1, 0, none⟩) 1 1) [⟨true, [⟨-1, 97, 97⟩, ⟨1, 0, 0⟩]⟩] := ⟨[_], reads_laid (h 2 _ rfl) (leK 1 (by omega)) rfl, (CnsIn.nil _ _).snoc (c := ⟨true, _⟩) i1⟩
  have c2 : IsCns X Any (.slice (some ⟨n + 1 + 1 + 1 + 1, 0, none⟩) 1 1) [⟨false, [⟨0, 0, 0⟩, ⟨2, 0, 0⟩]⟩] := ⟨[_], reads_laid (h 4 _ rfl) (leK 1 (by omega)) rfl, (CnsIn.nil _ _).snoc (c := ⟨false, _⟩) i2⟩
  have c3 : IsCns X Any (.slice (some ⟨n + 1 + 1 + 1 + 1 + 1 + 1, 0, none⟩) 1 1) [⟨false, [⟨-1, 97, 97⟩, ⟨-1, 97, 97⟩]⟩] := ⟨[_], reads_laid (h 6 _ rfl) (leK 1 (by omega)) rfl, (CnsIn.nil _ _).snoc (c := ⟨false, _⟩) i3⟩
  exact ⟨reads_laid (h 0 _ rfl) (leK 3 (by omega)) rfl, [_, _, _], reads_laid (h 7 _ rfl) (leK 3 (by omega)) rfl, (((RusIn.nil _ _).snoc (c := ⟨0, _⟩) c1).snoc (c := ⟨1, _⟩) c2).snoc (c := ⟨2, _⟩) c3⟩
set_option maxHeartbeats 4000000 in
set_option maxRecDepth 100000 in
theorem awake14_core (w : World)
    (KB : ∀ v1 v2 w, GrIs w Any v1 v2 a14G → Calls Tryd.prog 7 #[.agg #[.int .i64 0, v1, v2]] w fun e w' => ∃ p c p2 c2, e = .returned (.tuple #[.agg #[.int .i64 0, .slice p 3 c, .slice p2 3 c2], .int .i64 0]) ∧ Hid (GrIs w' Any (.slice p 3 c) (.slice p2 3 c2) a14W) ∧ Hid (Below w.heap.size w w'))
    (KE : ∀ w, Calls Tryd.prog 7 #[.agg #[.int .i64 0, .slice none 0 0, .slice none 0 0]] w fun e w' => e = .returned (.tuple #[.agg #[.int .i64 0, .slice none 0 0, .slice none 0 0], .int .i64 1400]) ∧ Hid (Below w.heap.size w w')) :
    Calls Tryd.prog 6 #[] w fun e w' => e = .returned (.bool true) ∧ Hid (Below w.heap.size w w') := by
  have HKB := (show Hid _ from KB)
  have HKE := (show Hid _ from KE)
  clear KB KE
  obtain ⟨X, hX⟩ : ∃ X, X = blks w (a14P w.heap.size) := ⟨_, rfl⟩
  have hb : ∀ k o, (a14P w.heap.size)[k]? = some o → X.heap[w.heap.size + k]? = some o := fun k o ho => by rw [hX]; exact blks_at _ w k o ho
  have HBX : Hid (Below w.heap.size w X) := by rw [hX]; exact blks_below _ _
  have HG : Hid (GrIs X Any (.slice (some ⟨w.heap.size + 1 + 1, 0, none⟩) 1 1) (.slice (some ⟨w.heap.size + 1 + 1 + 1 + 1 + 1, 0, none⟩) 1 1) a14G) := a14_gram X w.heap.size hb
  have HC : Hid (∀ w', Below X.heap.size X w' → (∀ j v, #[Value.int .i64 (-1), .int .i64 97, .int .i64 97][j]? = some v → w'.cell? ⟨w.heap.size, j, none⟩ = some v) ∧ (∀ j v, #[Value.int .i64 0, .int .i64 0, .int .i64 0][j]? = some v → w'.cell? ⟨w.heap.size + 1, j, none⟩ = some v)) := fun w' hbw => by
    have hl : w.heap.size + 6 < X.heap.size := by rw [hX]; simp [blks, a14P]
    have c0 := Lib.cell_of_heap (hb 0 _ rfl)
    have c1 := Lib.cell_of_heap (hb 1 _ rfl)
    exact ⟨fun j v hj => (hbw.cell (p := ⟨_, _, none⟩) (by show w.heap.size < _; omega)).trans ((c0 j).trans hj), fun j v hj => (hbw.cell (p := ⟨_, _, none⟩) (by show w.heap.size + 1 < _; omega)).trans ((c1 j).trans hj)⟩
  have cg := Lib.cell_of_heap (hb 6 _ rfl)
  have g0 : X.cell? ⟨w.heap.size + 1 + 1 + 1 + 1 + 1 + 1, 0, none⟩ = some (.int .i64 0) := cg 0
  have g1 : X.cell? ⟨w.heap.size + 1 + 1 + 1 + 1 + 1 + 1, 1, none⟩ = some (.slice (some ⟨w.heap.size + 1 + 1, 0, none⟩) 1 1) := cg 1
  have g2 : X.cell? ⟨w.heap.size + 1 + 1 + 1 + 1 + 1 + 1, 2, none⟩ = some (.slice (some ⟨w.heap.size + 1 + 1 + 1 + 1 + 1, 0, none⟩) 1 1) := cg 2
  have hX2 : (((((((w.alloc (.cells #[.int .i64 (-1), .int .i64 97, .int .i64 97] 32)).alloc (.cells #[.int .i64 0, .int .i64 0, .int .i64 0] 32)).alloc (.cells #[.string ⟨#[95, 48]⟩] 9)).alloc (.cells #[.int .i64 (-1), .int .i64 97, .int .i64 97, .int .i64 0, .int .i64 0, .int .i64 0, .int .i64 (-1), .int .i64 97, .int .i64 97, .int .i64 (-1), .int .i64 97, .int .i64 97] 32)).alloc (.cells #[.bool true, .slice (some ⟨w.heap.size + 1 + 1 + 1, 0, none⟩) 4 4] 30)).alloc (.cells #[.int .i64 0, .slice (some ⟨w.heap.size + 1 + 1 + 1 + 1, 0, none⟩) 1 1] 35)).alloc (.cells #[.int .i64 0, .slice (some ⟨w.heap.size + 1 + 1, 0, none⟩) 1 1, .slice (some ⟨w.heap.size + 1 + 1 + 1 + 1 + 1, 0, none⟩) 1 1] 27)) = X := hX.symm
  have HL : Hid (w.heap.size + 6 < X.heap.size) := by show _ < _; rw [hX]; simp [blks, a14P]
  clear hb cg hX
  go_enter Tryd.func6, Tryd.ntmps6
  go_upto_region 3 with fail
  clear hX2
  go_upto_region 5 with (go_at_call 7; first
    | (have hh := HB2; clear hh; refine (HKE.out _).mono ?_; rintro e w3 ⟨rfl, b3⟩; have HB3 : Hid (Below X.heap.size X w3) := (HB2.out.alloc HB2.out.size _).trans (b3.out.mono (HB2.out.alloc HB2.out.size _).size))
    | (refine (HKB.out _ _ _ HG.out).mono ?_; rintro e w2 ⟨p, c, p2, c2, rfl, I2, b2⟩; have HB2 : Hid (Below X.heap.size X w2) := b2.out))
  obtain ⟨V, hV⟩ : ∃ V, V = w3.alloc (.cells #[.int .i64 0, .slice none 0 0, .slice none 0 0] 27) := ⟨_, rfl⟩
  have hX0 : w.heap.size + 6 < X.heap.size := HL.out
  have b4 : Below (w2.alloc (.cells #[.int .i64 0, .slice p 3 c, .slice p2 3 c2] 27)).heap.size (w2.alloc (.cells #[.int .i64 0, .slice p 3 c, .slice p2 3 c2] 27)) V := by rw [hV]; exact b3.out.alloc b3.out.size _
  have xv : V.heap[w2.heap.size]? = some (.cells #[.int .i64 0, .slice p 3 c, .slice p2 3 c2] 27) := (b4.block _ (by simp)).trans (heap_alloc_new _ _)
  have HBV : Hid (Below X.heap.size X V) := (HB2.out.alloc HB2.out.size _).trans (b4.mono (HB2.out.alloc HB2.out.size _).size)
  have b5 : Below w2.heap.size w2 V := (bel1 w2 _).trans (b4.mono (by simp))
  have IV : Hid (GrIs V Any (.slice p 3 c) (.slice p2 3 c2) a14W) := I2.out.any b5
  have hs5 : X.heap.size ≤ w2.heap.size ∧ w2.heap.size < V.heap.size := ⟨HB2.out.size, block_lt xv⟩
  rw [← hV]
  have x0 : V.cell? ⟨w2.heap.size, 0, none⟩ = some (.int .i64 0) := Lib.cell_of_heap xv 0
  have x1 : V.cell? ⟨w2.heap.size, 1, none⟩ = some (.slice p 3 c) := Lib.cell_of_heap xv 1
  have x2 : V.cell? ⟨w2.heap.size, 2, none⟩ = some (.slice p2 3 c2) := Lib.cell_of_heap xv 2
  obtain ⟨ca, cs⟩ := HC.out V HBV.out
  have a0 := ca 0 _ rfl
  have a1 := ca 1 _ rfl
  have a2 := ca 2 _ rfl
  have s0 := cs 0 _ rfl
  have s1 := cs 1 _ rfl
  have s2 := cs 2 _ rfl
  have l0 : w.heap.size < V.heap.size := by omega
  have m0 : w.heap.size + 1 < V.heap.size := by omega
  have q0 : w2.heap.size < V.heap.size := by omega
  have l1 : w.heap.size < V.heap.size + 1 := by omega
  have m1 : w.heap.size + 1 < V.heap.size + 1 := by omega
  have q1 : w2.heap.size < V.heap.size + 1 := by omega
  have l2 : w.heap.size < V.heap.size + 1 + 1 := by omega
  have m2 : w.heap.size + 1 < V.heap.size + 1 + 1 := by omega
  have q2 : w2.heap.size < V.heap.size + 1 + 1 := by omega
  have l3 : w.heap.size < V.heap.size + 1 + 1 + 1 := by omega
  have m3 : w.heap.size + 1 < V.heap.size + 1 + 1 + 1 := by omega
  have q3 : w2.heap.size < V.heap.size + 1 + 1 + 1 := by omega
  have l4 : w.heap.size < V.heap.size + 1 + 1 + 1 + 1 := by omega
  have m4 : w.heap.size + 1 < V.heap.size + 1 + 1 + 1 + 1 := by omega
  have q4 : w2.heap.size < V.heap.size + 1 + 1 + 1 + 1 := by omega
  have l5 : w.heap.size < V.heap.size + 1 + 1 + 1 + 1 + 1 := by omega
  have m5 : w.heap.size + 1 < V.heap.size + 1 + 1 + 1 + 1 + 1 := by omega
  have q5 : w2.heap.size < V.heap.size + 1 + 1 + 1 + 1 + 1 := by omega
  have l6 : w.heap.size < V.heap.size + 1 + 1 + 1 + 1 + 1 + 1 := by omega
  have m6 : w.heap.size + 1 < V.heap.size + 1 + 1 + 1 + 1 + 1 + 1 := by omega
  have q6 : w2.heap.size < V.heap.size + 1 + 1 + 1 + 1 + 1 + 1 := by omega
  have l7 : w.heap.size < V.heap.size + 1 + 1 + 1 + 1 + 1 + 1 + 1 := by omega
  have m7 : w.heap.size + 1 < V.heap.size + 1 + 1 + 1 + 1 + 1 + 1 + 1 := by omega
  have q7 : w2.heap.size < V.heap.size + 1 + 1 + 1 + 1 + 1 + 1 + 1 := by omega
  have l8 : w.heap.size < V.heap.size + 1 + 1 + 1 + 1 + 1 + 1 + 1 + 1 := by omega
  have m8 : w.heap.size + 1 < V.heap.size + 1 + 1 + 1 + 1 + 1 + 1 + 1 + 1 := by omega
  have q8 : w2.heap.size < V.heap.size + 1 + 1 + 1 + 1 + 1 + 1 + 1 + 1 := by omega
  have l9 : w.heap.size < V.heap.size + 1 + 1 + 1 + 1 + 1 + 1 + 1 + 1 + 1 := by omega
  have m9 : w.heap.size + 1 < V.heap.size + 1 + 1 + 1 + 1 + 1 + 1 + 1 + 1 + 1 := by omega
  have q9 : w2.heap.size < V.heap.size + 1 + 1 + 1 + 1 + 1 + 1 + 1 + 1 + 1 := by omega
  obtain ⟨Z0, hZ0⟩ : ∃ Z, Z = blks V (a14Q V.heap.size) := ⟨_, rfl⟩
  have hq : ∀ k o, (a14Q V.heap.size)[k]? = some o → Z0.heap[V.heap.size + k]? = some o := fun k o ho => by rw [hZ0]; exact blks_at _ V k o ho
  have bq : Below V.heap.size V Z0 := by rw [hZ0]; exact blks_below _ _
  have zs : Z0.heap.size = V.heap.size + 1 + 1 + 1 + 1 + 1 + 1 + 1 + 1 := by rw [hZ0]; simp [blks, a14Q]
  obtain ⟨Z, hZ⟩ : ∃ Z, Z = Z0.alloc (.cells #[.int .i64 0, .slice (some ⟨V.heap.size, 0, none⟩) 3 3, .slice (some ⟨V.heap.size + 1 + 1 + 1 + 1 + 1 + 1 + 1, 0, none⟩) 3 3] 27) := ⟨_, rfl⟩
  have bz : Below V.heap.size V Z := by rw [hZ]; exact bq.alloc bq.size _
  have HBZ : Hid (Below X.heap.size X Z) := HBV.out.trans (bz.mono HBV.out.size)
  have IZ : Hid (GrIs Z Any (.slice p 3 c) (.slice p2 3 c2) a14W) := IV.out.any bz
  have WZ : Hid (GrIs Z Any (.slice (some ⟨V.heap.size, 0, none⟩) 3 3) (.slice (some ⟨V.heap.size + 1 + 1 + 1 + 1 + 1 + 1 + 1, 0, none⟩) 3 3) a14W) := by
    have h := (a14_want Z0 V.heap.size hq).any (bel1 Z0 (.cells #[.int .i64 0, .slice (some ⟨V.heap.size, 0, none⟩) 3 3, .slice (some ⟨V.heap.size + 1 + 1 + 1 + 1 + 1 + 1 + 1, 0, none⟩) 3 3] 27))
    rw [← hZ] at h
    exact h
  have wv : Z.heap[V.heap.size + 1 + 1 + 1 + 1 + 1 + 1 + 1 + 1]? = some (.cells #[.int .i64 0, .slice (some ⟨V.heap.size, 0, none⟩) 3 3, .slice (some ⟨V.heap.size + 1 + 1 + 1 + 1 + 1 + 1 + 1, 0, none⟩) 3 3] 27) := by
    have h := heap_alloc_new Z0 (.cells #[.int .i64 0, .slice (some ⟨V.heap.size, 0, none⟩) 3 3, .slice (some ⟨V.heap.size + 1 + 1 + 1 + 1 + 1 + 1 + 1, 0, none⟩) 3 3] 27)
    rw [zs, ← hZ] at h
    exact h
  have hZ2 : ((((((((V.alloc (.cells #[.string ⟨#[95, 48]⟩, .string ⟨#[95, 49]⟩, .string ⟨#[95, 50]⟩] 9)).alloc (.cells #[.int .i64 (-1), .int .i64 97, .int .i64 97, .int .i64 1, .int .i64 0, .int .i64 0] 32)).alloc (.cells #[.bool true, .slice (some ⟨V.heap.size + 1, 0, none⟩) 2 2] 30)).alloc (.cells #[.int .i64 0, .int .i64 0, .int .i64 0, .int .i64 2, .int .i64 0, .int .i64 0] 32)).alloc (.cells #[.bool false, .slice (some ⟨V.heap.size + 1 + 1 + 1, 0, none⟩) 2 2] 30)).alloc (.cells #[.int .i64 (-1), .int .i64 97, .int .i64 97, .int .i64 (-1), .int .i64 97, .int .i64 97] 32)).alloc (.cells #[.bool false, .slice (some ⟨V.heap.size + 1 + 1 + 1 + 1 + 1, 0, none⟩) 2 2] 30)).alloc (.cells #[.int .i64 0, .slice (some ⟨V.heap.size + 1 + 1, 0, none⟩) 1 1, .int .i64 1, .slice (some ⟨V.heap.size + 1 + 1 + 1 + 1, 0, none⟩) 1 1, .int .i64 2, .slice (some ⟨V.heap.size + 1 + 1 + 1 + 1 + 1 + 1, 0, none⟩) 1 1] 35)).alloc (.cells #[.int .i64 0, .slice (some ⟨V.heap.size, 0, none⟩) 3 3, .slice (some ⟨V.heap.size + 1 + 1 + 1 + 1 + 1 + 1 + 1, 0, none⟩) 3 3] 27) = Z := by rw [hZ, hZ0]; rfl
  have y0 : Z.cell? ⟨w2.heap.size, 0, none⟩ = some (.int .i64 0) := (bz.cell (p := ⟨_, _, none⟩) hs5.2).trans x0
  have y1 : Z.cell? ⟨w2.heap.size, 1, none⟩ = some (.slice p 3 c) := (bz.cell (p := ⟨_, _, none⟩) hs5.2).trans x1
  have y2 : Z.cell? ⟨w2.heap.size, 2, none⟩ = some (.slice p2 3 c2) := (bz.cell (p := ⟨_, _, none⟩) hs5.2).trans x2
  have v0 : Z.cell? ⟨V.heap.size + 1 + 1 + 1 + 1 + 1 + 1 + 1 + 1, 0, none⟩ = some (.int .i64 0) := Lib.cell_of_heap wv 0
  have v1 : Z.cell? ⟨V.heap.size + 1 + 1 + 1 + 1 + 1 + 1 + 1 + 1, 1, none⟩ = some (.slice (some ⟨V.heap.size, 0, none⟩) 3 3) := Lib.cell_of_heap wv 1
  have v2 : Z.cell? ⟨V.heap.size + 1 + 1 + 1 + 1 + 1 + 1 + 1 + 1, 2, none⟩ = some (.slice (some ⟨V.heap.size + 1 + 1 + 1 + 1 + 1 + 1 + 1, 0, none⟩) 3 3) := Lib.cell_of_heap wv 2
  clear hZ0 hq bq zs hZ bz wv x0 x1 x2 IV
  clear g0 g1 g2 hV b4 b5 xv ca cs HB2 HB3 I2 b2 b3 HG HC hs5 hX0
  go_upto_region 6 with fail
  clear hZ2
  go_wp2_with (first
    | (go_at_call 12; refine (sameGram_yes a14W _ _ _ _ _ IZ.out WZ.out).mono ?_; rintro e w6 ⟨rfl, b6⟩; have HB6 : Hid (Below X.heap.size X w6) := HBZ.out.trans (b6.mono HBZ.out.size))
    | (go_at_call 8; refine (num_any _ _).mono ?_; rintro e wn ⟨rfl, rfl⟩))
  go_ret
  exact ⟨rfl, HBX.out.trans (HB6.out.mono HBX.out.size)⟩
end Go.Proofs.YtgpklcpmabafmaaDoor
