/- MeanStars, walked. -/
import Derived.Test.YtfjejnkjlnkkhaaGreatDoorMzW
import Derived.Test.YtfjejnkjlnkkhaaGreatDoorMzS
import Derived.Test.YtfjejnkjlnkkhaaGreatDoorHangR
import Derived.Test.YtfjejnkjlnkkhaaGreatDoorGf
import Derived.BigQuiet
import Derived.Deep.Cut
import Derived.Deep.RegionHeld3
namespace Go.Proofs.YtfjejnkjlnkkhaaGreatDoor
set_option linter.unusedVariables false
set_option linter.unusedSimpArgs false
open Go.ChangeShapes Go.WideShapes Go.ChangeAt Go.RowKit Go.Maps

/-- The grammar with a name more that is another one again and again. -/
def starG (g : Gr) (k : Nat) : Gr := ⟨g.start, g.names ++ [n1w], g.rules ++ starR g.names.length k⟩
theorem tmodT {z : Int} {n : Nat} (hn : 0 < n) : ∃ k : Nat, k < n ∧ Int.tmod (IntKind.u64.wrap z) (n : Int) = (k : Int) := by
  have hp : 0 ≤ IntKind.u64.wrap z := by rw [IntKind.wrap_u64]; omega
  have h1 := Int.tmod_nonneg (n : Int) hp
  have h2 : Int.tmod (IntKind.u64.wrap z) (n : Int) < (n : Int) := Int.tmod_lt_of_pos _ (by omega)
  exact ⟨(Int.tmod (IntKind.u64.wrap z) (n : Int)).toNat, by omega, by omega⟩
/-- A grammar in a block of its own, and what is behind it. -/
def BxT (W : World) (s : Int) (v1 v2 : Value) (w : World) : Prop := Below W.heap.size W w ∧ W.heap.size < w.heap.size ∧ w.cell? ⟨W.heap.size, 0, none⟩ = some (.int .i64 s) ∧ w.cell? ⟨W.heap.size, 1, none⟩ = some v1 ∧ w.cell? ⟨W.heap.size, 2, none⟩ = some v2
theorem BxT.new (W : World) (s : Int) (v1 v2 : Value) : BxT W s v1 v2 (W.alloc (.cells #[.int .i64 s, v1, v2] 25)) :=
  ⟨bel1 _ _, by simp, World.cell?_alloc_at _ _ _ _ rfl, World.cell?_alloc_at _ _ _ _ rfl, World.cell?_alloc_at _ _ _ _ rfl⟩
theorem BxT.any {W : World} {s : Int} {v1 v2 : Value} {w w' : World} (h : BxT W s v1 v2 w) (hb : Below w.heap.size w w') : BxT W s v1 v2 w' :=
  ⟨h.1.trans (hb.mono h.1.size), Nat.lt_of_lt_of_le h.2.1 hb.size, (hb.cell (p := ⟨_, _, none⟩) h.2.1).trans h.2.2.1, (hb.cell (p := ⟨_, _, none⟩) h.2.1).trans h.2.2.2.1, (hb.cell (p := ⟨_, _, none⟩) h.2.1).trans h.2.2.2.2⟩
set_option maxHeartbeats 4000000 in
set_option maxRecDepth 100000 in
theorem meanStars_no (W : World) (s : Int) (v1 v2 : Value) (T : ByteArray) (p : Int) (k1 k2 : Option Addr × Nat × Nat) (e1 : v1 = .slice k1.1 k1.2.1 k1.2.2) (e2 : v2 = .slice k2.1 k2.2.1 k2.2.2)
    (KA : ∀ w, Below W.heap.size W w → Calls Tryz.prog 13 #[] w fun e w' => e = .returned (.bool true) ∧ Hid (Below w.heap.size w w'))
    (KN : ∀ w, Below W.heap.size W w → Calls Tryz.prog 14 #[.agg #[.int .i64 s, v1, v2], .string T] w fun e w' => e = .returned (.tuple #[.pointer none, .int .i64 1100]) ∧ Hid (Below w.heap.size w w')) :
    Calls Tryz.prog 12 #[.agg #[.int .i64 s, v1, v2], .string T, .int .i64 p] W fun e W' => e = .returned (.bool true) ∧ Below W.heap.size W W' := by
  have HX1 : Hid (BxT W s v1 v2 (W.alloc (.cells #[.int .i64 s, v1, v2] 25))) := BxT.new _ _ _ _
  have HA : Hid (∀ w, Below W.heap.size W w → Calls Tryz.prog 13 #[] w fun e w' => e = .returned (.bool true) ∧ Hid (Below w.heap.size w w')) := KA
  have HS : Hid (∀ w, Below W.heap.size W w → Calls Tryz.prog 14 #[.agg #[.int .i64 s, v1, v2], .string T] w fun e w' => e = .returned (.tuple #[.pointer none, .int .i64 1100]) ∧ Hid (Below w.heap.size w w')) := KN
  subst e1 e2
  clear KN KA
  go_enter Tryz.func12, Tryz.ntmps12
  go_wp2_with (first
    | (go_at_call 13; refine (HA.out _ HX1.out.1).mono ?_; rintro e wa ⟨rfl, ba⟩; have XA : Hid (BxT _ _ _ _ wa) := HX1.out.any ba.out; obtain ⟨-, z1, c0, c1, c2⟩ := XA.out)
    | (go_at_call 14; refine (HS.out _ XA.out.1).mono ?_; rintro e wb ⟨rfl, bb⟩; have XB : Hid (BxT _ _ _ _ wb) := XA.out.any bb.out; clear z1 c0 c1 c2)
    | (go_at_call 15; refine (num_any _ _).mono ?_; rintro e wn ⟨rfl, rfl⟩))
  go_ret
  exact ⟨rfl, XB.out.1⟩
theorem make_can (T : ByteArray) (hT : T.size ≤ 32) (w : World) : (Instr.makeSlice 61 (.int .i64 ((T.size : Int) + 1)) (.int .i64 ((T.size : Int) + 1))).run Tryz.prog w = .ok (.slice (some ⟨w.heap.size, 0, none⟩) (T.size + 1) (T.size + 1)) (w.alloc (.cells (boolsA (T.size + 1) (fun _ => false)) 4)) := by
  have := make_bools (T.size + 1) (by omega) w
  push_cast at this
  exact this
/-- What both tables answer, now and later. -/
def StOk (N t k tb ub : Nat) (w2 : World) (M : Nat → Nat → Bool) : Prop := ∀ w, Below w2.heap.size w2 w → ∀ i j : Nat, i ≤ j → j ≤ t →
  (Calls Tryz.prog 16 #[.pointer (some ⟨tb, 0, none⟩), .int .i64 (k : Int), .int .i64 (i : Int), .int .i64 (j : Int)] w fun e w'' => e = .returned (.bool (M i j)) ∧ w = w'') ∧
  (Calls Tryz.prog 16 #[.pointer (some ⟨ub, 0, none⟩), .int .i64 (N : Int), .int .i64 (i : Int), .int .i64 (j : Int)] w fun e w'' => e = .returned (.bool (canV M i j)) ∧ w = w'')
/-- How far the row of Booleans is. -/
def CanA (M : Nat → Nat → Bool) (i j : Nat) (s : Nat → Bool) : Prop := (∀ q, i ≤ q → q < j → s q = canV M i q) ∧ ∀ q, j ≤ q → s q = decide (q = i)
def CanB (M : Nat → Nat → Bool) (i j p : Nat) (s : Nat → Bool) : Prop := (∀ q, i ≤ q → q < j → s q = canV M i q) ∧ s j = (decide (j = i) || (List.range p).any fun q => decide (i ≤ q) && (canV M i q && M q j)) ∧ ∀ q, j < q → s q = decide (q = i)
section
variable {M : Nat → Nat → Bool} {i j p : Nat} {s : Nat → Bool}
theorem CanA.new (M : Nat → Nat → Bool) (i : Nat) : CanA M i i (putS (fun _ => false) i) := ⟨fun q h1 h2 => by omega, fun q h => by
  unfold putS
  by_cases e : q = i
  · simp [e]
  · simp [e]⟩
theorem CanA.on (h : CanA M i j s) : CanB M i j i s := by
  refine ⟨h.1, ?_, fun q hq => h.2 q (by omega)⟩
  rw [h.2 j (Nat.le_refl _)]
  have : ((List.range i).any fun q => decide (i ≤ q) && (canV M i q && M q j)) = false := by
    rw [List.any_eq_false]
    intro q hq
    have := List.mem_range.1 hq
    simp [show ¬ i ≤ q by omega]
  rw [this, Bool.or_false]
theorem CanB.no (h : CanB M i j p s) (hip : i ≤ p) (hn : (canV M i p && M p j) = false) : CanB M i j (p + 1) s := by
  refine ⟨h.1, ?_, h.2.2⟩
  rw [h.2.1, List.range_succ, List.any_append]
  simp [hip, hn]
theorem CanB.yes (h : CanB M i j p s) (hip : i ≤ p) (hn : (canV M i p && M p j) = true) : CanB M i j (p + 1) (putS s j) := by
  refine ⟨fun q h1 h2 => ?_, ?_, fun q hq => ?_⟩
  · rw [← h.1 q h1 h2]
    unfold putS
    simp [show ¬ q = j by omega]
  · rw [List.range_succ, List.any_append]
    unfold putS
    simp only [List.any_cons, List.any_nil, Bool.or_false, decide_eq_true hip, Bool.true_and, hn]
    simp
  · rw [← h.2.2 q hq]
    unfold putS
    simp [show ¬ q = j by omega]
theorem CanB.fin (h : CanB M i j j s) (hij : i ≤ j) : s j = canV M i j := by rw [h.2.1, canV_is M i j hij]
theorem CanB.off (h : CanB M i j j s) (hij : i ≤ j) : CanA M i (j + 1) s := ⟨fun q h1 h2 => by
  by_cases e : q = j
  · rw [e]; exact h.fin hij
  · exact h.1 q h1 (by omega), fun q hq => h.2.2 q (by omega)⟩
end
set_option maxHeartbeats 8000000 in
set_option maxRecDepth 100000 in
theorem meanStars_ok (W : World) (g : Gr) (v1 v2 : Value) (T : ByteArray) (p : Int) (N lr : Nat) (hNe : N = g.names.length) (hLe : lr = g.rules.length) (k1 k2 : Option Addr × Nat) (e1 : v1 = .slice k1.1 N k1.2) (e2 : v2 = .slice k2.1 lr k2.2) (hN0 : 0 < N) (hN64 : N ≤ 64) (hlr256 : lr ≤ 256) (hT32 : T.size ≤ 32)
    (Tt : Nat → World → Prop) (Res : Nat → Option Addr → Int → World → Prop)
    (KA : ∀ w, Below W.heap.size W w → Calls Tryz.prog 13 #[] w fun e w' => e = .returned (.bool true) ∧ Hid (Below w.heap.size w w'))
    (KN : ∀ w, Below W.heap.size W w → Calls Tryz.prog 14 #[.agg #[.int .i64 g.start, v1, v2], .string T] w fun e w' => ∃ tb, e = .returned (.tuple #[.pointer (some ⟨tb, 0, none⟩), .int .i64 0]) ∧ Hid (Tt tb w') ∧ Hid (Below w.heap.size w w'))
    (KC0 : ∀ w, Below W.heap.size W w → Calls Tryz.prog 26 #[.agg #[.int .i64 g.start, v1, v2]] w fun e w' => ∃ u1 u2, e = .returned (.agg #[.int .i64 g.start, u1, u2]) ∧ Hid (Below w.heap.size w w') ∧ Hid (Cp w g u1 u2 w'))
    (KU0 : ∀ (w : World) (u1 u2 : Value) (k : Nat), Below W.heap.size W w → GrIs w Any u1 u2 (starG g k) → Calls Tryz.prog 14 #[.agg #[.int .i64 g.start, u1, u2], .string T] w fun e w' => ∃ pt z, e = .returned (.tuple #[.pointer pt, .int .i64 z]) ∧ Hid (Res k pt z w') ∧ Hid (Below w.heap.size w w'))
    (KE0 : ∀ k tb w1 w2 pt z, k < N → Tt tb w1 → Below w1.heap.size w1 w2 → Res k pt z w2 → (z = 1100 ∧ pt = none) ∨ (z = 0 ∧ ∃ ub, pt = some ⟨ub, 0, none⟩ ∧ ∃ M, StOk N T.size k tb ub w2 M)) :
    Calls Tryz.prog 12 #[.agg #[.int .i64 g.start, v1, v2], .string T, .int .i64 p] W fun e W' => e = .returned (.bool true) ∧ Below W.heap.size W W' := by
  obtain ⟨st, hst⟩ : ∃ st, st = g.start := ⟨_, rfl⟩
  have HX1 : Hid (BxT W st v1 v2 (W.alloc (.cells #[.int .i64 st, v1, v2] 25))) := BxT.new _ _ _ _
  have HA : Hid (∀ w, Below W.heap.size W w → Calls Tryz.prog 13 #[] w fun e w' => e = .returned (.bool true) ∧ Hid (Below w.heap.size w w')) := KA
  have HST : Hid (st = g.start) := hst
  rw [← hst] at KN KC0 KU0 ⊢
  have HS := (show Hid _ from KN)
  have KC := (show Hid _ from KC0)
  have HU := (show Hid _ from KU0)
  have KE := (show Hid _ from KE0)
  have HN : Hid (N = g.names.length) := hNe
  have HL : Hid (lr = g.rules.length) := hLe
  obtain ⟨p1, q1⟩ := k1
  obtain ⟨p2, q2⟩ := k2
  subst e1 e2
  clear KA KN KC0 KU0 KE0 hst hNe hLe
  go_enter Tryz.func12, Tryz.ntmps12
  go_upto_region 6 with (first
    | (go_at_call 13; refine (HA.out _ HX1.out.1).mono ?_; rintro e wa ⟨rfl, ba⟩; have XA : Hid (BxT _ _ _ _ wa) := HX1.out.any ba.out; obtain ⟨-, z1, c0, c1, c2⟩ := XA.out)
    | (go_at_call 14; refine (HS.out _ XA.out.1).mono ?_; rintro e wb ⟨tb, rfl, HT, bb⟩; have XB : Hid (BxT _ _ _ _ wb) := XA.out.any bb.out; clear z1 c0 c1 c2)
    | (go_at_call 15; refine (num_any _ _).mono ?_; rintro e wn ⟨rfl, rfl⟩))
  obtain ⟨-, z1, c0, c1, c2⟩ := XB.out
  clear HA HS HX1 XA ba bb
  obtain ⟨x, hx, hxm⟩ := tmodT (z := p) hN0
  have hxw : wrap64 (x : Int) = (x : Int) := by unfold wrap64; omega
  have hNu : IntKind.u64.wrap (N : Int) = (N : Int) := by rw [IntKind.wrap_u64]; omega
  have n2 : ¬ N = 0 := by omega
  have n1 : ((N : Int) == 0) = false := by rw [beq_eq_false_iff_ne]; omega
  go_upto_region 8 with fail
  have HC5 : Hid (∀ w', Below wb.heap.size wb w' → w'.cell? ⟨W.heap.size, 1, none⟩ = some (.slice p1 N q1)) := fun w' hb => (hb.cell (p := ⟨W.heap.size, 1, none⟩) z1).trans c1
  clear c0 c1 c2
  go_region_held3 (fun w' => Below wb.heap.size wb w' ∧ w'.cell? ⟨W.heap.size, 1, none⟩ = some (.slice p1 N q1))
    ((refine (fun hb => ⟨hb, HC5.out _ hb⟩ : Below wb.heap.size wb _ → _) ?_; repeat' (first | with_reducible assumption | with_reducible exact Below.refl _ _ | with_reducible apply Below.drew)))
    (fail)
  obtain ⟨w5, hw5⟩ : ∃ w5, w5 = wb.drew := ⟨_, rfl⟩
  have HBC : Hid (Below wb.heap.size wb w5) := by show Below _ _ _; rw [hw5]; exact (Below.refl _ _).drew
  rw [← hw5]
  (try simp only [hxw])
  clear hw5 HC5 z1 hxm hxw hNu n1 n2
  have X5 : Hid (BxT _ _ _ _ w5) := XB.out.any HBC.out
  obtain ⟨-, z1, c0, c1, c2⟩ := X5.out
  go_upto_region 10 with (go_at_call 26; refine (KC.out _ X5.out.1).mono ?_; rintro e wc ⟨y1, y2, rfl, BC, CP⟩; obtain ⟨B, F9, us, hBb, GV0⟩ := CP.out.gvO; obtain ⟨p1', l1', hu1⟩ := row_slice GV0.on; obtain ⟨p2', l2', hu2⟩ := row_slice GV0.m0.oo; rw [← HN.out] at hu1; rw [← HL.out] at hu2; subst hu1 hu2; have HGV0 := (show Hid _ from GV0); clear GV0 z1 c0 c1 c2)
  rw [← HST.out] at HGV0
  obtain ⟨Y0, hY0⟩ : ∃ Y, Y = wc.alloc (.cells #[.int .i64 st, .slice p1' N l1', .slice p2' lr l2'] 25) := ⟨_, rfl⟩
  rw [← hY0] at HGV0 ⊢
  obtain ⟨g1, cap1, w1, hr1, GV1, x1, z1⟩ := HGV0.out.appNameO n1w (by rw [← HN.out]; omega)
  have q1' : Y0.cell? ⟨wc.heap.size, 1, none⟩ = some (.slice p1' N l1') := Lib.cell_of_heap HGV0.out.vb 1
  have hz0 : wc.heap.size < Y0.heap.size := block_lt HGV0.out.vb
  rw [← HN.out] at hr1 GV1
  obtain ⟨hb9, hhb⟩ : ∃ b, b = wc.heap.size := ⟨_, rfl⟩
  rw [← hhb] at GV1 x1 z1 q1' hz0 ⊢
  have HBB : Hid (Below w5.heap.size w5 B) := hBb
  clear hY0 hhb CP HGV0 hBb KC BC
  go_upto_region 11 with (at_builtin; refine wpList_run_append rfl _ _ 22 rfl _ _ rfl rfl hr1 ?_)
  obtain ⟨X2, hX2⟩ : ∃ X, X = w1.setCell ⟨hb9, 1, none⟩ (.slice (some ⟨g1, 0, none⟩) (N + 1) cap1) := ⟨_, rfl⟩
  rw [← hX2] at GV1 ⊢
  clear hX2 hr1 x1 z1 q1' hz0
  have hVX : Below w5.heap.size w5 X2 := HBB.out.trans (GV1.m0.bl.mono HBB.out.size)
  -- the conjuncts of the two rules
  obtain ⟨H, hH⟩ : ∃ H, H = X2.heap.size := ⟨_, rfl⟩
  obtain ⟨Z, hZ⟩ : ∃ Z, Z = ((X2.alloc (.cells #[.bool false, .slice none 0 0] 48)).alloc (.cells #[.int .i64 (x : Int), .int .i64 0, .int .i64 0, .int .i64 (N : Int), .int .i64 0, .int .i64 0] 44)).alloc (.cells #[.bool false, .slice (some ⟨X2.heap.size + 1, 0, none⟩) 2 2] 48) := ⟨_, rfl⟩
  have bZ : Below X2.heap.size X2 Z := by rw [hZ]; exact ((bel1 _ _).alloc (by simp) _).alloc (by simp; omega) _
  have sZ : Z.heap.size = X2.heap.size + 1 + 1 + 1 := by rw [hZ]; simp
  obtain ⟨Z1, hZ1⟩ : ∃ Z1, Z1 = X2.alloc (.cells #[.bool false, .slice none 0 0] 48) := ⟨_, rfl⟩
  obtain ⟨Z2, hZ2⟩ : ∃ Z2, Z2 = Z1.alloc (.cells #[.int .i64 (x : Int), .int .i64 0, .int .i64 0, .int .i64 (N : Int), .int .i64 0, .int .i64 0] 44) := ⟨_, rfl⟩
  have hZ3 : Z = Z2.alloc (.cells #[.bool false, .slice (some ⟨X2.heap.size + 1, 0, none⟩) 2 2] 48) := by rw [hZ, hZ2, hZ1]
  have s1 : Z1.heap.size = X2.heap.size + 1 := by rw [hZ1]; simp
  have s2 : Z2.heap.size = X2.heap.size + 1 + 1 := by rw [hZ2]; simp [s1]
  have b12 : Below Z1.heap.size Z1 Z2 := by rw [hZ2]; exact bel1 _ _
  have b23 : Below Z2.heap.size Z2 Z := by rw [hZ3]; exact bel1 _ _
  have k0 : Z.heap[X2.heap.size]? = some (.cells #[.bool false, .slice none 0 0] 48) := (b23.block _ (by omega)).trans ((b12.block _ (by omega)).trans (by rw [hZ1]; exact heap_alloc_new _ _))
  have k1 : Z.heap[X2.heap.size + 1]? = some (.cells #[.int .i64 (x : Int), .int .i64 0, .int .i64 0, .int .i64 (N : Int), .int .i64 0, .int .i64 0] 44) := (b23.block _ (by omega)).trans (by rw [← s1, hZ2]; exact heap_alloc_new _ _)
  have k2 : Z.heap[X2.heap.size + 1 + 1]? = some (.cells #[.bool false, .slice (some ⟨X2.heap.size + 1, 0, none⟩) 2 2] 48) := by rw [← s2, hZ3]; exact heap_alloc_new _ _
  have cn1 : IsCns Z (fun b => X2.heap.size ≤ b ∧ b < Z.heap.size) (.slice (some ⟨X2.heap.size, 0, none⟩) 1 1) [⟨false, []⟩] := ⟨[_], reads_atM (reads_laid k0 le11 rfl) ⟨Nat.le_refl _, by omega⟩, (CnsIn.nil _ _).snoc (c := ⟨false, []⟩) (sysE_nil _ _)⟩
  have cn2 : IsCns Z (fun b => X2.heap.size ≤ b ∧ b < Z.heap.size) (.slice (some ⟨X2.heap.size + 1 + 1, 0, none⟩) 1 1) [⟨false, [⟨(x : Int), 0, 0⟩, ⟨(N : Int), 0, 0⟩]⟩] := by
    have i2 : IsSys Z (fun b => X2.heap.size ≤ b ∧ b < Z.heap.size) (.slice (some ⟨X2.heap.size + 1, 0, none⟩) 2 2) [⟨(x : Int), 0, 0⟩, ⟨(N : Int), 0, 0⟩] := reads_atM (reads_laid k1 le22 rfl) ⟨by omega, by omega⟩
    exact ⟨[_], reads_atM (reads_laid k2 le11 rfl) ⟨by omega, by omega⟩, (CnsIn.nil _ _).snoc (c := ⟨false, [⟨(x : Int), 0, 0⟩, ⟨(N : Int), 0, 0⟩]⟩) i2⟩
  have GVZ := GV1.keep bZ
  have hBX := GV1.m0.bl.size
  have hgb := block_lt GV1.vb
  have hno : ∀ b, (Value.slice p2' lr l2').ownBlock = some b → b < X2.heap.size := fun b hb => (GV1.m0.oo.lt b hb).2
  have hnn : ∀ b, (Value.slice (some ⟨g1, 0, none⟩) (N + 1) cap1).ownBlock = some b → b < X2.heap.size := fun b hb => (GV1.on.lt b hb).2
  obtain ⟨g2, cap2, w2, hr2, GV2, x2, z2, hbl⟩ := GVZ.appRulesO (h := (N : Int)) (h2 := (N : Int)) cn1 cn2 (fun b hb => ⟨by omega, hb.2, by omega, fun e => by have := hnn b e; omega, fun e => by have := hno b e; omega⟩) rfl rfl (by rw [← HL.out]; omega)
  rw [← HL.out] at hr2 GV2 hbl
  obtain ⟨X3, hX3⟩ : ∃ X, X = w2.setCell ⟨hb9, 2, none⟩ (.slice (some ⟨g2, 0, none⟩) (lr + 2) cap2) := ⟨_, rfl⟩
  rw [← hX3] at GV2 hbl
  have hbo : ∀ b, (Value.slice p2' lr l2').ownBlock = some b → B.heap.size ≤ b := fun b hb => (GV1.m0.oo.lt b hb).1
  have hX53 : Below w5.heap.size w5 X3 := hbl w5 (hVX.trans (bZ.mono hVX.size)) (by have := GV1.gg; have := HBB.out.size; omega) (fun b hb => by have := hbo b hb; have := HBB.out.size; omega)
  have HX3 : Hid (Below W.heap.size W X3) := X5.out.1.trans (hX53.mono X5.out.1.size)
  have HX53 : Hid (Below w5.heap.size w5 X3) := hX53
  have HG3 : Hid (GrIs X3 Any (.slice (some ⟨g1, 0, none⟩) (N + 1) cap1) (.slice (some ⟨g2, 0, none⟩) (lr + 2) cap2) (starG g x)) := by
    have h9 := GV2.gr
    unfold starG starR
    rw [← HN.out, ← HST.out]
    exact h9
  have t0 : X3.cell? ⟨hb9, 0, none⟩ = some (.int .i64 st) := Lib.cell_of_heap GV2.vb 0
  have t1 : X3.cell? ⟨hb9, 1, none⟩ = some (.slice (some ⟨g1, 0, none⟩) (N + 1) cap1) := Lib.cell_of_heap GV2.vb 1
  have t2 : X3.cell? ⟨hb9, 2, none⟩ = some (.slice (some ⟨g2, 0, none⟩) (lr + 2) cap2) := Lib.cell_of_heap GV2.vb 2
  have zt : hb9 < X3.heap.size := block_lt GV2.vb
  have q2' : X2.cell? ⟨hb9, 2, none⟩ = some (.slice p2' lr l2') := Lib.cell_of_heap GV1.vb 2
  have zb : hb9 < X2.heap.size := block_lt GV1.vb
  rw [sZ] at hr2
  rw [hZ] at hr2
  clear GV1 GV2 GVZ cn1 cn2 k0 k1 k2 b12 b23 s1 s2 hZ1 hZ2 hZ3 bZ sZ hbl hX53 hbo hno hnn hBX hgb hVX hH hZ
  go_upto_region 12 with (at_builtin; refine wpList_run_append rfl _ _ 23 rfl _ _ rfl rfl hr2 ?_)
  rw [← hX3]
  clear hX3 hr2 x2 z2 q2' zb
  go_upto_region 13 with (go_at_call 14; refine (HU.out _ _ _ x HX3.out HG3.out).mono ?_; rintro e w7 ⟨pt, z, rfl, R7, B7⟩)
  have HE7 : Hid (Below W.heap.size W w7) := HX3.out.trans (B7.out.mono HX3.out.size)
  have HB7 : Hid (Below wb.heap.size wb w7) := HBC.out.trans ((HX53.out.trans (B7.out.mono HX53.out.size)).mono HBC.out.size)
  have HEND := (show Hid _ from KE.out x tb wb w7 pt z hx HT.out HB7.out R7.out)
  clear t0 t1 t2 zt HX3 HG3 R7 B7 HX53 HB7 HBC X5 XB HT KE HU HBB
  rcases HEND.out with ⟨rfl, rfl⟩ | ⟨rfl, ub, rfl, M, hSt⟩
  · go_wp2_with (go_at_call 15; refine (num_any _ _).mono ?_; rintro e wn ⟨rfl, rfl⟩)
    go_ret
    exact ⟨rfl, HE7.out⟩
  · have HSO : Hid (StOk N T.size x tb ub w7 M) := hSt
    obtain ⟨t, ht⟩ : ∃ t, t = T.size := ⟨_, rfl⟩
    have HTS : Hid (t = T.size) := ht
    have ht32 : t ≤ 32 := by omega
    rw [← ht] at HSO
    have HMK : Hid (∀ w, (Instr.makeSlice 61 (.int .i64 ((T.size : Int) + 1)) (.int .i64 ((T.size : Int) + 1))).run Tryz.prog w = .ok (.slice (some ⟨w.heap.size, 0, none⟩) (T.size + 1) (T.size + 1)) (w.alloc (.cells (boolsA (T.size + 1) (fun _ => false)) 4))) := fun w => make_can T hT32 w
    clear HEND hSt ht
    go_upto_region 15 with (go_at_call 15; refine (num_any _ _).mono ?_; rintro e wn ⟨rfl, rfl⟩)
    go_wp2
    go_loopw [14] (fun x' wr => ∃ i : Nat, i ≤ t + 1 ∧ x' = .int .i64 (i : Int) ∧ Hid (Below w7.heap.size w7 wr)) (fun x' _ => t + 1 - (intOf x').toNat)
    case atStart => exact ⟨0, Nat.zero_le _, rfl, Below.refl _ _⟩
    case round =>
      obtain ⟨i, hi, rfl, HWB⟩ := hrel
      by_cases hlt : i ≤ t
      · have e1 : decide ((i : Int) ≤ (T.size : Int)) = true := decide_eq_true (by have := HTS.out; omega)
        have e1' : (i : Int) ≤ (T.size : Int) := by have := HTS.out; omega
        have hmk := HMK.out
        have hlb : i < T.size + 1 := by have := HTS.out; omega
        have hz := boolsA_at (n := T.size + 1) (fun _ => false) hlb
        have hzs := boolsA_size (T.size + 1) (fun _ => false)
        go_upto_region 20 with fail
        clear e1 e1' hmk hz hzs
        rw [boolsA_put]
        obtain ⟨V, hV⟩ : ∃ V, V = wr.alloc (.cells (boolsA (T.size + 1) (putS (fun _ => false) i)) 4) := ⟨_, rfl⟩
        rw [← hV]
        have HBV : Hid (Below wr.heap.size wr V) := by show Below _ _ _; rw [hV]; exact bel1 _ _
        obtain ⟨cb, hcb⟩ : ∃ cb, cb = wr.heap.size := ⟨_, rfl⟩
        have HBL : Hid (BlAt V cb (T.size + 1) (putS (fun _ => false) i)) := by show BlAt _ _ _ _; rw [hV, hcb]; exact BlAt.new _ _ _
        rw [← hcb]
        have HCW : Hid (w7.heap.size ≤ cb) := by show _ ≤ _; rw [hcb]; exact HWB.out.size
        have HVW : Hid (Below w7.heap.size w7 V) := HWB.out.trans (HBV.out.mono HWB.out.size)
        clear hV hcb HBV HWB hlb
        go_wp2
        go_loopw [16] (fun x' wr => ∃ (j : Nat) (s : Nat → Bool), i ≤ j ∧ j ≤ t + 1 ∧ x' = .int .i64 (j : Int) ∧ Hid (BlAt wr cb (T.size + 1) s) ∧ Hid (CanA M i j s) ∧ Hid (Below w7.heap.size w7 wr)) (fun x' _ => t + 1 - (intOf x').toNat)
        case atStart => exact ⟨i, _, Nat.le_refl _, hi, rfl, HBL, CanA.new M i, HVW⟩
        case round =>
          obtain ⟨j, s, hij, hj, rfl, HB2, HC2, HW2⟩ := hrel
          by_cases hltj : j ≤ t
          · have e1 : decide ((j : Int) ≤ (T.size : Int)) = true := decide_eq_true (by have := HTS.out; omega)
            have e1' : (j : Int) ≤ (T.size : Int) := by have := HTS.out; omega
            go_wp2
            clear e1 e1'
            go_loopw [17] (fun x' wr => ∃ (q : Nat) (s : Nat → Bool), i ≤ q ∧ q ≤ j ∧ x' = .int .i64 (q : Int) ∧ Hid (BlAt wr cb (T.size + 1) s) ∧ Hid (CanB M i j q s) ∧ Hid (Below w7.heap.size w7 wr)) (fun x' _ => j - (intOf x').toNat)
            case atStart => exact ⟨i, s, Nat.le_refl _, hij, rfl, HB2, HC2.out.on, HW2⟩
            case round =>
              obtain ⟨q, s3, hq1, hq2, rfl, HB3, HC3, HW3⟩ := hrel
              by_cases hqj : q < j
              · have e1 : (q : Int) < (j : Int) := by omega
                have e1' : decide ((q : Int) < (j : Int)) = true := decide_eq_true e1
                have hq9 : q < T.size + 1 := by have := HTS.out; omega
                have hj9 : j < T.size + 1 := by have := HTS.out; omega
                have cq := HB3.out.cell hq9
                have fj := HB3.out.frozen j
                have cj := HB3.out.cell hj9
                rw [HC3.out.1 q hq1 hqj] at cq
                have H1 := (HSO.out wr HW3.out q j (by omega) hltj).1
                obtain ⟨A, hA⟩ : ∃ A, A = canV M i q := ⟨_, rfl⟩
                obtain ⟨m1, hm1⟩ : ∃ m1, m1 = M q j := ⟨_, rfl⟩
                have HAM : Hid ((canV M i q && M q j) = (A && m1)) := by show _ = _; rw [hA, hm1]
                rw [← hA] at cq
                rw [← hm1] at H1
                clear hA hm1
                cases A with
                | false =>
                  go_wp2
                  go_roundw
                  case rel => exact ⟨q + 1, s3, by omega, by omega, by go_num, HB3, HC3.out.no hq1 (by rw [HAM.out]; rfl), HW3⟩
                  case measure => simp [intOf]; omega
                | true =>
                  cases m1 with
                  | false =>
                    go_wp2_with (go_at_call 16; refine H1.mono ?_; rintro e wn ⟨rfl, rfl⟩)
                    go_roundw
                    case rel => exact ⟨q + 1, s3, by omega, by omega, by go_num, HB3, HC3.out.no hq1 (by rw [HAM.out]; rfl), HW3⟩
                    case measure => simp [intOf]; omega
                  | true =>
                    go_wp2_with (go_at_call 16; refine H1.mono ?_; rintro e wn ⟨rfl, rfl⟩)
                    go_roundw
                    case rel => exact ⟨q + 1, putS s3 j, by omega, by omega, by go_num, HB3.out.put j, HC3.out.yes hq1 (by rw [HAM.out]; rfl), HW3.out.setCell (p := ⟨cb, j, none⟩) HCW.out _⟩
                    case measure => simp [intOf]; omega
              · obtain rfl : q = j := by omega
                have hj9 : q < T.size + 1 := by have := HTS.out; omega
                have cj := HB3.out.cell hj9
                rw [HC3.out.fin hij] at cj
                obtain ⟨A, hA⟩ : ∃ A, A = canV M i q := ⟨_, rfl⟩
                have K9 : Hid (∀ w', Below wr.heap.size wr w' → Calls Tryz.prog 16 #[.pointer (some ⟨ub, 0, none⟩), .int .i64 (N : Int), .int .i64 (i : Int), .int .i64 (q : Int)] w' fun e w'' => e = .returned (.bool A) ∧ w' = w'') := fun w' hb => by rw [hA]; exact (HSO.out w' (HW3.out.trans (hb.mono HW3.out.size)) i q hij hltj).2
                rw [← hA] at cj
                have bq : (!(A == A)) = false := by cases A <;> rfl
                have bq2 : (A != A) = false := by cases A <;> rfl
                have n9 : ¬ ((q : Int) < (q : Int)) := by omega
                have d9 : decide ((q : Int) < (q : Int)) = false := decide_eq_false n9
                have HC9 : Hid (∀ w', Below wr.heap.size wr w' → w'.cell? ⟨cb, q, none⟩ = some (.bool A)) := fun w' hb => (hb.cell (p := ⟨cb, q, none⟩) HB3.out.lt).trans cj
                clear hA cj
                go_upto_region 28 with fail
                clear n9 d9
                have i0 : (0 : Int) ≤ (q : Int) := by omega
                have i1 : (q : Int) < ((T.size + 1 : Nat) : Int) := by omega
                have i2 : (q : Int) < (T.size : Int) + 1 := by omega
                have i3 : (q : Int) ≤ (T.size : Int) := by omega
                have i4 : q ≤ T.size := by omega
                go_region_held3 (fun w' => Below wr.heap.size wr w' ∧ w'.cell? ⟨cb, q, none⟩ = some (.bool A))
                  ((refine (fun hb => ⟨hb, HC9.out _ hb⟩ : Below wr.heap.size wr _ → _) ?_; repeat' (first | with_reducible assumption | with_reducible exact Below.refl _ _ | with_reducible apply Below.drew)))
                  ((go_at_call 16; refine (K9.out _ (Below.refl _ wr).drew).mono ?_; rintro e wn ⟨rfl, rfl⟩))
                all_goals
                  have HD9 : Hid (Below wr.heap.size wr wr.drew) := (Below.refl _ wr).drew
                  clear K9 HC9
                  go_wp2
                  go_roundw
                  case rel => exact ⟨q + 1, s3, by omega, by omega, by go_num, HB3.out.keep HD9.out, HC3.out.off hij, HW3.out.trans (HD9.out.mono HW3.out.size)⟩
                  case measure => simp [intOf]; omega
          · obtain rfl : j = t + 1 := by omega
            have e1 : decide (((t + 1 : Nat) : Int) ≤ (T.size : Int)) = false := decide_eq_false (by have := HTS.out; omega)
            have e1' : ¬ ((t + 1 : Nat) : Int) ≤ (T.size : Int) := by have := HTS.out; omega
            go_wp2
            go_roundw
            case rel => exact ⟨i + 1, by omega, by go_num, HW2⟩
            case measure => simp [intOf]; omega
      · obtain rfl : i = t + 1 := by omega
        have e1 : decide (((t + 1 : Nat) : Int) ≤ (T.size : Int)) = false := decide_eq_false (by have := HTS.out; omega)
        have e1' : ¬ ((t + 1 : Nat) : Int) ≤ (T.size : Int) := by have := HTS.out; omega
        go_wp2
        go_ret
        exact ⟨rfl, HE7.out.trans (HWB.out.mono HE7.out.size)⟩
end Go.Proofs.YtfjejnkjlnkkhaaGreatDoor
