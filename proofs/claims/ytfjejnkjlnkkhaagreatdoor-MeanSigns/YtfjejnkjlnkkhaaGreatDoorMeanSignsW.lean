/- MeanSigns, walked. -/
import Derived.Test.YtfjejnkjlnkkhaaGreatDoorGh
import Derived.Test.YtfjejnkjlnkkhaaGreatDoorGi
import Derived.Test.YtfjejnkjlnkkhaaGreatDoorGf
import Derived.Test.YtfjejnkjlnkkhaaGreatDoorMzG
import Derived.BigQuiet
import Derived.Deep.Cut
import Derived.Deep.RegionHeld3
namespace Go.Proofs.YtfjejnkjlnkkhaaGreatDoor
set_option linter.unusedVariables false
set_option linter.unusedSimpArgs false
open Go.ChangeShapes Go.WideShapes Go.ChangeAt Go.RowKit Go.Maps

theorem tmodS {z : Int} {n : Nat} (hn : 0 < n) : ∃ k : Nat, k < n ∧ Int.tmod (IntKind.u64.wrap z) (n : Int) = (k : Int) := by
  have hp : 0 ≤ IntKind.u64.wrap z := by rw [IntKind.wrap_u64]; omega
  have h1 := Int.tmod_nonneg (n : Int) hp
  have h2 : Int.tmod (IntKind.u64.wrap z) (n : Int) < (n : Int) := Int.tmod_lt_of_pos _ (by omega)
  exact ⟨(Int.tmod (IntKind.u64.wrap z) (n : Int)).toNat, by omega, by omega⟩
/-- A row in a block that is known. -/
theorem reads_atS {w : World} {F G : Nat → Prop} {b o n c : Nat} {cs : List Value} (h : Reads w F (.slice (some ⟨b, o, none⟩) n c) n cs) (hG : G b) : Reads w G (.slice (some ⟨b, o, none⟩) n c) n cs := by
  obtain ⟨p, c2, e, hm, hc⟩ := h
  refine ⟨p, c2, e, hm, fun h0 => ?_⟩
  obtain ⟨g', o', e1, e2, e3⟩ := hc h0
  have e9 := e
  simp only [Value.slice.injEq] at e9
  rw [← e9.1] at e1
  simp only [Option.some.injEq, Addr.mk.injEq] at e1
  exact ⟨g', o', by rw [← e9.1]; simp [e1], by rw [← e1.1]; exact hG, e3⟩
/-- A grammar in a block of its own, and what is behind it. -/
def BxS (W : World) (s : Int) (v1 v2 : Value) (w : World) : Prop := Below W.heap.size W w ∧ W.heap.size < w.heap.size ∧ w.cell? ⟨W.heap.size, 0, none⟩ = some (.int .i64 s) ∧ w.cell? ⟨W.heap.size, 1, none⟩ = some v1 ∧ w.cell? ⟨W.heap.size, 2, none⟩ = some v2
theorem BxS.new (W : World) (s : Int) (v1 v2 : Value) : BxS W s v1 v2 (W.alloc (.cells #[.int .i64 s, v1, v2] 25)) :=
  ⟨bel1 _ _, by simp, World.cell?_alloc_at _ _ _ _ rfl, World.cell?_alloc_at _ _ _ _ rfl, World.cell?_alloc_at _ _ _ _ rfl⟩
theorem BxS.any {W : World} {s : Int} {v1 v2 : Value} {w w' : World} (h : BxS W s v1 v2 w) (hb : Below w.heap.size w w') : BxS W s v1 v2 w' :=
  ⟨h.1.trans (hb.mono h.1.size), Nat.lt_of_lt_of_le h.2.1 hb.size, (hb.cell (p := ⟨_, _, none⟩) h.2.1).trans h.2.2.1, (hb.cell (p := ⟨_, _, none⟩) h.2.1).trans h.2.2.2.1, (hb.cell (p := ⟨_, _, none⟩) h.2.1).trans h.2.2.2.2⟩
set_option maxHeartbeats 4000000 in
set_option maxRecDepth 100000 in
theorem meanSigns_no (W : World) (s : Int) (v1 v2 : Value) (T : ByteArray) (p : Int) (k1 k2 : Option Addr × Nat × Nat) (e1 : v1 = .slice k1.1 k1.2.1 k1.2.2) (e2 : v2 = .slice k2.1 k2.2.1 k2.2.2)
    (KA : ∀ w, Below W.heap.size W w → Calls Tryz.prog 13 #[] w fun e w' => e = .returned (.bool true) ∧ Hid (Below w.heap.size w w'))
    (KN : ∀ w, Below W.heap.size W w → Calls Tryz.prog 14 #[.agg #[.int .i64 s, v1, v2], .string T] w fun e w' => e = .returned (.tuple #[.pointer none, .int .i64 1100]) ∧ Hid (Below w.heap.size w w')) :
    Calls Tryz.prog 7 #[.agg #[.int .i64 s, v1, v2], .string T, .int .i64 p] W fun e W' => e = .returned (.bool true) ∧ Below W.heap.size W W' := by
  have HX1 : Hid (BxS W s v1 v2 (W.alloc (.cells #[.int .i64 s, v1, v2] 25))) := BxS.new _ _ _ _
  have HA : Hid (∀ w, Below W.heap.size W w → Calls Tryz.prog 13 #[] w fun e w' => e = .returned (.bool true) ∧ Hid (Below w.heap.size w w')) := KA
  have HS : Hid (∀ w, Below W.heap.size W w → Calls Tryz.prog 14 #[.agg #[.int .i64 s, v1, v2], .string T] w fun e w' => e = .returned (.tuple #[.pointer none, .int .i64 1100]) ∧ Hid (Below w.heap.size w w')) := KN
  subst e1 e2
  clear KN KA
  go_enter Tryz.func7, Tryz.ntmps7
  go_wp2_with (first
    | (go_at_call 13; refine (HA.out _ HX1.out.1).mono ?_; rintro e wa ⟨rfl, ba⟩; have XA : Hid (BxS _ _ _ _ wa) := HX1.out.any ba.out; obtain ⟨-, z1, c0, c1, c2⟩ := XA.out)
    | (go_at_call 14; refine (HS.out _ XA.out.1).mono ?_; rintro e wb ⟨rfl, bb⟩; have XB : Hid (BxS _ _ _ _ wb) := XA.out.any bb.out; clear z1 c0 c1 c2)
    | (go_at_call 15; refine (num_any _ _).mono ?_; rintro e wn ⟨rfl, rfl⟩))
  go_ret
  exact ⟨rfl, XB.out.1⟩
/-- What the three tables and the first one answer. -/
def SgOk (N t k tb ua ub uc : Nat) (w : World) (M : Nat → Nat → Bool) (Q R : Nat → Nat → Nat) : Prop := ∀ i j : Nat, i ≤ j → j ≤ t →
  (Calls Tryz.prog 16 #[.pointer (some ⟨tb, 0, none⟩), .int .i64 (k : Int), .int .i64 (i : Int), .int .i64 (j : Int)] w fun e w'' => e = .returned (.bool (M i j)) ∧ w = w'') ∧
  (Calls Tryz.prog 16 #[.pointer (some ⟨ua, 0, none⟩), .int .i64 (N : Int), .int .i64 (i : Int), .int .i64 (j : Int)] w fun e w'' => e = .returned (.bool (M i j)) ∧ w = w'') ∧
  (Calls Tryz.prog 16 #[.pointer (some ⟨ub, 0, none⟩), .int .i64 (N : Int), .int .i64 (i : Int), .int .i64 (j : Int)] w fun e w'' => e = .returned (.bool (!M i j)) ∧ w = w'') ∧
  (Calls Tryz.prog 16 #[.pointer (some ⟨uc, 0, none⟩), .int .i64 (N : Int), .int .i64 (i : Int), .int .i64 (j : Int)] w fun e w'' => e = .returned (.bool false) ∧ w = w'') ∧
  (M i j = false → Calls Tryz.prog 19 #[.pointer (some ⟨ub, 0, none⟩), .int .i64 (N : Int), .int .i64 (i : Int), .int .i64 (j : Int)] w fun e w'' => e = .returned (.int .i64 1) ∧ w = w'') ∧
  (Calls Tryz.prog 19 #[.pointer (some ⟨tb, 0, none⟩), .int .i64 (k : Int), .int .i64 (i : Int), .int .i64 (j : Int)] w fun e w'' => e = .returned (.int .i64 ((Q i j : Nat) : Int)) ∧ w = w'') ∧
  (Calls Tryz.prog 19 #[.pointer (some ⟨ua, 0, none⟩), .int .i64 (N : Int), .int .i64 (i : Int), .int .i64 (j : Int)] w fun e w'' => e = .returned (.int .i64 ((R i j : Nat) : Int)) ∧ w = w'') ∧
  (M i j = true → Q i j < R i j)
section
variable {Y w : World} {b k : Nat}
/-- The symbol's block, and conjuncts of it. -/
theorem cns_one {x : Bool} (B0 : Nat) (h1 : Y.heap[b]? = some (.cells #[.int .i64 (k : Int), .int .i64 0, .int .i64 0] 44)) (hb : B0 ≤ b) (w5 : World) (hw : w5 = Y.alloc (.cells #[.bool x, .slice (some ⟨b, 0, none⟩) 1 1] 48)) :
    IsCns w5 (fun i => B0 ≤ i ∧ i < w5.heap.size) (.slice (some ⟨Y.heap.size, 0, none⟩) 1 1) [⟨x, [⟨(k : Int), 0, 0⟩]⟩] := by
  subst hw
  have hbl := (Array.getElem?_eq_some_iff.1 h1).1
  have h2 : (Y.alloc (.cells #[.bool x, .slice (some ⟨b, 0, none⟩) 1 1] 48)).heap[b]? = some (.cells #[.int .i64 (k : Int), .int .i64 0, .int .i64 0] 44) := by first | exact (heap_alloc_old _ hbl).trans h1 | exact (heap_alloc_old _ _ hbl).trans h1 | exact (heap_alloc_old _ _ _ hbl).trans h1
  have i2 : IsSys (Y.alloc (.cells #[.bool x, .slice (some ⟨b, 0, none⟩) 1 1] 48)) (fun i => B0 ≤ i ∧ i < (Y.alloc (.cells #[.bool x, .slice (some ⟨b, 0, none⟩) 1 1] 48)).heap.size) (.slice (some ⟨b, 0, none⟩) 1 1) [⟨(k : Int), 0, 0⟩] := reads_atS (reads_laid h2 le11 rfl) ⟨hb, by simp; omega⟩
  exact ⟨[_], reads_atS (reads_laid (heap_alloc_new _ _) le11 rfl) ⟨by omega, by simp⟩, (CnsIn.nil _ _).snoc (c := ⟨x, [⟨(k : Int), 0, 0⟩]⟩) i2⟩
theorem cns_two (B0 : Nat) (h1 : Y.heap[b]? = some (.cells #[.int .i64 (k : Int), .int .i64 0, .int .i64 0] 44)) (hb : B0 ≤ b) (w5 : World) (hw : w5 = Y.alloc (.cells #[.bool false, .slice (some ⟨b, 0, none⟩) 1 1, .bool true, .slice (some ⟨b, 0, none⟩) 1 1] 48)) :
    IsCns w5 (fun i => B0 ≤ i ∧ i < w5.heap.size) (.slice (some ⟨Y.heap.size, 0, none⟩) 2 2) (sgB k) := by
  subst hw
  have hbl := (Array.getElem?_eq_some_iff.1 h1).1
  have h2 : (Y.alloc (.cells #[.bool false, .slice (some ⟨b, 0, none⟩) 1 1, .bool true, .slice (some ⟨b, 0, none⟩) 1 1] 48)).heap[b]? = some (.cells #[.int .i64 (k : Int), .int .i64 0, .int .i64 0] 44) := by first | exact (heap_alloc_old _ hbl).trans h1 | exact (heap_alloc_old _ _ hbl).trans h1 | exact (heap_alloc_old _ _ _ hbl).trans h1
  have i2 : IsSys (Y.alloc (.cells #[.bool false, .slice (some ⟨b, 0, none⟩) 1 1, .bool true, .slice (some ⟨b, 0, none⟩) 1 1] 48)) (fun i => B0 ≤ i ∧ i < (Y.alloc (.cells #[.bool false, .slice (some ⟨b, 0, none⟩) 1 1, .bool true, .slice (some ⟨b, 0, none⟩) 1 1] 48)).heap.size) (.slice (some ⟨b, 0, none⟩) 1 1) [⟨(k : Int), 0, 0⟩] := reads_atS (reads_laid h2 le11 rfl) ⟨hb, by simp; omega⟩
  exact ⟨[_, _], reads_atS (reads_laid (heap_alloc_new _ _) le22 rfl) ⟨by omega, by simp⟩, ((CnsIn.nil _ _).snoc (c := ⟨false, [⟨(k : Int), 0, 0⟩]⟩) i2).snoc (c := ⟨true, [⟨(k : Int), 0, 0⟩]⟩) i2⟩
end
set_option maxHeartbeats 8000000 in
set_option maxRecDepth 100000 in
theorem meanSigns_ok (W : World) (st : Int) (v1 v2 : Value) (T : ByteArray) (p : Int) (N lr : Nat) (k1 k2 : Option Addr × Nat) (e1 : v1 = .slice k1.1 N k1.2) (e2 : v2 = .slice k2.1 lr k2.2) (hN0 : 0 < N) (hN64 : N ≤ 64) (hlr256 : lr ≤ 256)
    (Tt : Nat → World → Prop) (C : World → Nat → List Cn → Value → Value → Prop) (Res : Nat → List Cn → Option Addr → Int → World → Prop)
    (KA : ∀ w, Below W.heap.size W w → Calls Tryz.prog 13 #[] w fun e w' => e = .returned (.bool true) ∧ Hid (Below w.heap.size w w'))
    (KN : ∀ w, Below W.heap.size W w → Calls Tryz.prog 14 #[.agg #[.int .i64 st, v1, v2], .string T] w fun e w' => ∃ tb, e = .returned (.tuple #[.pointer (some ⟨tb, 0, none⟩), .int .i64 0]) ∧ Hid (Tt tb w') ∧ Hid (Below w.heap.size w w'))
    (KO0 : ∀ (A w : World) (cv : Value) (k : Nat) (cs : List Cn) (Fc : Nat → Prop), Below W.heap.size W w → Below A.heap.size A w → IsCns w Fc cv cs → (∀ b, Fc b → A.heap.size ≤ b ∧ b < w.heap.size) → Calls Tryz.prog 23 #[cv, .agg #[.int .i64 st, v1, v2]] w fun e w' => ∃ a1 b1 c1 a2 b2 c2, e = .returned (.agg #[.int .i64 st, .slice a1 b1 c1, .slice a2 b2 c2]) ∧ Hid (C w' k cs (.slice a1 b1 c1) (.slice a2 b2 c2)) ∧ Hid (Below w.heap.size w w'))
    (KU0 : ∀ (w : World) (u1 u2 : Value) (k : Nat) (cs : List Cn), Below W.heap.size W w → (cs = sgP k ∨ cs = sgN k ∨ cs = sgB k) → C w k cs u1 u2 → Calls Tryz.prog 14 #[.agg #[.int .i64 st, u1, u2], .string T] w fun e w' => ∃ pt z, e = .returned (.tuple #[.pointer pt, .int .i64 z]) ∧ Hid (Res k cs pt z w') ∧ Hid (Below w.heap.size w w'))
    (KX0 : ∀ k cs pt z w w', Res k cs pt z w → Below w.heap.size w w' → Res k cs pt z w')
    (KE0 : ∀ k tb w1 w2 pa za pb zb pc zc, k < N → Tt tb w1 → Below w1.heap.size w1 w2 → T.size ≤ 10 → Res k (sgP k) pa za w2 → Res k (sgN k) pb zb w2 → Res k (sgB k) pc zc w2 → (zc = 1100 ∧ (za = 0 ∨ za = 1100) ∧ (zb = 0 ∨ zb = 1100)) ∨ (za = 0 ∧ zb = 0 ∧ zc = 0 ∧ ∃ ua ub uc, pa = some ⟨ua, 0, none⟩ ∧ pb = some ⟨ub, 0, none⟩ ∧ pc = some ⟨uc, 0, none⟩ ∧ ∃ M Q R, SgOk N T.size k tb ua ub uc w2 M Q R)) :
    Calls Tryz.prog 7 #[.agg #[.int .i64 st, v1, v2], .string T, .int .i64 p] W fun e W' => e = .returned (.bool true) ∧ Below W.heap.size W W' := by
  have HX1 : Hid (BxS W st v1 v2 (W.alloc (.cells #[.int .i64 st, v1, v2] 25))) := BxS.new _ _ _ _
  have HA : Hid (∀ w, Below W.heap.size W w → Calls Tryz.prog 13 #[] w fun e w' => e = .returned (.bool true) ∧ Hid (Below w.heap.size w w')) := KA
  have HS := (show Hid _ from KN)
  have KO := (show Hid _ from KO0)
  have HU := (show Hid _ from KU0)
  have KX := (show Hid _ from KX0)
  have KE := (show Hid _ from KE0)
  obtain ⟨p1, q1⟩ := k1
  obtain ⟨p2, q2⟩ := k2
  subst e1 e2
  clear KA KN KO0 KU0 KX0 KE0
  go_enter Tryz.func7, Tryz.ntmps7
  go_upto_region 6 with (first
    | (go_at_call 13; refine (HA.out _ HX1.out.1).mono ?_; rintro e wa ⟨rfl, ba⟩; have XA : Hid (BxS _ _ _ _ wa) := HX1.out.any ba.out; obtain ⟨-, z1, c0, c1, c2⟩ := XA.out)
    | (go_at_call 14; refine (HS.out _ XA.out.1).mono ?_; rintro e wb ⟨tb, rfl, HT, bb⟩; have XB : Hid (BxS _ _ _ _ wb) := XA.out.any bb.out; clear z1 c0 c1 c2)
    | (go_at_call 15; refine (num_any _ _).mono ?_; rintro e wn ⟨rfl, rfl⟩))
  obtain ⟨-, z1, c0, c1, c2⟩ := XB.out
  have HE : Hid (Below W.heap.size W wb) := XB.out.1
  clear HA HS HX1 XA ba bb
  by_cases hbig : 64 ≤ N ∨ 256 ≤ lr ∨ 10 < T.size
  · clear HU KO HT KX KE
    by_cases h1 : 64 ≤ N
    · have d1 : decide ((N : Int) ≥ 64) = true := decide_eq_true (by omega)
      have d1' : (64 : Int) ≤ (N : Int) := by omega
      go_wp2
      go_ret
      exact ⟨rfl, HE.out⟩
    · have d1 : decide ((N : Int) ≥ 64) = false := decide_eq_false (by omega)
      have d1' : ¬ (64 : Int) ≤ (N : Int) := by omega
      by_cases h2 : 256 ≤ lr
      · have d2 : decide ((lr : Int) ≥ 256) = true := decide_eq_true (by omega)
        have d2' : (256 : Int) ≤ (lr : Int) := by omega
        go_wp2
        go_ret
        exact ⟨rfl, HE.out⟩
      · have d2 : decide ((lr : Int) ≥ 256) = false := decide_eq_false (by omega)
        have d2' : ¬ (256 : Int) ≤ (lr : Int) := by omega
        have d3 : decide ((T.size : Int) > 10) = true := decide_eq_true (by omega)
        have d3' : (10 : Int) < (T.size : Int) := by omega
        go_wp2
        go_ret
        exact ⟨rfl, HE.out⟩
  · have d1 : decide ((N : Int) ≥ 64) = false := decide_eq_false (by omega)
    have d1' : ¬ (64 : Int) ≤ (N : Int) := by omega
    have d2 : decide ((lr : Int) ≥ 256) = false := decide_eq_false (by omega)
    have d2' : ¬ (256 : Int) ≤ (lr : Int) := by omega
    have d3 : decide ((T.size : Int) > 10) = false := decide_eq_false (by omega)
    have d3' : ¬ (10 : Int) < (T.size : Int) := by omega
    have hT10 : T.size ≤ 10 := by omega
    go_upto_region 8 with fail
    clear d1 d1' d2 d2' d3 d3' hbig
    obtain ⟨x, hx, hxm⟩ := tmodS (z := p) hN0
    have hxw : wrap64 (x : Int) = (x : Int) := by unfold wrap64; omega
    have hNu : IntKind.u64.wrap (N : Int) = (N : Int) := by rw [IntKind.wrap_u64]; omega
    have n2 : ¬ N = 0 := by omega
    have n1 : ((N : Int) == 0) = false := by rw [beq_eq_false_iff_ne]; omega
    go_upto_region 9 with fail
    (try simp only [hxw])
    clear hxm hxw hNu n1 n2
    go_upto_region 10 with fail
    obtain ⟨V, hV⟩ : ∃ V, V = wb.alloc (.cells #[.int .i64 (x : Int), .int .i64 0, .int .i64 0] 44) := ⟨_, rfl⟩
    have hsb : V.heap[wb.heap.size]? = some (.cells #[.int .i64 (x : Int), .int .i64 0, .int .i64 0] 44) := by rw [hV]; exact heap_alloc_new _ _
    have bV : Below wb.heap.size wb V := by rw [hV]; exact bel1 _ _
    obtain ⟨sb, hsb0⟩ : ∃ sb, sb = wb.heap.size := ⟨_, rfl⟩
    rw [← hV]
    rw [← hsb0] at hsb ⊢
    have HSB : Hid (V.heap[sb]? = some (.cells #[.int .i64 (x : Int), .int .i64 0, .int .i64 0] 44)) := hsb
    have HSL : Hid (wb.heap.size ≤ sb ∧ sb < V.heap.size) := ⟨by omega, (Array.getElem?_eq_some_iff.1 hsb).1⟩
    have XV : Hid (BxS _ _ _ _ V) := XB.out.any bV
    have HBV : Hid (Below wb.heap.size wb V) := bV
    clear hV hsb bV hsb0 c0 c1 c2 z1
    -- the first grammar
    obtain ⟨Y, hY⟩ : ∃ Y, Y = V.alloc (.cells #[.bool false, .slice (some ⟨sb, 0, none⟩) 1 1] 48) := ⟨_, rfl⟩
    have bY : Below V.heap.size V Y := by rw [hY]; exact bel1 _ _
    have XY : Hid (BxS _ _ _ _ Y) := XV.out.any bY
    obtain ⟨-, z1, c0, c1, c2⟩ := XY.out
    have KO2 := KO.out wb Y _ x (sgP x) _ XY.out.1 (HBV.out.trans (bY.mono HBV.out.size)) (cns_one wb.heap.size HSB.out HSL.out.1 Y hY) (fun b hb => hb)
    have XY9 : Hid (Below W.heap.size W Y) := XY.out.1
    have HYB : Hid (Below V.heap.size V Y) := bY
    clear bY XY
    rw [hY] at c0 c1 c2 z1
    go_upto_region 11 with (first
      | (go_at_call 23; rw [← hY]; refine KO2.mono ?_; rintro e w6 ⟨a1, a2, a3, a4, a5, a6, rfl, G6, B6⟩; have X6 : Hid (Below W.heap.size W w6) := XY9.out.trans (B6.out.mono XY9.out.size))
      | (go_at_call 14; refine (HU.out _ _ _ x (sgP x) X6.out (Or.inl rfl) G6.out).mono ?_; rintro e Va ⟨pa, za, rfl, Ra, B7⟩))
    have HVa : Hid (Below V.heap.size V Va) := (HYB.out.trans (B6.out.mono HYB.out.size)).trans (B7.out.mono (by have := HYB.out.size; have := B6.out.size; omega))
    have XVa : Hid (BxS _ _ _ _ Va) := XV.out.any HVa.out
    have HSa : Hid (Va.heap[sb]? = some (.cells #[.int .i64 (x : Int), .int .i64 0, .int .i64 0] 44)) := (HVa.out.block sb HSL.out.2).trans HSB.out
    have HBa : Hid (Below wb.heap.size wb Va) := HBV.out.trans (HVa.out.mono HBV.out.size)
    clear c0 c1 c2 z1 KO2 XY9 HYB hY B6 B7 X6 G6 XV
    -- the second one
    obtain ⟨Y2, hY2⟩ : ∃ Y, Y = Va.alloc (.cells #[.bool true, .slice (some ⟨sb, 0, none⟩) 1 1] 48) := ⟨_, rfl⟩
    have bY : Below Va.heap.size Va Y2 := by rw [hY2]; exact bel1 _ _
    have XY : Hid (BxS _ _ _ _ Y2) := XVa.out.any bY
    obtain ⟨-, z1, c0, c1, c2⟩ := XY.out
    have KO2 := KO.out wb Y2 _ x (sgN x) _ XY.out.1 (HBa.out.trans (bY.mono HBa.out.size)) (cns_one wb.heap.size HSa.out HSL.out.1 Y2 hY2) (fun b hb => hb)
    have XY9 : Hid (Below W.heap.size W Y2) := XY.out.1
    have HYB : Hid (Below Va.heap.size Va Y2) := bY
    clear bY XY
    rw [hY2] at c0 c1 c2 z1
    go_upto_region 12 with (first
      | (go_at_call 23; rw [← hY2]; refine KO2.mono ?_; rintro e w6 ⟨d1, d2, d3, d4, d5, d6, rfl, G6, B6⟩; have X6 : Hid (Below W.heap.size W w6) := XY9.out.trans (B6.out.mono XY9.out.size))
      | (go_at_call 14; refine (HU.out _ _ _ x (sgN x) X6.out (Or.inr (Or.inl rfl)) G6.out).mono ?_; rintro e Vb ⟨pb, zb, rfl, Rb, B7⟩))
    have HVb : Hid (Below Va.heap.size Va Vb) := (HYB.out.trans (B6.out.mono HYB.out.size)).trans (B7.out.mono (by have := HYB.out.size; have := B6.out.size; omega))
    have XVb : Hid (BxS _ _ _ _ Vb) := XVa.out.any HVb.out
    have HSb : Hid (Vb.heap[sb]? = some (.cells #[.int .i64 (x : Int), .int .i64 0, .int .i64 0] 44)) := (HVb.out.block sb (by have := HSL.out.2; have := HVa.out.size; omega)).trans HSa.out
    have HBb : Hid (Below wb.heap.size wb Vb) := HBa.out.trans (HVb.out.mono HBa.out.size)
    have Ra2 : Hid (Res x (sgP x) pa za Vb) := KX.out _ _ _ _ _ _ Ra.out HVb.out
    clear c0 c1 c2 z1 KO2 XY9 HYB hY2 B6 B7 X6 G6 XVa Ra
    -- the third one
    obtain ⟨Y3, hY3⟩ : ∃ Y, Y = Vb.alloc (.cells #[.bool false, .slice (some ⟨sb, 0, none⟩) 1 1, .bool true, .slice (some ⟨sb, 0, none⟩) 1 1] 48) := ⟨_, rfl⟩
    have bY : Below Vb.heap.size Vb Y3 := by rw [hY3]; exact bel1 _ _
    have XY : Hid (BxS _ _ _ _ Y3) := XVb.out.any bY
    obtain ⟨-, z1, c0, c1, c2⟩ := XY.out
    have KO2 := KO.out wb Y3 _ x (sgB x) _ XY.out.1 (HBb.out.trans (bY.mono HBb.out.size)) (cns_two wb.heap.size HSb.out HSL.out.1 Y3 hY3) (fun b hb => hb)
    have XY9 : Hid (Below W.heap.size W Y3) := XY.out.1
    have HYB : Hid (Below Vb.heap.size Vb Y3) := bY
    clear bY XY
    rw [hY3] at c0 c1 c2 z1
    go_upto_region 13 with (first
      | (go_at_call 23; rw [← hY3]; refine KO2.mono ?_; rintro e w6 ⟨f1, f2, f3, f4, f5, f6, rfl, G6, B6⟩; have X6 : Hid (Below W.heap.size W w6) := XY9.out.trans (B6.out.mono XY9.out.size))
      | (go_at_call 14; refine (HU.out _ _ _ x (sgB x) X6.out (Or.inr (Or.inr rfl)) G6.out).mono ?_; rintro e w7 ⟨pc, zc, rfl, Rc, B7⟩))
    have HVc : Hid (Below Vb.heap.size Vb w7) := (HYB.out.trans (B6.out.mono HYB.out.size)).trans (B7.out.mono (by have := HYB.out.size; have := B6.out.size; omega))
    have X7 : Hid (BxS _ _ _ _ w7) := XVb.out.any HVc.out
    have HE7 : Hid (Below W.heap.size W w7) := X7.out.1
    have HB7 : Hid (Below wb.heap.size wb w7) := HBb.out.trans (HVc.out.mono HBb.out.size)
    have Ra3 : Hid (Res x (sgP x) pa za w7) := KX.out _ _ _ _ _ _ Ra2.out HVc.out
    have Rb3 : Hid (Res x (sgN x) pb zb w7) := KX.out _ _ _ _ _ _ Rb.out HVc.out
    have cc1 : w7.cell? ⟨W.heap.size, 1, none⟩ = some (.slice p1 N q1) := X7.out.2.2.2.1
    have HEND := (show Hid _ from KE.out x tb wb w7 pa za pb zb pc zc hx HT.out HB7.out hT10 Ra3.out Rb3.out Rc.out)
    clear c0 c1 c2 z1 KO2 XY9 HYB hY3 B6 B7 X6 G6 XVb Ra2 Rb Rc Ra3 Rb3 KX KE KO HU HT HSL HSB HSa HSb HBV HBa HBb HVa HVb HVc X7 XB HB7 HE
    rcases HEND.out with ⟨rfl, ha | ha, hb | hb⟩ | ⟨rfl, rfl, rfl, ua, ub, uc, rfl, rfl, rfl, M, Q, R, hSg⟩
    · subst ha hb
      go_wp2_with (go_at_call 15; refine (num_any _ _).mono ?_; rintro e wn ⟨rfl, rfl⟩)
      go_ret
      exact ⟨rfl, HE7.out⟩
    · subst ha hb
      go_wp2_with (go_at_call 15; refine (num_any _ _).mono ?_; rintro e wn ⟨rfl, rfl⟩)
      go_ret
      exact ⟨rfl, HE7.out⟩
    · subst ha hb
      go_wp2_with (go_at_call 15; refine (num_any _ _).mono ?_; rintro e wn ⟨rfl, rfl⟩)
      go_ret
      exact ⟨rfl, HE7.out⟩
    · subst ha hb
      go_wp2_with (go_at_call 15; refine (num_any _ _).mono ?_; rintro e wn ⟨rfl, rfl⟩)
      go_ret
      exact ⟨rfl, HE7.out⟩
    · have HSG : Hid (SgOk N T.size x tb ua ub uc w7 M Q R) := hSg
      obtain ⟨t, ht⟩ : ∃ t, t = T.size := ⟨_, rfl⟩
      have HTS : Hid (t = T.size) := ht
      have ht10 : t ≤ 10 := by omega
      rw [← ht] at HSG
      clear HEND hSg ht
      go_upto_region 16 with (go_at_call 15; refine (num_any _ _).mono ?_; rintro e wn ⟨rfl, rfl⟩)
      go_wp2
      go_loopw [17] (fun x' wr => ∃ i : Nat, i ≤ t + 1 ∧ x' = .int .i64 (i : Int) ∧ Hid (wr = w7)) (fun x' _ => t + 1 - (intOf x').toNat)
      case atStart => exact ⟨0, Nat.zero_le _, rfl, rfl⟩
      case round =>
        obtain ⟨i, hi, rfl, HWX⟩ := hrel
        obtain rfl : wr = w7 := HWX.out
        clear HWX
        by_cases hlt : i ≤ t
        · have e1 : decide ((i : Int) ≤ (T.size : Int)) = true := decide_eq_true (by have := HTS.out; omega)
          have e1' : (i : Int) ≤ (T.size : Int) := by have := HTS.out; omega
          go_wp2
          clear e1 e1'
          obtain ⟨wq, hwq⟩ : ∃ wq, wq = wr := ⟨_, rfl⟩
          subst hwq
          go_loopw [18] (fun x' wr => ∃ j : Nat, i ≤ j ∧ j ≤ t + 1 ∧ x' = .int .i64 (j : Int) ∧ Hid (wr = wq)) (fun x' _ => t + 1 - (intOf x').toNat)
          case atStart => exact ⟨i, Nat.le_refl _, hi, rfl, rfl⟩
          case round =>
            obtain ⟨j, hij, hj, rfl, HWX⟩ := hrel
            obtain rfl : wr = wq := HWX.out
            clear HWX
            by_cases hltj : j ≤ t
            · have e1 : decide ((j : Int) ≤ (T.size : Int)) = true := decide_eq_true (by have := HTS.out; omega)
              have e1' : (j : Int) ≤ (T.size : Int) := by have := HTS.out; omega
              obtain ⟨K1, K2, K3, K4, K5, K6, K7, K8⟩ := HSG.out i j hij hltj
              have H1 := K1
              have H2 := K2
              have H3 := K3
              have H4 := K4
              have H6 := K6
              have H7 := K7
              clear K1 K2 K3 K4 K6 K7
              cases hm : M i j with
              | true =>
                have hQR := K8 hm
                rw [hm] at H1 H2 H3
                have H3' : (Calls Tryz.prog 16 #[.pointer (some ⟨ub, 0, none⟩), .int .i64 (N : Int), .int .i64 (i : Int), .int .i64 (j : Int)] wr fun e w'' => e = .returned (.bool false) ∧ wr = w'') := H3
                obtain ⟨q9, hq9⟩ : ∃ q9, q9 = Q i j := ⟨_, rfl⟩
                obtain ⟨r9, hr9⟩ : ∃ r9, r9 = R i j := ⟨_, rfl⟩
                rw [← hq9] at H6 hQR
                rw [← hr9] at H7 hQR
                have dq : decide ((r9 : Int) ≤ (q9 : Int)) = false := decide_eq_false (by omega)
                have dq' : ¬ (r9 : Int) ≤ (q9 : Int) := by omega
                clear K5 K8 hm hq9 hr9 H3 hQR
                go_wp2_with (first
                  | (go_at_call 16; first | (have hh := Fl3; clear hh; refine H3'.mono ?_; rintro e wn ⟨rfl, rfl⟩) | (have hh := Fl2; clear hh; refine H4.mono ?_; rintro e wn ⟨rfl, rfl⟩; have Fl3 : True := trivial) | (have hh := Fl1; clear hh; refine H3'.mono ?_; rintro e wn ⟨rfl, rfl⟩; have Fl2 : True := trivial) | (have hh := Fl0; clear hh; refine H2.mono ?_; rintro e wn ⟨rfl, rfl⟩; have Fl1 : True := trivial) | (refine H1.mono ?_; rintro e wn ⟨rfl, rfl⟩; have Fl0 : True := trivial))
                  | (go_at_call 19; first | (have hh := Gl1; clear hh; refine H6.mono ?_; rintro e wn ⟨rfl, rfl⟩) | (refine H7.mono ?_; rintro e wn ⟨rfl, rfl⟩; have Gl1 : True := trivial)))
                go_roundw
                case rel => exact ⟨j + 1, by omega, by omega, by go_num, by trivial⟩
                case measure => simp [intOf]; omega
              | false =>
                have H5 := K5 hm
                rw [hm] at H1 H2 H3
                have H3' : (Calls Tryz.prog 16 #[.pointer (some ⟨ub, 0, none⟩), .int .i64 (N : Int), .int .i64 (i : Int), .int .i64 (j : Int)] wr fun e w'' => e = .returned (.bool true) ∧ wr = w'') := H3
                clear K5 K8 hm H3 H6 H7
                go_wp2_with (first
                  | (go_at_call 16; first | (have hh := Fl3; clear hh; refine H3'.mono ?_; rintro e wn ⟨rfl, rfl⟩) | (have hh := Fl2; clear hh; refine H4.mono ?_; rintro e wn ⟨rfl, rfl⟩; have Fl3 : True := trivial) | (have hh := Fl1; clear hh; refine H3'.mono ?_; rintro e wn ⟨rfl, rfl⟩; have Fl2 : True := trivial) | (have hh := Fl0; clear hh; refine H2.mono ?_; rintro e wn ⟨rfl, rfl⟩; have Fl1 : True := trivial) | (refine H1.mono ?_; rintro e wn ⟨rfl, rfl⟩; have Fl0 : True := trivial))
                  | (go_at_call 19; refine H5.mono ?_; rintro e wn ⟨rfl, rfl⟩))
                go_roundw
                case rel => exact ⟨j + 1, by omega, by omega, by go_num, by trivial⟩
                case measure => simp [intOf]; omega
            · obtain rfl : j = t + 1 := by omega
              have e1 : decide (((t + 1 : Nat) : Int) ≤ (T.size : Int)) = false := decide_eq_false (by have := HTS.out; omega)
              have e1' : ¬ ((t + 1 : Nat) : Int) ≤ (T.size : Int) := by have := HTS.out; omega
              go_wp2
              go_roundw
              case rel => exact ⟨i + 1, by omega, by go_num, by trivial⟩
              case measure => simp [intOf]; omega
        · obtain rfl : i = t + 1 := by omega
          have e1 : decide (((t + 1 : Nat) : Int) ≤ (T.size : Int)) = false := decide_eq_false (by have := HTS.out; omega)
          have e1' : ¬ ((t + 1 : Nat) : Int) ≤ (T.size : Int) := by have := HTS.out; omega
          go_wp2
          go_ret
          exact ⟨rfl, HE7.out⟩
end Go.Proofs.YtfjejnkjlnkkhaaGreatDoor
