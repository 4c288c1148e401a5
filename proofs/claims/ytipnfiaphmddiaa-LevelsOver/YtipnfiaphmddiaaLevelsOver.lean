import Derived.Test.YtipnfiaphmddiaaStrT
import Derived.Test.YtipnfiaphmddiaaStrTop
import Derived.Test.YtipnfiaphmddiaaRefEdg
import Derived.Test.YtipnfiaphmddiaaCopyGrW
import Derived.Test.YtipnfiaphmddiaaGramOpen
import Derived.Test.YtipnfiaphmddiaaLawOpen
/- LevelsOver: walked. -/
namespace Go.Proofs.Ytipnfiaphmddiaa
set_option linter.unusedVariables false
open Go.ChangeShapes Go.WideShapes Go.ChangeAt Go.RowKit

/-- A grammar in a block of its own, and what is behind it. -/
def Bx (W : World) (s : Int) (v1 v2 : Value) (w : World) : Prop := Below W.heap.size W w ∧ W.heap.size < w.heap.size ∧ w.cell? ⟨W.heap.size, 0, none⟩ = some (.int .i64 s) ∧ w.cell? ⟨W.heap.size, 1, none⟩ = some v1 ∧ w.cell? ⟨W.heap.size, 2, none⟩ = some v2
theorem Bx.new (W : World) (s : Int) (v1 v2 : Value) : Bx W s v1 v2 (W.alloc (.cells #[.int .i64 s, v1, v2] 25)) :=
  ⟨bel1 _ _, by simp, World.cell?_alloc_at _ _ _ _ rfl, World.cell?_alloc_at _ _ _ _ rfl, World.cell?_alloc_at _ _ _ _ rfl⟩
theorem Bx.any {W : World} {s : Int} {v1 v2 : Value} {w w' : World} (h : Bx W s v1 v2 w) (hb : Below w.heap.size w w') : Bx W s v1 v2 w' :=
  ⟨h.1.trans (hb.mono h.1.size), Nat.lt_of_lt_of_le h.2.1 hb.size, (hb.cell (p := ⟨_, _, none⟩) h.2.1).trans h.2.2.1, (hb.cell (p := ⟨_, _, none⟩) h.2.1).trans h.2.2.2.1, (hb.cell (p := ⟨_, _, none⟩) h.2.1).trans h.2.2.2.2⟩
set_option maxHeartbeats 4000000 in
set_option maxRecDepth 100000 in
theorem levelsOver_no (W : World) (s : Int) (v1 v2 : Value) (nm : Int) (ng : Bool) (E : Int) (hE : E = 800 ∨ E = 801) (k1 k2 : Option Addr × Nat × Nat) (e1 : v1 = .slice k1.1 k1.2.1 k1.2.2) (e2 : v2 = .slice k2.1 k2.2.1 k2.2.2)
    (KS : ∀ w, Below W.heap.size W w → Calls Try.prog 9 #[.agg #[.int .i64 s, v1, v2]] w fun e w' => ∃ p n c q m d, e = .returned (.tuple #[.slice p n c, .slice q m d, .int .i64 E]) ∧ Hid (Below w.heap.size w w')) :
    Calls Try.prog 7 #[.agg #[.int .i64 s, v1, v2], .int .i64 nm, .bool ng] W fun e W' => e = .returned (.bool true) ∧ Below W.heap.size W W' := by
  have HX1 : Hid (Bx W s v1 v2 (W.alloc (.cells #[.int .i64 s, v1, v2] 25))) := Bx.new _ _ _ _
  have HS : Hid (∀ w, Below W.heap.size W w → Calls Try.prog 9 #[.agg #[.int .i64 s, v1, v2]] w fun e w' => ∃ p n c q m d, e = .returned (.tuple #[.slice p n c, .slice q m d, .int .i64 E]) ∧ Hid (Below w.heap.size w w')) := KS
  subst e1 e2
  clear KS
  rcases hE with rfl | rfl
  all_goals
   go_enter Try.func7, Try.ntmps7
   go_wp2_with (first
    | (go_at_call 8; refine (awake8_any _).mono ?_; rintro e wa ⟨rfl, ba⟩; have XA : Hid (Bx _ _ _ _ wa) := HX1.out.any ba.out; obtain ⟨-, z1, c0, c1, c2⟩ := XA.out)
    | (go_at_call 9; refine (HS.out _ XA.out.1).mono ?_; rintro e wb ⟨p, n, c, q, m, d, rfl, bb⟩; have XB : Hid (Bx _ _ _ _ wb) := XA.out.any bb.out; clear z1 c0 c1 c2; obtain ⟨-, z1, c0, c1, c2⟩ := XB.out)
    | (go_at_call 11; refine (num_any _ _).mono ?_; rintro e wn ⟨rfl, rfl⟩))
   go_ret
   exact ⟨rfl, XB.out.1⟩
theorem Cp.gv {w w' : World} {g : Gr} {u1 u2 : Value} (h : Cp w g u1 u2 w') : ∃ (B : World) (F : Nat → Prop) (us : List Value), Below w.heap.size w B ∧ GV B w'.heap.size F g.start g.names u1 g.rules us u2 (w'.alloc (.cells #[.int .i64 g.start, u1, u2] 25)) := by
  obtain ⟨B, F, us, hb, m0, on, nn⟩ := h
  exact ⟨B, F, us, hb, m0.keep (bel1 _ _), row_keep on (bel1 _ _), nn, heap_alloc_new _ _, fun hF => by have := (m0.fl _ hF).2; omega, m0.bl.size⟩
theorem Try.infoStrO : (Try.prog.info? 9).map (fun i => (i.zero, i.size, i.bytes)) = some (some (.string ⟨#[]⟩), 1, 16) := by kernel_rfl
theorem Try.infoRuleO : (Try.prog.info? 44).map (fun i => (i.zero, i.size, i.bytes)) = some (some (.agg #[.int .i64 0, .slice none 0 0]), 2, 32) := by kernel_rfl
def n0t : ByteArray := ⟨#[110, 48, 116]⟩
section
variable {B w w1 : World} {gb : Nat} {F : Nat → Prop} {st : Int} {ns : List ByteArray} {nv o : Value} {L : List Ru} {us : List Value}
/-- An append onto a grammar's names. -/
theorem GV.appName (m : GV B gb F st ns nv L us o w) (s : ByteArray) (hl : ns.length ≤ 1000) :
    ∃ g cap w2, (Builtin.append_ #[22, 22] 22 #[nv, .slice (some ⟨w.heap.size, 0, none⟩) 1 1]).run Try.prog (w.alloc (.cells #[.string s] 9)) = .ok (.slice (some ⟨g, 0, none⟩) (ns.length + 1) cap) w2 ∧ GV B gb F st (ns ++ [s]) (.slice (some ⟨g, 0, none⟩) (ns.length + 1) cap) L us o (w2.setCell ⟨gb, 1, none⟩ (.slice (some ⟨g, 0, none⟩) (ns.length + 1) cap)) ∧ w2.cell? ⟨gb, 1, none⟩ = some nv ∧ w2.frozen? ⟨gb, 1, none⟩ = false := by
  obtain ⟨i, hi, hz, hs, hb⟩ := info_parts Try.infoStrO
  have hbs := m.m0.bl.size
  obtain ⟨g, cap, w2, hr, hown, hgrow, hat, _⟩ := run_append_lies (P := Try.prog) (w.alloc (.cells #[.string s] 9)) 22 22 B.heap.size 9 i _ 1 16 Try.underlying22 hi hz hs hb rfl (by omega) nv ns.length (txV ns) (m.on.alloc _) ⟨w.heap.size, 0, none⟩ 1 1 [.string s] rfl
    (World.news_of_block (cs := #[.string s]) (t := 9) (fr := (0, 0)) (heap_alloc_new w _)) (by intro u hu; simp at hu; subst hu; rfl) (by omega) (by unfold maxLen; omega) (by omega) (by simp; omega) (w.heap.size + 1) (by simp)
  have hvb : w2.heap[gb]? = some (.cells #[.int .i64 st, nv, o] 25) := (hgrow.block gb (by have := block_lt m.vb; simp; omega) (Ne.symm (row_no m.on (by decide) m.vb))).trans ((heap_alloc_old _ (block_lt m.vb)).trans m.vb)
  exact ⟨g, cap, w2, hr, m.name (Below.refl _ _) rfl hgrow hown hat, Lib.cell_of_heap hvb 1, by unfold World.frozen?; rw [hvb]; simp⟩
/-- An append onto its rules. -/
theorem GV.appRule (m : GV B gb F st ns nv L us o w) (hb1 : Below w.heap.size w w1) {h : Int} {c : Value} {cs : List Cn} {Fc : Nat → Prop} (hc : IsCns w1 Fc c cs) (hFc : ∀ b, Fc b → w.heap.size ≤ b) (h1 : c.oneCell' = true) (hl : L.length ≤ 100000) :
    ∃ g cap w2 F', (Builtin.append_ #[23, 23] 23 #[o, .slice (some ⟨w1.heap.size, 0, none⟩) 1 1]).run Try.prog (w1.alloc (.cells #[.int .i64 h, c] 44)) = .ok (.slice (some ⟨g, 0, none⟩) (L.length + 1) cap) w2 ∧ GV B gb F' st ns nv (L ++ [⟨h, cs⟩]) (us ++ [c]) (.slice (some ⟨g, 0, none⟩) (L.length + 1) cap) (w2.setCell ⟨gb, 2, none⟩ (.slice (some ⟨g, 0, none⟩) (L.length + 1) cap)) ∧ w2.cell? ⟨gb, 2, none⟩ = some o ∧ w2.frozen? ⟨gb, 2, none⟩ = false := by
  obtain ⟨i, hi, hz, hs, hb⟩ := info_parts Try.infoRuleO
  have m1 := m.keep hb1
  have hbs := m1.m0.bl.size
  obtain ⟨g, cap, w2, hr, hown, hgrow, hat, _⟩ := run_append_lies (P := Try.prog) (w1.alloc (.cells #[.int .i64 h, c] 44)) 23 23 B.heap.size 44 i _ 2 32 Try.underlying23 hi hz hs hb rfl (by omega) o L.length (rusV L us) (m1.m0.oo.alloc _) ⟨w1.heap.size, 0, none⟩ 1 1 [.int .i64 h, c] rfl
    (World.news_of_block (cs := #[.int .i64 h, c]) (t := 44) (fr := (0, 0)) (heap_alloc_new w1 _)) (by intro u hu; simp at hu; rcases hu with rfl | rfl; rfl; exact h1) (by omega) (by unfold maxLen; omega) (by omega) (by simp; omega) (w1.heap.size + 1) (by simp)
  have hvb : w2.heap[gb]? = some (.cells #[.int .i64 st, nv, o] 25) := (hgrow.block gb (by have := block_lt m1.vb; simp; omega) (Ne.symm (row_no m1.m0.oo (by decide) m1.vb))).trans ((heap_alloc_old _ (block_lt m1.vb)).trans m1.vb)
  obtain ⟨F', hF'⟩ := m.rule hb1 hc hFc rfl hgrow hown hat rfl
  exact ⟨g, cap, w2, F', hr, hF', Lib.cell_of_heap hvb 2, by unfold World.frozen?; rw [hvb]; simp⟩
end
theorem Reads.front {w : World} {F : Nat → Prop} {g o n m c : Nat} {A Z : List Int} (h : IsInts w F (.slice (some ⟨g, o, none⟩) n c) (A ++ Z)) (hm : m = A.length) : IsInts w F (.slice (some ⟨g, o, none⟩) m c) A := by
  obtain ⟨p, c', e, ⟨h1, h2⟩, hc⟩ := h
  simp only [Value.slice.injEq] at e
  obtain ⟨rfl, e2, rfl⟩ := e
  rw [List.length_append] at h1 h2 hc
  subst hm
  refine ⟨_, _, rfl, ⟨by omega, by omega⟩, fun h0 => ?_⟩
  obtain ⟨g', o', e1, e2, e3, e4, e5⟩ := hc (by omega)
  refine ⟨g', o', e1, e2, e3, fun j x hj => e4 j x ?_, fun j hj => e5 j ?_⟩
  · unfold intsV at hj ⊢
    rw [List.map_append, List.getElem?_append_left (List.getElem?_eq_some_iff.1 hj).1]; exact hj
  · unfold intsV at hj ⊢
    simp only [List.length_map, List.length_append] at hj ⊢; omega
theorem hid_of {p : Prop} (h : p) : Hid p := h
set_option maxHeartbeats 8000000 in
set_option maxRecDepth 100000 in
theorem levelsOver_core (W : World) (g : Gr) (v1 v2 : Value) (nm : Int) (ng : Bool) (hwf : (Lit.int .i64 nm).wf = true) (n : Nat) (hnl : n = g.names.length) (h0 : 0 < n) (hn : n ≤ 64) (hrl : g.rules.length ≤ 256) (f : Nat → Nat) (hf : ∀ i, i < n → f i ≤ 1000) (k1 : Option Addr × Nat) (k2 : Option Addr × Nat × Nat) (e1 : v1 = .slice k1.1 n k1.2) (e2 : v2 = .slice k2.1 k2.2.1 k2.2.2)
    (KS : ∀ w, Below W.heap.size W w → Calls Try.prog 9 #[.agg #[.int .i64 g.start, v1, v2]] w fun e w' => ∃ u, e = .returned (.tuple #[u, .slice none 0 0, .int .i64 0]) ∧ Hid (IsInts w' (fun i => w.heap.size ≤ i) u (levL n f)) ∧ Hid (Below w.heap.size w w'))
    (KC : ∀ w, Below W.heap.size W w → Calls Try.prog 14 #[.agg #[.int .i64 g.start, v1, v2]] w fun e w' => ∃ u1 u2, e = .returned (.agg #[.int .i64 g.start, u1, u2]) ∧ Hid (Below w.heap.size w w') ∧ Hid (Cp w g u1 u2 w'))
    (KH : ∀ (k : Nat) (u1 u2 : Value) w, k < n → GrIs w Any u1 u2 (overG g k ng n0t) → (Calls Try.prog 9 #[.agg #[.int .i64 g.start, u1, u2]] w fun e w' => ∃ u, e = .returned (.tuple #[u, .slice none 0 0, .int .i64 0]) ∧ Hid (IsInts w' (fun i => w.heap.size ≤ i) u (levL n f ++ [((f k + (if ng = true then 1 else 0) : Nat) : Int)])) ∧ Hid (Below w.heap.size w w')) ∨
      ((Calls Try.prog 9 #[.agg #[.int .i64 g.start, u1, u2]] w fun e w' => e = .returned (.tuple #[.slice none 0 0, .slice none 0 0, .int .i64 800]) ∧ Hid (Below w.heap.size w w')) ∧ ∀ w2, Below w.heap.size w w2 → Calls Try.prog 15 #[.agg #[.int .i64 g.start, u1, u2]] w2 fun e w' => e = .returned (.bool false) ∧ Hid (Below w2.heap.size w2 w'))) :
    Calls Try.prog 7 #[.agg #[.int .i64 g.start, v1, v2], .int .i64 nm, .bool ng] W fun e W' => e = .returned (.bool true) ∧ Below W.heap.size W W' := by
  have HX1 : Hid (Bx W g.start v1 v2 (W.alloc (.cells #[.int .i64 g.start, v1, v2] 25))) := Bx.new _ _ _ _
  have HS : Hid (∀ w, Below W.heap.size W w → Calls Try.prog 9 #[.agg #[.int .i64 g.start, v1, v2]] w fun e w' => ∃ u, e = .returned (.tuple #[u, .slice none 0 0, .int .i64 0]) ∧ Hid (IsInts w' (fun i => w.heap.size ≤ i) u (levL n f)) ∧ Hid (Below w.heap.size w w')) := KS
  have HC : Hid (∀ w, Below W.heap.size W w → Calls Try.prog 14 #[.agg #[.int .i64 g.start, v1, v2]] w fun e w' => ∃ u1 u2, e = .returned (.agg #[.int .i64 g.start, u1, u2]) ∧ Hid (Below w.heap.size w w') ∧ Hid (Cp w g u1 u2 w')) := KC
  have HNL : Hid (n = g.names.length) := hnl
  have HKH := hid_of KH
  have HF : Hid (∀ i, i < n → f i ≤ 1000) := hf
  subst e1 e2
  clear KS KC hnl KH hf
  go_enter Try.func7, Try.ntmps7
  go_upto_region 4 with (first
    | (go_at_call 8; refine (awake8_any _).mono ?_; rintro e wa ⟨rfl, ba⟩; have XA : Hid (Bx _ _ _ _ wa) := HX1.out.any ba.out; obtain ⟨-, z1, c0, c1, c2⟩ := XA.out)
    | (go_at_call 9; refine (HS.out _ XA.out.1).mono ?_; rintro e wb ⟨u, rfl, IU, bb⟩; have XB : Hid (Bx _ _ _ _ wb) := XA.out.any bb.out; clear z1 c0 c1 c2))
  obtain ⟨-, z1, c0, c1, c2⟩ := XB.out
  obtain ⟨p3, c3, hu⟩ := IU.out.slc
  rw [levL_length] at hu
  subst hu
  have n1 : ((n : Int) == 0) = false := by simp; omega
  have n2 : ¬ n = 0 := by omega
  have n3 : decide ((n : Int) = 0) = false := by simpa using n2
  obtain ⟨k, hk, hkm⟩ : ∃ k : Nat, k < n ∧ Int.tmod (IntKind.u64.wrap nm) (n : Int) = (k : Int) := by
    have hp : 0 ≤ IntKind.u64.wrap nm := by rw [IntKind.wrap_u64]; omega
    have h1 := Int.tmod_nonneg (n : Int) hp
    have h2 : Int.tmod (IntKind.u64.wrap nm) (n : Int) < (n : Int) := Int.tmod_lt_of_pos _ (by omega)
    exact ⟨(Int.tmod (IntKind.u64.wrap nm) (n : Int)).toNat, by omega, by omega⟩
  have hkw : wrap64 (k : Int) = (k : Int) := by unfold wrap64; omega
  go_upto_region 7 with (go_at_call 11; refine (num_any _ _).mono ?_; rintro e wn ⟨rfl, rfl⟩)
  clear hkm hkw hwf
  go_upto_region 8 with (go_at_call 14; refine (HC.out _ XB.out.1).mono ?_; rintro e wc ⟨u1, u2, rfl, bc, CP⟩; obtain ⟨B, F, us, hBb, GV0⟩ := CP.out.gv; obtain ⟨p1', l1', hu1⟩ := row_slice GV0.on; obtain ⟨p2', l2', hu2⟩ := row_slice GV0.m0.oo; rw [← HNL.out] at hu1; subst hu1 hu2; have HGV0 : Hid _ := hid_of GV0; clear GV0)
  obtain ⟨Y0, hY0⟩ : ∃ Y, Y = wc.alloc (.cells #[.int .i64 g.start, .slice p1' n l1', .slice p2' g.rules.length l2'] 25) := ⟨_, rfl⟩
  rw [← hY0] at HGV0 ⊢
  obtain ⟨g1, cap1, w1, hr1, GV1, x1, y1⟩ := HGV0.out.appName n0t (by rw [← HNL.out]; omega)
  have q1 : Y0.cell? ⟨wc.heap.size, 1, none⟩ = some (.slice p1' n l1') := Lib.cell_of_heap HGV0.out.vb 1
  have hz0 : wc.heap.size < Y0.heap.size := block_lt HGV0.out.vb
  rw [← HNL.out] at hr1 GV1
  obtain ⟨hb9, hhb⟩ : ∃ b, b = wc.heap.size := ⟨_, rfl⟩
  rw [← hhb] at GV1 x1 y1 q1 hz0 ⊢
  have HBB : Hid (Below wb.heap.size wb B) := hBb
  clear hY0 hhb CP c0 c1 c2 z1 HGV0 hBb
  go_upto_region 9 with (at_builtin; refine wpList_run_append rfl _ _ 22 rfl _ _ rfl rfl hr1 ?_)
  obtain ⟨X2, hX2⟩ : ∃ X, X = w1.setCell ⟨hb9, 1, none⟩ (.slice (some ⟨g1, 0, none⟩) (n + 1) cap1) := ⟨_, rfl⟩
  rw [← hX2] at GV1 ⊢
  have HX2 : Hid (Below wb.heap.size wb X2) := HBB.out.trans (GV1.m0.bl.mono HBB.out.size)
  have XC : Hid (Bx _ _ _ _ X2) := XB.out.any HX2.out
  obtain ⟨-, z1, c0, c1, c2⟩ := XC.out
  have q2 : X2.cell? ⟨hb9, 2, none⟩ = some (.slice p2' g.rules.length l2') := Lib.cell_of_heap GV1.vb 2
  have zb : hb9 < X2.heap.size := block_lt GV1.vb
  -- the rule's parts
  obtain ⟨Y2, hY2⟩ : ∃ Y, Y = (X2.alloc (.cells #[.int .i64 (k : Int), .int .i64 0, .int .i64 0] 50)).alloc (.cells #[.bool ng, .slice (some ⟨X2.heap.size, 0, none⟩) 1 1] 47) := ⟨_, rfl⟩
  have bY2 : Below X2.heap.size X2 Y2 := by rw [hY2]; exact bel_alloc (bel1 _ _)
  have sY2 : Y2.heap.size = X2.heap.size + 1 + 1 := by rw [hY2]; simp
  have hs0 : Y2.heap[X2.heap.size]? = some (.cells #[.int .i64 (k : Int), .int .i64 0, .int .i64 0] 50) := by
    rw [hY2]
    exact (heap_alloc_old _ (by simp)).trans (heap_alloc_new _ _)
  have hc0 : Y2.heap[X2.heap.size + 1]? = some (.cells #[.bool ng, .slice (some ⟨X2.heap.size, 0, none⟩) 1 1] 47) := by
    rw [hY2]
    have h9 := heap_alloc_new (X2.alloc (.cells #[.int .i64 (k : Int), .int .i64 0, .int .i64 0] 50)) (.cells #[.bool ng, .slice (some ⟨X2.heap.size, 0, none⟩) 1 1] 47)
    rw [show (X2.alloc (.cells #[.int .i64 (k : Int), .int .i64 0, .int .i64 0] 50)).heap.size = X2.heap.size + 1 by simp] at h9
    exact h9
  have hcn : IsCns Y2 (fun b => X2.heap.size ≤ b) (.slice (some ⟨X2.heap.size + 1, 0, none⟩) 1 1) [⟨ng, [⟨(k : Int), 0, 0⟩]⟩] := by
    have i1 : IsSys Y2 Any (.slice (some ⟨X2.heap.size, 0, none⟩) 1 1) [⟨(k : Int), 0, 0⟩] := reads_laid hs0 le11 rfl
    have i2 : IsSys Y2 (fun b => X2.heap.size ≤ b) (.slice (some ⟨X2.heap.size, 0, none⟩) 1 1) [⟨(k : Int), 0, 0⟩] := by
      obtain ⟨p, c, e, hm, hc⟩ := i1
      refine ⟨p, c, e, hm, fun h0 => ?_⟩
      obtain ⟨g', o', e1, e2, e3⟩ := hc h0
      have e9 := e
      simp only [Value.slice.injEq] at e9
      rw [← e9.1] at e1
      simp only [Option.some.injEq, Addr.mk.injEq] at e1
      exact ⟨g', o', by rw [← e9.1]; simp [e1], by rw [← e1.1]; exact Nat.le_refl _, e3⟩
    have r1 : Reads Y2 Any (.slice (some ⟨X2.heap.size + 1, 0, none⟩) 1 1) 1 [.bool ng, .slice (some ⟨X2.heap.size, 0, none⟩) 1 1] := reads_laid hc0 le11 rfl
    have r2 : Reads Y2 (fun b => X2.heap.size ≤ b) (.slice (some ⟨X2.heap.size + 1, 0, none⟩) 1 1) 1 [.bool ng, .slice (some ⟨X2.heap.size, 0, none⟩) 1 1] := by
      obtain ⟨p, c, e, hm, hc⟩ := r1
      refine ⟨p, c, e, hm, fun h0 => ?_⟩
      obtain ⟨g', o', e1, e2, e3⟩ := hc h0
      have e9 := e
      simp only [Value.slice.injEq] at e9
      rw [← e9.1] at e1
      simp only [Option.some.injEq, Addr.mk.injEq] at e1
      exact ⟨g', o', by rw [← e9.1]; simp [e1], by rw [← e1.1]; exact Nat.le_succ _, e3⟩
    exact ⟨[_], r2, (CnsIn.nil _ _).snoc (c := ⟨ng, [⟨(k : Int), 0, 0⟩]⟩) i2⟩
  obtain ⟨g2, cap2, w2, F2, hr2, GV2, x2, y2⟩ := GV1.appRule bY2 (h := (n : Int)) hcn (fun b h => h) rfl (by omega)
  rw [sY2] at hr2
  rw [hY2] at hr2
  obtain ⟨X3, hX3⟩ : ∃ X, X = w2.setCell ⟨hb9, 2, none⟩ (.slice (some ⟨g2, 0, none⟩) (g.rules.length + 1) cap2) := ⟨_, rfl⟩
  rw [← hX3] at GV2
  have HX3 : Hid (Below wb.heap.size wb X3) := HBB.out.trans (GV2.m0.bl.mono HBB.out.size)
  have XD : Hid (Bx _ _ _ _ X3) := XB.out.any HX3.out
  have HG2 : Hid (GrIs X3 Any (.slice (some ⟨g1, 0, none⟩) (n + 1) cap1) (.slice (some ⟨g2, 0, none⟩) (g.rules.length + 1) cap2) (overG g k ng n0t)) := by
    have h9 := GV2.gr
    unfold overG
    rw [← HNL.out]; exact h9
  have t0 : X3.cell? ⟨hb9, 0, none⟩ = some (.int .i64 g.start) := Lib.cell_of_heap GV2.vb 0
  have t1 : X3.cell? ⟨hb9, 1, none⟩ = some (.slice (some ⟨g1, 0, none⟩) (n + 1) cap1) := Lib.cell_of_heap GV2.vb 1
  have t2 : X3.cell? ⟨hb9, 2, none⟩ = some (.slice (some ⟨g2, 0, none⟩) (g.rules.length + 1) cap2) := Lib.cell_of_heap GV2.vb 2
  have zt : hb9 < X3.heap.size := block_lt GV2.vb
  clear GV1 GV2 hY2 bY2 sY2 hs0 hc0 hcn hX2 x1 y1 hr1 hz0 q1
  go_upto_region 10 with (at_builtin; refine wpList_run_append rfl _ _ 23 rfl _ _ rfl rfl hr2 ?_)
  rw [← hX3]
  clear hX3 hr2 x2 y2 q2 zb c0 c1 c2 z1
  have IU3 : Hid (IsInts X3 _ (.slice p3 n c3) (levL n f)) := IU.out.any HX3.out
  rcases HKH.out k _ _ X3 hk HG2.out with KA | ⟨KA, KM⟩
  · obtain ⟨z, hz⟩ : ∃ z : Nat, z = f k + (if ng = true then 1 else 0) := ⟨_, rfl⟩
    rw [← hz] at KA
    have HZ : Hid (z = f k + (if ng = true then 1 else 0)) := hz
    have hfk := HF.out k hk
    obtain ⟨fk, hfk2⟩ : ∃ x, x = f k := ⟨_, rfl⟩
    have HFK : Hid (fk = f k) := hfk2
    rw [← hfk2] at hfk
    clear hz hfk2
    go_upto_region 11 with (go_at_call 9; refine KA.mono ?_; rintro e wd ⟨u, rfl, IV, bd⟩; obtain ⟨p5, c5, hu5⟩ := IV.out.slc; rw [List.length_append, levL_length] at hu5; subst hu5)
    have IU4 : Hid (IsInts wd _ (.slice p3 n c3) (levL n f)) := IU3.out.any bd.out
    obtain ⟨g3, o3, hp3, hg3, ck⟩ := IU4.out.at (levL_at f hk)
    obtain ⟨g5, o5, hp5, hg5, cz⟩ := IV.out.at (k := n) (z := (z : Int)) (by rw [List.getElem?_append_right (by rw [levL_length]; exact Nat.le_refl _), levL_length, Nat.sub_self]; rfl)
    subst hp3 hp5
    rw [← HFK.out] at ck
    have IF : Hid (IsInts wd _ (.slice (some ⟨g5, o5, none⟩) n c5) (levL n f)) := Reads.front IV.out (levL_length _ _).symm
    have hc5 : n + 1 ≤ c5 := by
      obtain ⟨p, c, e, ⟨_, h2⟩, _⟩ := IV.out
      simp only [Value.slice.injEq] at e
      rw [List.length_append, levL_length] at h2
      simp at h2
      omega
    have hc50 : ¬ c5 = 0 := by omega
    have hnc : (n : Int) ≤ (c5 : Int) := by omega
    have HWd : Hid (Below W.heap.size W wd) := XD.out.1.trans (bd.out.mono XD.out.1.size)
    have hnw : (n : Int) < ((n + [((z : Nat) : Int)].length : Nat) : Int) := by simp; omega
    cases ng with
    | true =>
      have hzz : (z : Int) = (fk : Int) + 1 := by rw [HZ.out, HFK.out]; simp
      go_wp2_with (first
        | (go_at_call 11; refine (num_any _ _).mono ?_; rintro e wn ⟨rfl, rfl⟩)
        | (go_at_call 13; refine (sameInts_yes _ _ (levL n f) _ IF.out IU4.out (by rw [levL_length]; omega)).mono ?_; rintro e we ⟨rfl, be⟩; have cz2 := (be.out.cell (p := ⟨g5, o5 + n, none⟩) hg5).trans cz))
      go_ret
      exact ⟨rfl, HWd.out.trans (be.out.mono HWd.out.size)⟩
    | false =>
      have hzz : (z : Int) = (fk : Int) := by rw [HZ.out, HFK.out]; simp
      go_wp2_with (first
        | (go_at_call 11; refine (num_any _ _).mono ?_; rintro e wn ⟨rfl, rfl⟩)
        | (go_at_call 13; refine (sameInts_yes _ _ (levL n f) _ IF.out IU4.out (by rw [levL_length]; omega)).mono ?_; rintro e we ⟨rfl, be⟩; have cz2 := (be.out.cell (p := ⟨g5, o5 + n, none⟩) hg5).trans cz))
      go_ret
      exact ⟨rfl, HWd.out.trans (be.out.mono HWd.out.size)⟩
  · have HKM := hid_of KM
    clear KM
    go_wp2_with (first
      | (go_at_call 9; refine KA.mono ?_; rintro e wd ⟨rfl, bd⟩; have s0 := (bd.out.cell (p := ⟨hb9, 0, none⟩) zt).trans t0; have s1 := (bd.out.cell (p := ⟨hb9, 1, none⟩) zt).trans t1; have s2 := (bd.out.cell (p := ⟨hb9, 2, none⟩) zt).trans t2)
      | (go_at_call 15; refine (HKM.out _ bd.out).mono ?_; rintro e we ⟨rfl, be⟩)
      | (go_at_call 11; refine (num_any _ _).mono ?_; rintro e wn ⟨rfl, rfl⟩))
    go_ret
    exact ⟨rfl, XD.out.1.trans ((bd.out.trans (be.out.mono bd.out.size)).mono XD.out.1.size)⟩
theorem mayG_rules {g : Gr} (h : mayG g = true) : g.rules.length ≤ 256 := by
  unfold mayG mayRules at h
  simp only [Bool.and_eq_true, decide_eq_true_eq] at h
  exact h.2.2.2.2.1
theorem over_levL {n k : Nat} {l : List Ed} {neg : Bool} (hl : edsB (n : Int) l = true) (hk : k < n) (hc : Clean l) : levL (n + 1) (levT (n + 1) (l ++ [((n : Int), (k : Int), neg)])) = levL n (levT n l) ++ [((levT n l k + (if neg = true then 1 else 0) : Nat) : Int)] := by
  unfold levL
  rw [List.range_succ, List.map_append]
  congr 1
  · refine List.map_congr_left fun i hi => ?_
    have hi := List.mem_range.1 hi
    rw [over_lev hl hk hc (by omega)]
    unfold overF
    rw [if_neg (by omega)]
  · simp only [List.map_cons, List.map_nil]
    rw [over_lev hl hk hc (by omega)]
    unfold overF
    rw [if_pos rfl]
theorem levelsOver_walk (W : World) (g : Gr) (v1 v2 : Value) (ga : GrIs W Any v1 v2 g) (gn : ∀ s, s ∈ g.names → s.size ≤ maxLen ∧ s.size ≤ reachBytes) (gz : g.names.length * 16 ≤ reachBytes ∧ g.rules.length * 32 ≤ reachBytes ∧ ∀ r, r ∈ g.rules → r.conj.length * 32 ≤ reachBytes ∧ ∀ c, c ∈ r.conj → c.seq.length * 24 ≤ reachBytes) (w0 : (Lit.int .i64 g.start).wf = true) (nm : Int) (hwf : (Lit.int .i64 nm).wf = true) (ng : Bool) :
    Calls Try.prog 7 #[.agg #[.int .i64 g.start, v1, v2], .int .i64 nm, .bool ng] W fun e W' => e = .returned (.bool true) ∧ Below W.heap.size W W' := by
  have hS : Short g.rules := fun r hr c hc => by have := (gz.2.2 r hr).2 c hc; unfold reachBytes at this; omega
  have hN : ∀ s, s ∈ g.names → s.size ≤ maxLen := fun s h => (gn s h).1
  have gz' : GSz reachBytes g := gz
  obtain ⟨p1, l1, hv1⟩ : ∃ p c, v1 = .slice p g.names.length c := by obtain ⟨p, c, e, _⟩ := ga.1; exact ⟨_, _, e⟩
  obtain ⟨p2, c2, hv2⟩ := ga.2.slc
  cases hM : mayG g with
  | false =>
    exact levelsOver_no W g.start v1 v2 nm ng 800 (Or.inl rfl) (p1, g.names.length, l1) (p2, g.rules.length, c2) hv1 hv2 (fun w hb => (strata_no g v1 v2 w (ga.any hb) hN hS hM).mono fun e w' h => ⟨_, _, _, _, _, _, h.1, h.2⟩)
  | true =>
    have hm := mayE_edges hM
    obtain ⟨h0, h1, hl⟩ := mayE_all hm
    cases hc : (edgesT g).find? (badE g.names.length (edgesT g)) with
    | some t =>
      refine levelsOver_no W g.start v1 v2 nm ng 801 (Or.inr rfl) (p1, g.names.length, l1) (p2, g.rules.length, c2) hv1 hv2 (fun w hb => (strata_cyc g v1 v2 w (ga.any hb) hN hS hM t hc).mono ?_)
      rintro e w' ⟨u, f, h1, _, h3, h4⟩
      obtain ⟨p, c, hu⟩ := h3.out.slc
      subst hu
      exact ⟨_, _, _, _, _, _, h1, h4⟩
    | none =>
      have hcl := clean_of hl hc
      refine levelsOver_core W g v1 v2 nm ng hwf g.names.length rfl (mayG_pos hM) (mayG_names hM) (mayG_rules hM) (levT g.names.length (edgesT g)) (fun i hi => by have := lev_lt hl hcl hi; have := mayG_names hM; omega) (p1, l1) (p2, g.rules.length, c2) hv1 hv2 (fun w hb => strata_ok g v1 v2 w (ga.any hb) hN hS hM hc)
        (fun w hb => (copyGr_own g v1 v2 w (ga.any hb) gz').mono fun e w' ⟨u1, u2, h1, _, h3, h4⟩ => ⟨u1, u2, h1, h3, h4⟩) ?_
      intro k u1 u2 w hk hg
      have hN2 : ∀ s, s ∈ (overG g k ng n0t).names → s.size ≤ maxLen := fun s hs => by
        rcases List.mem_append.1 hs with hs | hs
        · exact hN s hs
        · obtain rfl : s = n0t := by simpa using hs
          show 3 ≤ maxLen
          unfold maxLen; omega
      have hS2 : Short (overG g k ng n0t).rules := fun r hr c hc => by
        rcases List.mem_append.1 hr with hr | hr
        · exact hS r hr c hc
        · obtain rfl : r = ⟨(g.names.length : Int), [⟨ng, [⟨(k : Int), 0, 0⟩]⟩]⟩ := by simpa using hr
          obtain rfl : c = ⟨ng, [⟨(k : Int), 0, 0⟩]⟩ := by simpa using hc
          simp
      cases hM2 : mayG (overG g k ng n0t) with
      | true =>
        left
        have he := over_edges (k := k) (neg := ng) (s := n0t) hM hl
        have hnl : (overG g k ng n0t).names.length = g.names.length + 1 := by simp [overG]
        have hb2 : (edgesT (overG g k ng n0t)).find? (badE (overG g k ng n0t).names.length (edgesT (overG g k ng n0t))) = none := by
          rw [he, hnl]
          exact not_bad (over_eds hl hk) (over_clean hl hk hcl)
        have h := strata_ok (overG g k ng n0t) u1 u2 w hg hN2 hS2 hM2 hb2
        rw [he, hnl, over_levL hl hk hcl] at h
        exact h
      | false =>
        right
        refine ⟨strata_no (overG g k ng n0t) u1 u2 w hg hN2 hS2 hM2, fun w2 hb => ?_⟩
        have h := mayG_ref (overG g k ng n0t) u1 u2 w2 (hg.any hb) hN2
        rw [refMay_eq, hM2] at h
        exact h
end Go.Proofs.Ytipnfiaphmddiaa
/- LevelsOver: a name over another one, negated or not, stands one level above it or as high; the others stay: at every argument, with no condition. -/
namespace Go.Proofs.Ytipnfiaphmddiaa
set_option linter.unusedVariables false
open Go.ChangeShapes Go.WideShapes Go.ChangeAt Go.RowKit


set_option linter.unusedVariables false
theorem levelsOver_own : ownKnob Try.prog.godebug = none := by kernel_rfl
set_option maxRecDepth 100000 in
theorem levelsOver_lifted (os : Os) (started : os.Started) (H : Type) (enc : TypeId × Value → H) :
    ReturnsInHanded {} Try.checked os 7 .any (Rows.levelsOverSpec.pre6 enc Try.prog Try.f7 Rows.levelsOverRow.domain false) (Rows.levelsOverSpec.post enc Try.prog Try.f7 false true false false) := by
  refine returnsInHanded_of_change_sized (C := Try.checked) levelsOver_own started (by kernel_rfl) Try.func7
    (ChangeSpec.witness6 (enc := enc) (C := Try.checked) false ⟨#[], #[.agg #[.int .i64 0, .slice none 0 0, .slice none 0 0], .int .i64 0, .bool false], []⟩ 8 (by kernel_rfl) (by kernel_rfl) (by kernel_rfl) (by kernel_rfl)) ?_
  intro W base args ds gs before hval0 hW hcnd hsz0 _
  have hsz : (DataW.weightsEach Try.prog (Try.f7.params.toList ++ Rows.levelsOverSpec.plain.varTypes Try.prog) (ds ++ gs)).all (· ≤ reachBytes) = true := hsz0
  have hval : ∀ (j : Nat) t v, Try.f7.params[j]? = some t → args[j]? = some v → Value.okWide Try.prog W .any base t v := hval0
  have hW' := hW
  obtain ⟨p, q, hA0, hV, rfl, hfz, hnd⟩ := hW
  have hA : DataW.TrodAll enc Try.prog W 0 (fun _ => true) true Try.f7.params.toList args.toList ds p := hA0
  rw [Try.params7] at hA hval hsz
  obtain ⟨v0, vs0, d0, ds0, p0, q0, hargs, rfl, rfl, h0, r0⟩ := trodAll_cons hA
  obtain ⟨v1, vs1, d1, ds1, p1, q1, rfl, rfl, rfl, h1, r1⟩ := trodAll_cons r0
  obtain ⟨v2, vs2, d2, ds2, p2, q2, rfl, rfl, rfl, h2, r2⟩ := trodAll_cons r1
  obtain ⟨rfl, rfl, rfl⟩ := trodAll_nil r2
  obtain rfl : args = #[v0, v1, v2] := by cases args; simp_all
  obtain ⟨rfl, rfl⟩ := trodVars_none hV
  clear hA0 hval0 hsz0
  have k0 := h0
  have lt0 : ∀ x ∈ p0, x.block < W.heap.size := fun x hx => by have := hW'.lt x (by simp [hx]); simpa using this
  have k1 := h1
  have lt1 : ∀ x ∈ p1, x.block < W.heap.size := fun x hx => by have := hW'.lt x (by simp [hx]); simpa using this
  have k2 := h2
  have lt2 : ∀ x ∈ p2, x.block < W.heap.size := fun x hx => by have := hW'.lt x (by simp [hx]); simpa using this
  obtain ⟨cs0, rfl, op0⟩ := open_agg (j := 0) Try.structGr (hval 0 25 v0 rfl rfl) h0 (fun b o hm => hfz b o (by simp [hm])) hsz rfl rfl
  obtain ⟨g0, ga0, gb0, rfl, gi0, gn0, gs0, w0⟩ := op_gramZ op0
  obtain ⟨a1, rfl, rfl, rfl, w1⟩ := open_int Try.underlying3 (hval 1 3 v1 rfl rfl) h1
  obtain ⟨a2, rfl, rfl, rfl⟩ := open_bool Try.underlying4 (hval 2 4 v2 rfl rfl) h2
  refine (levelsOver_walk W g0 ga0 gb0 gi0 gn0 gs0 w0 a1 w1 a2).mono fun e W' ⟨he, bel⟩ => ?_
  subst he
  exact ⟨_, rfl, _, _, _, [], _, [], hW', trodAll_mk1 (shut_bool Try.underlying4 _), (trodAll_cons_mk (Below.trod Try.laidOutB (by kernel_rfl) (of_decide_eq_true (by kernel_rfl)) k0 bel lt0) (trodAll_cons_mk (Below.trod Try.laidOutB (by kernel_rfl) (of_decide_eq_true (by kernel_rfl)) k1 bel lt1) (trodAll_cons_mk (Below.trod Try.laidOutB (by kernel_rfl) (of_decide_eq_true (by kernel_rfl)) k2 bel lt2) trodAll_mk0))), rfl, bel.frame _, fun h => by cases h⟩

set_option maxHeartbeats 8000000 in
theorem levelsOver_closed : joinedFacts Try.checked.prog 7 Try.f7 Rows.levelsOverSpec Rows.levelsOverRow = true := by
  unfold joinedFacts
  iterate 31 (refine and_ok ?_ ?_)
  all_goals first | (with_reducible exact enter_ok) | (rw [lifts_no]; rfl) | (rw [make_cut]; rfl) | as_aux_lemma => kernel_rfl
theorem levelsOver_holds : Rows.LevelsOverSaid :=
  OpenClaim.holds_of_wide 7 Try.f7 rfl rfl rfl rfl rfl rfl rfl ⟨rfl, rfl, rfl, rfl, rfl⟩ rfl rfl rfl rfl rfl (by kernel_rfl) Try.func7 levelsOver_closed
    (of_decide_eq_true (by kernel_rfl)) (by unfold Func.isWrapper; first | (rw [if_pos (by decide +kernel)]; kernel_rfl) | (rw [if_neg (by decide +kernel)]; exact ⟨rfl, rfl⟩))
    (fun os started H enc _ => levelsOver_lifted os started H enc)
#print axioms levelsOver_holds
end Go.Proofs.Ytipnfiaphmddiaa
