/- DependsRows, walked. -/
import Derived.Test.YtaofocfiipemaaaDepRowsT
import Derived.Test.YtaofocfiipemaaaGramVar2
import Derived.Test.YtaofocfiipemaaaDepStd
import Derived.Test.YtaofocfiipemaaaLawOpen
import Derived.Deep.CutRange
namespace Go.Proofs.Ytaofocfiipemaaa
set_option linter.unusedVariables false
open Go.ChangeShapes Go.WideShapes Go.ChangeAt Go.RowKit

theorem and31 (x : Int) : ∃ n : Nat, n < 32 ∧ bits .and .i64 x 31 = (n : Int) := by
  have h : (BitVec.ofInt 64 x &&& BitVec.ofInt 64 31).toNat < 32 := by
    rw [BitVec.toNat_and]
    exact Nat.lt_of_le_of_lt Nat.and_le_right (by decide)
  refine ⟨_, h, ?_⟩
  show IntKind.i64.wrap ((BitVec.ofInt 64 x &&& BitVec.ofInt 64 31).toNat : Int) = _
  generalize (BitVec.ofInt 64 x &&& BitVec.ofInt 64 31).toNat = n at h
  rw [IntKind.wrap_i64]; omega
theorem cellR {w : World} {b : Nat} {arr : Array Value} {t : TypeId} (h : w.heap[b]? = some (.cells arr t)) (j : Nat) : w.cell? ⟨b, j, none⟩ = arr[j]? := Lib.cell_of_heap h j
theorem frzR {w : World} {b : Nat} {arr : Array Value} {t : TypeId} (h : w.heap[b]? = some (.cells arr t)) (j : Nat) : w.frozen? ⟨b, j, none⟩ = false := by unfold World.frozen?; rw [h]; simp
theorem Try.infoStrR : (Try.prog.info? 9).map (fun i => (i.zero, i.size, i.bytes)) = some (some (.string ⟨#[]⟩), 1, 16) := by kernel_rfl
theorem Try.infoConR : (Try.prog.info? 47).map (fun i => (i.zero, i.size, i.bytes)) = some (some (.agg #[.bool false, .slice none 0 0]), 2, 32) := by kernel_rfl
theorem Try.infoRuleR : (Try.prog.info? 44).map (fun i => (i.zero, i.size, i.bytes)) = some (some (.agg #[.int .i64 0, .slice none 0 0]), 2, 32) := by kernel_rfl
def ngR (zs : List Int) (i : Nat) : Bool := match zs[i]? with
  | some z => bits .and .i64 z 1 == 1
  | none => false
/-- Just ahead of a rule's append. -/
structure Pre (w1 : World) (gb nr : Nat) (F Fc : Nat → Prop) (ns : List ByteArray) (nv : Value) (L : List Ru) (us : List Value) (o : Value) (n : Nat) (E : List Ed) (ev : Value) (h : Int) (c : Value) (cs : List Cn) (Z : World) : Prop where
  gv : GV w1 gb F 0 ns nv L us o Z
  wt : Z.ownsRow w1.heap.size 40 3 ev n (edsV E)
  ic : IsCns Z Fc c cs
  fc : ∀ b, Fc b → w1.heap.size ≤ b ∧ b < Z.heap.size ∧ b ≠ gb ∧ nv.ownBlock ≠ some b ∧ o.ownBlock ≠ some b
  rb : Z.heap[nr]? = some (.cells #[.int .i64 h, c] 44)
  nf : ∀ b, ev.ownBlock = some b → ¬ F b ∧ ¬ Fc b
theorem Pre.fin {w1 : World} {gb nr : Nat} {F Fc : Nat → Prop} {ns : List ByteArray} {nv o ev c : Value} {L : List Ru} {us : List Value} {n : Nat} {E : List Ed} {h : Int} {cs : List Cn} {Z w2 : World} (p : Pre w1 gb nr F Fc ns nv L us o n E ev h c cs Z) {k g cap : Nat} (hn : L.length = k)
    (hg : (Z.alloc (.cells #[.int .i64 h, c] 44)).grownBy w2 o.ownBlock) (hown : w2.ownsRow w1.heap.size 44 2 (.slice (some ⟨g, 0, none⟩) (k + 1) cap) (k + 1) (rusV L us ++ [.int .i64 h, c])) (hat : o.ownBlock = some g ∨ g = Z.heap.size + 1) {L' : List Ru} (hL : L' = L ++ [⟨h, cs⟩]) :
    GV w1 gb (fun b => F b ∨ Fc b) 0 ns nv L' (us ++ [c]) (.slice (some ⟨g, 0, none⟩) (k + 1) cap) (w2.setCell ⟨gb, 2, none⟩ (.slice (some ⟨g, 0, none⟩) (k + 1) cap)) ∧ (w2.setCell ⟨gb, 2, none⟩ (.slice (some ⟨g, 0, none⟩) (k + 1) cap)).ownsRow w1.heap.size 40 3 ev n (edsV E) ∧ ∀ b, ev.ownBlock = some b → ¬ (F b ∨ Fc b) := by
  refine ⟨p.gv.ruleG p.ic p.fc hn hg hown hat hL, ?_, fun b e hF => ?_⟩
  · exact ownsRow_setCell_other (a := ⟨gb, 2, none⟩) (row_grown (p.wt.alloc _) (p.gv.m0.oo.alloc _) (by decide) hg) (row_no p.wt (by decide) p.gv.vb) _
  · rcases hF with hF | hF
    · exact (p.nf b e).1 hF
    · exact (p.nf b e).2 hF
/-- What was made in new blocks alone, ahead of an edge's append. -/
theorem pre_new {w1 X Z : World} {gb nr : Nat} {F : Nat → Prop} {ns : List ByteArray} {nv o ev c : Value} {L : List Ru} {us : List Value} {n : Nat} {E : List Ed} {h : Int} {cs : List Cn} {Fc : Nat → Prop} (gv : GV w1 gb F 0 ns nv L us o X) (wt : X.ownsRow w1.heap.size 40 3 ev n (edsV E)) (nf : ∀ b, ev.ownBlock = some b → ¬ F b) (hb : Below X.heap.size X Z)
    (ic : IsCns Z Fc c cs) (hFc : ∀ b, Fc b → X.heap.size ≤ b ∧ b < Z.heap.size) (rb : Z.heap[nr]? = some (.cells #[.int .i64 h, c] 44)) : Pre w1 gb nr F Fc ns nv L us o n E ev h c cs Z := by
  have hx := gv.m0.bl.size
  have hgl := block_lt gv.vb
  refine ⟨gv.keep hb, row_keep wt hb, ic, fun b hF => ⟨by have := (hFc b hF).1; omega, (hFc b hF).2, fun e => by have := (hFc b hF).1; omega, fun e => by have := (gv.on.lt b e).2; have := (hFc b hF).1; omega, fun e => by have := (gv.m0.oo.lt b e).2; have := (hFc b hF).1; omega⟩, rb, fun b e => ⟨nf b e, fun hF => by have := (wt.lt b e).2; have := (hFc b hF).1; omega⟩⟩
/-- An edge's append. -/
theorem Pre.edge {w1 X : World} {gb nr : Nat} {F Fc : Nat → Prop} {ns : List ByteArray} {nv o ev c : Value} {L : List Ru} {us : List Value} {n : Nat} {E : List Ed} {h : Int} {cs : List Cn} {Z w2 : World} (p : Pre w1 gb nr F Fc ns nv L us o n E ev h c cs Z) {ob : Obj} {g cap : Nat} {x : Ed}
    (hg : (Z.alloc ob).grownBy w2 ev.ownBlock) (hown : w2.ownsRow w1.heap.size 40 3 (.slice (some ⟨g, 0, none⟩) (n + 1) cap) (n + 1) (edsV E ++ edV x)) (hat : ev.ownBlock = some g ∨ g = Z.heap.size + 1) :
    Pre w1 gb nr F Fc ns nv L us o (n + 1) (E ++ [x]) (.slice (some ⟨g, 0, none⟩) (n + 1) cap) h c cs w2 := by
  have hz : (Z.alloc ob).heap.size = Z.heap.size + 1 := by simp
  have gs := hg.size
  have hS : Stay Fc (Z.alloc ob) w2 := ⟨hg.size, fun b hF => hg.block b (by have := (p.fc b hF).2.1; omega) (fun e => (p.nf b e.symm).2 hF)⟩
  refine ⟨(p.gv.keep (bel1 Z ob)).beside (p.wt.alloc ob) (fun b e => (p.nf b e).1) hg, ?_, (p.ic.any (bel1 Z ob)).keep hS (fun _ h => h), fun b hF => ⟨(p.fc b hF).1, by have := (p.fc b hF).2.1; omega, (p.fc b hF).2.2⟩, ?_, fun b e => ?_⟩
  · rw [edsV_append]; simpa [edsV] using hown
  · exact (hg.block nr (by have := block_lt p.rb; omega) (Ne.symm (row_no p.wt (by decide) p.rb))).trans ((heap_alloc_old _ (block_lt p.rb)).trans p.rb)
  · obtain rfl : g = b := by injection e
    rcases hat with e3 | e3
    · exact p.nf g e3
    · exact ⟨fun hF => by have := (p.gv.m0.fl g hF).2; omega, fun hF => by have := (p.fc g hF).2.1; omega⟩
/-- A block that is a row, read. -/
theorem reads_blk {w : World} {F : Nat → Prop} {g n : Nat} {arr : Array Value} {t : TypeId} {cs : List Value} (h : w.heap[g]? = some (.cells arr t)) (hF : F g) (hn : n ≤ maxLen) (hc : arr.toList = cs) : Reads w F (.slice (some ⟨g, 0, none⟩) n n) n cs := by
  subst hc
  refine ⟨some ⟨g, 0, none⟩, n, rfl, ⟨hn, Nat.le_refl _⟩, fun _ => ⟨g, 0, rfl, hF, block_lt h, fun j c hj => ?_, fun j _ => by rw [Nat.zero_add]; exact frzR h j⟩⟩
  rw [Nat.zero_add, cellR h j]
  simpa using hj
/-- The second conjunct is appended to a rule's first one, all in new blocks. -/
theorem conj_two {X w3 : World} {i : Int} {s1 : Int} {ng : Bool} {gg cap : Nat}
    (hown : w3.ownsRow X.heap.size 47 2 (.slice (some ⟨gg, 0, none⟩) (1 + 1) cap) (1 + 1) ([.bool false, .slice none 0 0] ++ [.bool ng, .slice (some ⟨X.heap.size + 1 + 1, 0, none⟩) 2 2]))
    (hg : ((((X.alloc (.cells #[.bool false, .slice none 0 0] 47)).alloc (.cells #[.int .i64 i, .slice (some ⟨X.heap.size, 0, none⟩) 1 1] 44)).alloc (.cells #[.int .i64 s1, .int .i64 0, .int .i64 0, .int .i64 s1, .int .i64 0, .int .i64 0] 49)).alloc (.cells #[.bool ng, .slice (some ⟨X.heap.size + 1 + 1, 0, none⟩) 2 2] 47)).grownBy w3 (Value.slice (some ⟨X.heap.size, 0, none⟩) 1 1).ownBlock) :
    Below X.heap.size X (w3.setCell ⟨X.heap.size + 1, 1, none⟩ (.slice (some ⟨gg, 0, none⟩) (1 + 1) cap)) ∧ IsCns (w3.setCell ⟨X.heap.size + 1, 1, none⟩ (.slice (some ⟨gg, 0, none⟩) (1 + 1) cap)) (fun b => X.heap.size ≤ b ∧ b < w3.heap.size) (.slice (some ⟨gg, 0, none⟩) (1 + 1) cap) [⟨false, []⟩, ⟨ng, [⟨s1, 0, 0⟩, ⟨s1, 0, 0⟩]⟩] ∧ (w3.setCell ⟨X.heap.size + 1, 1, none⟩ (.slice (some ⟨gg, 0, none⟩) (1 + 1) cap)).heap[X.heap.size + 1]? = some (.cells #[.int .i64 i, .slice (some ⟨gg, 0, none⟩) (1 + 1) cap] 44) ∧ w3.cell? ⟨X.heap.size + 1, 1, none⟩ = some (.slice (some ⟨X.heap.size, 0, none⟩) 1 1) ∧ w3.frozen? ⟨X.heap.size + 1, 1, none⟩ = false := by
  have e1 : (X.alloc (.cells #[.bool false, .slice none 0 0] 47)).heap.size = X.heap.size + 1 := by simp
  have e2 : ((X.alloc (.cells #[.bool false, .slice none 0 0] 47)).alloc (.cells #[.int .i64 i, .slice (some ⟨X.heap.size, 0, none⟩) 1 1] 44)).heap.size = X.heap.size + 2 := by simp
  have e3 : (((X.alloc (.cells #[.bool false, .slice none 0 0] 47)).alloc (.cells #[.int .i64 i, .slice (some ⟨X.heap.size, 0, none⟩) 1 1] 44)).alloc (.cells #[.int .i64 s1, .int .i64 0, .int .i64 0, .int .i64 s1, .int .i64 0, .int .i64 0] 49)).heap.size = X.heap.size + 3 := by simp
  have r0 := heap_alloc_new (X.alloc (.cells #[.bool false, .slice none 0 0] 47)) (.cells #[.int .i64 i, .slice (some ⟨X.heap.size, 0, none⟩) 1 1] 44)
  rw [e1] at r0
  have s0 := heap_alloc_new ((X.alloc (.cells #[.bool false, .slice none 0 0] 47)).alloc (.cells #[.int .i64 i, .slice (some ⟨X.heap.size, 0, none⟩) 1 1] 44)) (.cells #[.int .i64 s1, .int .i64 0, .int .i64 0, .int .i64 s1, .int .i64 0, .int .i64 0] 49)
  rw [e2] at s0
  have hb4 : Below X.heap.size X ((((X.alloc (.cells #[.bool false, .slice none 0 0] 47)).alloc (.cells #[.int .i64 i, .slice (some ⟨X.heap.size, 0, none⟩) 1 1] 44)).alloc (.cells #[.int .i64 s1, .int .i64 0, .int .i64 0, .int .i64 s1, .int .i64 0, .int .i64 0] 49)).alloc (.cells #[.bool ng, .slice (some ⟨X.heap.size + 1 + 1, 0, none⟩) 2 2] 47)) := (((bel1 X _).alloc (by omega) _).alloc (by omega) _).alloc (by omega) _
  have gs := hg.size
  simp at gs
  have r3 : w3.heap[X.heap.size + 1]? = some (.cells #[.int .i64 i, .slice (some ⟨X.heap.size, 0, none⟩) 1 1] 44) := (hg.block _ (by simp) (fun e => by simp [Value.ownBlock] at e)).trans ((heap_alloc_old _ (by omega)).trans ((heap_alloc_old _ (by omega)).trans r0))
  have s3 : w3.heap[X.heap.size + 2]? = some (.cells #[.int .i64 s1, .int .i64 0, .int .i64 0, .int .i64 s1, .int .i64 0, .int .i64 0] 49) := (hg.block _ (by simp) (fun e => by simp [Value.ownBlock] at e)).trans ((heap_alloc_old _ (by omega)).trans s0)
  have hgl := hown.lt gg rfl
  have own4 := ownsRow_setCell_other (a := ⟨X.heap.size + 1, 1, none⟩) hown (row_no hown (by decide) r3) (.slice (some ⟨gg, 0, none⟩) (1 + 1) cap)
  have s4 : (w3.setCell ⟨X.heap.size + 1, 1, none⟩ (.slice (some ⟨gg, 0, none⟩) (1 + 1) cap)).heap[X.heap.size + 2]? = some (.cells #[.int .i64 s1, .int .i64 0, .int .i64 0, .int .i64 s1, .int .i64 0, .int .i64 0] 49) := (Below.heap_setCell _ _ _ _ (by simp)).trans s3
  refine ⟨(hb4.grown hg hb4.size (fun k hk => by simp [Value.ownBlock] at hk; omega)).setCell (p := ⟨X.heap.size + 1, 1, none⟩) (by simp) _, ⟨[.slice none 0 0, .slice (some ⟨X.heap.size + 1 + 1, 0, none⟩) 2 2], ?_, ?_⟩, ?_, cellR r3 1, frzR r3 1⟩
  · refine Reads.of own4 (fun b e => ?_)
    obtain rfl : gg = b := by injection e
    exact hgl
  · refine ((CnsIn.nil _ _).snoc (c := ⟨false, []⟩) (sysE_nil _ _)).snoc (c := ⟨ng, [⟨s1, 0, 0⟩, ⟨s1, 0, 0⟩]⟩) ?_
    exact reads_blk s4 ⟨by omega, by omega⟩ (by unfold maxLen; omega) rfl
  · exact heap_setCell_same w3 _ 1 _ _ _ r3
set_option maxHeartbeats 16000000 in
set_option maxRecDepth 100000 in
theorem dependsRows_walk (W : World) (a : Int) (wa : (Lit.int .i64 a).wf = true) (v : Value) (zs : List Int) (row : IRow W v zs) (wz : ∀ z, z ∈ zs → (Lit.int .i64 z).wf = true) (hz : zs.length * 8 ≤ 140737488351232) :
    Calls Try.prog 6 #[.int .i64 a, v] W fun e W' => e = .returned (.bool true) ∧ Below W.heap.size W W' := by
  obtain ⟨x, hx32, hxa⟩ := and31 a
  obtain ⟨kk, hkk⟩ : ∃ kk, kk = x + 2 := ⟨_, rfl⟩
  have hk34 : kk < 34 := by omega
  have hk2 : 2 ≤ kk := by omega
  have hxk : (2 : Int) + (x : Int) = (kk : Int) := by omega
  obtain ⟨pv, cv, hv⟩ : ∃ p c, v = .slice p zs.length c := by obtain ⟨p, c, e, _⟩ := row; exact ⟨p, c, e⟩
  subst hv
  have HROW : Hid (IRow W (.slice pv zs.length cv) zs) := row
  have HNG : Hid (∀ i, i < zs.length → ∀ w', Below W.heap.size W w' → ∃ g o z, pv = some ⟨g, o, none⟩ ∧ w'.cell? ⟨g, o + i, none⟩ = some (.int .i64 z) ∧ (bits .and .i64 z 1 == 1) = ngR zs i) := fun i hi w' hb => by
    obtain ⟨p, c, e, _, h⟩ := row.keep hb
    injection e with e1
    subst e1
    obtain ⟨z, hz⟩ : ∃ z, zs[i]? = some z := ⟨_, List.getElem?_eq_getElem hi⟩
    obtain ⟨g, o, e2, _, h2⟩ := h i z hz
    exact ⟨g, o, z, e2, h2, by unfold ngR; rw [hz]⟩
  have HNO : Hid (∀ i, ¬ i < zs.length → ngR zs i = false) := fun i hi => by unfold ngR; rw [List.getElem?_eq_none (by omega)]
  obtain ⟨ng, hng⟩ : ∃ ng, ng = ngR zs := ⟨_, rfl⟩
  rw [← hng] at HNG HNO
  obtain ⟨zn, hzn⟩ : ∃ zn, zn = zs.length := ⟨_, rfl⟩
  have hz8 : zn * 8 ≤ 140737488351232 := by rw [hzn]; exact hz
  rw [← hzn] at HNG HNO ⊢
  have HKK : Hid (kk = x + 2) := hkk
  clear row wz hng hzn hz wa hkk HROW
  go_enter Try.func6, Try.ntmps6
  go_wp2_with (go_at_call 21; refine (awake6_any _).mono ?_; rintro e w1 ⟨rfl, b1⟩; have HB1 : Hid (Below W.heap.size W w1) := b1; clear b1)
  clear hxa hxk hx32
  obtain ⟨gb, hgb⟩ : ∃ gb, gb = w1.heap.size := ⟨_, rfl⟩
  have HGB : Hid (gb = w1.heap.size) := hgb
  rw [← hgb]
  have GV0 : Hid (GV w1 gb (fun _ => False) 0 [] (.slice none 0 0) [] [] (.slice none 0 0) (w1.alloc (.cells #[.int .i64 0, .slice none 0 0, .slice none 0 0] 25))) := by rw [hgb]; exact GV.new0 w1
  clear hgb
  go_loopw [7, 8] (fun ev j wr => ∃ i : Nat, i ≤ kk ∧ j = .int .i64 i ∧ ∃ F nv us o, Hid (GV w1 gb F 0 (nmsR i) nv (rusR kk ng i) us o wr) ∧ Hid (wr.ownsRow w1.heap.size 40 3 ev (min i (kk - 1)) (edsV (wantR ng (min i (kk - 1))))) ∧ Hid (∀ b, ev.ownBlock = some b → ¬ F b)) (fun _ j _ => kk - (intOf j).toNat)
  case atStart => exact ⟨0, Nat.zero_le _, rfl, _, _, _, _, GV0, by show World.ownsRow _ _ _ _ _ _ _; rw [show min 0 (kk - 1) = 0 by omega]; exact World.ownsRow_nil _ _ _ _, fun b e h => h⟩
  case round =>
    obtain ⟨i, hi, rfl, F, nv, us, o, GVi, WT, NF⟩ := hrel
    obtain ⟨V, hV⟩ : ∃ V, V = wr := ⟨_, rfl⟩
    subst hV
    have hgl : gb < V.heap.size := block_lt GVi.out.vb
    have hwV : w1.heap.size ≤ V.heap.size := GVi.out.m0.bl.size
    by_cases hlt : i < kk
    · have hmin : min i (kk - 1) = i := by omega
      rw [hmin] at WT
      have nr := GVi.out.on
      rw [nmsR_len] at nr
      obtain ⟨pn, cn, hvn⟩ := row_slice nr
      subst hvn
      have NR : Hid (V.ownsRow w1.heap.size 9 1 (.slice pn i cn) i (txV (nmsR i))) := nr
      have g1 : V.cell? ⟨gb, 1, none⟩ = some (.slice pn i cn) := cellR GVi.out.vb 1
      have RN1 : Hid ((Value.slice pn i cn).ownBlock ≠ some gb) := row_no NR.out (by decide) GVi.out.vb
      have MR : Calls Try.prog 25 #[.int .i64 (i : Int)] V.drew fun e w2 => e = .returned (.string (decT i)) ∧ Hid (Below V.heap.size V w2) ∧ w2.cell? ⟨gb, 1, none⟩ = some (.slice pn i cn) ∧ w2.frozen? ⟨gb, 1, none⟩ = false ∧ w1.heap.size ≤ w2.heap.size ∧ gb < w2.heap.size ∧ Hid (w2.ownsRow w1.heap.size 9 1 (.slice pn i cn) i (txV (nmsR i))) := by
        refine (decimal_any i (by omega) _).mono ?_
        rintro e w2 ⟨rfl, hb⟩
        have hb0 : Below V.heap.size V V.drew := (Below.refl _ _).drew
        have hb1 := hb0.trans hb
        exact ⟨rfl, hb1, (hb1.cell (p := ⟨_, _, none⟩) hgl).trans g1, (hb1.frozen (p := ⟨_, _, none⟩) hgl).trans (frzR GVi.out.vb 1), Nat.le_trans hwV hb1.size, Nat.lt_of_lt_of_le hgl hb1.size, row_keep NR.out hb1⟩
      have hds : ¬ 9223372036854775807 < 1 + (decT i).size := by have := dec_sizeR i; omega
      obtain ⟨is, hs0, hs1, hs2, hs3⟩ := info_parts Try.infoStrR
      have HS : Hid (Try.prog.info? 9 = some is ∧ is.zero = some (.string ⟨#[]⟩) ∧ is.size = 1 ∧ is.bytes = 16) := ⟨hs0, hs1, hs2, hs3⟩
      have MX : Hid (i + 1 ≤ maxLen) := by show _ ≤ _; unfold maxLen; omega
      have BY : Hid ((i + 1) * 16 ≤ 140737488355328) := by show _ ≤ _; omega
      clear nr hs0 hs1 hs2 hs3 hmin
      go_wp2_with (fail)
      go_cut [] from 18 to 78 (fun wc => ∃ nv2, Hid (GV w1 gb F 0 (nmsR (i + 1)) nv2 (rusR kk ng i) us o wc) ∧ Hid (wc.ownsRow w1.heap.size 40 3 u7 i (edsV (wantR ng i))))
      case first =>
        go_region_law (first | (refine step_append_lies _ (by rfl) _ _ _ (by rfl) w1.heap.size 9 is _ 1 16 Try.underlying22 HS.out.1 HS.out.2.1 HS.out.2.2.1 HS.out.2.2.2 rfl (by omega) (.slice pn i cn) i (txV (nmsR i)) (by rfl) (o1.out.alloc _) ⟨w2.heap.size, 0, none⟩ 1 1 [.string (nmR i)] (by rfl) (by rfl) (World.news_of_block (cs := #[.string (nmR i)]) (t := 9) (fr := (0, 0)) (heap_alloc_new w2 _)) (by simp [Value.oneCell']) (by omega) MX.out BY.out (Nat.le_trans hW1 (le_alloc _ _)) (w2.heap.size + 1) (by simp) ?_; intro gg cap1 w3 hown1 hgrow hat hltg; have x1 : w3.cell? ⟨gb, 1, none⟩ = some (.slice pn i cn) := (hgrow.cell_far ⟨gb, 1, none⟩ (by simp; omega) (Ne.symm RN1.out)).trans ((World.cell?_alloc_past _ _ _ hR1).trans r1'); have y1 : w3.frozen? ⟨gb, 1, none⟩ = false := (hgrow.frozen_far ⟨gb, 1, none⟩ (by simp; omega) (Ne.symm RN1.out)).trans ((World.frozen?_alloc_past _ _ _ hR1).trans f1')) | (go_simp; refine MR.mono ?_; rintro e w2 ⟨rfl, b1, r1', f1', hW1, hR1, o1⟩))
        all_goals
          have FIN1 : Hid (GV w1 gb F 0 (nmsR (i + 1)) (.slice (some ⟨gg, 0, none⟩) (i + 1) cap1) (rusR kk ng i) us o (w3.setCell ⟨gb, 1, none⟩ (.slice (some ⟨gg, 0, none⟩) (i + 1) cap1))) := by
            show GV _ _ _ _ _ _ _ _ _ _
            rw [nmsR_succ]
            exact GVi.out.name b1.out (nmsR_len i) hgrow hown1 hat
          have FIN2 : Hid ((w3.setCell ⟨gb, 1, none⟩ (.slice (some ⟨gg, 0, none⟩) (i + 1) cap1)).ownsRow w1.heap.size 40 3 u7 i (edsV (wantR ng i))) := by
            have h1 := (row_keep WT.out b1.out).alloc (.cells #[.string (nmR i)] 9)
            have h2 := row_grown h1 (o1.out.alloc (.cells #[.string (nmR i)] 9)) (by decide) hgrow
            exact ownsRow_setCell_other (a := ⟨gb, 1, none⟩) h2 (row_no WT.out (by decide) GVi.out.vb) _
          clear hgrow hown1 hat x1 y1
          go_wp2
          go_meet
          case rel => exact ⟨_, FIN1, FIN2⟩
      case rest =>
        obtain ⟨nv2, GVx, WTx⟩ := hcut
        obtain ⟨X, hX⟩ : ∃ X, X = wc := ⟨_, rfl⟩
        subst hX
        have HBX : Hid (Below W.heap.size W X) := HB1.out.trans (GVx.out.m0.bl.mono HB1.out.size)
        clear GVi WT NR RN1 MR g1 MX BY HS hds hgl hwV
        go_upto_region 10 with fail
        go_cut [9] from 18 to 78 (fun b wc => b = .bool (ng i) ∧ Hid (wc = X))
        case first =>
          by_cases hin : i < zn
          · obtain ⟨g0, o0, z, hp, cz, hb⟩ := HNG.out i hin X HBX.out
            subst hp
            go_wp2
            go_meet
            case rel => first | exact ⟨rfl, rfl⟩ | exact ⟨by rw [hb], rfl⟩
          · have hb := HNO.out i hin
            go_wp2
            go_meet
            case rel => first | exact ⟨rfl, rfl⟩ | exact ⟨by rw [hb], rfl⟩
        case rest =>
          obtain ⟨hb9, hwc⟩ := hcut
          have hwc2 : wc = X := hwc
          subst hb9 hwc2
          obtain ⟨X, hX⟩ : ∃ X, X = wc := ⟨_, rfl⟩
          subst hX
          have oo := GVx.out.m0.oo
          rw [rusR_len] at oo
          obtain ⟨po, co, hvo⟩ := row_slice oo
          subst hvo
          obtain ⟨i3, hj0, hj1, hj2, hj3⟩ := info_parts Try.infoRuleR
          have HI3 : Hid (Try.prog.info? 44 = some i3 ∧ i3.zero = some (.agg #[.int .i64 0, .slice none 0 0]) ∧ i3.size = 2 ∧ i3.bytes = 32) := ⟨hj0, hj1, hj2, hj3⟩
          obtain ⟨i2, hk0, hk1, hk2', hk3⟩ := info_parts Try.infoConR
          have HI2 : Hid (Try.prog.info? 47 = some i2 ∧ i2.zero = some (.agg #[.bool false, .slice none 0 0]) ∧ i2.size = 2 ∧ i2.bytes = 32) := ⟨hk0, hk1, hk2', hk3⟩
          obtain ⟨i4, hl0, hl1, hl2, hl3⟩ := info_parts Try.infoEd
          have HI4 : Hid (Try.prog.info? 40 = some i4 ∧ i4.zero = some (.agg #[.int .i64 0, .int .i64 0, .bool false]) ∧ i4.size = 3 ∧ i4.bytes = 24) := ⟨hl0, hl1, hl2, hl3⟩
          have MX3 : Hid (i + 1 ≤ maxLen) := by show _ ≤ _; unfold maxLen; omega
          have BY3 : Hid ((i + 1) * 32 ≤ 140737488355328) := by show _ ≤ _; omega
          have BY4 : Hid ((i + 1) * 24 ≤ 140737488355328) := by show _ ≤ _; omega
          have MX2 : Hid (1 + 1 ≤ maxLen) := by show _ ≤ _; unfold maxLen; omega
          have HWX : Hid (w1.heap.size ≤ X.heap.size) := GVx.out.m0.bl.size
          have hgl : gb < X.heap.size := block_lt GVx.out.vb
          have e2 : X.cell? ⟨gb, 2, none⟩ = some (.slice po i co) := cellR GVx.out.vb 2
          clear oo hj0 hj1 hj2 hj3 hk0 hk1 hk2' hk3 hl0 hl1 hl2 hl3
          by_cases hlast : i + 1 < kk
          · have hlastI : (i : Int) + 1 < (kk : Int) := by omega
            have OW2 : Hid (((((X.alloc (.cells #[.bool false, .slice none 0 0] 47)).alloc (.cells #[.int .i64 (i : Int), .slice (some ⟨X.heap.size, 0, none⟩) 1 1] 44)).alloc (.cells #[.int .i64 ((i : Int) + 1), .int .i64 0, .int .i64 0, .int .i64 ((i : Int) + 1), .int .i64 0, .int .i64 0] 49)).alloc (.cells #[.bool (ng i), .slice (some ⟨X.heap.size + 1 + 1, 0, none⟩) 2 2] 47)).ownsRow X.heap.size 47 2 (.slice (some ⟨X.heap.size, 0, none⟩) 1 1) 1 [.bool false, .slice none 0 0]) := (((World.ownsRow_lit X #[.bool false, .slice none 0 0] 1 (Nat.le_refl _) (by unfold maxLen; omega) (by simp)).alloc _).alloc _).alloc _
            have NEW2 : Hid (((((X.alloc (.cells #[.bool false, .slice none 0 0] 47)).alloc (.cells #[.int .i64 (i : Int), .slice (some ⟨X.heap.size, 0, none⟩) 1 1] 44)).alloc (.cells #[.int .i64 ((i : Int) + 1), .int .i64 0, .int .i64 0, .int .i64 ((i : Int) + 1), .int .i64 0, .int .i64 0] 49)).alloc (.cells #[.bool (ng i), .slice (some ⟨X.heap.size + 1 + 1, 0, none⟩) 2 2] 47)).heap[X.heap.size + 1 + 1 + 1]? = some (.cells #[.bool (ng i), .slice (some ⟨X.heap.size + 1 + 1, 0, none⟩) 2 2] 47)) := by
              have h := heap_alloc_new (((X.alloc (.cells #[.bool false, .slice none 0 0] 47)).alloc (.cells #[.int .i64 (i : Int), .slice (some ⟨X.heap.size, 0, none⟩) 1 1] 44)).alloc (.cells #[.int .i64 ((i : Int) + 1), .int .i64 0, .int .i64 0, .int .i64 ((i : Int) + 1), .int .i64 0, .int .i64 0] 49)) (.cells #[.bool (ng i), .slice (some ⟨X.heap.size + 1 + 1, 0, none⟩) 2 2] 47)
              rw [show (((X.alloc (.cells #[.bool false, .slice none 0 0] 47)).alloc (.cells #[.int .i64 (i : Int), .slice (some ⟨X.heap.size, 0, none⟩) 1 1] 44)).alloc (.cells #[.int .i64 ((i : Int) + 1), .int .i64 0, .int .i64 0, .int .i64 ((i : Int) + 1), .int .i64 0, .int .i64 0] 49)).heap.size = X.heap.size + 1 + 1 + 1 by simp] at h
              exact h
            have HSZ2 : Hid (((((X.alloc (.cells #[.bool false, .slice none 0 0] 47)).alloc (.cells #[.int .i64 (i : Int), .slice (some ⟨X.heap.size, 0, none⟩) 1 1] 44)).alloc (.cells #[.int .i64 ((i : Int) + 1), .int .i64 0, .int .i64 0, .int .i64 ((i : Int) + 1), .int .i64 0, .int .i64 0] 49)).alloc (.cells #[.bool (ng i), .slice (some ⟨X.heap.size + 1 + 1, 0, none⟩) 2 2] 47)).heap.size = X.heap.size + 1 + 1 + 1 + 1) := by show _ = _; simp
            have ONE2 : Hid (∀ x ∈ [Value.bool (ng i), .slice (some ⟨X.heap.size + 1 + 1, 0, none⟩) 2 2], x.oneCell' = true) := fun x hx => by simp at hx; rcases hx with rfl | rfl <;> rfl
            have ONE4 : Hid (∀ x ∈ [Value.int .i64 (i : Int), .int .i64 ((i : Int) + 1), .bool (ng i)], x.oneCell' = true) := fun x hx => by simp at hx; rcases hx with rfl | rfl | rfl <;> rfl
            have BY2 : Hid ((1 + 1) * 32 ≤ 140737488355328) := by show _ ≤ _; omega
            have MKP : Hid (∀ (gg cap : Nat) (w3 : World), Below X.heap.size X (w3.setCell ⟨X.heap.size + 1, 1, none⟩ (.slice (some ⟨gg, 0, none⟩) 2 cap)) → IsCns (w3.setCell ⟨X.heap.size + 1, 1, none⟩ (.slice (some ⟨gg, 0, none⟩) 2 cap)) (fun b => X.heap.size ≤ b ∧ b < w3.heap.size) (.slice (some ⟨gg, 0, none⟩) 2 cap) [⟨false, []⟩, ⟨ng i, [⟨(i : Int) + 1, 0, 0⟩, ⟨(i : Int) + 1, 0, 0⟩]⟩] → (w3.setCell ⟨X.heap.size + 1, 1, none⟩ (.slice (some ⟨gg, 0, none⟩) 2 cap)).heap[X.heap.size + 1]? = some (.cells #[.int .i64 (i : Int), .slice (some ⟨gg, 0, none⟩) 2 cap] 44) → Pre w1 gb (X.heap.size + 1) F (fun b => X.heap.size ≤ b ∧ b < w3.heap.size) (nmsR (i + 1)) nv2 (rusR kk ng i) us (.slice po i co) i (wantR ng i) u7 (i : Int) (.slice (some ⟨gg, 0, none⟩) 2 cap) (cjR kk ng i) (w3.setCell ⟨X.heap.size + 1, 1, none⟩ (.slice (some ⟨gg, 0, none⟩) 2 cap))) := fun gg cap w3 h1 h2 h3 =>
              pre_new GVx.out WTx.out NF.out h1 (by unfold cjR; rw [if_pos hlast]; exact h2) (fun b h => ⟨h.1, by have := h.2; simpa [World.setCell] using this⟩) h3
            have HSC : Hid (∀ (w3 : World) (c : Value), (w3.setCell ⟨X.heap.size + 1, 1, none⟩ c).heap.size = w3.heap.size) := fun w3 c => by simp [World.setCell]
            have FINW : Hid (∀ (Z : World) (ev : Value), Z.ownsRow w1.heap.size 40 3 ev (i + 1) (edsV (wantR ng i ++ [((i : Int), (i : Int) + 1, ng i)])) → Z.ownsRow w1.heap.size 40 3 ev (min (i + 1) (kk - 1)) (edsV (wantR ng (min (i + 1) (kk - 1))))) := fun Z ev h => by rw [show min (i + 1) (kk - 1) = i + 1 by omega, wantR_succ]; exact h
            go_wp2_with (first
              | (at_builtin; refine wpList_append_lies _ rfl _ _ 42 rfl X.heap.size 47 i2 (.agg #[.bool false, .slice none 0 0]) 2 32 Try.underlying42 HI2.out.1 HI2.out.2.1 HI2.out.2.2.1 HI2.out.2.2.2 rfl (by decide) _ _ _ rfl OW2.out ⟨X.heap.size + 1 + 1 + 1, 0, none⟩ 1 1 [.bool (ng i), .slice (some ⟨X.heap.size + 1 + 1, 0, none⟩) 2 2] rfl rfl (World.news_of_block (cs := #[.bool (ng i), .slice (some ⟨X.heap.size + 1 + 1, 0, none⟩) 2 2]) (t := 47) (fr := (0, 0)) NEW2.out) ONE2.out (by decide) MX2.out BY2.out (by rw [HSZ2.out]; omega) (X.heap.size + 1 + 1 + 1 + 1) HSZ2.out ?_; intro gg cap1 w3 hown1 hgrow1 hat1 hl1; obtain ⟨hbl, hic, hrb, c3, f3⟩ := conj_two hown1 hgrow1; have PRE0 : Hid _ := MKP.out gg cap1 w3 hbl hic hrb; have hs3 := HSC.out w3 (.slice (some ⟨gg, 0, none⟩) 2 cap1); clear hbl hic hrb hown1 hgrow1 hat1 hl1)
              | (at_builtin; refine wpList_append_lies _ rfl _ _ 27 rfl w1.heap.size 40 i4 (.agg #[.int .i64 0, .int .i64 0, .bool false]) 3 24 Try.underlying27 HI4.out.1 HI4.out.2.1 HI4.out.2.2.1 HI4.out.2.2.2 rfl (by decide) _ _ _ rfl (PRE0.out.wt.alloc _) ⟨w3.heap.size, 0, none⟩ 1 1 [.int .i64 (i : Int), .int .i64 ((i : Int) + 1), .bool (ng i)] rfl rfl (World.news_of_block (cs := #[.int .i64 (i : Int), .int .i64 ((i : Int) + 1), .bool (ng i)]) (t := 40) (fr := (0, 0)) (by have h := heap_alloc_new (w3.setCell ⟨X.heap.size + 1, 1, none⟩ (.slice (some ⟨gg, 0, none⟩) 2 cap1)) (.cells #[.int .i64 (i : Int), .int .i64 ((i : Int) + 1), .bool (ng i)] 40); rw [hs3] at h; exact h)) ONE4.out (by decide) MX3.out BY4.out (by have := PRE0.out.gv.m0.bl.size; simp; omega) (w3.heap.size + 1) (by simp [World.setCell]) ?_; intro gg2 cap2 w5 hown2 hgrow2 hat2 hl2; have PRE1 : Hid (Pre w1 gb (X.heap.size + 1) F (fun b => X.heap.size ≤ b ∧ b < w3.heap.size) (nmsR (i + 1)) nv2 (rusR kk ng i) us (.slice po i co) (i + 1) (wantR ng i ++ [((i : Int), (i : Int) + 1, ng i)]) (.slice (some ⟨gg2, 0, none⟩) (i + 1) cap2) (i : Int) (.slice (some ⟨gg, 0, none⟩) 2 cap1) (cjR kk ng i) w5) := Pre.edge (X := X) PRE0.out hgrow2 hown2 (by rw [hs3]; exact hat2); have e5 : w5.cell? ⟨gb, 2, none⟩ = some (.slice po i co) := cellR PRE1.out.gv.vb 2; have r5 : w5.cell? ⟨X.heap.size + 1, 0, none⟩ = some (.int .i64 (i : Int)) := cellR PRE1.out.rb 0; have r6 : w5.cell? ⟨X.heap.size + 1, 1, none⟩ = some (.slice (some ⟨gg, 0, none⟩) 2 cap1) := cellR PRE1.out.rb 1; have OR5 : Hid (w5.ownsRow w1.heap.size 44 2 (.slice po i co) i (rusV (rusR kk ng i) us)) := (by have h := PRE1.out.gv.m0.oo; rw [rusR_len] at h; exact h); have RN5 : Hid ((Value.slice po i co).ownBlock ≠ some gb) := row_no PRE1.out.gv.m0.oo (by decide) PRE1.out.gv.vb; have gl5 : gb < w5.heap.size := block_lt PRE1.out.gv.vb; have hw5 : w1.heap.size ≤ w5.heap.size := PRE1.out.gv.m0.bl.size; have f5 : w5.frozen? ⟨gb, 2, none⟩ = false := frzR PRE1.out.gv.vb 2; clear hown2 hgrow2 hat2 hl2)
              | (at_builtin; refine wpList_append_lies _ rfl _ _ 23 rfl w1.heap.size 44 i3 (.agg #[.int .i64 0, .slice none 0 0]) 2 32 Try.underlying23 HI3.out.1 HI3.out.2.1 HI3.out.2.2.1 HI3.out.2.2.2 rfl (by decide) _ _ _ rfl (OR5.out.alloc _) ⟨w5.heap.size, 0, none⟩ 1 1 [.int .i64 (i : Int), .slice (some ⟨gg, 0, none⟩) 2 cap1] rfl rfl (World.news_of_block (cs := #[.int .i64 (i : Int), .slice (some ⟨gg, 0, none⟩) 2 cap1]) (t := 44) (fr := (0, 0)) (heap_alloc_new w5 _)) (fun x hx => by simp at hx; rcases hx with rfl | rfl <;> rfl) (by decide) MX3.out BY3.out (Nat.le_trans hw5 (le_alloc _ _)) (w5.heap.size + 1) (by simp) ?_; intro gg3 cap3 w6 hown3 hgrow3 hat3 hl3; have e6 : w6.cell? ⟨gb, 2, none⟩ = some (.slice po i co) := (hgrow3.cell_far ⟨gb, 2, none⟩ (by simp; omega) (Ne.symm RN5.out)).trans ((World.cell?_alloc_past _ _ _ gl5).trans e5); have f6 : w6.frozen? ⟨gb, 2, none⟩ = false := (hgrow3.frozen_far ⟨gb, 2, none⟩ (by simp; omega) (Ne.symm RN5.out)).trans ((World.frozen?_alloc_past _ _ _ gl5).trans f5)))
            obtain ⟨F1, F2, F3⟩ := Pre.fin PRE1.out (rusR_len kk ng i) hgrow3 hown3 hat3 (L' := rusR kk ng (i + 1)) (rusR_succ kk ng i)
            go_roundw
            case rel => exact ⟨i + 1, by omega, by go_num, _, _, _, _, F1, FINW.out _ _ F2, F3⟩
            case measure => simp [intOf]; omega
          · have hlastI : ¬ ((i : Int) + 1 < (kk : Int)) := by omega
            have hcj : cjR kk ng i = [⟨false, []⟩] := if_neg hlast
            have n0 : (X.alloc (.cells #[.bool false, .slice none 0 0] 47)).heap.size = X.heap.size + 1 := by simp
            have hYr : ((X.alloc (.cells #[.bool false, .slice none 0 0] 47)).alloc (.cells #[.int .i64 (i : Int), .slice (some ⟨X.heap.size, 0, none⟩) 1 1] 44)).heap[X.heap.size + 1]? = some (.cells #[.int .i64 (i : Int), .slice (some ⟨X.heap.size, 0, none⟩) 1 1] 44) := by
              have h := heap_alloc_new (X.alloc (.cells #[.bool false, .slice none 0 0] 47)) (.cells #[.int .i64 (i : Int), .slice (some ⟨X.heap.size, 0, none⟩) 1 1] 44)
              rw [n0] at h; exact h
            have hYc : ((X.alloc (.cells #[.bool false, .slice none 0 0] 47)).alloc (.cells #[.int .i64 (i : Int), .slice (some ⟨X.heap.size, 0, none⟩) 1 1] 44)).heap[X.heap.size]? = some (.cells #[.bool false, .slice none 0 0] 47) := (heap_alloc_old _ (by omega)).trans (heap_alloc_new _ _)
            obtain ⟨Y, hY⟩ : ∃ Y, Y = ((X.alloc (.cells #[.bool false, .slice none 0 0] 47)).alloc (.cells #[.int .i64 (i : Int), .slice (some ⟨X.heap.size, 0, none⟩) 1 1] 44)) := ⟨_, rfl⟩
            have bY : Below X.heap.size X Y := by rw [hY]; exact (bel1 X _).alloc (by omega) _
            rw [← hY] at hYr hYc
            have PRE1 : Hid (Pre w1 gb (X.heap.size + 1) F (fun b => b = X.heap.size) (nmsR (i + 1)) nv2 (rusR kk ng i) us (.slice po i co) i (wantR ng i) u7 (i : Int) (.slice (some ⟨X.heap.size, 0, none⟩) 1 1) (cjR kk ng i) Y) :=
              pre_new GVx.out WTx.out NF.out bY (by rw [hcj]; exact ⟨[.slice none 0 0], reads_blk hYc rfl (by unfold maxLen; omega) rfl, (CnsIn.nil _ _).snoc (c := ⟨false, []⟩) (sysE_nil _ _)⟩) (fun b h => by rw [h]; exact ⟨Nat.le_refl _, block_lt hYc⟩) hYr
            have e5 : Y.cell? ⟨gb, 2, none⟩ = some (.slice po i co) := cellR PRE1.out.gv.vb 2
            have r5 : Y.cell? ⟨X.heap.size + 1, 0, none⟩ = some (.int .i64 (i : Int)) := cellR PRE1.out.rb 0
            have r6 : Y.cell? ⟨X.heap.size + 1, 1, none⟩ = some (.slice (some ⟨X.heap.size, 0, none⟩) 1 1) := cellR PRE1.out.rb 1
            have OR5 : Hid (Y.ownsRow w1.heap.size 44 2 (.slice po i co) i (rusV (rusR kk ng i) us)) := by have h := PRE1.out.gv.m0.oo; rw [rusR_len] at h; exact h
            have RN5 : Hid ((Value.slice po i co).ownBlock ≠ some gb) := row_no PRE1.out.gv.m0.oo (by decide) PRE1.out.gv.vb
            have gl5 : gb < Y.heap.size := block_lt PRE1.out.gv.vb
            have hw5 : w1.heap.size ≤ Y.heap.size := PRE1.out.gv.m0.bl.size
            have f5 : Y.frozen? ⟨gb, 2, none⟩ = false := frzR PRE1.out.gv.vb 2
            have FINW : Hid (∀ (Z : World) (ev : Value), Z.ownsRow w1.heap.size 40 3 ev i (edsV (wantR ng i)) → Z.ownsRow w1.heap.size 40 3 ev (min (i + 1) (kk - 1)) (edsV (wantR ng (min (i + 1) (kk - 1))))) := fun Z ev h => by rw [show min (i + 1) (kk - 1) = i by omega]; exact h
            clear hYr hYc bY n0 hcj
            go_upto_region 12 with fail
            rw [← hY]
            clear hY
            go_wp2_with (at_builtin; refine wpList_append_lies _ rfl _ _ 23 rfl w1.heap.size 44 i3 (.agg #[.int .i64 0, .slice none 0 0]) 2 32 Try.underlying23 HI3.out.1 HI3.out.2.1 HI3.out.2.2.1 HI3.out.2.2.2 rfl (by decide) _ _ _ rfl (OR5.out.alloc _) ⟨Y.heap.size, 0, none⟩ 1 1 [.int .i64 (i : Int), .slice (some ⟨X.heap.size, 0, none⟩) 1 1] rfl rfl (World.news_of_block (cs := #[.int .i64 (i : Int), .slice (some ⟨X.heap.size, 0, none⟩) 1 1]) (t := 44) (fr := (0, 0)) (heap_alloc_new Y _)) (fun x hx => by simp at hx; rcases hx with rfl | rfl <;> rfl) (by decide) MX3.out BY3.out (Nat.le_trans hw5 (le_alloc _ _)) (Y.heap.size + 1) (by simp) ?_; intro gg3 cap3 w6 hown3 hgrow3 hat3 hl3; have e6 : w6.cell? ⟨gb, 2, none⟩ = some (.slice po i co) := (hgrow3.cell_far ⟨gb, 2, none⟩ (by simp; omega) (Ne.symm RN5.out)).trans ((World.cell?_alloc_past _ _ _ gl5).trans e5); have f6 : w6.frozen? ⟨gb, 2, none⟩ = false := (hgrow3.frozen_far ⟨gb, 2, none⟩ (by simp; omega) (Ne.symm RN5.out)).trans ((World.frozen?_alloc_past _ _ _ gl5).trans f5))
            obtain ⟨F1, F2, F3⟩ := Pre.fin PRE1.out (rusR_len kk ng i) hgrow3 hown3 hat3 (L' := rusR kk ng (i + 1)) (rusR_succ kk ng i)
            go_roundw
            case rel => exact ⟨i + 1, by omega, by go_num, _, _, _, _, F1, FINW.out _ _ F2, F3⟩
            case measure => simp [intOf]; omega
    · obtain rfl : i = kk := by omega
      rw [show min i (i - 1) = i - 1 by omega] at WT
      obtain ⟨po, co, hvo⟩ := row_slice GVi.out.m0.oo
      rw [rusR_len] at hvo
      subst hvo
      obtain ⟨pn, cn, hvn⟩ := row_slice GVi.out.on
      rw [nmsR_len] at hvn
      subst hvn
      have e0 : V.cell? ⟨gb, 0, none⟩ = some (.int .i64 0) := cellR GVi.out.vb 0
      have e1 : V.cell? ⟨gb, 1, none⟩ = some (.slice pn i cn) := cellR GVi.out.vb 1
      have e2 : V.cell? ⟨gb, 2, none⟩ = some (.slice po i co) := cellR GVi.out.vb 2
      have KE : Calls Try.prog 15 #[.agg #[.int .i64 0, .slice pn i cn, .slice po i co]] V fun e w' => ∃ v, e = .returned (.tuple #[v, .int .i64 0]) ∧ Hid (IsEds w' (fun j => V.heap.size ≤ j) v (wantR ng (i - 1))) ∧ Hid (Below V.heap.size V w') := by
        have h := edges_ok (grR i ng) (.slice pn i cn) (.slice po i co) V GVi.out.gr (fun s hs => by have := nm_sizeR s i hs; unfold maxLen; omega) (shortRow i ng i) (may_rows i ng hk34 hk2)
        rw [edges_rows] at h
        exact h
      have IW : Hid (IsEds V (fun _ => True) u7 (wantR ng (i - 1))) := by
        show Reads _ _ _ _ _
        rw [wantR_len]
        exact Reads.of WT.out (fun _ _ => trivial)
      have HBV : Hid (Below W.heap.size W V) := HB1.out.trans (GVi.out.m0.bl.mono HB1.out.size)
      go_wp2_with (first
        | (go_at_call 15; refine KE.mono ?_; rintro e w2 ⟨ve, rfl, ie, b2⟩)
        | (go_at_call 18; refine (num_any _ _).mono ?_; rintro e wn ⟨rfl, rfl⟩)
        | (go_at_call 17; refine (sameEds_yes _ _ (wantR ng (i - 1)) _ ie.out (IW.out.any b2.out) (by rw [wantR_len]; omega)).mono ?_; rintro e w3 ⟨rfl, b3⟩))
      go_ret
      exact ⟨rfl, (HBV.out.trans (b2.out.mono HBV.out.size)).trans (b3.out.mono (Nat.le_trans HBV.out.size b2.out.size))⟩
end Go.Proofs.Ytaofocfiipemaaa
