/- row of templelaw8: the grammar of names in a row or a ring. -/
import Derived.Test.YtipnfiaphmddiaaStrTop
import Derived.Test.YtipnfiaphmddiaaStrRowT
import Derived.Test.YtipnfiaphmddiaaGramVar2
import Derived.Test.YtipnfiaphmddiaaCopyGrW
import Derived.Test.YtipnfiaphmddiaaLawOpen
import Derived.Deep.RegionHeld3
namespace Go.Proofs.Ytipnfiaphmddiaa
set_option linter.unusedVariables false
set_option linter.unusedSimpArgs false
open Go.ChangeShapes Go.WideShapes Go.ChangeAt Go.RowKit

theorem hid_of {p : Prop} (h : p) : Hid p := h
theorem and31 (x : Int) : ∃ n : Nat, n < 32 ∧ bits .and .i64 x 31 = (n : Int) := by
  have h : (BitVec.ofInt 64 x &&& BitVec.ofInt 64 31).toNat < 32 := by
    rw [BitVec.toNat_and]
    exact Nat.lt_of_le_of_lt Nat.and_le_right (by decide)
  refine ⟨_, h, ?_⟩
  show IntKind.i64.wrap ((BitVec.ofInt 64 x &&& BitVec.ofInt 64 31).toNat : Int) = _
  generalize (BitVec.ofInt 64 x &&& BitVec.ofInt 64 31).toNat = n at h
  rw [IntKind.wrap_i64]; omega
theorem cellR {w : World} {b : Nat} {arr : Array Value} {t : TypeId} (h : w.heap[b]? = some (.cells arr t)) (j : Nat) : w.cell? ⟨b, j, none⟩ = arr[j]? := Lib.cell_of_heap h j
theorem frzR {w : World} {b : Nat} {arr : Array Value} {t : TypeId} (h : w.heap[b]? = some (.cells arr t)) (j : Nat) : w.frozen? ⟨b, j, none⟩ = false := by unfold World.frozen?; rw [h]; simp
def ngR (zs : List Int) (i : Nat) : Bool := match zs[i]? with
  | some z => bits .and .i64 z 1 == 1
  | none => false
/-- A block that is a row, read. -/
theorem reads_blk {w : World} {F : Nat → Prop} {g n : Nat} {arr : Array Value} {t : TypeId} {cs : List Value} (h : w.heap[g]? = some (.cells arr t)) (hF : F g) (hn : n ≤ maxLen) (hc : arr.toList = cs) : Reads w F (.slice (some ⟨g, 0, none⟩) n n) n cs := by
  subst hc
  refine ⟨some ⟨g, 0, none⟩, n, rfl, ⟨hn, Nat.le_refl _⟩, fun _ => ⟨g, 0, rfl, hF, block_lt h, fun j c hj => ?_, fun j _ => by rw [Nat.zero_add]; exact frzR h j⟩⟩
  rw [Nat.zero_add, cellR h j]
  simpa using hj
theorem Try.infoStrO : (Try.prog.info? 9).map (fun i => (i.zero, i.size, i.bytes)) = some (some (.string ⟨#[]⟩), 1, 16) := by kernel_rfl
theorem Try.infoRuleO : (Try.prog.info? 44).map (fun i => (i.zero, i.size, i.bytes)) = some (some (.agg #[.int .i64 0, .slice none 0 0]), 2, 32) := by kernel_rfl
section
variable {B w w1 : World} {gb : Nat} {F : Nat → Prop} {st : Int} {ns : List ByteArray} {nv o : Value} {L : List Ru} {us : List Value}
/-- An append onto a grammar's names. -/
theorem GV.appName (m : GV B gb F st ns nv L us o w) (s : ByteArray) (hl : ns.length ≤ 1000) :
    ∃ g cap w2, (Builtin.append_ #[22, 22] 22 #[nv, .slice (some ⟨w.heap.size, 0, none⟩) 1 1]).run Try.prog (w.alloc (.cells #[.string s] 9)) = .ok (.slice (some ⟨g, 0, none⟩) (ns.length + 1) cap) w2 ∧ GV B gb F st (ns ++ [s]) (.slice (some ⟨g, 0, none⟩) (ns.length + 1) cap) L us o (w2.setCell ⟨gb, 1, none⟩ (.slice (some ⟨g, 0, none⟩) (ns.length + 1) cap)) ∧ w2.cell? ⟨gb, 1, none⟩ = some nv ∧ w2.frozen? ⟨gb, 1, none⟩ = false := by
  obtain ⟨i, hi, hz, hs, hb⟩ := info_parts Try.infoStrO
  have hbs := m.m0.bl.size
  obtain ⟨g, cap, w2, hr, hown, hgrow, hat, _⟩ := run_append_lies (P := Try.prog) (w.alloc (.cells #[.string s] 9)) 22 22 B.heap.size 9 i _ 1 16 Try.underlying22 hi hz hs hb rfl (by omega) nv ns.length (txV ns) (m.on.alloc _) ⟨w.heap.size, 0, none⟩ 1 1 [.string s] rfl
    (World.news_of_block (cs := #[.string s]) (t := 9) (fr := (0, 0)) (heap_alloc_new w _)) (by intro u hu; simp at hu; subst hu; rfl) (by omega) (by unfold maxLen; omega) (by omega) (by simp; omega) (w.heap.size + 1) (by simp)
  have hvb : w2.heap[gb]? = some (.cells #[.int .i64 st, nv, o] 25) := (hgrow.block gb (by have := block_lt m.vb; simp; omega) (Ne.symm (row_no m.on (by decide) m.vb))).trans ((heap_alloc_old _ (block_lt m.vb)).trans m.vb)
  exact ⟨g, cap, w2, hr, m.name (Below.refl _ _) rfl hgrow hown hat, Lib.cell_of_heap hvb 1, by unfold World.frozen?; rw [hvb]; simp⟩
/-- An append onto its rules. -/
theorem GV.appRule (m : GV B gb F st ns nv L us o w) (hb1 : Below w.heap.size w w1) {h : Int} {c : Value} {cs : List Cn} {Fc : Nat → Prop} (hc : IsCns w1 Fc c cs) (hFc : ∀ b, Fc b → w.heap.size ≤ b) (h1 : c.oneCell' = true) (hl : L.length ≤ 100000) :
    ∃ g cap w2 F', (Builtin.append_ #[23, 23] 23 #[o, .slice (some ⟨w1.heap.size, 0, none⟩) 1 1]).run Try.prog (w1.alloc (.cells #[.int .i64 h, c] 44)) = .ok (.slice (some ⟨g, 0, none⟩) (L.length + 1) cap) w2 ∧ GV B gb F' st ns nv (L ++ [⟨h, cs⟩]) (us ++ [c]) (.slice (some ⟨g, 0, none⟩) (L.length + 1) cap) (w2.setCell ⟨gb, 2, none⟩ (.slice (some ⟨g, 0, none⟩) (L.length + 1) cap)) ∧ w2.cell? ⟨gb, 2, none⟩ = some o ∧ w2.frozen? ⟨gb, 2, none⟩ = false := by
  obtain ⟨i, hi, hz, hs, hb⟩ := info_parts Try.infoRuleO
  have m1 := m.keep hb1
  have hbs := m1.m0.bl.size
  obtain ⟨g, cap, w2, hr, hown, hgrow, hat, _⟩ := run_append_lies (P := Try.prog) (w1.alloc (.cells #[.int .i64 h, c] 44)) 23 23 B.heap.size 44 i _ 2 32 Try.underlying23 hi hz hs hb rfl (by omega) o L.length (rusV L us) (m1.m0.oo.alloc _) ⟨w1.heap.size, 0, none⟩ 1 1 [.int .i64 h, c] rfl
    (World.news_of_block (cs := #[.int .i64 h, c]) (t := 44) (fr := (0, 0)) (heap_alloc_new w1 _)) (by intro u hu; simp at hu; rcases hu with rfl | rfl; rfl; exact h1) (by omega) (by unfold maxLen; omega) (by omega) (by simp; omega) (w1.heap.size + 1) (by simp)
  have hvb : w2.heap[gb]? = some (.cells #[.int .i64 st, nv, o] 25) := (hgrow.block gb (by have := block_lt m1.vb; simp; omega) (Ne.symm (row_no m1.m0.oo (by decide) m1.vb))).trans ((heap_alloc_old _ (block_lt m1.vb)).trans m1.vb)
  obtain ⟨F', hF'⟩ := m.rule hb1 hc hFc rfl hgrow hown hat rfl
  exact ⟨g, cap, w2, F', hr, hF', Lib.cell_of_heap hvb 2, by unfold World.frozen?; rw [hvb]; simp⟩
end
/-- The second conjunct is appended to a rule's first one, all in new blocks. -/
theorem conj_one {X w3 : World} {i : Int} {s1 : Int} {ng : Bool} {gg cap : Nat}
    (hown : w3.ownsRow X.heap.size 47 2 (.slice (some ⟨gg, 0, none⟩) (1 + 1) cap) (1 + 1) ([.bool false, .slice none 0 0] ++ [.bool ng, .slice (some ⟨X.heap.size + 1 + 1, 0, none⟩) 1 1]))
    (hg : ((((X.alloc (.cells #[.bool false, .slice none 0 0] 47)).alloc (.cells #[.int .i64 i, .slice (some ⟨X.heap.size, 0, none⟩) 1 1] 44)).alloc (.cells #[.int .i64 s1, .int .i64 0, .int .i64 0] 50)).alloc (.cells #[.bool ng, .slice (some ⟨X.heap.size + 1 + 1, 0, none⟩) 1 1] 47)).grownBy w3 (Value.slice (some ⟨X.heap.size, 0, none⟩) 1 1).ownBlock) :
    Below X.heap.size X (w3.setCell ⟨X.heap.size + 1, 1, none⟩ (.slice (some ⟨gg, 0, none⟩) (1 + 1) cap)) ∧ IsCns (w3.setCell ⟨X.heap.size + 1, 1, none⟩ (.slice (some ⟨gg, 0, none⟩) (1 + 1) cap)) (fun b => X.heap.size ≤ b ∧ b < w3.heap.size) (.slice (some ⟨gg, 0, none⟩) (1 + 1) cap) [⟨false, []⟩, ⟨ng, [⟨s1, 0, 0⟩]⟩] ∧ (w3.setCell ⟨X.heap.size + 1, 1, none⟩ (.slice (some ⟨gg, 0, none⟩) (1 + 1) cap)).heap[X.heap.size + 1]? = some (.cells #[.int .i64 i, .slice (some ⟨gg, 0, none⟩) (1 + 1) cap] 44) ∧ w3.cell? ⟨X.heap.size + 1, 1, none⟩ = some (.slice (some ⟨X.heap.size, 0, none⟩) 1 1) ∧ w3.frozen? ⟨X.heap.size + 1, 1, none⟩ = false := by
  have e1 : (X.alloc (.cells #[.bool false, .slice none 0 0] 47)).heap.size = X.heap.size + 1 := by simp
  have e2 : ((X.alloc (.cells #[.bool false, .slice none 0 0] 47)).alloc (.cells #[.int .i64 i, .slice (some ⟨X.heap.size, 0, none⟩) 1 1] 44)).heap.size = X.heap.size + 2 := by simp
  have e3 : (((X.alloc (.cells #[.bool false, .slice none 0 0] 47)).alloc (.cells #[.int .i64 i, .slice (some ⟨X.heap.size, 0, none⟩) 1 1] 44)).alloc (.cells #[.int .i64 s1, .int .i64 0, .int .i64 0] 50)).heap.size = X.heap.size + 3 := by simp
  have r0 := heap_alloc_new (X.alloc (.cells #[.bool false, .slice none 0 0] 47)) (.cells #[.int .i64 i, .slice (some ⟨X.heap.size, 0, none⟩) 1 1] 44)
  rw [e1] at r0
  have s0 := heap_alloc_new ((X.alloc (.cells #[.bool false, .slice none 0 0] 47)).alloc (.cells #[.int .i64 i, .slice (some ⟨X.heap.size, 0, none⟩) 1 1] 44)) (.cells #[.int .i64 s1, .int .i64 0, .int .i64 0] 50)
  rw [e2] at s0
  have hb4 : Below X.heap.size X ((((X.alloc (.cells #[.bool false, .slice none 0 0] 47)).alloc (.cells #[.int .i64 i, .slice (some ⟨X.heap.size, 0, none⟩) 1 1] 44)).alloc (.cells #[.int .i64 s1, .int .i64 0, .int .i64 0] 50)).alloc (.cells #[.bool ng, .slice (some ⟨X.heap.size + 1 + 1, 0, none⟩) 1 1] 47)) := (((bel1 X _).alloc (by omega) _).alloc (by omega) _).alloc (by omega) _
  have gs := hg.size
  simp at gs
  have r3 : w3.heap[X.heap.size + 1]? = some (.cells #[.int .i64 i, .slice (some ⟨X.heap.size, 0, none⟩) 1 1] 44) := (hg.block _ (by simp) (fun e => by simp [Value.ownBlock] at e)).trans ((heap_alloc_old _ (by omega)).trans ((heap_alloc_old _ (by omega)).trans r0))
  have s3 : w3.heap[X.heap.size + 2]? = some (.cells #[.int .i64 s1, .int .i64 0, .int .i64 0] 50) := (hg.block _ (by simp) (fun e => by simp [Value.ownBlock] at e)).trans ((heap_alloc_old _ (by omega)).trans s0)
  have hgl := hown.lt gg rfl
  have own4 := ownsRow_setCell_other (a := ⟨X.heap.size + 1, 1, none⟩) hown (row_no hown (by decide) r3) (.slice (some ⟨gg, 0, none⟩) (1 + 1) cap)
  have s4 : (w3.setCell ⟨X.heap.size + 1, 1, none⟩ (.slice (some ⟨gg, 0, none⟩) (1 + 1) cap)).heap[X.heap.size + 2]? = some (.cells #[.int .i64 s1, .int .i64 0, .int .i64 0] 50) := (Below.heap_setCell _ _ _ _ (by simp)).trans s3
  refine ⟨(hb4.grown hg hb4.size (fun k hk => by simp [Value.ownBlock] at hk; omega)).setCell (p := ⟨X.heap.size + 1, 1, none⟩) (by simp) _, ⟨[.slice none 0 0, .slice (some ⟨X.heap.size + 1 + 1, 0, none⟩) 1 1], ?_, ?_⟩, ?_, cellR r3 1, frzR r3 1⟩
  · refine Reads.of own4 (fun b e => ?_)
    obtain rfl : gg = b := by injection e
    exact hgl
  · refine ((CnsIn.nil _ _).snoc (c := ⟨false, []⟩) (sysE_nil _ _)).snoc (c := ⟨ng, [⟨s1, 0, 0⟩]⟩) ?_
    exact reads_blk s4 ⟨by omega, by omega⟩ (by unfold maxLen; omega) rfl
  · exact heap_setCell_same w3 _ 1 _ _ _ r3
theorem Try.infoConR : (Try.prog.info? 47).map (fun i => (i.zero, i.size, i.bytes)) = some (some (.agg #[.bool false, .slice none 0 0]), 2, 32) := by kernel_rfl
set_option maxHeartbeats 3000000 in
set_option maxRecDepth 100000 in
theorem row8_any (kk : Nat) (pv : Option Addr) (zn cv : Nat) (zs : List Int) (hzn : zn = zs.length) (hz8 : zn * 8 ≤ 140737488351232) (rg : Bool) (W : World) (row : IRow W (.slice pv zn cv) zs) (h1 : 1 ≤ kk) (h33 : kk < 33) :
    Calls Try.prog 12 #[.int .i64 (kk : Int), .slice pv zn cv, .bool rg] W fun e w' => ∃ p1 c1 p2 c2, e = .returned (.agg #[.int .i64 0, .slice p1 kk c1, .slice p2 kk c2]) ∧ Hid (GrIs w' Any (.slice p1 kk c1) (.slice p2 kk c2) (gr8 kk (ngR zs) rg)) ∧ Hid (Below W.heap.size W w') := by
  have HNG : Hid (∀ i, i < zn → ∀ w', Below W.heap.size W w' → ∃ g o z, pv = some ⟨g, o, none⟩ ∧ g < W.heap.size ∧ w'.cell? ⟨g, o + i, none⟩ = some (.int .i64 z) ∧ (bits .and .i64 z 1 == 1) = ngR zs i) := fun i hi w' hb => by
    obtain ⟨p, c, e, _, h⟩ := row
    injection e with e1
    subst e1
    obtain ⟨z, hz⟩ : ∃ z, zs[i]? = some z := ⟨_, List.getElem?_eq_getElem (by omega)⟩
    obtain ⟨g, o, e2, _, h2⟩ := h i z hz
    exact ⟨g, o, z, e2, cellC_lt h2, (hb.cell (p := ⟨_, _, none⟩) (cellC_lt h2)).trans h2, by unfold ngR; rw [hz]⟩
  have HNO : Hid (∀ i, ¬ i < zn → ngR zs i = false) := fun i hi => by unfold ngR; rw [List.getElem?_eq_none (by omega)]
  obtain ⟨ng, hng⟩ : ∃ ng, ng = ngR zs := ⟨_, rfl⟩
  rw [← hng] at HNG HNO ⊢
  clear row hng hzn
  obtain ⟨w1, hw1⟩ : ∃ w1, w1 = W.alloc (.cells #[.int .i64 0, .slice none 0 0, .slice none 0 0] 25) := ⟨_, rfl⟩
  have HB1 : Hid (Below W.heap.size W w1) := by rw [hw1]; exact bel1 _ _
  have HZ1 : Hid (w1.heap[W.heap.size]? = some (.cells #[.int .i64 0, .slice none 0 0, .slice none 0 0] 25)) := by rw [hw1]; exact heap_alloc_new _ _
  have hz1 : w1.heap.size = W.heap.size + 1 := by rw [hw1]; simp
  have HZS := hid_of hz1
  obtain ⟨gb, hgb⟩ : ∃ gb, gb = w1.heap.size := ⟨_, rfl⟩
  have GV0 : Hid (GV w1 gb (fun _ => False) 0 (nmsR 0) (.slice none 0 0) (rus8 kk ng rg 0) [] (.slice none 0 0) (w1.alloc (.cells #[.int .i64 0, .slice none 0 0, .slice none 0 0] 25))) := by rw [hgb]; exact GV.new0 w1
  go_enter Try.func12, Try.ntmps12
  go_upto_region 3 with fail
  rw [← hw1, ← hz1, ← hgb]
  clear hw1 hz1
  have HGB := hid_of hgb
  clear hgb
  go_loopw [8] (fun j wr => ∃ i : Nat, i ≤ kk ∧ j = .int .i64 i ∧ ∃ F nv us o, Hid (GV w1 gb F 0 (nmsR i) nv (rus8 kk ng rg i) us o wr)) (fun j _ => kk - (intOf j).toNat)
  case atStart => exact ⟨0, Nat.zero_le _, rfl, _, _, _, _, GV0⟩
  case round =>
    obtain ⟨i, hi, rfl, F, nv, us, o, GVi⟩ := hrel
    obtain ⟨V, hV⟩ : ∃ V, V = wr := ⟨_, rfl⟩
    subst hV
    have hgl : gb < V.heap.size := block_lt GVi.out.vb
    have hwV : w1.heap.size ≤ V.heap.size := GVi.out.m0.bl.size
    by_cases hlt : i < kk
    · have nr := GVi.out.on
      rw [nmsR_len] at nr
      obtain ⟨pn, cn, hvn⟩ := row_slice nr
      subst hvn
      have NR : Hid (V.ownsRow w1.heap.size 9 1 (.slice pn i cn) i (txV (nmsR i))) := nr
      have g1 : V.cell? ⟨gb, 1, none⟩ = some (.slice pn i cn) := cellR GVi.out.vb 1
      have RN1 : Hid ((Value.slice pn i cn).ownBlock ≠ some gb) := row_no NR.out (by decide) GVi.out.vb
      have MR : Calls Try.prog 21 #[.int .i64 (i : Int)] V.drew fun e w2 => e = .returned (.string (decT i)) ∧ Hid (Below V.heap.size V w2) ∧ w2.cell? ⟨gb, 1, none⟩ = some (.slice pn i cn) ∧ w2.frozen? ⟨gb, 1, none⟩ = false ∧ w1.heap.size ≤ w2.heap.size ∧ gb < w2.heap.size ∧ Hid (w2.ownsRow w1.heap.size 9 1 (.slice pn i cn) i (txV (nmsR i))) := by
        refine (decimal_any i (by omega) _).mono ?_
        rintro e w2 ⟨rfl, hb⟩
        have hb0 : Below V.heap.size V V.drew := (Below.refl _ _).drew
        have hb1 := hb0.trans hb
        exact ⟨rfl, hb1, (hb1.cell (p := ⟨_, _, none⟩) hgl).trans g1, (hb1.frozen (p := ⟨_, _, none⟩) hgl).trans (frzR GVi.out.vb 1), Nat.le_trans hwV hb1.size, Nat.lt_of_lt_of_le hgl hb1.size, row_keep NR.out hb1⟩
      have hds : ¬ 9223372036854775807 < 1 + (decT i).size := by have := dec_sizeR i; omega
      obtain ⟨is, hs0, hs1, hs2, hs3⟩ := info_parts Try.infoStrO
      have HS : Hid (Try.prog.info? 9 = some is ∧ is.zero = some (.string ⟨#[]⟩) ∧ is.size = 1 ∧ is.bytes = 16) := ⟨hs0, hs1, hs2, hs3⟩
      have MX : Hid (i + 1 ≤ maxLen) := by show _ ≤ _; unfold maxLen; omega
      have BY : Hid ((i + 1) * 16 ≤ 140737488355328) := by show _ ≤ _; omega
      clear nr hs0 hs1 hs2 hs3
      go_wp2_with (fail)
      go_cut [] from 10 to 63 (fun wc => ∃ nv2, Hid (GV w1 gb F 0 (nmsR (i + 1)) nv2 (rus8 kk ng rg i) us o wc))
      case first =>
        go_region_law (first | (refine step_append_lies _ (by rfl) _ _ _ (by rfl) w1.heap.size 9 is _ 1 16 Try.underlying22 HS.out.1 HS.out.2.1 HS.out.2.2.1 HS.out.2.2.2 rfl (by omega) (.slice pn i cn) i (txV (nmsR i)) (by rfl) (o1.out.alloc _) ⟨w2.heap.size, 0, none⟩ 1 1 [.string (nmR i)] (by rfl) (by rfl) (World.news_of_block (cs := #[.string (nmR i)]) (t := 9) (fr := (0, 0)) (heap_alloc_new w2 _)) (by simp [Value.oneCell']) (by omega) MX.out BY.out (Nat.le_trans hW1 (le_alloc _ _)) (w2.heap.size + 1) (by simp) ?_; intro gg cap1 w3 hown1 hgrow hat hltg; have x1 : w3.cell? ⟨gb, 1, none⟩ = some (.slice pn i cn) := (hgrow.cell_far ⟨gb, 1, none⟩ (by simp; omega) (Ne.symm RN1.out)).trans ((World.cell?_alloc_past _ _ _ hR1).trans r1'); have y1 : w3.frozen? ⟨gb, 1, none⟩ = false := (hgrow.frozen_far ⟨gb, 1, none⟩ (by simp; omega) (Ne.symm RN1.out)).trans ((World.frozen?_alloc_past _ _ _ hR1).trans f1')) | (go_simp; refine MR.mono ?_; rintro e w2 ⟨rfl, b1, r1', f1', hW1, hR1, o1⟩))
        all_goals
          have FIN1 : Hid (GV w1 gb F 0 (nmsR (i + 1)) (.slice (some ⟨gg, 0, none⟩) (i + 1) cap1) (rus8 kk ng rg i) us o (w3.setCell ⟨gb, 1, none⟩ (.slice (some ⟨gg, 0, none⟩) (i + 1) cap1))) := by
            show GV _ _ _ _ _ _ _ _ _ _
            rw [nmsR_succ]
            exact GVi.out.name b1.out (nmsR_len i) hgrow hown1 hat
          clear hgrow hown1 hat x1 y1
          go_wp2
          go_meet
          case rel => exact ⟨_, FIN1⟩
      case rest =>
        obtain ⟨nv2, GVx⟩ := hcut
        obtain ⟨X, hX⟩ : ∃ X, X = wc := ⟨_, rfl⟩
        subst hX
        have HBX : Hid (Below W.heap.size W X) := HB1.out.trans (GVx.out.m0.bl.mono HB1.out.size)
        clear GVi NR RN1 MR g1 MX BY HS hds hgl hwV
        have oo := GVx.out.m0.oo
        rw [rus8_len] at oo
        obtain ⟨po, co, hvo⟩ := row_slice oo
        subst hvo
        have hgl : gb < X.heap.size := block_lt GVx.out.vb
        have e2 : X.cell? ⟨gb, 2, none⟩ = some (.slice po i co) := cellR GVx.out.vb 2
        clear oo
        obtain ⟨Y, hY⟩ : ∃ Y, Y = (X.alloc (.cells #[.bool false, .slice none 0 0] 47)).alloc (.cells #[.int .i64 (i : Int), .slice (some ⟨X.heap.size, 0, none⟩) 1 1] 44) := ⟨_, rfl⟩
        have bY : Below X.heap.size X Y := by rw [hY]; exact bel_alloc (bel1 _ _)
        have sY : Y.heap.size = X.heap.size + 1 + 1 := by rw [hY]; simp
        have hYr : Y.heap[X.heap.size + 1]? = some (.cells #[.int .i64 (i : Int), .slice (some ⟨X.heap.size, 0, none⟩) 1 1] 44) := by
          rw [hY]
          have h := heap_alloc_new (X.alloc (.cells #[.bool false, .slice none 0 0] 47)) (.cells #[.int .i64 (i : Int), .slice (some ⟨X.heap.size, 0, none⟩) 1 1] 44)
          rw [show (X.alloc (.cells #[.bool false, .slice none 0 0] 47)).heap.size = X.heap.size + 1 by simp] at h; exact h
        have hYc : Y.heap[X.heap.size]? = some (.cells #[.bool false, .slice none 0 0] 47) := by rw [hY]; exact (heap_alloc_old _ (by simp)).trans (heap_alloc_new _ _)
        go_upto_region 7 with fail
        rw [← hY]
        by_cases hcond : i + 1 < kk ∨ rg = true
        · have hcj : cj8 kk ng rg i = [⟨false, []⟩, ⟨ng i, [⟨(((i + 1) % kk : Nat) : Int), 0, 0⟩]⟩] := by
            unfold cj8
            rw [if_pos (by rcases hcond with h | h <;> simp [h])]
          have hrem : Int.tmod ((i : Int) + 1) (kk : Int) = (((i + 1) % kk : Nat) : Int) := by
            rw [show (i : Int) + 1 = ((i + 1 : Nat) : Int) by omega, ← Int.ofNat_tmod]
          have hk0 : ¬ kk = 0 := by omega
          have hk0' : ((kk : Int) == 0) = false := by simp; omega
          obtain ⟨r, hr⟩ : ∃ r, r = (i + 1) % kk := ⟨_, rfl⟩
          rw [← hr] at hrem hcj
          have hr64 : r < 33 := by have := Nat.mod_lt (i + 1) (show 0 < kk by omega); omega
          obtain ⟨bb, hbb⟩ : ∃ bb, bb = ng i := ⟨_, rfl⟩
          rw [← hbb] at hcj
          obtain ⟨Z, hZ⟩ : ∃ Z, Z = ((Y.alloc (.cells #[.int .i64 (r : Int), .int .i64 0, .int .i64 0] 50)).alloc (.cells #[.bool bb, .slice (some ⟨X.heap.size + 1 + 1, 0, none⟩) 1 1] 47)).drew := ⟨_, rfl⟩
          have sZ : Z.heap.size = X.heap.size + 1 + 1 + 1 + 1 := by rw [hZ]; show (World.alloc _ _).heap.size = _; simp [sY]
          have oZ : Z.ownsRow X.heap.size 47 2 (.slice (some ⟨X.heap.size, 0, none⟩) 1 1) 1 [.bool false, .slice none 0 0] := by
            rw [hZ, hY]
            exact ((((World.ownsRow_lit X #[.bool false, .slice none 0 0] 1 (Nat.le_refl _) (by unfold maxLen; omega) (by simp)).alloc _).alloc _).alloc _).drew
          have nZ : Z.heap[X.heap.size + 1 + 1 + 1]? = some (.cells #[.bool bb, .slice (some ⟨X.heap.size + 1 + 1, 0, none⟩) 1 1] 47) := by
            rw [hZ]
            show (World.alloc _ _).heap[_]? = _
            have h := heap_alloc_new (Y.alloc (.cells #[.int .i64 (r : Int), .int .i64 0, .int .i64 0] 50)) (.cells #[.bool bb, .slice (some ⟨X.heap.size + 1 + 1, 0, none⟩) 1 1] 47)
            rw [show (Y.alloc (.cells #[.int .i64 (r : Int), .int .i64 0, .int .i64 0] 50)).heap.size = X.heap.size + 1 + 1 + 1 by simp [sY]] at h
            exact h
          obtain ⟨i2, hj0, hj1, hj2, hj3⟩ := info_parts Try.infoConR
          obtain ⟨gg, cap, w3, hr3, hown3, hg3, hat3, _⟩ := run_append_lies (P := Try.prog) Z 42 42 X.heap.size 47 i2 _ 2 32 Try.underlying42 hj0 hj1 hj2 hj3 rfl (by omega) _ 1 _ oZ ⟨X.heap.size + 1 + 1 + 1, 0, none⟩ 1 1 [.bool bb, .slice (some ⟨X.heap.size + 1 + 1, 0, none⟩) 1 1] rfl
            (World.news_of_block (cs := #[.bool bb, .slice (some ⟨X.heap.size + 1 + 1, 0, none⟩) 1 1]) (t := 47) (fr := (0, 0)) nZ) (by intro u hu; simp at hu; rcases hu with rfl | rfl <;> rfl) (by omega) (by unfold maxLen; omega) (by omega) (by omega) _ rfl
          have hg4 : ((((X.alloc (.cells #[.bool false, .slice none 0 0] 47)).alloc (.cells #[.int .i64 (i : Int), .slice (some ⟨X.heap.size, 0, none⟩) 1 1] 44)).alloc (.cells #[.int .i64 (r : Int), .int .i64 0, .int .i64 0] 50)).alloc (.cells #[.bool bb, .slice (some ⟨X.heap.size + 1 + 1, 0, none⟩) 1 1] 47)).grownBy w3 (Value.slice (some ⟨X.heap.size, 0, none⟩) 1 1).ownBlock := by
            rw [hZ, hY] at hg3
            exact ⟨hg3.os, hg3.tape, hg3.output, hg3.size, hg3.block⟩
          obtain ⟨hbl, hicn, hrb, c3, f3⟩ := conj_one hown3 hg4
          have LA := stepApp hr3
          unfold StepApp at LA
          rw [hZ] at LA
          obtain ⟨X5, hX5⟩ : ∃ X5, X5 = w3.setCell ⟨X.heap.size + 1, 1, none⟩ (.slice (some ⟨gg, 0, none⟩) (1 + 1) cap) := ⟨_, rfl⟩
          rw [← hX5] at hbl hicn hrb
          rw [← hcj] at hicn
          obtain ⟨g2, cap2, w2, F2, hr2, GV2, x2, y2⟩ := GVx.out.appRule hbl (h := (i : Int)) hicn (fun b h => h.1) rfl (by rw [rus8_len]; omega)
          rw [rus8_len] at hr2 GV2
          have hru : rus8 kk ng rg i ++ [⟨(i : Int), cj8 kk ng rg i⟩] = rus8 kk ng rg (i + 1) := (rus8_succ kk ng rg i).symm
          rw [hru] at GV2
          have GV3 := hid_of GV2
          have r0 : X5.cell? ⟨X.heap.size + 1, 0, none⟩ = some (.int .i64 (i : Int)) := cellR hrb 0
          have r1 : X5.cell? ⟨X.heap.size + 1, 1, none⟩ = some (.slice (some ⟨gg, 0, none⟩) (1 + 1) cap) := cellR hrb 1
          have r2 : X5.cell? ⟨gb, 2, none⟩ = some (.slice po i co) := (hbl.cell (p := ⟨_, _, none⟩) hgl).trans e2
          have hgl5 : gb < X5.heap.size := Nat.lt_of_lt_of_le hgl hbl.size
          have hnrY : X.heap.size + 1 < Y.heap.size := by omega
          have n1 : Y.cell? ⟨X.heap.size + 1, 1, none⟩ = some (.slice (some ⟨X.heap.size, 0, none⟩) 1 1) := cellR hYr 1
          have n2 : ∀ o, (Y.alloc o).cell? ⟨X.heap.size + 1, 1, none⟩ = some (.slice (some ⟨X.heap.size, 0, none⟩) 1 1) := fun o => (World.cell?_alloc_past _ _ _ hnrY).trans n1
          have n3 : ∀ o o', ((Y.alloc o).alloc o').cell? ⟨X.heap.size + 1, 1, none⟩ = some (.slice (some ⟨X.heap.size, 0, none⟩) 1 1) := fun o o' => (World.cell?_alloc_past _ _ _ (by simp; omega)).trans (n2 o)
          have HBY : Hid (Below W.heap.size W Y) := HBX.out.trans (bY.mono HBX.out.size)
          have sYi : Y.heap.size = X.heap.size + 1 + 1 := sY
          have HC3 : Hid (∀ (b o : Nat) {v : Value}, b < X.heap.size → Y.cell? ⟨b, o, none⟩ = some v → w3.cell? ⟨b, o, none⟩ = some v) := fun b o v hb hv => by
            refine (hg4.cell_far ⟨b, o, none⟩ (by simp; omega) (fun e => by simp [Value.ownBlock] at e; omega)).trans ?_
            rw [← hY]
            exact (World.cell?_alloc_past _ _ _ (by simp; omega)).trans ((World.cell?_alloc_past _ _ _ (by omega)).trans hv)
          clear hYr hYc bY hicn hrb hbl GV2 hr hg4 hg3 hown3 hat3 hr3 nZ oZ sZ hZ hj0 hj1 hj2 hj3 hcj hru e2 hY
          have hone : (i + 1 < kk) ∨ (¬ i + 1 < kk ∧ rg = true) := by
            by_cases h : i + 1 < kk
            · exact Or.inl h
            · exact Or.inr ⟨h, hcond.resolve_left h⟩
          clear hcond
          have hX6 : X5 = w3.setCell ⟨X.heap.size + 1, 1, none⟩ (.slice (some ⟨gg, 0, none⟩) 2 cap) := hX5
          clear hX5
          have hrem2 : (IntKind.i64.wrap ((i : Int) + 1)).tmod (kk : Int) = (r : Int) := by rw [show IntKind.i64.wrap ((i : Int) + 1) = (i : Int) + 1 by rw [IntKind.wrap_i64]; omega]; exact hrem
          have hin : (i < zn ∧ ∃ g o z, pv = some ⟨g, o, none⟩ ∧ g < X.heap.size ∧ g < Y.heap.size ∧ Y.cell? ⟨g, o + i, none⟩ = some (.int .i64 z) ∧ (bits .and .i64 z 1 == 1) = bb) ∨ (¬ i < zn ∧ bb = false) := by
            by_cases h : i < zn
            · obtain ⟨g, o, z, a1, a2, a3, a4⟩ := HNG.out i h Y HBY.out
              exact Or.inl ⟨h, g, o, z, a1, by have := HBX.out.size; omega, by have := HBX.out.size; omega, a3, by rw [a4, hbb]⟩
            · exact Or.inr ⟨h, hbb.trans (HNO.out i h)⟩
          clear hbb HNG HNO
          have two : ∀ {p : Prop}, (i + 1 < kk → p) → (¬ i + 1 < kk → rg = true → p) → p := fun h1 h2 => hone.elim h1 (fun h => h2 h.1 h.2)
          rcases hin with ⟨hz2, g, ofs, z, hpv, hgX, hgY, cz, hbz⟩ | ⟨hz2, hbf⟩
          · subst hpv
            have HSS : Hid (∀ w', Below Y.heap.size Y w' → w'.cell? ⟨g, ofs + i, none⟩ = some (.int .i64 z)) := fun w' hb => (hb.cell (p := ⟨_, _, none⟩) hgY).trans cz
            have S3 : Hid (w3.cell? ⟨g, ofs + i, none⟩ = some (.int .i64 z)) := HC3.out _ _ hgX cz
            have S4 : Hid (∀ v, (w3.setCell ⟨X.heap.size + 1, 1, none⟩ v).cell? ⟨g, ofs + i, none⟩ = some (.int .i64 z)) := fun v => by
              refine Eq.trans ?_ S3.out
              unfold World.cell?
              rw [Below.heap_setCell _ _ _ _ (by show g ≠ X.heap.size + 1; omega)]
            refine two (fun hz1 => ?_) (fun hz1 hrg => ?_)
            · clear two hone
              go_wp2
              refine wp_region_noPanic ?_
              refine wp_region_held_drew (S := (fun w' => w'.cell? ⟨g, ofs + i, none⟩ = some (.int .i64 z))) (by kernel_rfl) ?_ (fun hHeld => ?_)
              · (try dsimp only); (first | with_reducible exact S3.out | with_reducible exact S4.out _ | (refine HSS.out _ ?_; (repeat' (first | with_reducible assumption | with_reducible exact Below.refl _ _ | with_reducible apply Below.drew | with_reducible apply belC_alloc)); all_goals (first | omega | (simp; done))))
              refine wpAnyH_take (i := 0) (oi := ({ dst := some 34, op := Op.fieldAddr 44 (Operand.tmp 9) 1, type := 0, pos := "more.go:17", after := #[], guard := none } : Oper)) (v := ?_) rfl (by kernel_rfl) (by kernel_rfl) (by kernel_rfl) (fun _ _ _ h => h) (Or.inl ⟨by rfl, ?_⟩) (by assumption) ?_
              rotate_left
              · intro w' hSw; (try dsimp only at hSw); go_simp; (try with_reducible rfl)
              simp only [Act.put, List.setIfInBounds_toArray, List.set_cons_zero, List.set_cons_succ]
              refine wpAnyH_take (i := 2) (oi := ({ dst := some 36, op := Op.move (Operand.tmp 8), type := 3, pos := "more.go:17", after := #[], guard := none } : Oper)) (v := ?_) rfl (by kernel_rfl) (by kernel_rfl) (by kernel_rfl) (fun _ _ _ h => h) (Or.inl ⟨by rfl, ?_⟩) (by assumption) ?_
              rotate_left
              · intro w' hSw; (try dsimp only at hSw); go_simp; (try with_reducible rfl)
              simp only [Act.put, List.setIfInBounds_toArray, List.set_cons_zero, List.set_cons_succ]
              refine wpAnyH_take (i := 3) (oi := ({ dst := some 37, op := Op.move (Operand.tmp 1), type := 27, pos := "more.go:17", after := #[], guard := none } : Oper)) (v := ?_) rfl (by kernel_rfl) (by kernel_rfl) (by kernel_rfl) (fun _ _ _ h => h) (Or.inl ⟨by rfl, ?_⟩) (by assumption) ?_
              rotate_left
              · intro w' hSw; (try dsimp only at hSw); go_simp; (try with_reducible rfl)
              simp only [Act.put, List.setIfInBounds_toArray, List.set_cons_zero, List.set_cons_succ]
              refine wpAnyH_take (i := 4) (oi := ({ dst := some 38, op := Op.call { callee := Callee.builtin Builtin.len, args := #[Operand.tmp 37], argTypes := #[27] }, type := 3, pos := "more.go:17", after := #[{ on := 3, ground := Ground.data }], guard := none } : Oper)) (v := ?_) rfl (by kernel_rfl) (by kernel_rfl) (by kernel_rfl) (fun _ _ _ h => h) (Or.inl ⟨by rfl, ?_⟩) (by assumption) ?_
              rotate_left
              · intro w' hSw; (try dsimp only at hSw); go_simp; (try with_reducible rfl)
              simp only [Act.put, List.setIfInBounds_toArray, List.set_cons_zero, List.set_cons_succ]
              refine wpAnyH_take (i := 5) (oi := ({ dst := some 39, op := Op.binOp BinOp.lss 3 (Operand.tmp 36) (Operand.tmp 38) 3, type := 4, pos := "more.go:17", after := #[{ on := 2, ground := Ground.data }, { on := 4, ground := Ground.data }], guard := none } : Oper)) (v := ?_) rfl (by kernel_rfl) (by kernel_rfl) (by kernel_rfl) (fun _ _ _ h => h) (Or.inl ⟨by rfl, ?_⟩) (by assumption) ?_
              rotate_left
              · intro w' hSw; (try dsimp only at hSw); go_simp; (try with_reducible rfl)
              simp only [Act.put, List.setIfInBounds_toArray, List.set_cons_zero, List.set_cons_succ]
              refine wpAnyH_take (i := 6) (oi := ({ dst := some 40, op := Op.move (Operand.tmp 39), type := 4, pos := "more.go:17", after := #[{ on := 5, ground := Ground.data }], guard := none } : Oper)) (v := ?_) rfl (by kernel_rfl) (by kernel_rfl) (by kernel_rfl) (fun _ _ _ h => h) (Or.inl ⟨by rfl, ?_⟩) (by assumption) ?_
              rotate_left
              · intro w' hSw; (try dsimp only at hSw); go_simp; (try with_reducible rfl)
              simp only [Act.put, List.setIfInBounds_toArray, List.set_cons_zero, List.set_cons_succ]
              refine wpAnyH_take (i := 7) (oi := ({ dst := some 41, op := Op.move (Operand.tmp 1), type := 27, pos := "more.go:17", after := #[{ on := 6, ground := Ground.guard }], guard := some (6, true) } : Oper)) (v := ?_) rfl (by kernel_rfl) (by kernel_rfl) (by kernel_rfl) (fun _ _ _ h => h) (Or.inl ⟨by rfl, ?_⟩) (by assumption) ?_
              rotate_left
              · intro w' hSw; (try dsimp only at hSw); go_simp; (try with_reducible rfl)
              simp only [Act.put, List.setIfInBounds_toArray, List.set_cons_zero, List.set_cons_succ]
              refine wpAnyH_take (i := 8) (oi := ({ dst := some 42, op := Op.move (Operand.tmp 8), type := 3, pos := "more.go:17", after := #[{ on := 6, ground := Ground.guard }], guard := some (6, true) } : Oper)) (v := ?_) rfl (by kernel_rfl) (by kernel_rfl) (by kernel_rfl) (fun _ _ _ h => h) (Or.inl ⟨by rfl, ?_⟩) (by assumption) ?_
              rotate_left
              · intro w' hSw; (try dsimp only at hSw); go_simp; (try with_reducible rfl)
              simp only [Act.put, List.setIfInBounds_toArray, List.set_cons_zero, List.set_cons_succ]
              refine wpAnyH_take (i := 9) (oi := ({ dst := some 43, op := Op.indexAddr 27 (Operand.tmp 41) (Operand.tmp 42), type := 0, pos := "more.go:17", after := #[{ on := 7, ground := Ground.data }, { on := 8, ground := Ground.data }, { on := 6, ground := Ground.guard }], guard := some (6, true) } : Oper)) (v := ?_) rfl (by kernel_rfl) (by kernel_rfl) (by kernel_rfl) (fun _ _ _ h => h) (Or.inl ⟨by rfl, ?_⟩) (by assumption) ?_
              rotate_left
              · intro w' hSw; (try dsimp only at hSw); go_simp; (try with_reducible rfl)
              simp only [Act.put, List.setIfInBounds_toArray, List.set_cons_zero, List.set_cons_succ]
              refine wpAnyH_take (i := 10) (oi := ({ dst := some 44, op := Op.load 3 (Operand.tmp 43), type := 3, pos := "more.go:17", after := #[{ on := 9, ground := Ground.data }, { on := 6, ground := Ground.guard }], guard := some (6, true) } : Oper)) (v := ?_) rfl (by kernel_rfl) (by kernel_rfl) (by kernel_rfl) (fun _ _ _ h => h) (Or.inl ⟨by rfl, ?_⟩) (by assumption) ?_
              rotate_left
              · intro w' hSw; (try dsimp only at hSw); go_simp; (try with_reducible rfl)
              simp only [Act.put, List.setIfInBounds_toArray, List.set_cons_zero, List.set_cons_succ]
              refine wpAnyH_take (i := 11) (oi := ({ dst := some 45, op := Op.binOp BinOp.and 3 (Operand.tmp 44) (Operand.const (Value.int IntKind.i64 1)) 3, type := 3, pos := "more.go:17", after := #[{ on := 10, ground := Ground.data }, { on := 6, ground := Ground.guard }], guard := some (6, true) } : Oper)) (v := ?_) rfl (by kernel_rfl) (by kernel_rfl) (by kernel_rfl) (fun _ _ _ h => h) (Or.inl ⟨by rfl, ?_⟩) (by assumption) ?_
              rotate_left
              · intro w' hSw; (try dsimp only at hSw); go_simp; (try with_reducible rfl)
              simp only [Act.put, List.setIfInBounds_toArray, List.set_cons_zero, List.set_cons_succ]
              refine wpAnyH_take (i := 12) (oi := ({ dst := some 46, op := Op.binOp BinOp.eql 3 (Operand.tmp 45) (Operand.const (Value.int IntKind.i64 1)) 3, type := 4, pos := "more.go:17", after := #[{ on := 11, ground := Ground.data }, { on := 6, ground := Ground.guard }], guard := some (6, true) } : Oper)) (v := ?_) rfl (by kernel_rfl) (by kernel_rfl) (by kernel_rfl) (fun _ _ _ h => h) (Or.inl ⟨by rfl, ?_⟩) (by assumption) ?_
              rotate_left
              · intro w' hSw; (try dsimp only at hSw); go_simp; (try with_reducible rfl)
              simp only [Act.put, List.setIfInBounds_toArray, List.set_cons_zero, List.set_cons_succ]
              refine wpAnyH_take (i := 13) (oi := ({ dst := some 47, op := Op.pick (Operand.tmp 40) (Operand.tmp 46) (Operand.const (Value.bool false)), type := 4, pos := "more.go:17", after := #[{ on := 6, ground := Ground.data }, { on := 12, ground := Ground.data }], guard := none } : Oper)) (v := ?_) rfl (by kernel_rfl) (by kernel_rfl) (by kernel_rfl) (fun _ _ _ h => h) (Or.inl ⟨by rfl, ?_⟩) (by assumption) ?_
              rotate_left
              · intro w' hSw; (try dsimp only at hSw); go_simp; (try with_reducible rfl)
              simp only [Act.put, List.setIfInBounds_toArray, List.set_cons_zero, List.set_cons_succ]
              refine wpAnyH_take (i := 14) (oi := ({ dst := some 48, op := Op.move (Operand.tmp 8), type := 3, pos := "more.go:17", after := #[], guard := none } : Oper)) (v := ?_) rfl (by kernel_rfl) (by kernel_rfl) (by kernel_rfl) (fun _ _ _ h => h) (Or.inl ⟨by rfl, ?_⟩) (by assumption) ?_
              rotate_left
              · intro w' hSw; (try dsimp only at hSw); go_simp; (try with_reducible rfl)
              simp only [Act.put, List.setIfInBounds_toArray, List.set_cons_zero, List.set_cons_succ]
              refine wpAnyH_take (i := 15) (oi := ({ dst := some 49, op := Op.binOp BinOp.add 3 (Operand.tmp 48) (Operand.const (Value.int IntKind.i64 1)) 3, type := 3, pos := "more.go:17", after := #[{ on := 14, ground := Ground.data }], guard := none } : Oper)) (v := ?_) rfl (by kernel_rfl) (by kernel_rfl) (by kernel_rfl) (fun _ _ _ h => h) (Or.inl ⟨by rfl, ?_⟩) (by assumption) ?_
              rotate_left
              · intro w' hSw; (try dsimp only at hSw); go_simp; (try with_reducible rfl)
              simp only [Act.put, List.setIfInBounds_toArray, List.set_cons_zero, List.set_cons_succ]
              refine wpAnyH_take (i := 16) (oi := ({ dst := some 50, op := Op.move (Operand.tmp 0), type := 3, pos := "more.go:17", after := #[], guard := none } : Oper)) (v := ?_) rfl (by kernel_rfl) (by kernel_rfl) (by kernel_rfl) (fun _ _ _ h => h) (Or.inl ⟨by rfl, ?_⟩) (by assumption) ?_
              rotate_left
              · intro w' hSw; (try dsimp only at hSw); go_simp; (try with_reducible rfl)
              simp only [Act.put, List.setIfInBounds_toArray, List.set_cons_zero, List.set_cons_succ]
              refine wpAnyH_take (i := 17) (oi := ({ dst := some 51, op := Op.binOp BinOp.rem 3 (Operand.tmp 49) (Operand.tmp 50) 3, type := 3, pos := "more.go:17", after := #[{ on := 15, ground := Ground.data }, { on := 16, ground := Ground.data }], guard := none } : Oper)) (v := ?_) rfl (by kernel_rfl) (by kernel_rfl) (by kernel_rfl) (fun _ _ _ h => h) (Or.inl ⟨by rfl, ?_⟩) (by assumption) ?_
              rotate_left
              · intro w' hSw; (try dsimp only at hSw); go_simp; (try with_reducible rfl)
              simp only [Act.put, List.setIfInBounds_toArray, List.set_cons_zero, List.set_cons_succ]
              refine wpAnyH_take (i := 18) (oi := ({ dst := some 52, op := Op.build 50 #[(0, Operand.tmp 51)], type := 50, pos := "more.go:17", after := #[{ on := 17, ground := Ground.data }], guard := none } : Oper)) (v := ?_) rfl (by kernel_rfl) (by kernel_rfl) (by kernel_rfl) (fun _ _ _ h => h) (Or.inl ⟨by rfl, ?_⟩) (by assumption) ?_
              rotate_left
              · intro w' hSw; (try dsimp only at hSw); go_simp; (try with_reducible rfl)
              simp only [Act.put, List.setIfInBounds_toArray, List.set_cons_zero, List.set_cons_succ]
              refine wpAnyH_ready (rs := [1, 19]) (by kernel_rfl) (by simp) ?_
              refine AllReadyH.cons rfl (fun K hK => ?_) ?_
              · go_simp
                refine hK.out _ _ ?_ (fun hHeld => ?_)
                · (try dsimp only); (first | with_reducible exact S3.out | with_reducible exact S4.out _ | (refine HSS.out _ ?_; (repeat' (first | with_reducible assumption | with_reducible exact Below.refl _ _ | with_reducible apply Below.drew | with_reducible apply belC_alloc)); all_goals (first | omega | (simp; done))))
                clear hK K
                refine wpAnyH_ready (rs := [19]) (by kernel_rfl) (by simp) ?_
                refine AllReadyH.cons rfl (fun K hK => ?_) ?_
                · go_simp
                  refine hK.out _ _ ?_ (fun hHeld => ?_)
                  · (try dsimp only); (first | with_reducible exact S3.out | with_reducible exact S4.out _ | (refine HSS.out _ ?_; (repeat' (first | with_reducible assumption | with_reducible exact Below.refl _ _ | with_reducible apply Below.drew | with_reducible apply belC_alloc)); all_goals (first | omega | (simp; done))))
                  clear hK K
                  refine wpAnyH_take (i := 20) (oi := ({ dst := some 54, op := Op.build 47 #[(0, Operand.tmp 47), (1, Operand.tmp 53)], type := 47, pos := "more.go:17", after := #[{ on := 13, ground := Ground.data }, { on := 19, ground := Ground.data }], guard := none } : Oper)) (v := ?_) rfl (by kernel_rfl) (by kernel_rfl) (by kernel_rfl) (fun _ _ _ h => h) (Or.inl ⟨by rfl, ?_⟩) (by assumption) ?_
                  rotate_left
                  · intro w' hSw; (try dsimp only at hSw); go_simp; (try with_reducible rfl)
                  simp only [Act.put, List.setIfInBounds_toArray, List.set_cons_zero, List.set_cons_succ]
                  refine wpAnyH_ready (rs := [21]) (by kernel_rfl) (by simp) ?_
                  refine AllReadyH.cons rfl (fun K hK => ?_) ?_
                  · go_simp
                    refine hK.out _ _ ?_ (fun hHeld => ?_)
                    · (try dsimp only); (first | with_reducible exact S3.out | with_reducible exact S4.out _ | (refine HSS.out _ ?_; (repeat' (first | with_reducible assumption | with_reducible exact Below.refl _ _ | with_reducible apply Below.drew | with_reducible apply belC_alloc)); all_goals (first | omega | (simp; done))))
                    clear hK K
                    refine wpAnyH_ready (rs := [22]) (by kernel_rfl) (by simp) ?_
                    refine AllReadyH.cons rfl (fun K hK => ?_) ?_
                    · ((with_reducible refine LA _ _ _ _ _ _ ?_ ?_ ?_ ?_); rfl; exact ⟨_, _, rfl, rfl, rfl⟩; rfl)
                      refine hK.out _ _ ?_ (fun hHeld => ?_)
                      · (try dsimp only); (first | with_reducible exact S3.out | with_reducible exact S4.out _ | (refine HSS.out _ ?_; (repeat' (first | with_reducible assumption | with_reducible exact Below.refl _ _ | with_reducible apply Below.drew | with_reducible apply belC_alloc)); all_goals (first | omega | (simp; done))))
                      clear hK K
                      refine wpAnyH_take (i := 23) (oi := ({ dst := some 57, op := Op.fieldAddr 44 (Operand.tmp 9) 1, type := 0, pos := "more.go:17", after := #[{ on := 0, ground := Ground.phase }, { on := 1, ground := Ground.phase }, { on := 2, ground := Ground.phase }, { on := 3, ground := Ground.phase }, { on := 4, ground := Ground.phase }, { on := 5, ground := Ground.phase }, { on := 6, ground := Ground.phase }, { on := 7, ground := Ground.phase }, { on := 8, ground := Ground.phase }, { on := 9, ground := Ground.phase }, { on := 10, ground := Ground.phase }, { on := 11, ground := Ground.phase }, { on := 12, ground := Ground.phase }, { on := 13, ground := Ground.phase }, { on := 14, ground := Ground.phase }, { on := 15, ground := Ground.phase }, { on := 16, ground := Ground.phase }, { on := 17, ground := Ground.phase }, { on := 18, ground := Ground.phase }, { on := 19, ground := Ground.phase }, { on := 20, ground := Ground.phase }, { on := 21, ground := Ground.phase }, { on := 22, ground := Ground.phase }], guard := none } : Oper)) (v := ?_) rfl (by kernel_rfl) (by kernel_rfl) (by kernel_rfl) (fun _ _ _ h => h) (Or.inl ⟨by rfl, ?_⟩) (by assumption) ?_
                      rotate_left
                      · intro w' hSw; (try dsimp only at hSw); go_simp; (try with_reducible rfl)
                      simp only [Act.put, List.setIfInBounds_toArray, List.set_cons_zero, List.set_cons_succ]
                      refine wpAnyH_ready (rs := [24]) (by kernel_rfl) (by simp) ?_
                      refine AllReadyH.cons rfl (fun K hK => ?_) ?_
                      · go_simp
                        refine hK.out _ _ ?_ (fun hHeld => ?_)
                        · (try dsimp only); (first | with_reducible exact S3.out | with_reducible exact S4.out _ | (refine HSS.out _ ?_; (repeat' (first | with_reducible assumption | with_reducible exact Below.refl _ _ | with_reducible apply Below.drew | with_reducible apply belC_alloc)); all_goals (first | omega | (simp; done))))
                        clear hK K
                        refine wpAnyH_done (by kernel_rfl) ?_ _
                        refine NoPanic.normal ?_
                        rw [← hX6]
                        clear hX6
                        go_wp2_with (at_builtin; refine wpList_run_append rfl _ _ 23 rfl _ _ rfl rfl hr2 ?_)
                        go_roundw
                        case rel => exact ⟨i + 1, by omega, by go_num, _, _, _, _, GV3⟩
                        case measure => simp [intOf]; omega
                      exact AllReadyH.nil
                    exact AllReadyH.nil
                  exact AllReadyH.nil
                exact AllReadyH.nil
              refine AllReadyH.cons rfl (fun K hK => ?_) ?_
              · go_simp
                refine hK.out _ _ ?_ (fun hHeld => ?_)
                · (try dsimp only); (first | with_reducible exact S3.out | with_reducible exact S4.out _ | (refine HSS.out _ ?_; (repeat' (first | with_reducible assumption | with_reducible exact Below.refl _ _ | with_reducible apply Below.drew | with_reducible apply belC_alloc)); all_goals (first | omega | (simp; done))))
                clear hK K
                refine wpAnyH_take (i := 20) (oi := ({ dst := some 54, op := Op.build 47 #[(0, Operand.tmp 47), (1, Operand.tmp 53)], type := 47, pos := "more.go:17", after := #[{ on := 13, ground := Ground.data }, { on := 19, ground := Ground.data }], guard := none } : Oper)) (v := ?_) rfl (by kernel_rfl) (by kernel_rfl) (by kernel_rfl) (fun _ _ _ h => h) (Or.inl ⟨by rfl, ?_⟩) (by assumption) ?_
                rotate_left
                · intro w' hSw; (try dsimp only at hSw); go_simp; (try with_reducible rfl)
                simp only [Act.put, List.setIfInBounds_toArray, List.set_cons_zero, List.set_cons_succ]
                refine wpAnyH_ready (rs := [1, 21]) (by kernel_rfl) (by simp) ?_
                refine AllReadyH.cons rfl (fun K hK => ?_) ?_
                · go_simp
                  refine hK.out _ _ ?_ (fun hHeld => ?_)
                  · (try dsimp only); (first | with_reducible exact S3.out | with_reducible exact S4.out _ | (refine HSS.out _ ?_; (repeat' (first | with_reducible assumption | with_reducible exact Below.refl _ _ | with_reducible apply Below.drew | with_reducible apply belC_alloc)); all_goals (first | omega | (simp; done))))
                  clear hK K
                  refine wpAnyH_ready (rs := [21]) (by kernel_rfl) (by simp) ?_
                  refine AllReadyH.cons rfl (fun K hK => ?_) ?_
                  · go_simp
                    refine hK.out _ _ ?_ (fun hHeld => ?_)
                    · (try dsimp only); (first | with_reducible exact S3.out | with_reducible exact S4.out _ | (refine HSS.out _ ?_; (repeat' (first | with_reducible assumption | with_reducible exact Below.refl _ _ | with_reducible apply Below.drew | with_reducible apply belC_alloc)); all_goals (first | omega | (simp; done))))
                    clear hK K
                    refine wpAnyH_ready (rs := [22]) (by kernel_rfl) (by simp) ?_
                    refine AllReadyH.cons rfl (fun K hK => ?_) ?_
                    · ((with_reducible refine LA _ _ _ _ _ _ ?_ ?_ ?_ ?_); rfl; exact ⟨_, _, rfl, rfl, rfl⟩; rfl)
                      refine hK.out _ _ ?_ (fun hHeld => ?_)
                      · (try dsimp only); (first | with_reducible exact S3.out | with_reducible exact S4.out _ | (refine HSS.out _ ?_; (repeat' (first | with_reducible assumption | with_reducible exact Below.refl _ _ | with_reducible apply Below.drew | with_reducible apply belC_alloc)); all_goals (first | omega | (simp; done))))
                      clear hK K
                      refine wpAnyH_take (i := 23) (oi := ({ dst := some 57, op := Op.fieldAddr 44 (Operand.tmp 9) 1, type := 0, pos := "more.go:17", after := #[{ on := 0, ground := Ground.phase }, { on := 1, ground := Ground.phase }, { on := 2, ground := Ground.phase }, { on := 3, ground := Ground.phase }, { on := 4, ground := Ground.phase }, { on := 5, ground := Ground.phase }, { on := 6, ground := Ground.phase }, { on := 7, ground := Ground.phase }, { on := 8, ground := Ground.phase }, { on := 9, ground := Ground.phase }, { on := 10, ground := Ground.phase }, { on := 11, ground := Ground.phase }, { on := 12, ground := Ground.phase }, { on := 13, ground := Ground.phase }, { on := 14, ground := Ground.phase }, { on := 15, ground := Ground.phase }, { on := 16, ground := Ground.phase }, { on := 17, ground := Ground.phase }, { on := 18, ground := Ground.phase }, { on := 19, ground := Ground.phase }, { on := 20, ground := Ground.phase }, { on := 21, ground := Ground.phase }, { on := 22, ground := Ground.phase }], guard := none } : Oper)) (v := ?_) rfl (by kernel_rfl) (by kernel_rfl) (by kernel_rfl) (fun _ _ _ h => h) (Or.inl ⟨by rfl, ?_⟩) (by assumption) ?_
                      rotate_left
                      · intro w' hSw; (try dsimp only at hSw); go_simp; (try with_reducible rfl)
                      simp only [Act.put, List.setIfInBounds_toArray, List.set_cons_zero, List.set_cons_succ]
                      refine wpAnyH_ready (rs := [24]) (by kernel_rfl) (by simp) ?_
                      refine AllReadyH.cons rfl (fun K hK => ?_) ?_
                      · go_simp
                        refine hK.out _ _ ?_ (fun hHeld => ?_)
                        · (try dsimp only); (first | with_reducible exact S3.out | with_reducible exact S4.out _ | (refine HSS.out _ ?_; (repeat' (first | with_reducible assumption | with_reducible exact Below.refl _ _ | with_reducible apply Below.drew | with_reducible apply belC_alloc)); all_goals (first | omega | (simp; done))))
                        clear hK K
                        refine wpAnyH_done (by kernel_rfl) ?_ _
                        refine NoPanic.normal ?_
                        rw [← hX6]
                        clear hX6
                        go_wp2_with (at_builtin; refine wpList_run_append rfl _ _ 23 rfl _ _ rfl rfl hr2 ?_)
                        go_roundw
                        case rel => exact ⟨i + 1, by omega, by go_num, _, _, _, _, GV3⟩
                        case measure => simp [intOf]; omega
                      exact AllReadyH.nil
                    exact AllReadyH.nil
                  exact AllReadyH.nil
                refine AllReadyH.cons rfl (fun K hK => ?_) ?_
                · go_simp
                  refine hK.out _ _ ?_ (fun hHeld => ?_)
                  · (try dsimp only); (first | with_reducible exact S3.out | with_reducible exact S4.out _ | (refine HSS.out _ ?_; (repeat' (first | with_reducible assumption | with_reducible exact Below.refl _ _ | with_reducible apply Below.drew | with_reducible apply belC_alloc)); all_goals (first | omega | (simp; done))))
                  clear hK K
                  refine wpAnyH_ready (rs := [1]) (by kernel_rfl) (by simp) ?_
                  refine AllReadyH.cons rfl (fun K hK => ?_) ?_
                  · go_simp
                    refine hK.out _ _ ?_ (fun hHeld => ?_)
                    · (try dsimp only); (first | with_reducible exact S3.out | with_reducible exact S4.out _ | (refine HSS.out _ ?_; (repeat' (first | with_reducible assumption | with_reducible exact Below.refl _ _ | with_reducible apply Below.drew | with_reducible apply belC_alloc)); all_goals (first | omega | (simp; done))))
                    clear hK K
                    refine wpAnyH_ready (rs := [22]) (by kernel_rfl) (by simp) ?_
                    refine AllReadyH.cons rfl (fun K hK => ?_) ?_
                    · ((with_reducible refine LA _ _ _ _ _ _ ?_ ?_ ?_ ?_); rfl; exact ⟨_, _, rfl, rfl, rfl⟩; rfl)
                      refine hK.out _ _ ?_ (fun hHeld => ?_)
                      · (try dsimp only); (first | with_reducible exact S3.out | with_reducible exact S4.out _ | (refine HSS.out _ ?_; (repeat' (first | with_reducible assumption | with_reducible exact Below.refl _ _ | with_reducible apply Below.drew | with_reducible apply belC_alloc)); all_goals (first | omega | (simp; done))))
                      clear hK K
                      refine wpAnyH_take (i := 23) (oi := ({ dst := some 57, op := Op.fieldAddr 44 (Operand.tmp 9) 1, type := 0, pos := "more.go:17", after := #[{ on := 0, ground := Ground.phase }, { on := 1, ground := Ground.phase }, { on := 2, ground := Ground.phase }, { on := 3, ground := Ground.phase }, { on := 4, ground := Ground.phase }, { on := 5, ground := Ground.phase }, { on := 6, ground := Ground.phase }, { on := 7, ground := Ground.phase }, { on := 8, ground := Ground.phase }, { on := 9, ground := Ground.phase }, { on := 10, ground := Ground.phase }, { on := 11, ground := Ground.phase }, { on := 12, ground := Ground.phase }, { on := 13, ground := Ground.phase }, { on := 14, ground := Ground.phase }, { on := 15, ground := Ground.phase }, { on := 16, ground := Ground.phase }, { on := 17, ground := Ground.phase }, { on := 18, ground := Ground.phase }, { on := 19, ground := Ground.phase }, { on := 20, ground := Ground.phase }, { on := 21, ground := Ground.phase }, { on := 22, ground := Ground.phase }], guard := none } : Oper)) (v := ?_) rfl (by kernel_rfl) (by kernel_rfl) (by kernel_rfl) (fun _ _ _ h => h) (Or.inl ⟨by rfl, ?_⟩) (by assumption) ?_
                      rotate_left
                      · intro w' hSw; (try dsimp only at hSw); go_simp; (try with_reducible rfl)
                      simp only [Act.put, List.setIfInBounds_toArray, List.set_cons_zero, List.set_cons_succ]
                      refine wpAnyH_ready (rs := [24]) (by kernel_rfl) (by simp) ?_
                      refine AllReadyH.cons rfl (fun K hK => ?_) ?_
                      · go_simp
                        refine hK.out _ _ ?_ (fun hHeld => ?_)
                        · (try dsimp only); (first | with_reducible exact S3.out | with_reducible exact S4.out _ | (refine HSS.out _ ?_; (repeat' (first | with_reducible assumption | with_reducible exact Below.refl _ _ | with_reducible apply Below.drew | with_reducible apply belC_alloc)); all_goals (first | omega | (simp; done))))
                        clear hK K
                        refine wpAnyH_done (by kernel_rfl) ?_ _
                        refine NoPanic.normal ?_
                        rw [← hX6]
                        clear hX6
                        go_wp2_with (at_builtin; refine wpList_run_append rfl _ _ 23 rfl _ _ rfl rfl hr2 ?_)
                        go_roundw
                        case rel => exact ⟨i + 1, by omega, by go_num, _, _, _, _, GV3⟩
                        case measure => simp [intOf]; omega
                      exact AllReadyH.nil
                    exact AllReadyH.nil
                  exact AllReadyH.nil
                exact AllReadyH.nil
              exact AllReadyH.nil
            · subst hrg
              clear two hone
              go_wp2
              refine wp_region_noPanic ?_
              refine wp_region_held_drew (S := (fun w' => w'.cell? ⟨g, ofs + i, none⟩ = some (.int .i64 z))) (by kernel_rfl) ?_ (fun hHeld => ?_)
              · (try dsimp only); (first | with_reducible exact S3.out | with_reducible exact S4.out _ | (refine HSS.out _ ?_; (repeat' (first | with_reducible assumption | with_reducible exact Below.refl _ _ | with_reducible apply Below.drew | with_reducible apply belC_alloc)); all_goals (first | omega | (simp; done))))
              refine wpAnyH_take (i := 0) (oi := ({ dst := some 34, op := Op.fieldAddr 44 (Operand.tmp 9) 1, type := 0, pos := "more.go:17", after := #[], guard := none } : Oper)) (v := ?_) rfl (by kernel_rfl) (by kernel_rfl) (by kernel_rfl) (fun _ _ _ h => h) (Or.inl ⟨by rfl, ?_⟩) (by assumption) ?_
              rotate_left
              · intro w' hSw; (try dsimp only at hSw); go_simp; (try with_reducible rfl)
              simp only [Act.put, List.setIfInBounds_toArray, List.set_cons_zero, List.set_cons_succ]
              refine wpAnyH_take (i := 2) (oi := ({ dst := some 36, op := Op.move (Operand.tmp 8), type := 3, pos := "more.go:17", after := #[], guard := none } : Oper)) (v := ?_) rfl (by kernel_rfl) (by kernel_rfl) (by kernel_rfl) (fun _ _ _ h => h) (Or.inl ⟨by rfl, ?_⟩) (by assumption) ?_
              rotate_left
              · intro w' hSw; (try dsimp only at hSw); go_simp; (try with_reducible rfl)
              simp only [Act.put, List.setIfInBounds_toArray, List.set_cons_zero, List.set_cons_succ]
              refine wpAnyH_take (i := 3) (oi := ({ dst := some 37, op := Op.move (Operand.tmp 1), type := 27, pos := "more.go:17", after := #[], guard := none } : Oper)) (v := ?_) rfl (by kernel_rfl) (by kernel_rfl) (by kernel_rfl) (fun _ _ _ h => h) (Or.inl ⟨by rfl, ?_⟩) (by assumption) ?_
              rotate_left
              · intro w' hSw; (try dsimp only at hSw); go_simp; (try with_reducible rfl)
              simp only [Act.put, List.setIfInBounds_toArray, List.set_cons_zero, List.set_cons_succ]
              refine wpAnyH_take (i := 4) (oi := ({ dst := some 38, op := Op.call { callee := Callee.builtin Builtin.len, args := #[Operand.tmp 37], argTypes := #[27] }, type := 3, pos := "more.go:17", after := #[{ on := 3, ground := Ground.data }], guard := none } : Oper)) (v := ?_) rfl (by kernel_rfl) (by kernel_rfl) (by kernel_rfl) (fun _ _ _ h => h) (Or.inl ⟨by rfl, ?_⟩) (by assumption) ?_
              rotate_left
              · intro w' hSw; (try dsimp only at hSw); go_simp; (try with_reducible rfl)
              simp only [Act.put, List.setIfInBounds_toArray, List.set_cons_zero, List.set_cons_succ]
              refine wpAnyH_take (i := 5) (oi := ({ dst := some 39, op := Op.binOp BinOp.lss 3 (Operand.tmp 36) (Operand.tmp 38) 3, type := 4, pos := "more.go:17", after := #[{ on := 2, ground := Ground.data }, { on := 4, ground := Ground.data }], guard := none } : Oper)) (v := ?_) rfl (by kernel_rfl) (by kernel_rfl) (by kernel_rfl) (fun _ _ _ h => h) (Or.inl ⟨by rfl, ?_⟩) (by assumption) ?_
              rotate_left
              · intro w' hSw; (try dsimp only at hSw); go_simp; (try with_reducible rfl)
              simp only [Act.put, List.setIfInBounds_toArray, List.set_cons_zero, List.set_cons_succ]
              refine wpAnyH_take (i := 6) (oi := ({ dst := some 40, op := Op.move (Operand.tmp 39), type := 4, pos := "more.go:17", after := #[{ on := 5, ground := Ground.data }], guard := none } : Oper)) (v := ?_) rfl (by kernel_rfl) (by kernel_rfl) (by kernel_rfl) (fun _ _ _ h => h) (Or.inl ⟨by rfl, ?_⟩) (by assumption) ?_
              rotate_left
              · intro w' hSw; (try dsimp only at hSw); go_simp; (try with_reducible rfl)
              simp only [Act.put, List.setIfInBounds_toArray, List.set_cons_zero, List.set_cons_succ]
              refine wpAnyH_take (i := 7) (oi := ({ dst := some 41, op := Op.move (Operand.tmp 1), type := 27, pos := "more.go:17", after := #[{ on := 6, ground := Ground.guard }], guard := some (6, true) } : Oper)) (v := ?_) rfl (by kernel_rfl) (by kernel_rfl) (by kernel_rfl) (fun _ _ _ h => h) (Or.inl ⟨by rfl, ?_⟩) (by assumption) ?_
              rotate_left
              · intro w' hSw; (try dsimp only at hSw); go_simp; (try with_reducible rfl)
              simp only [Act.put, List.setIfInBounds_toArray, List.set_cons_zero, List.set_cons_succ]
              refine wpAnyH_take (i := 8) (oi := ({ dst := some 42, op := Op.move (Operand.tmp 8), type := 3, pos := "more.go:17", after := #[{ on := 6, ground := Ground.guard }], guard := some (6, true) } : Oper)) (v := ?_) rfl (by kernel_rfl) (by kernel_rfl) (by kernel_rfl) (fun _ _ _ h => h) (Or.inl ⟨by rfl, ?_⟩) (by assumption) ?_
              rotate_left
              · intro w' hSw; (try dsimp only at hSw); go_simp; (try with_reducible rfl)
              simp only [Act.put, List.setIfInBounds_toArray, List.set_cons_zero, List.set_cons_succ]
              refine wpAnyH_take (i := 9) (oi := ({ dst := some 43, op := Op.indexAddr 27 (Operand.tmp 41) (Operand.tmp 42), type := 0, pos := "more.go:17", after := #[{ on := 7, ground := Ground.data }, { on := 8, ground := Ground.data }, { on := 6, ground := Ground.guard }], guard := some (6, true) } : Oper)) (v := ?_) rfl (by kernel_rfl) (by kernel_rfl) (by kernel_rfl) (fun _ _ _ h => h) (Or.inl ⟨by rfl, ?_⟩) (by assumption) ?_
              rotate_left
              · intro w' hSw; (try dsimp only at hSw); go_simp; (try with_reducible rfl)
              simp only [Act.put, List.setIfInBounds_toArray, List.set_cons_zero, List.set_cons_succ]
              refine wpAnyH_take (i := 10) (oi := ({ dst := some 44, op := Op.load 3 (Operand.tmp 43), type := 3, pos := "more.go:17", after := #[{ on := 9, ground := Ground.data }, { on := 6, ground := Ground.guard }], guard := some (6, true) } : Oper)) (v := ?_) rfl (by kernel_rfl) (by kernel_rfl) (by kernel_rfl) (fun _ _ _ h => h) (Or.inl ⟨by rfl, ?_⟩) (by assumption) ?_
              rotate_left
              · intro w' hSw; (try dsimp only at hSw); go_simp; (try with_reducible rfl)
              simp only [Act.put, List.setIfInBounds_toArray, List.set_cons_zero, List.set_cons_succ]
              refine wpAnyH_take (i := 11) (oi := ({ dst := some 45, op := Op.binOp BinOp.and 3 (Operand.tmp 44) (Operand.const (Value.int IntKind.i64 1)) 3, type := 3, pos := "more.go:17", after := #[{ on := 10, ground := Ground.data }, { on := 6, ground := Ground.guard }], guard := some (6, true) } : Oper)) (v := ?_) rfl (by kernel_rfl) (by kernel_rfl) (by kernel_rfl) (fun _ _ _ h => h) (Or.inl ⟨by rfl, ?_⟩) (by assumption) ?_
              rotate_left
              · intro w' hSw; (try dsimp only at hSw); go_simp; (try with_reducible rfl)
              simp only [Act.put, List.setIfInBounds_toArray, List.set_cons_zero, List.set_cons_succ]
              refine wpAnyH_take (i := 12) (oi := ({ dst := some 46, op := Op.binOp BinOp.eql 3 (Operand.tmp 45) (Operand.const (Value.int IntKind.i64 1)) 3, type := 4, pos := "more.go:17", after := #[{ on := 11, ground := Ground.data }, { on := 6, ground := Ground.guard }], guard := some (6, true) } : Oper)) (v := ?_) rfl (by kernel_rfl) (by kernel_rfl) (by kernel_rfl) (fun _ _ _ h => h) (Or.inl ⟨by rfl, ?_⟩) (by assumption) ?_
              rotate_left
              · intro w' hSw; (try dsimp only at hSw); go_simp; (try with_reducible rfl)
              simp only [Act.put, List.setIfInBounds_toArray, List.set_cons_zero, List.set_cons_succ]
              refine wpAnyH_take (i := 13) (oi := ({ dst := some 47, op := Op.pick (Operand.tmp 40) (Operand.tmp 46) (Operand.const (Value.bool false)), type := 4, pos := "more.go:17", after := #[{ on := 6, ground := Ground.data }, { on := 12, ground := Ground.data }], guard := none } : Oper)) (v := ?_) rfl (by kernel_rfl) (by kernel_rfl) (by kernel_rfl) (fun _ _ _ h => h) (Or.inl ⟨by rfl, ?_⟩) (by assumption) ?_
              rotate_left
              · intro w' hSw; (try dsimp only at hSw); go_simp; (try with_reducible rfl)
              simp only [Act.put, List.setIfInBounds_toArray, List.set_cons_zero, List.set_cons_succ]
              refine wpAnyH_take (i := 14) (oi := ({ dst := some 48, op := Op.move (Operand.tmp 8), type := 3, pos := "more.go:17", after := #[], guard := none } : Oper)) (v := ?_) rfl (by kernel_rfl) (by kernel_rfl) (by kernel_rfl) (fun _ _ _ h => h) (Or.inl ⟨by rfl, ?_⟩) (by assumption) ?_
              rotate_left
              · intro w' hSw; (try dsimp only at hSw); go_simp; (try with_reducible rfl)
              simp only [Act.put, List.setIfInBounds_toArray, List.set_cons_zero, List.set_cons_succ]
              refine wpAnyH_take (i := 15) (oi := ({ dst := some 49, op := Op.binOp BinOp.add 3 (Operand.tmp 48) (Operand.const (Value.int IntKind.i64 1)) 3, type := 3, pos := "more.go:17", after := #[{ on := 14, ground := Ground.data }], guard := none } : Oper)) (v := ?_) rfl (by kernel_rfl) (by kernel_rfl) (by kernel_rfl) (fun _ _ _ h => h) (Or.inl ⟨by rfl, ?_⟩) (by assumption) ?_
              rotate_left
              · intro w' hSw; (try dsimp only at hSw); go_simp; (try with_reducible rfl)
              simp only [Act.put, List.setIfInBounds_toArray, List.set_cons_zero, List.set_cons_succ]
              refine wpAnyH_take (i := 16) (oi := ({ dst := some 50, op := Op.move (Operand.tmp 0), type := 3, pos := "more.go:17", after := #[], guard := none } : Oper)) (v := ?_) rfl (by kernel_rfl) (by kernel_rfl) (by kernel_rfl) (fun _ _ _ h => h) (Or.inl ⟨by rfl, ?_⟩) (by assumption) ?_
              rotate_left
              · intro w' hSw; (try dsimp only at hSw); go_simp; (try with_reducible rfl)
              simp only [Act.put, List.setIfInBounds_toArray, List.set_cons_zero, List.set_cons_succ]
              refine wpAnyH_take (i := 17) (oi := ({ dst := some 51, op := Op.binOp BinOp.rem 3 (Operand.tmp 49) (Operand.tmp 50) 3, type := 3, pos := "more.go:17", after := #[{ on := 15, ground := Ground.data }, { on := 16, ground := Ground.data }], guard := none } : Oper)) (v := ?_) rfl (by kernel_rfl) (by kernel_rfl) (by kernel_rfl) (fun _ _ _ h => h) (Or.inl ⟨by rfl, ?_⟩) (by assumption) ?_
              rotate_left
              · intro w' hSw; (try dsimp only at hSw); go_simp; (try with_reducible rfl)
              simp only [Act.put, List.setIfInBounds_toArray, List.set_cons_zero, List.set_cons_succ]
              refine wpAnyH_take (i := 18) (oi := ({ dst := some 52, op := Op.build 50 #[(0, Operand.tmp 51)], type := 50, pos := "more.go:17", after := #[{ on := 17, ground := Ground.data }], guard := none } : Oper)) (v := ?_) rfl (by kernel_rfl) (by kernel_rfl) (by kernel_rfl) (fun _ _ _ h => h) (Or.inl ⟨by rfl, ?_⟩) (by assumption) ?_
              rotate_left
              · intro w' hSw; (try dsimp only at hSw); go_simp; (try with_reducible rfl)
              simp only [Act.put, List.setIfInBounds_toArray, List.set_cons_zero, List.set_cons_succ]
              refine wpAnyH_ready (rs := [1, 19]) (by kernel_rfl) (by simp) ?_
              refine AllReadyH.cons rfl (fun K hK => ?_) ?_
              · go_simp
                refine hK.out _ _ ?_ (fun hHeld => ?_)
                · (try dsimp only); (first | with_reducible exact S3.out | with_reducible exact S4.out _ | (refine HSS.out _ ?_; (repeat' (first | with_reducible assumption | with_reducible exact Below.refl _ _ | with_reducible apply Below.drew | with_reducible apply belC_alloc)); all_goals (first | omega | (simp; done))))
                clear hK K
                refine wpAnyH_ready (rs := [19]) (by kernel_rfl) (by simp) ?_
                refine AllReadyH.cons rfl (fun K hK => ?_) ?_
                · go_simp
                  refine hK.out _ _ ?_ (fun hHeld => ?_)
                  · (try dsimp only); (first | with_reducible exact S3.out | with_reducible exact S4.out _ | (refine HSS.out _ ?_; (repeat' (first | with_reducible assumption | with_reducible exact Below.refl _ _ | with_reducible apply Below.drew | with_reducible apply belC_alloc)); all_goals (first | omega | (simp; done))))
                  clear hK K
                  refine wpAnyH_take (i := 20) (oi := ({ dst := some 54, op := Op.build 47 #[(0, Operand.tmp 47), (1, Operand.tmp 53)], type := 47, pos := "more.go:17", after := #[{ on := 13, ground := Ground.data }, { on := 19, ground := Ground.data }], guard := none } : Oper)) (v := ?_) rfl (by kernel_rfl) (by kernel_rfl) (by kernel_rfl) (fun _ _ _ h => h) (Or.inl ⟨by rfl, ?_⟩) (by assumption) ?_
                  rotate_left
                  · intro w' hSw; (try dsimp only at hSw); go_simp; (try with_reducible rfl)
                  simp only [Act.put, List.setIfInBounds_toArray, List.set_cons_zero, List.set_cons_succ]
                  refine wpAnyH_ready (rs := [21]) (by kernel_rfl) (by simp) ?_
                  refine AllReadyH.cons rfl (fun K hK => ?_) ?_
                  · go_simp
                    refine hK.out _ _ ?_ (fun hHeld => ?_)
                    · (try dsimp only); (first | with_reducible exact S3.out | with_reducible exact S4.out _ | (refine HSS.out _ ?_; (repeat' (first | with_reducible assumption | with_reducible exact Below.refl _ _ | with_reducible apply Below.drew | with_reducible apply belC_alloc)); all_goals (first | omega | (simp; done))))
                    clear hK K
                    refine wpAnyH_ready (rs := [22]) (by kernel_rfl) (by simp) ?_
                    refine AllReadyH.cons rfl (fun K hK => ?_) ?_
                    · ((with_reducible refine LA _ _ _ _ _ _ ?_ ?_ ?_ ?_); rfl; exact ⟨_, _, rfl, rfl, rfl⟩; rfl)
                      refine hK.out _ _ ?_ (fun hHeld => ?_)
                      · (try dsimp only); (first | with_reducible exact S3.out | with_reducible exact S4.out _ | (refine HSS.out _ ?_; (repeat' (first | with_reducible assumption | with_reducible exact Below.refl _ _ | with_reducible apply Below.drew | with_reducible apply belC_alloc)); all_goals (first | omega | (simp; done))))
                      clear hK K
                      refine wpAnyH_take (i := 23) (oi := ({ dst := some 57, op := Op.fieldAddr 44 (Operand.tmp 9) 1, type := 0, pos := "more.go:17", after := #[{ on := 0, ground := Ground.phase }, { on := 1, ground := Ground.phase }, { on := 2, ground := Ground.phase }, { on := 3, ground := Ground.phase }, { on := 4, ground := Ground.phase }, { on := 5, ground := Ground.phase }, { on := 6, ground := Ground.phase }, { on := 7, ground := Ground.phase }, { on := 8, ground := Ground.phase }, { on := 9, ground := Ground.phase }, { on := 10, ground := Ground.phase }, { on := 11, ground := Ground.phase }, { on := 12, ground := Ground.phase }, { on := 13, ground := Ground.phase }, { on := 14, ground := Ground.phase }, { on := 15, ground := Ground.phase }, { on := 16, ground := Ground.phase }, { on := 17, ground := Ground.phase }, { on := 18, ground := Ground.phase }, { on := 19, ground := Ground.phase }, { on := 20, ground := Ground.phase }, { on := 21, ground := Ground.phase }, { on := 22, ground := Ground.phase }], guard := none } : Oper)) (v := ?_) rfl (by kernel_rfl) (by kernel_rfl) (by kernel_rfl) (fun _ _ _ h => h) (Or.inl ⟨by rfl, ?_⟩) (by assumption) ?_
                      rotate_left
                      · intro w' hSw; (try dsimp only at hSw); go_simp; (try with_reducible rfl)
                      simp only [Act.put, List.setIfInBounds_toArray, List.set_cons_zero, List.set_cons_succ]
                      refine wpAnyH_ready (rs := [24]) (by kernel_rfl) (by simp) ?_
                      refine AllReadyH.cons rfl (fun K hK => ?_) ?_
                      · go_simp
                        refine hK.out _ _ ?_ (fun hHeld => ?_)
                        · (try dsimp only); (first | with_reducible exact S3.out | with_reducible exact S4.out _ | (refine HSS.out _ ?_; (repeat' (first | with_reducible assumption | with_reducible exact Below.refl _ _ | with_reducible apply Below.drew | with_reducible apply belC_alloc)); all_goals (first | omega | (simp; done))))
                        clear hK K
                        refine wpAnyH_done (by kernel_rfl) ?_ _
                        refine NoPanic.normal ?_
                        rw [← hX6]
                        clear hX6
                        go_wp2_with (at_builtin; refine wpList_run_append rfl _ _ 23 rfl _ _ rfl rfl hr2 ?_)
                        go_roundw
                        case rel => exact ⟨i + 1, by omega, by go_num, _, _, _, _, GV3⟩
                        case measure => simp [intOf]; omega
                      exact AllReadyH.nil
                    exact AllReadyH.nil
                  exact AllReadyH.nil
                exact AllReadyH.nil
              refine AllReadyH.cons rfl (fun K hK => ?_) ?_
              · go_simp
                refine hK.out _ _ ?_ (fun hHeld => ?_)
                · (try dsimp only); (first | with_reducible exact S3.out | with_reducible exact S4.out _ | (refine HSS.out _ ?_; (repeat' (first | with_reducible assumption | with_reducible exact Below.refl _ _ | with_reducible apply Below.drew | with_reducible apply belC_alloc)); all_goals (first | omega | (simp; done))))
                clear hK K
                refine wpAnyH_take (i := 20) (oi := ({ dst := some 54, op := Op.build 47 #[(0, Operand.tmp 47), (1, Operand.tmp 53)], type := 47, pos := "more.go:17", after := #[{ on := 13, ground := Ground.data }, { on := 19, ground := Ground.data }], guard := none } : Oper)) (v := ?_) rfl (by kernel_rfl) (by kernel_rfl) (by kernel_rfl) (fun _ _ _ h => h) (Or.inl ⟨by rfl, ?_⟩) (by assumption) ?_
                rotate_left
                · intro w' hSw; (try dsimp only at hSw); go_simp; (try with_reducible rfl)
                simp only [Act.put, List.setIfInBounds_toArray, List.set_cons_zero, List.set_cons_succ]
                refine wpAnyH_ready (rs := [1, 21]) (by kernel_rfl) (by simp) ?_
                refine AllReadyH.cons rfl (fun K hK => ?_) ?_
                · go_simp
                  refine hK.out _ _ ?_ (fun hHeld => ?_)
                  · (try dsimp only); (first | with_reducible exact S3.out | with_reducible exact S4.out _ | (refine HSS.out _ ?_; (repeat' (first | with_reducible assumption | with_reducible exact Below.refl _ _ | with_reducible apply Below.drew | with_reducible apply belC_alloc)); all_goals (first | omega | (simp; done))))
                  clear hK K
                  refine wpAnyH_ready (rs := [21]) (by kernel_rfl) (by simp) ?_
                  refine AllReadyH.cons rfl (fun K hK => ?_) ?_
                  · go_simp
                    refine hK.out _ _ ?_ (fun hHeld => ?_)
                    · (try dsimp only); (first | with_reducible exact S3.out | with_reducible exact S4.out _ | (refine HSS.out _ ?_; (repeat' (first | with_reducible assumption | with_reducible exact Below.refl _ _ | with_reducible apply Below.drew | with_reducible apply belC_alloc)); all_goals (first | omega | (simp; done))))
                    clear hK K
                    refine wpAnyH_ready (rs := [22]) (by kernel_rfl) (by simp) ?_
                    refine AllReadyH.cons rfl (fun K hK => ?_) ?_
                    · ((with_reducible refine LA _ _ _ _ _ _ ?_ ?_ ?_ ?_); rfl; exact ⟨_, _, rfl, rfl, rfl⟩; rfl)
                      refine hK.out _ _ ?_ (fun hHeld => ?_)
                      · (try dsimp only); (first | with_reducible exact S3.out | with_reducible exact S4.out _ | (refine HSS.out _ ?_; (repeat' (first | with_reducible assumption | with_reducible exact Below.refl _ _ | with_reducible apply Below.drew | with_reducible apply belC_alloc)); all_goals (first | omega | (simp; done))))
                      clear hK K
                      refine wpAnyH_take (i := 23) (oi := ({ dst := some 57, op := Op.fieldAddr 44 (Operand.tmp 9) 1, type := 0, pos := "more.go:17", after := #[{ on := 0, ground := Ground.phase }, { on := 1, ground := Ground.phase }, { on := 2, ground := Ground.phase }, { on := 3, ground := Ground.phase }, { on := 4, ground := Ground.phase }, { on := 5, ground := Ground.phase }, { on := 6, ground := Ground.phase }, { on := 7, ground := Ground.phase }, { on := 8, ground := Ground.phase }, { on := 9, ground := Ground.phase }, { on := 10, ground := Ground.phase }, { on := 11, ground := Ground.phase }, { on := 12, ground := Ground.phase }, { on := 13, ground := Ground.phase }, { on := 14, ground := Ground.phase }, { on := 15, ground := Ground.phase }, { on := 16, ground := Ground.phase }, { on := 17, ground := Ground.phase }, { on := 18, ground := Ground.phase }, { on := 19, ground := Ground.phase }, { on := 20, ground := Ground.phase }, { on := 21, ground := Ground.phase }, { on := 22, ground := Ground.phase }], guard := none } : Oper)) (v := ?_) rfl (by kernel_rfl) (by kernel_rfl) (by kernel_rfl) (fun _ _ _ h => h) (Or.inl ⟨by rfl, ?_⟩) (by assumption) ?_
                      rotate_left
                      · intro w' hSw; (try dsimp only at hSw); go_simp; (try with_reducible rfl)
                      simp only [Act.put, List.setIfInBounds_toArray, List.set_cons_zero, List.set_cons_succ]
                      refine wpAnyH_ready (rs := [24]) (by kernel_rfl) (by simp) ?_
                      refine AllReadyH.cons rfl (fun K hK => ?_) ?_
                      · go_simp
                        refine hK.out _ _ ?_ (fun hHeld => ?_)
                        · (try dsimp only); (first | with_reducible exact S3.out | with_reducible exact S4.out _ | (refine HSS.out _ ?_; (repeat' (first | with_reducible assumption | with_reducible exact Below.refl _ _ | with_reducible apply Below.drew | with_reducible apply belC_alloc)); all_goals (first | omega | (simp; done))))
                        clear hK K
                        refine wpAnyH_done (by kernel_rfl) ?_ _
                        refine NoPanic.normal ?_
                        rw [← hX6]
                        clear hX6
                        go_wp2_with (at_builtin; refine wpList_run_append rfl _ _ 23 rfl _ _ rfl rfl hr2 ?_)
                        go_roundw
                        case rel => exact ⟨i + 1, by omega, by go_num, _, _, _, _, GV3⟩
                        case measure => simp [intOf]; omega
                      exact AllReadyH.nil
                    exact AllReadyH.nil
                  exact AllReadyH.nil
                refine AllReadyH.cons rfl (fun K hK => ?_) ?_
                · go_simp
                  refine hK.out _ _ ?_ (fun hHeld => ?_)
                  · (try dsimp only); (first | with_reducible exact S3.out | with_reducible exact S4.out _ | (refine HSS.out _ ?_; (repeat' (first | with_reducible assumption | with_reducible exact Below.refl _ _ | with_reducible apply Below.drew | with_reducible apply belC_alloc)); all_goals (first | omega | (simp; done))))
                  clear hK K
                  refine wpAnyH_ready (rs := [1]) (by kernel_rfl) (by simp) ?_
                  refine AllReadyH.cons rfl (fun K hK => ?_) ?_
                  · go_simp
                    refine hK.out _ _ ?_ (fun hHeld => ?_)
                    · (try dsimp only); (first | with_reducible exact S3.out | with_reducible exact S4.out _ | (refine HSS.out _ ?_; (repeat' (first | with_reducible assumption | with_reducible exact Below.refl _ _ | with_reducible apply Below.drew | with_reducible apply belC_alloc)); all_goals (first | omega | (simp; done))))
                    clear hK K
                    refine wpAnyH_ready (rs := [22]) (by kernel_rfl) (by simp) ?_
                    refine AllReadyH.cons rfl (fun K hK => ?_) ?_
                    · ((with_reducible refine LA _ _ _ _ _ _ ?_ ?_ ?_ ?_); rfl; exact ⟨_, _, rfl, rfl, rfl⟩; rfl)
                      refine hK.out _ _ ?_ (fun hHeld => ?_)
                      · (try dsimp only); (first | with_reducible exact S3.out | with_reducible exact S4.out _ | (refine HSS.out _ ?_; (repeat' (first | with_reducible assumption | with_reducible exact Below.refl _ _ | with_reducible apply Below.drew | with_reducible apply belC_alloc)); all_goals (first | omega | (simp; done))))
                      clear hK K
                      refine wpAnyH_take (i := 23) (oi := ({ dst := some 57, op := Op.fieldAddr 44 (Operand.tmp 9) 1, type := 0, pos := "more.go:17", after := #[{ on := 0, ground := Ground.phase }, { on := 1, ground := Ground.phase }, { on := 2, ground := Ground.phase }, { on := 3, ground := Ground.phase }, { on := 4, ground := Ground.phase }, { on := 5, ground := Ground.phase }, { on := 6, ground := Ground.phase }, { on := 7, ground := Ground.phase }, { on := 8, ground := Ground.phase }, { on := 9, ground := Ground.phase }, { on := 10, ground := Ground.phase }, { on := 11, ground := Ground.phase }, { on := 12, ground := Ground.phase }, { on := 13, ground := Ground.phase }, { on := 14, ground := Ground.phase }, { on := 15, ground := Ground.phase }, { on := 16, ground := Ground.phase }, { on := 17, ground := Ground.phase }, { on := 18, ground := Ground.phase }, { on := 19, ground := Ground.phase }, { on := 20, ground := Ground.phase }, { on := 21, ground := Ground.phase }, { on := 22, ground := Ground.phase }], guard := none } : Oper)) (v := ?_) rfl (by kernel_rfl) (by kernel_rfl) (by kernel_rfl) (fun _ _ _ h => h) (Or.inl ⟨by rfl, ?_⟩) (by assumption) ?_
                      rotate_left
                      · intro w' hSw; (try dsimp only at hSw); go_simp; (try with_reducible rfl)
                      simp only [Act.put, List.setIfInBounds_toArray, List.set_cons_zero, List.set_cons_succ]
                      refine wpAnyH_ready (rs := [24]) (by kernel_rfl) (by simp) ?_
                      refine AllReadyH.cons rfl (fun K hK => ?_) ?_
                      · go_simp
                        refine hK.out _ _ ?_ (fun hHeld => ?_)
                        · (try dsimp only); (first | with_reducible exact S3.out | with_reducible exact S4.out _ | (refine HSS.out _ ?_; (repeat' (first | with_reducible assumption | with_reducible exact Below.refl _ _ | with_reducible apply Below.drew | with_reducible apply belC_alloc)); all_goals (first | omega | (simp; done))))
                        clear hK K
                        refine wpAnyH_done (by kernel_rfl) ?_ _
                        refine NoPanic.normal ?_
                        rw [← hX6]
                        clear hX6
                        go_wp2_with (at_builtin; refine wpList_run_append rfl _ _ 23 rfl _ _ rfl rfl hr2 ?_)
                        go_roundw
                        case rel => exact ⟨i + 1, by omega, by go_num, _, _, _, _, GV3⟩
                        case measure => simp [intOf]; omega
                      exact AllReadyH.nil
                    exact AllReadyH.nil
                  exact AllReadyH.nil
                exact AllReadyH.nil
              exact AllReadyH.nil
          · subst hbf
            have hd1 : decide ((i : Int) < (zn : Int)) = false := decide_eq_false (by omega)
            have hd2 : decide (i < zn) = false := decide_eq_false hz2
            have hd3 : ¬ (i : Int) < (zn : Int) := by omega
            refine two (fun hz1 => ?_) (fun hz1 hrg => ?_)
            · clear two hone
              go_wp2
              refine wp_region_noPanic ?_
              refine wp_region_held_drew (S := (fun w' => True)) (by kernel_rfl) ?_ (fun hHeld => ?_)
              · (try dsimp only); (all_goals trivial)
              refine wpAnyH_take (i := 0) (oi := ({ dst := some 34, op := Op.fieldAddr 44 (Operand.tmp 9) 1, type := 0, pos := "more.go:17", after := #[], guard := none } : Oper)) (v := ?_) rfl (by kernel_rfl) (by kernel_rfl) (by kernel_rfl) (fun _ _ _ h => h) (Or.inl ⟨by rfl, ?_⟩) (by assumption) ?_
              rotate_left
              · intro w' hSw; (try dsimp only at hSw); go_simp; (try with_reducible rfl)
              simp only [Act.put, List.setIfInBounds_toArray, List.set_cons_zero, List.set_cons_succ]
              refine wpAnyH_take (i := 2) (oi := ({ dst := some 36, op := Op.move (Operand.tmp 8), type := 3, pos := "more.go:17", after := #[], guard := none } : Oper)) (v := ?_) rfl (by kernel_rfl) (by kernel_rfl) (by kernel_rfl) (fun _ _ _ h => h) (Or.inl ⟨by rfl, ?_⟩) (by assumption) ?_
              rotate_left
              · intro w' hSw; (try dsimp only at hSw); go_simp; (try with_reducible rfl)
              simp only [Act.put, List.setIfInBounds_toArray, List.set_cons_zero, List.set_cons_succ]
              refine wpAnyH_take (i := 3) (oi := ({ dst := some 37, op := Op.move (Operand.tmp 1), type := 27, pos := "more.go:17", after := #[], guard := none } : Oper)) (v := ?_) rfl (by kernel_rfl) (by kernel_rfl) (by kernel_rfl) (fun _ _ _ h => h) (Or.inl ⟨by rfl, ?_⟩) (by assumption) ?_
              rotate_left
              · intro w' hSw; (try dsimp only at hSw); go_simp; (try with_reducible rfl)
              simp only [Act.put, List.setIfInBounds_toArray, List.set_cons_zero, List.set_cons_succ]
              refine wpAnyH_take (i := 4) (oi := ({ dst := some 38, op := Op.call { callee := Callee.builtin Builtin.len, args := #[Operand.tmp 37], argTypes := #[27] }, type := 3, pos := "more.go:17", after := #[{ on := 3, ground := Ground.data }], guard := none } : Oper)) (v := ?_) rfl (by kernel_rfl) (by kernel_rfl) (by kernel_rfl) (fun _ _ _ h => h) (Or.inl ⟨by rfl, ?_⟩) (by assumption) ?_
              rotate_left
              · intro w' hSw; (try dsimp only at hSw); go_simp; (try with_reducible rfl)
              simp only [Act.put, List.setIfInBounds_toArray, List.set_cons_zero, List.set_cons_succ]
              refine wpAnyH_take (i := 5) (oi := ({ dst := some 39, op := Op.binOp BinOp.lss 3 (Operand.tmp 36) (Operand.tmp 38) 3, type := 4, pos := "more.go:17", after := #[{ on := 2, ground := Ground.data }, { on := 4, ground := Ground.data }], guard := none } : Oper)) (v := ?_) rfl (by kernel_rfl) (by kernel_rfl) (by kernel_rfl) (fun _ _ _ h => h) (Or.inl ⟨by rfl, ?_⟩) (by assumption) ?_
              rotate_left
              · intro w' hSw; (try dsimp only at hSw); go_simp; (try with_reducible rfl)
              simp only [Act.put, List.setIfInBounds_toArray, List.set_cons_zero, List.set_cons_succ]
              refine wpAnyH_take (i := 6) (oi := ({ dst := some 40, op := Op.move (Operand.tmp 39), type := 4, pos := "more.go:17", after := #[{ on := 5, ground := Ground.data }], guard := none } : Oper)) (v := ?_) rfl (by kernel_rfl) (by kernel_rfl) (by kernel_rfl) (fun _ _ _ h => h) (Or.inl ⟨by rfl, ?_⟩) (by assumption) ?_
              rotate_left
              · intro w' hSw; (try dsimp only at hSw); go_simp; (try with_reducible rfl)
              simp only [Act.put, List.setIfInBounds_toArray, List.set_cons_zero, List.set_cons_succ]
              refine wpAnyH_take (i := 7) (oi := ({ dst := some 41, op := Op.move (Operand.tmp 1), type := 27, pos := "more.go:17", after := #[{ on := 6, ground := Ground.guard }], guard := some (6, true) } : Oper)) (v := undef) rfl (by kernel_rfl) (by kernel_rfl) (by kernel_rfl) (fun _ _ _ h => h) (Or.inr ⟨by rfl, rfl⟩) (by assumption) ?_
              simp only [Act.put, List.setIfInBounds_toArray, List.set_cons_zero, List.set_cons_succ]
              refine wpAnyH_take (i := 8) (oi := ({ dst := some 42, op := Op.move (Operand.tmp 8), type := 3, pos := "more.go:17", after := #[{ on := 6, ground := Ground.guard }], guard := some (6, true) } : Oper)) (v := undef) rfl (by kernel_rfl) (by kernel_rfl) (by kernel_rfl) (fun _ _ _ h => h) (Or.inr ⟨by rfl, rfl⟩) (by assumption) ?_
              simp only [Act.put, List.setIfInBounds_toArray, List.set_cons_zero, List.set_cons_succ]
              refine wpAnyH_take (i := 9) (oi := ({ dst := some 43, op := Op.indexAddr 27 (Operand.tmp 41) (Operand.tmp 42), type := 0, pos := "more.go:17", after := #[{ on := 7, ground := Ground.data }, { on := 8, ground := Ground.data }, { on := 6, ground := Ground.guard }], guard := some (6, true) } : Oper)) (v := undef) rfl (by kernel_rfl) (by kernel_rfl) (by kernel_rfl) (fun _ _ _ h => h) (Or.inr ⟨by rfl, rfl⟩) (by assumption) ?_
              simp only [Act.put, List.setIfInBounds_toArray, List.set_cons_zero, List.set_cons_succ]
              refine wpAnyH_take (i := 10) (oi := ({ dst := some 44, op := Op.load 3 (Operand.tmp 43), type := 3, pos := "more.go:17", after := #[{ on := 9, ground := Ground.data }, { on := 6, ground := Ground.guard }], guard := some (6, true) } : Oper)) (v := undef) rfl (by kernel_rfl) (by kernel_rfl) (by kernel_rfl) (fun _ _ _ h => h) (Or.inr ⟨by rfl, rfl⟩) (by assumption) ?_
              simp only [Act.put, List.setIfInBounds_toArray, List.set_cons_zero, List.set_cons_succ]
              refine wpAnyH_take (i := 11) (oi := ({ dst := some 45, op := Op.binOp BinOp.and 3 (Operand.tmp 44) (Operand.const (Value.int IntKind.i64 1)) 3, type := 3, pos := "more.go:17", after := #[{ on := 10, ground := Ground.data }, { on := 6, ground := Ground.guard }], guard := some (6, true) } : Oper)) (v := undef) rfl (by kernel_rfl) (by kernel_rfl) (by kernel_rfl) (fun _ _ _ h => h) (Or.inr ⟨by rfl, rfl⟩) (by assumption) ?_
              simp only [Act.put, List.setIfInBounds_toArray, List.set_cons_zero, List.set_cons_succ]
              refine wpAnyH_take (i := 12) (oi := ({ dst := some 46, op := Op.binOp BinOp.eql 3 (Operand.tmp 45) (Operand.const (Value.int IntKind.i64 1)) 3, type := 4, pos := "more.go:17", after := #[{ on := 11, ground := Ground.data }, { on := 6, ground := Ground.guard }], guard := some (6, true) } : Oper)) (v := undef) rfl (by kernel_rfl) (by kernel_rfl) (by kernel_rfl) (fun _ _ _ h => h) (Or.inr ⟨by rfl, rfl⟩) (by assumption) ?_
              simp only [Act.put, List.setIfInBounds_toArray, List.set_cons_zero, List.set_cons_succ]
              refine wpAnyH_take (i := 13) (oi := ({ dst := some 47, op := Op.pick (Operand.tmp 40) (Operand.tmp 46) (Operand.const (Value.bool false)), type := 4, pos := "more.go:17", after := #[{ on := 6, ground := Ground.data }, { on := 12, ground := Ground.data }], guard := none } : Oper)) (v := ?_) rfl (by kernel_rfl) (by kernel_rfl) (by kernel_rfl) (fun _ _ _ h => h) (Or.inl ⟨by rfl, ?_⟩) (by assumption) ?_
              rotate_left
              · intro w' hSw; (try dsimp only at hSw); go_simp; (try with_reducible rfl)
              simp only [Act.put, List.setIfInBounds_toArray, List.set_cons_zero, List.set_cons_succ]
              refine wpAnyH_take (i := 14) (oi := ({ dst := some 48, op := Op.move (Operand.tmp 8), type := 3, pos := "more.go:17", after := #[], guard := none } : Oper)) (v := ?_) rfl (by kernel_rfl) (by kernel_rfl) (by kernel_rfl) (fun _ _ _ h => h) (Or.inl ⟨by rfl, ?_⟩) (by assumption) ?_
              rotate_left
              · intro w' hSw; (try dsimp only at hSw); go_simp; (try with_reducible rfl)
              simp only [Act.put, List.setIfInBounds_toArray, List.set_cons_zero, List.set_cons_succ]
              refine wpAnyH_take (i := 15) (oi := ({ dst := some 49, op := Op.binOp BinOp.add 3 (Operand.tmp 48) (Operand.const (Value.int IntKind.i64 1)) 3, type := 3, pos := "more.go:17", after := #[{ on := 14, ground := Ground.data }], guard := none } : Oper)) (v := ?_) rfl (by kernel_rfl) (by kernel_rfl) (by kernel_rfl) (fun _ _ _ h => h) (Or.inl ⟨by rfl, ?_⟩) (by assumption) ?_
              rotate_left
              · intro w' hSw; (try dsimp only at hSw); go_simp; (try with_reducible rfl)
              simp only [Act.put, List.setIfInBounds_toArray, List.set_cons_zero, List.set_cons_succ]
              refine wpAnyH_take (i := 16) (oi := ({ dst := some 50, op := Op.move (Operand.tmp 0), type := 3, pos := "more.go:17", after := #[], guard := none } : Oper)) (v := ?_) rfl (by kernel_rfl) (by kernel_rfl) (by kernel_rfl) (fun _ _ _ h => h) (Or.inl ⟨by rfl, ?_⟩) (by assumption) ?_
              rotate_left
              · intro w' hSw; (try dsimp only at hSw); go_simp; (try with_reducible rfl)
              simp only [Act.put, List.setIfInBounds_toArray, List.set_cons_zero, List.set_cons_succ]
              refine wpAnyH_take (i := 17) (oi := ({ dst := some 51, op := Op.binOp BinOp.rem 3 (Operand.tmp 49) (Operand.tmp 50) 3, type := 3, pos := "more.go:17", after := #[{ on := 15, ground := Ground.data }, { on := 16, ground := Ground.data }], guard := none } : Oper)) (v := ?_) rfl (by kernel_rfl) (by kernel_rfl) (by kernel_rfl) (fun _ _ _ h => h) (Or.inl ⟨by rfl, ?_⟩) (by assumption) ?_
              rotate_left
              · intro w' hSw; (try dsimp only at hSw); go_simp; (try with_reducible rfl)
              simp only [Act.put, List.setIfInBounds_toArray, List.set_cons_zero, List.set_cons_succ]
              refine wpAnyH_take (i := 18) (oi := ({ dst := some 52, op := Op.build 50 #[(0, Operand.tmp 51)], type := 50, pos := "more.go:17", after := #[{ on := 17, ground := Ground.data }], guard := none } : Oper)) (v := ?_) rfl (by kernel_rfl) (by kernel_rfl) (by kernel_rfl) (fun _ _ _ h => h) (Or.inl ⟨by rfl, ?_⟩) (by assumption) ?_
              rotate_left
              · intro w' hSw; (try dsimp only at hSw); go_simp; (try with_reducible rfl)
              simp only [Act.put, List.setIfInBounds_toArray, List.set_cons_zero, List.set_cons_succ]
              refine wpAnyH_ready (rs := [1, 19]) (by kernel_rfl) (by simp) ?_
              refine AllReadyH.cons rfl (fun K hK => ?_) ?_
              · go_simp
                refine hK.out _ _ ?_ (fun hHeld => ?_)
                · (try dsimp only); (all_goals trivial)
                clear hK K
                refine wpAnyH_ready (rs := [19]) (by kernel_rfl) (by simp) ?_
                refine AllReadyH.cons rfl (fun K hK => ?_) ?_
                · go_simp
                  refine hK.out _ _ ?_ (fun hHeld => ?_)
                  · (try dsimp only); (all_goals trivial)
                  clear hK K
                  refine wpAnyH_take (i := 20) (oi := ({ dst := some 54, op := Op.build 47 #[(0, Operand.tmp 47), (1, Operand.tmp 53)], type := 47, pos := "more.go:17", after := #[{ on := 13, ground := Ground.data }, { on := 19, ground := Ground.data }], guard := none } : Oper)) (v := ?_) rfl (by kernel_rfl) (by kernel_rfl) (by kernel_rfl) (fun _ _ _ h => h) (Or.inl ⟨by rfl, ?_⟩) (by assumption) ?_
                  rotate_left
                  · intro w' hSw; (try dsimp only at hSw); go_simp; (try with_reducible rfl)
                  simp only [Act.put, List.setIfInBounds_toArray, List.set_cons_zero, List.set_cons_succ]
                  refine wpAnyH_ready (rs := [21]) (by kernel_rfl) (by simp) ?_
                  refine AllReadyH.cons rfl (fun K hK => ?_) ?_
                  · go_simp
                    refine hK.out _ _ ?_ (fun hHeld => ?_)
                    · (try dsimp only); (all_goals trivial)
                    clear hK K
                    refine wpAnyH_ready (rs := [22]) (by kernel_rfl) (by simp) ?_
                    refine AllReadyH.cons rfl (fun K hK => ?_) ?_
                    · ((with_reducible refine LA _ _ _ _ _ _ ?_ ?_ ?_ ?_); rfl; exact ⟨_, _, rfl, rfl, rfl⟩; rfl)
                      refine hK.out _ _ ?_ (fun hHeld => ?_)
                      · (try dsimp only); (all_goals trivial)
                      clear hK K
                      refine wpAnyH_take (i := 23) (oi := ({ dst := some 57, op := Op.fieldAddr 44 (Operand.tmp 9) 1, type := 0, pos := "more.go:17", after := #[{ on := 0, ground := Ground.phase }, { on := 1, ground := Ground.phase }, { on := 2, ground := Ground.phase }, { on := 3, ground := Ground.phase }, { on := 4, ground := Ground.phase }, { on := 5, ground := Ground.phase }, { on := 6, ground := Ground.phase }, { on := 7, ground := Ground.phase }, { on := 8, ground := Ground.phase }, { on := 9, ground := Ground.phase }, { on := 10, ground := Ground.phase }, { on := 11, ground := Ground.phase }, { on := 12, ground := Ground.phase }, { on := 13, ground := Ground.phase }, { on := 14, ground := Ground.phase }, { on := 15, ground := Ground.phase }, { on := 16, ground := Ground.phase }, { on := 17, ground := Ground.phase }, { on := 18, ground := Ground.phase }, { on := 19, ground := Ground.phase }, { on := 20, ground := Ground.phase }, { on := 21, ground := Ground.phase }, { on := 22, ground := Ground.phase }], guard := none } : Oper)) (v := ?_) rfl (by kernel_rfl) (by kernel_rfl) (by kernel_rfl) (fun _ _ _ h => h) (Or.inl ⟨by rfl, ?_⟩) (by assumption) ?_
                      rotate_left
                      · intro w' hSw; (try dsimp only at hSw); go_simp; (try with_reducible rfl)
                      simp only [Act.put, List.setIfInBounds_toArray, List.set_cons_zero, List.set_cons_succ]
                      refine wpAnyH_ready (rs := [24]) (by kernel_rfl) (by simp) ?_
                      refine AllReadyH.cons rfl (fun K hK => ?_) ?_
                      · go_simp
                        refine hK.out _ _ ?_ (fun hHeld => ?_)
                        · (try dsimp only); (all_goals trivial)
                        clear hK K
                        refine wpAnyH_done (by kernel_rfl) ?_ _
                        refine NoPanic.normal ?_
                        rw [← hX6]
                        clear hX6
                        go_wp2_with (at_builtin; refine wpList_run_append rfl _ _ 23 rfl _ _ rfl rfl hr2 ?_)
                        go_roundw
                        case rel => exact ⟨i + 1, by omega, by go_num, _, _, _, _, GV3⟩
                        case measure => simp [intOf]; omega
                      exact AllReadyH.nil
                    exact AllReadyH.nil
                  exact AllReadyH.nil
                exact AllReadyH.nil
              refine AllReadyH.cons rfl (fun K hK => ?_) ?_
              · go_simp
                refine hK.out _ _ ?_ (fun hHeld => ?_)
                · (try dsimp only); (all_goals trivial)
                clear hK K
                refine wpAnyH_take (i := 20) (oi := ({ dst := some 54, op := Op.build 47 #[(0, Operand.tmp 47), (1, Operand.tmp 53)], type := 47, pos := "more.go:17", after := #[{ on := 13, ground := Ground.data }, { on := 19, ground := Ground.data }], guard := none } : Oper)) (v := ?_) rfl (by kernel_rfl) (by kernel_rfl) (by kernel_rfl) (fun _ _ _ h => h) (Or.inl ⟨by rfl, ?_⟩) (by assumption) ?_
                rotate_left
                · intro w' hSw; (try dsimp only at hSw); go_simp; (try with_reducible rfl)
                simp only [Act.put, List.setIfInBounds_toArray, List.set_cons_zero, List.set_cons_succ]
                refine wpAnyH_ready (rs := [1, 21]) (by kernel_rfl) (by simp) ?_
                refine AllReadyH.cons rfl (fun K hK => ?_) ?_
                · go_simp
                  refine hK.out _ _ ?_ (fun hHeld => ?_)
                  · (try dsimp only); (all_goals trivial)
                  clear hK K
                  refine wpAnyH_ready (rs := [21]) (by kernel_rfl) (by simp) ?_
                  refine AllReadyH.cons rfl (fun K hK => ?_) ?_
                  · go_simp
                    refine hK.out _ _ ?_ (fun hHeld => ?_)
                    · (try dsimp only); (all_goals trivial)
                    clear hK K
                    refine wpAnyH_ready (rs := [22]) (by kernel_rfl) (by simp) ?_
                    refine AllReadyH.cons rfl (fun K hK => ?_) ?_
                    · ((with_reducible refine LA _ _ _ _ _ _ ?_ ?_ ?_ ?_); rfl; exact ⟨_, _, rfl, rfl, rfl⟩; rfl)
                      refine hK.out _ _ ?_ (fun hHeld => ?_)
                      · (try dsimp only); (all_goals trivial)
                      clear hK K
                      refine wpAnyH_take (i := 23) (oi := ({ dst := some 57, op := Op.fieldAddr 44 (Operand.tmp 9) 1, type := 0, pos := "more.go:17", after := #[{ on := 0, ground := Ground.phase }, { on := 1, ground := Ground.phase }, { on := 2, ground := Ground.phase }, { on := 3, ground := Ground.phase }, { on := 4, ground := Ground.phase }, { on := 5, ground := Ground.phase }, { on := 6, ground := Ground.phase }, { on := 7, ground := Ground.phase }, { on := 8, ground := Ground.phase }, { on := 9, ground := Ground.phase }, { on := 10, ground := Ground.phase }, { on := 11, ground := Ground.phase }, { on := 12, ground := Ground.phase }, { on := 13, ground := Ground.phase }, { on := 14, ground := Ground.phase }, { on := 15, ground := Ground.phase }, { on := 16, ground := Ground.phase }, { on := 17, ground := Ground.phase }, { on := 18, ground := Ground.phase }, { on := 19, ground := Ground.phase }, { on := 20, ground := Ground.phase }, { on := 21, ground := Ground.phase }, { on := 22, ground := Ground.phase }], guard := none } : Oper)) (v := ?_) rfl (by kernel_rfl) (by kernel_rfl) (by kernel_rfl) (fun _ _ _ h => h) (Or.inl ⟨by rfl, ?_⟩) (by assumption) ?_
                      rotate_left
                      · intro w' hSw; (try dsimp only at hSw); go_simp; (try with_reducible rfl)
                      simp only [Act.put, List.setIfInBounds_toArray, List.set_cons_zero, List.set_cons_succ]
                      refine wpAnyH_ready (rs := [24]) (by kernel_rfl) (by simp) ?_
                      refine AllReadyH.cons rfl (fun K hK => ?_) ?_
                      · go_simp
                        refine hK.out _ _ ?_ (fun hHeld => ?_)
                        · (try dsimp only); (all_goals trivial)
                        clear hK K
                        refine wpAnyH_done (by kernel_rfl) ?_ _
                        refine NoPanic.normal ?_
                        rw [← hX6]
                        clear hX6
                        go_wp2_with (at_builtin; refine wpList_run_append rfl _ _ 23 rfl _ _ rfl rfl hr2 ?_)
                        go_roundw
                        case rel => exact ⟨i + 1, by omega, by go_num, _, _, _, _, GV3⟩
                        case measure => simp [intOf]; omega
                      exact AllReadyH.nil
                    exact AllReadyH.nil
                  exact AllReadyH.nil
                refine AllReadyH.cons rfl (fun K hK => ?_) ?_
                · go_simp
                  refine hK.out _ _ ?_ (fun hHeld => ?_)
                  · (try dsimp only); (all_goals trivial)
                  clear hK K
                  refine wpAnyH_ready (rs := [1]) (by kernel_rfl) (by simp) ?_
                  refine AllReadyH.cons rfl (fun K hK => ?_) ?_
                  · go_simp
                    refine hK.out _ _ ?_ (fun hHeld => ?_)
                    · (try dsimp only); (all_goals trivial)
                    clear hK K
                    refine wpAnyH_ready (rs := [22]) (by kernel_rfl) (by simp) ?_
                    refine AllReadyH.cons rfl (fun K hK => ?_) ?_
                    · ((with_reducible refine LA _ _ _ _ _ _ ?_ ?_ ?_ ?_); rfl; exact ⟨_, _, rfl, rfl, rfl⟩; rfl)
                      refine hK.out _ _ ?_ (fun hHeld => ?_)
                      · (try dsimp only); (all_goals trivial)
                      clear hK K
                      refine wpAnyH_take (i := 23) (oi := ({ dst := some 57, op := Op.fieldAddr 44 (Operand.tmp 9) 1, type := 0, pos := "more.go:17", after := #[{ on := 0, ground := Ground.phase }, { on := 1, ground := Ground.phase }, { on := 2, ground := Ground.phase }, { on := 3, ground := Ground.phase }, { on := 4, ground := Ground.phase }, { on := 5, ground := Ground.phase }, { on := 6, ground := Ground.phase }, { on := 7, ground := Ground.phase }, { on := 8, ground := Ground.phase }, { on := 9, ground := Ground.phase }, { on := 10, ground := Ground.phase }, { on := 11, ground := Ground.phase }, { on := 12, ground := Ground.phase }, { on := 13, ground := Ground.phase }, { on := 14, ground := Ground.phase }, { on := 15, ground := Ground.phase }, { on := 16, ground := Ground.phase }, { on := 17, ground := Ground.phase }, { on := 18, ground := Ground.phase }, { on := 19, ground := Ground.phase }, { on := 20, ground := Ground.phase }, { on := 21, ground := Ground.phase }, { on := 22, ground := Ground.phase }], guard := none } : Oper)) (v := ?_) rfl (by kernel_rfl) (by kernel_rfl) (by kernel_rfl) (fun _ _ _ h => h) (Or.inl ⟨by rfl, ?_⟩) (by assumption) ?_
                      rotate_left
                      · intro w' hSw; (try dsimp only at hSw); go_simp; (try with_reducible rfl)
                      simp only [Act.put, List.setIfInBounds_toArray, List.set_cons_zero, List.set_cons_succ]
                      refine wpAnyH_ready (rs := [24]) (by kernel_rfl) (by simp) ?_
                      refine AllReadyH.cons rfl (fun K hK => ?_) ?_
                      · go_simp
                        refine hK.out _ _ ?_ (fun hHeld => ?_)
                        · (try dsimp only); (all_goals trivial)
                        clear hK K
                        refine wpAnyH_done (by kernel_rfl) ?_ _
                        refine NoPanic.normal ?_
                        rw [← hX6]
                        clear hX6
                        go_wp2_with (at_builtin; refine wpList_run_append rfl _ _ 23 rfl _ _ rfl rfl hr2 ?_)
                        go_roundw
                        case rel => exact ⟨i + 1, by omega, by go_num, _, _, _, _, GV3⟩
                        case measure => simp [intOf]; omega
                      exact AllReadyH.nil
                    exact AllReadyH.nil
                  exact AllReadyH.nil
                exact AllReadyH.nil
              exact AllReadyH.nil
            · subst hrg
              clear two hone
              go_wp2
              refine wp_region_noPanic ?_
              refine wp_region_held_drew (S := (fun w' => True)) (by kernel_rfl) ?_ (fun hHeld => ?_)
              · (try dsimp only); (all_goals trivial)
              refine wpAnyH_take (i := 0) (oi := ({ dst := some 34, op := Op.fieldAddr 44 (Operand.tmp 9) 1, type := 0, pos := "more.go:17", after := #[], guard := none } : Oper)) (v := ?_) rfl (by kernel_rfl) (by kernel_rfl) (by kernel_rfl) (fun _ _ _ h => h) (Or.inl ⟨by rfl, ?_⟩) (by assumption) ?_
              rotate_left
              · intro w' hSw; (try dsimp only at hSw); go_simp; (try with_reducible rfl)
              simp only [Act.put, List.setIfInBounds_toArray, List.set_cons_zero, List.set_cons_succ]
              refine wpAnyH_take (i := 2) (oi := ({ dst := some 36, op := Op.move (Operand.tmp 8), type := 3, pos := "more.go:17", after := #[], guard := none } : Oper)) (v := ?_) rfl (by kernel_rfl) (by kernel_rfl) (by kernel_rfl) (fun _ _ _ h => h) (Or.inl ⟨by rfl, ?_⟩) (by assumption) ?_
              rotate_left
              · intro w' hSw; (try dsimp only at hSw); go_simp; (try with_reducible rfl)
              simp only [Act.put, List.setIfInBounds_toArray, List.set_cons_zero, List.set_cons_succ]
              refine wpAnyH_take (i := 3) (oi := ({ dst := some 37, op := Op.move (Operand.tmp 1), type := 27, pos := "more.go:17", after := #[], guard := none } : Oper)) (v := ?_) rfl (by kernel_rfl) (by kernel_rfl) (by kernel_rfl) (fun _ _ _ h => h) (Or.inl ⟨by rfl, ?_⟩) (by assumption) ?_
              rotate_left
              · intro w' hSw; (try dsimp only at hSw); go_simp; (try with_reducible rfl)
              simp only [Act.put, List.setIfInBounds_toArray, List.set_cons_zero, List.set_cons_succ]
              refine wpAnyH_take (i := 4) (oi := ({ dst := some 38, op := Op.call { callee := Callee.builtin Builtin.len, args := #[Operand.tmp 37], argTypes := #[27] }, type := 3, pos := "more.go:17", after := #[{ on := 3, ground := Ground.data }], guard := none } : Oper)) (v := ?_) rfl (by kernel_rfl) (by kernel_rfl) (by kernel_rfl) (fun _ _ _ h => h) (Or.inl ⟨by rfl, ?_⟩) (by assumption) ?_
              rotate_left
              · intro w' hSw; (try dsimp only at hSw); go_simp; (try with_reducible rfl)
              simp only [Act.put, List.setIfInBounds_toArray, List.set_cons_zero, List.set_cons_succ]
              refine wpAnyH_take (i := 5) (oi := ({ dst := some 39, op := Op.binOp BinOp.lss 3 (Operand.tmp 36) (Operand.tmp 38) 3, type := 4, pos := "more.go:17", after := #[{ on := 2, ground := Ground.data }, { on := 4, ground := Ground.data }], guard := none } : Oper)) (v := ?_) rfl (by kernel_rfl) (by kernel_rfl) (by kernel_rfl) (fun _ _ _ h => h) (Or.inl ⟨by rfl, ?_⟩) (by assumption) ?_
              rotate_left
              · intro w' hSw; (try dsimp only at hSw); go_simp; (try with_reducible rfl)
              simp only [Act.put, List.setIfInBounds_toArray, List.set_cons_zero, List.set_cons_succ]
              refine wpAnyH_take (i := 6) (oi := ({ dst := some 40, op := Op.move (Operand.tmp 39), type := 4, pos := "more.go:17", after := #[{ on := 5, ground := Ground.data }], guard := none } : Oper)) (v := ?_) rfl (by kernel_rfl) (by kernel_rfl) (by kernel_rfl) (fun _ _ _ h => h) (Or.inl ⟨by rfl, ?_⟩) (by assumption) ?_
              rotate_left
              · intro w' hSw; (try dsimp only at hSw); go_simp; (try with_reducible rfl)
              simp only [Act.put, List.setIfInBounds_toArray, List.set_cons_zero, List.set_cons_succ]
              refine wpAnyH_take (i := 7) (oi := ({ dst := some 41, op := Op.move (Operand.tmp 1), type := 27, pos := "more.go:17", after := #[{ on := 6, ground := Ground.guard }], guard := some (6, true) } : Oper)) (v := undef) rfl (by kernel_rfl) (by kernel_rfl) (by kernel_rfl) (fun _ _ _ h => h) (Or.inr ⟨by rfl, rfl⟩) (by assumption) ?_
              simp only [Act.put, List.setIfInBounds_toArray, List.set_cons_zero, List.set_cons_succ]
              refine wpAnyH_take (i := 8) (oi := ({ dst := some 42, op := Op.move (Operand.tmp 8), type := 3, pos := "more.go:17", after := #[{ on := 6, ground := Ground.guard }], guard := some (6, true) } : Oper)) (v := undef) rfl (by kernel_rfl) (by kernel_rfl) (by kernel_rfl) (fun _ _ _ h => h) (Or.inr ⟨by rfl, rfl⟩) (by assumption) ?_
              simp only [Act.put, List.setIfInBounds_toArray, List.set_cons_zero, List.set_cons_succ]
              refine wpAnyH_take (i := 9) (oi := ({ dst := some 43, op := Op.indexAddr 27 (Operand.tmp 41) (Operand.tmp 42), type := 0, pos := "more.go:17", after := #[{ on := 7, ground := Ground.data }, { on := 8, ground := Ground.data }, { on := 6, ground := Ground.guard }], guard := some (6, true) } : Oper)) (v := undef) rfl (by kernel_rfl) (by kernel_rfl) (by kernel_rfl) (fun _ _ _ h => h) (Or.inr ⟨by rfl, rfl⟩) (by assumption) ?_
              simp only [Act.put, List.setIfInBounds_toArray, List.set_cons_zero, List.set_cons_succ]
              refine wpAnyH_take (i := 10) (oi := ({ dst := some 44, op := Op.load 3 (Operand.tmp 43), type := 3, pos := "more.go:17", after := #[{ on := 9, ground := Ground.data }, { on := 6, ground := Ground.guard }], guard := some (6, true) } : Oper)) (v := undef) rfl (by kernel_rfl) (by kernel_rfl) (by kernel_rfl) (fun _ _ _ h => h) (Or.inr ⟨by rfl, rfl⟩) (by assumption) ?_
              simp only [Act.put, List.setIfInBounds_toArray, List.set_cons_zero, List.set_cons_succ]
              refine wpAnyH_take (i := 11) (oi := ({ dst := some 45, op := Op.binOp BinOp.and 3 (Operand.tmp 44) (Operand.const (Value.int IntKind.i64 1)) 3, type := 3, pos := "more.go:17", after := #[{ on := 10, ground := Ground.data }, { on := 6, ground := Ground.guard }], guard := some (6, true) } : Oper)) (v := undef) rfl (by kernel_rfl) (by kernel_rfl) (by kernel_rfl) (fun _ _ _ h => h) (Or.inr ⟨by rfl, rfl⟩) (by assumption) ?_
              simp only [Act.put, List.setIfInBounds_toArray, List.set_cons_zero, List.set_cons_succ]
              refine wpAnyH_take (i := 12) (oi := ({ dst := some 46, op := Op.binOp BinOp.eql 3 (Operand.tmp 45) (Operand.const (Value.int IntKind.i64 1)) 3, type := 4, pos := "more.go:17", after := #[{ on := 11, ground := Ground.data }, { on := 6, ground := Ground.guard }], guard := some (6, true) } : Oper)) (v := undef) rfl (by kernel_rfl) (by kernel_rfl) (by kernel_rfl) (fun _ _ _ h => h) (Or.inr ⟨by rfl, rfl⟩) (by assumption) ?_
              simp only [Act.put, List.setIfInBounds_toArray, List.set_cons_zero, List.set_cons_succ]
              refine wpAnyH_take (i := 13) (oi := ({ dst := some 47, op := Op.pick (Operand.tmp 40) (Operand.tmp 46) (Operand.const (Value.bool false)), type := 4, pos := "more.go:17", after := #[{ on := 6, ground := Ground.data }, { on := 12, ground := Ground.data }], guard := none } : Oper)) (v := ?_) rfl (by kernel_rfl) (by kernel_rfl) (by kernel_rfl) (fun _ _ _ h => h) (Or.inl ⟨by rfl, ?_⟩) (by assumption) ?_
              rotate_left
              · intro w' hSw; (try dsimp only at hSw); go_simp; (try with_reducible rfl)
              simp only [Act.put, List.setIfInBounds_toArray, List.set_cons_zero, List.set_cons_succ]
              refine wpAnyH_take (i := 14) (oi := ({ dst := some 48, op := Op.move (Operand.tmp 8), type := 3, pos := "more.go:17", after := #[], guard := none } : Oper)) (v := ?_) rfl (by kernel_rfl) (by kernel_rfl) (by kernel_rfl) (fun _ _ _ h => h) (Or.inl ⟨by rfl, ?_⟩) (by assumption) ?_
              rotate_left
              · intro w' hSw; (try dsimp only at hSw); go_simp; (try with_reducible rfl)
              simp only [Act.put, List.setIfInBounds_toArray, List.set_cons_zero, List.set_cons_succ]
              refine wpAnyH_take (i := 15) (oi := ({ dst := some 49, op := Op.binOp BinOp.add 3 (Operand.tmp 48) (Operand.const (Value.int IntKind.i64 1)) 3, type := 3, pos := "more.go:17", after := #[{ on := 14, ground := Ground.data }], guard := none } : Oper)) (v := ?_) rfl (by kernel_rfl) (by kernel_rfl) (by kernel_rfl) (fun _ _ _ h => h) (Or.inl ⟨by rfl, ?_⟩) (by assumption) ?_
              rotate_left
              · intro w' hSw; (try dsimp only at hSw); go_simp; (try with_reducible rfl)
              simp only [Act.put, List.setIfInBounds_toArray, List.set_cons_zero, List.set_cons_succ]
              refine wpAnyH_take (i := 16) (oi := ({ dst := some 50, op := Op.move (Operand.tmp 0), type := 3, pos := "more.go:17", after := #[], guard := none } : Oper)) (v := ?_) rfl (by kernel_rfl) (by kernel_rfl) (by kernel_rfl) (fun _ _ _ h => h) (Or.inl ⟨by rfl, ?_⟩) (by assumption) ?_
              rotate_left
              · intro w' hSw; (try dsimp only at hSw); go_simp; (try with_reducible rfl)
              simp only [Act.put, List.setIfInBounds_toArray, List.set_cons_zero, List.set_cons_succ]
              refine wpAnyH_take (i := 17) (oi := ({ dst := some 51, op := Op.binOp BinOp.rem 3 (Operand.tmp 49) (Operand.tmp 50) 3, type := 3, pos := "more.go:17", after := #[{ on := 15, ground := Ground.data }, { on := 16, ground := Ground.data }], guard := none } : Oper)) (v := ?_) rfl (by kernel_rfl) (by kernel_rfl) (by kernel_rfl) (fun _ _ _ h => h) (Or.inl ⟨by rfl, ?_⟩) (by assumption) ?_
              rotate_left
              · intro w' hSw; (try dsimp only at hSw); go_simp; (try with_reducible rfl)
              simp only [Act.put, List.setIfInBounds_toArray, List.set_cons_zero, List.set_cons_succ]
              refine wpAnyH_take (i := 18) (oi := ({ dst := some 52, op := Op.build 50 #[(0, Operand.tmp 51)], type := 50, pos := "more.go:17", after := #[{ on := 17, ground := Ground.data }], guard := none } : Oper)) (v := ?_) rfl (by kernel_rfl) (by kernel_rfl) (by kernel_rfl) (fun _ _ _ h => h) (Or.inl ⟨by rfl, ?_⟩) (by assumption) ?_
              rotate_left
              · intro w' hSw; (try dsimp only at hSw); go_simp; (try with_reducible rfl)
              simp only [Act.put, List.setIfInBounds_toArray, List.set_cons_zero, List.set_cons_succ]
              refine wpAnyH_ready (rs := [1, 19]) (by kernel_rfl) (by simp) ?_
              refine AllReadyH.cons rfl (fun K hK => ?_) ?_
              · go_simp
                refine hK.out _ _ ?_ (fun hHeld => ?_)
                · (try dsimp only); (all_goals trivial)
                clear hK K
                refine wpAnyH_ready (rs := [19]) (by kernel_rfl) (by simp) ?_
                refine AllReadyH.cons rfl (fun K hK => ?_) ?_
                · go_simp
                  refine hK.out _ _ ?_ (fun hHeld => ?_)
                  · (try dsimp only); (all_goals trivial)
                  clear hK K
                  refine wpAnyH_take (i := 20) (oi := ({ dst := some 54, op := Op.build 47 #[(0, Operand.tmp 47), (1, Operand.tmp 53)], type := 47, pos := "more.go:17", after := #[{ on := 13, ground := Ground.data }, { on := 19, ground := Ground.data }], guard := none } : Oper)) (v := ?_) rfl (by kernel_rfl) (by kernel_rfl) (by kernel_rfl) (fun _ _ _ h => h) (Or.inl ⟨by rfl, ?_⟩) (by assumption) ?_
                  rotate_left
                  · intro w' hSw; (try dsimp only at hSw); go_simp; (try with_reducible rfl)
                  simp only [Act.put, List.setIfInBounds_toArray, List.set_cons_zero, List.set_cons_succ]
                  refine wpAnyH_ready (rs := [21]) (by kernel_rfl) (by simp) ?_
                  refine AllReadyH.cons rfl (fun K hK => ?_) ?_
                  · go_simp
                    refine hK.out _ _ ?_ (fun hHeld => ?_)
                    · (try dsimp only); (all_goals trivial)
                    clear hK K
                    refine wpAnyH_ready (rs := [22]) (by kernel_rfl) (by simp) ?_
                    refine AllReadyH.cons rfl (fun K hK => ?_) ?_
                    · ((with_reducible refine LA _ _ _ _ _ _ ?_ ?_ ?_ ?_); rfl; exact ⟨_, _, rfl, rfl, rfl⟩; rfl)
                      refine hK.out _ _ ?_ (fun hHeld => ?_)
                      · (try dsimp only); (all_goals trivial)
                      clear hK K
                      refine wpAnyH_take (i := 23) (oi := ({ dst := some 57, op := Op.fieldAddr 44 (Operand.tmp 9) 1, type := 0, pos := "more.go:17", after := #[{ on := 0, ground := Ground.phase }, { on := 1, ground := Ground.phase }, { on := 2, ground := Ground.phase }, { on := 3, ground := Ground.phase }, { on := 4, ground := Ground.phase }, { on := 5, ground := Ground.phase }, { on := 6, ground := Ground.phase }, { on := 7, ground := Ground.phase }, { on := 8, ground := Ground.phase }, { on := 9, ground := Ground.phase }, { on := 10, ground := Ground.phase }, { on := 11, ground := Ground.phase }, { on := 12, ground := Ground.phase }, { on := 13, ground := Ground.phase }, { on := 14, ground := Ground.phase }, { on := 15, ground := Ground.phase }, { on := 16, ground := Ground.phase }, { on := 17, ground := Ground.phase }, { on := 18, ground := Ground.phase }, { on := 19, ground := Ground.phase }, { on := 20, ground := Ground.phase }, { on := 21, ground := Ground.phase }, { on := 22, ground := Ground.phase }], guard := none } : Oper)) (v := ?_) rfl (by kernel_rfl) (by kernel_rfl) (by kernel_rfl) (fun _ _ _ h => h) (Or.inl ⟨by rfl, ?_⟩) (by assumption) ?_
                      rotate_left
                      · intro w' hSw; (try dsimp only at hSw); go_simp; (try with_reducible rfl)
                      simp only [Act.put, List.setIfInBounds_toArray, List.set_cons_zero, List.set_cons_succ]
                      refine wpAnyH_ready (rs := [24]) (by kernel_rfl) (by simp) ?_
                      refine AllReadyH.cons rfl (fun K hK => ?_) ?_
                      · go_simp
                        refine hK.out _ _ ?_ (fun hHeld => ?_)
                        · (try dsimp only); (all_goals trivial)
                        clear hK K
                        refine wpAnyH_done (by kernel_rfl) ?_ _
                        refine NoPanic.normal ?_
                        rw [← hX6]
                        clear hX6
                        go_wp2_with (at_builtin; refine wpList_run_append rfl _ _ 23 rfl _ _ rfl rfl hr2 ?_)
                        go_roundw
                        case rel => exact ⟨i + 1, by omega, by go_num, _, _, _, _, GV3⟩
                        case measure => simp [intOf]; omega
                      exact AllReadyH.nil
                    exact AllReadyH.nil
                  exact AllReadyH.nil
                exact AllReadyH.nil
              refine AllReadyH.cons rfl (fun K hK => ?_) ?_
              · go_simp
                refine hK.out _ _ ?_ (fun hHeld => ?_)
                · (try dsimp only); (all_goals trivial)
                clear hK K
                refine wpAnyH_take (i := 20) (oi := ({ dst := some 54, op := Op.build 47 #[(0, Operand.tmp 47), (1, Operand.tmp 53)], type := 47, pos := "more.go:17", after := #[{ on := 13, ground := Ground.data }, { on := 19, ground := Ground.data }], guard := none } : Oper)) (v := ?_) rfl (by kernel_rfl) (by kernel_rfl) (by kernel_rfl) (fun _ _ _ h => h) (Or.inl ⟨by rfl, ?_⟩) (by assumption) ?_
                rotate_left
                · intro w' hSw; (try dsimp only at hSw); go_simp; (try with_reducible rfl)
                simp only [Act.put, List.setIfInBounds_toArray, List.set_cons_zero, List.set_cons_succ]
                refine wpAnyH_ready (rs := [1, 21]) (by kernel_rfl) (by simp) ?_
                refine AllReadyH.cons rfl (fun K hK => ?_) ?_
                · go_simp
                  refine hK.out _ _ ?_ (fun hHeld => ?_)
                  · (try dsimp only); (all_goals trivial)
                  clear hK K
                  refine wpAnyH_ready (rs := [21]) (by kernel_rfl) (by simp) ?_
                  refine AllReadyH.cons rfl (fun K hK => ?_) ?_
                  · go_simp
                    refine hK.out _ _ ?_ (fun hHeld => ?_)
                    · (try dsimp only); (all_goals trivial)
                    clear hK K
                    refine wpAnyH_ready (rs := [22]) (by kernel_rfl) (by simp) ?_
                    refine AllReadyH.cons rfl (fun K hK => ?_) ?_
                    · ((with_reducible refine LA _ _ _ _ _ _ ?_ ?_ ?_ ?_); rfl; exact ⟨_, _, rfl, rfl, rfl⟩; rfl)
                      refine hK.out _ _ ?_ (fun hHeld => ?_)
                      · (try dsimp only); (all_goals trivial)
                      clear hK K
                      refine wpAnyH_take (i := 23) (oi := ({ dst := some 57, op := Op.fieldAddr 44 (Operand.tmp 9) 1, type := 0, pos := "more.go:17", after := #[{ on := 0, ground := Ground.phase }, { on := 1, ground := Ground.phase }, { on := 2, ground := Ground.phase }, { on := 3, ground := Ground.phase }, { on := 4, ground := Ground.phase }, { on := 5, ground := Ground.phase }, { on := 6, ground := Ground.phase }, { on := 7, ground := Ground.phase }, { on := 8, ground := Ground.phase }, { on := 9, ground := Ground.phase }, { on := 10, ground := Ground.phase }, { on := 11, ground := Ground.phase }, { on := 12, ground := Ground.phase }, { on := 13, ground := Ground.phase }, { on := 14, ground := Ground.phase }, { on := 15, ground := Ground.phase }, { on := 16, ground := Ground.phase }, { on := 17, ground := Ground.phase }, { on := 18, ground := Ground.phase }, { on := 19, ground := Ground.phase }, { on := 20, ground := Ground.phase }, { on := 21, ground := Ground.phase }, { on := 22, ground := Ground.phase }], guard := none } : Oper)) (v := ?_) rfl (by kernel_rfl) (by kernel_rfl) (by kernel_rfl) (fun _ _ _ h => h) (Or.inl ⟨by rfl, ?_⟩) (by assumption) ?_
                      rotate_left
                      · intro w' hSw; (try dsimp only at hSw); go_simp; (try with_reducible rfl)
                      simp only [Act.put, List.setIfInBounds_toArray, List.set_cons_zero, List.set_cons_succ]
                      refine wpAnyH_ready (rs := [24]) (by kernel_rfl) (by simp) ?_
                      refine AllReadyH.cons rfl (fun K hK => ?_) ?_
                      · go_simp
                        refine hK.out _ _ ?_ (fun hHeld => ?_)
                        · (try dsimp only); (all_goals trivial)
                        clear hK K
                        refine wpAnyH_done (by kernel_rfl) ?_ _
                        refine NoPanic.normal ?_
                        rw [← hX6]
                        clear hX6
                        go_wp2_with (at_builtin; refine wpList_run_append rfl _ _ 23 rfl _ _ rfl rfl hr2 ?_)
                        go_roundw
                        case rel => exact ⟨i + 1, by omega, by go_num, _, _, _, _, GV3⟩
                        case measure => simp [intOf]; omega
                      exact AllReadyH.nil
                    exact AllReadyH.nil
                  exact AllReadyH.nil
                refine AllReadyH.cons rfl (fun K hK => ?_) ?_
                · go_simp
                  refine hK.out _ _ ?_ (fun hHeld => ?_)
                  · (try dsimp only); (all_goals trivial)
                  clear hK K
                  refine wpAnyH_ready (rs := [1]) (by kernel_rfl) (by simp) ?_
                  refine AllReadyH.cons rfl (fun K hK => ?_) ?_
                  · go_simp
                    refine hK.out _ _ ?_ (fun hHeld => ?_)
                    · (try dsimp only); (all_goals trivial)
                    clear hK K
                    refine wpAnyH_ready (rs := [22]) (by kernel_rfl) (by simp) ?_
                    refine AllReadyH.cons rfl (fun K hK => ?_) ?_
                    · ((with_reducible refine LA _ _ _ _ _ _ ?_ ?_ ?_ ?_); rfl; exact ⟨_, _, rfl, rfl, rfl⟩; rfl)
                      refine hK.out _ _ ?_ (fun hHeld => ?_)
                      · (try dsimp only); (all_goals trivial)
                      clear hK K
                      refine wpAnyH_take (i := 23) (oi := ({ dst := some 57, op := Op.fieldAddr 44 (Operand.tmp 9) 1, type := 0, pos := "more.go:17", after := #[{ on := 0, ground := Ground.phase }, { on := 1, ground := Ground.phase }, { on := 2, ground := Ground.phase }, { on := 3, ground := Ground.phase }, { on := 4, ground := Ground.phase }, { on := 5, ground := Ground.phase }, { on := 6, ground := Ground.phase }, { on := 7, ground := Ground.phase }, { on := 8, ground := Ground.phase }, { on := 9, ground := Ground.phase }, { on := 10, ground := Ground.phase }, { on := 11, ground := Ground.phase }, { on := 12, ground := Ground.phase }, { on := 13, ground := Ground.phase }, { on := 14, ground := Ground.phase }, { on := 15, ground := Ground.phase }, { on := 16, ground := Ground.phase }, { on := 17, ground := Ground.phase }, { on := 18, ground := Ground.phase }, { on := 19, ground := Ground.phase }, { on := 20, ground := Ground.phase }, { on := 21, ground := Ground.phase }, { on := 22, ground := Ground.phase }], guard := none } : Oper)) (v := ?_) rfl (by kernel_rfl) (by kernel_rfl) (by kernel_rfl) (fun _ _ _ h => h) (Or.inl ⟨by rfl, ?_⟩) (by assumption) ?_
                      rotate_left
                      · intro w' hSw; (try dsimp only at hSw); go_simp; (try with_reducible rfl)
                      simp only [Act.put, List.setIfInBounds_toArray, List.set_cons_zero, List.set_cons_succ]
                      refine wpAnyH_ready (rs := [24]) (by kernel_rfl) (by simp) ?_
                      refine AllReadyH.cons rfl (fun K hK => ?_) ?_
                      · go_simp
                        refine hK.out _ _ ?_ (fun hHeld => ?_)
                        · (try dsimp only); (all_goals trivial)
                        clear hK K
                        refine wpAnyH_done (by kernel_rfl) ?_ _
                        refine NoPanic.normal ?_
                        rw [← hX6]
                        clear hX6
                        go_wp2_with (at_builtin; refine wpList_run_append rfl _ _ 23 rfl _ _ rfl rfl hr2 ?_)
                        go_roundw
                        case rel => exact ⟨i + 1, by omega, by go_num, _, _, _, _, GV3⟩
                        case measure => simp [intOf]; omega
                      exact AllReadyH.nil
                    exact AllReadyH.nil
                  exact AllReadyH.nil
                exact AllReadyH.nil
              exact AllReadyH.nil
        · have hk1 : ¬ i + 1 < kk := fun h => hcond (Or.inl h)
          have hrg : rg = false := by
            cases rg
            · rfl
            · exact absurd (Or.inr rfl) hcond
          subst hrg
          have hk2 : ¬ (i : Int) + 1 < (kk : Int) := by omega
          have hic : IsCns Y (fun b => X.heap.size ≤ b) (.slice (some ⟨X.heap.size, 0, none⟩) 1 1) (cj8 kk ng false i) := by
            unfold cj8
            rw [if_neg (by simp; omega)]
            exact ⟨[.slice none 0 0], reads_blk hYc (Nat.le_refl _) (by unfold maxLen; omega) rfl, (CnsIn.nil _ _).snoc (c := ⟨false, []⟩) (sysE_nil _ _)⟩
          obtain ⟨g2, cap2, w2, F2, hr2, GV2, x2, y2⟩ := GVx.out.appRule bY (h := (i : Int)) hic (fun b h => h) rfl (by rw [rus8_len]; omega)
          rw [rus8_len] at hr2 GV2
          have r0 : Y.cell? ⟨X.heap.size + 1, 0, none⟩ = some (.int .i64 (i : Int)) := cellR hYr 0
          have r1 : Y.cell? ⟨X.heap.size + 1, 1, none⟩ = some (.slice (some ⟨X.heap.size, 0, none⟩) 1 1) := cellR hYr 1
          have r2 : Y.cell? ⟨gb, 2, none⟩ = some (.slice po i co) := (bY.cell (p := ⟨_, _, none⟩) hgl).trans e2
          have hglY : gb < Y.heap.size := by omega
          have hru : rus8 kk ng false i ++ [⟨(i : Int), cj8 kk ng false i⟩] = rus8 kk ng false (i + 1) := (rus8_succ kk ng false i).symm
          rw [hru] at GV2
          have GV3 := hid_of GV2
          clear hYr hYc bY sY hic hcond GV2 hY e2 hru
          go_wp2_with (at_builtin; refine wpList_run_append rfl _ _ 23 rfl _ _ rfl rfl hr2 ?_)
          go_roundw
          case rel => exact ⟨i + 1, by omega, by go_num, _, _, _, _, GV3⟩
          case measure => simp [intOf]; omega
    · obtain rfl : i = kk := by omega
      obtain ⟨po, co, hvo⟩ := row_slice GVi.out.m0.oo
      rw [rus8_len] at hvo
      subst hvo
      obtain ⟨pn, cn, hvn⟩ := row_slice GVi.out.on
      rw [nmsR_len] at hvn
      subst hvn
      have e0 : V.cell? ⟨gb, 0, none⟩ = some (.int .i64 0) := cellR GVi.out.vb 0
      have e1 : V.cell? ⟨gb, 1, none⟩ = some (.slice pn i cn) := cellR GVi.out.vb 1
      have e2 : V.cell? ⟨gb, 2, none⟩ = some (.slice po i co) := cellR GVi.out.vb 2
      have hzv : V.heap[W.heap.size]? = some (.cells #[.int .i64 0, .slice none 0 0, .slice none 0 0] 25) := (GVi.out.m0.bl.block _ (by have := HZS.out; omega)).trans HZ1.out
      have c0 : V.cell? ⟨W.heap.size, 0, none⟩ = some (.int .i64 0) := cellR hzv 0
      have c1 : V.cell? ⟨W.heap.size, 1, none⟩ = some (.slice none 0 0) := cellR hzv 1
      have c2 : V.cell? ⟨W.heap.size, 2, none⟩ = some (.slice none 0 0) := cellR hzv 2
      have f0 := frzR hzv 0
      have f1 := frzR hzv 1
      have f2 := frzR hzv 2
      have h3 := set3 hzv (.int .i64 0) (.slice pn i cn) (.slice po i co)
      have HGR : Hid (GrIs (((V.setCell ⟨W.heap.size, 0, none⟩ (.int .i64 0)).setCell ⟨W.heap.size, 1, none⟩ (.slice pn i cn)).setCell ⟨W.heap.size, 2, none⟩ (.slice po i co)) Any (.slice pn i cn) (.slice po i co) (gr8 i ng rg)) := by
        have hst : Stay (fun j => w1.heap.size ≤ j) V (((V.setCell ⟨W.heap.size, 0, none⟩ (.int .i64 0)).setCell ⟨W.heap.size, 1, none⟩ (.slice pn i cn)).setCell ⟨W.heap.size, 2, none⟩ (.slice po i co)) := by
          refine ⟨by simp [World.setCell], fun j hj => ?_⟩
          have hne : j ≠ W.heap.size := by have := HZS.out; omega
          exact (Below.heap_setCell _ ⟨W.heap.size, 2, none⟩ _ _ hne).trans ((Below.heap_setCell _ ⟨W.heap.size, 1, none⟩ _ _ hne).trans (Below.heap_setCell _ ⟨W.heap.size, 0, none⟩ _ _ hne))
        have a1 : IsTexts V (fun j => w1.heap.size ≤ j) (.slice pn i cn) (nmsR i) := by
          have := Reads.of (F := fun j => w1.heap.size ≤ j) GVi.out.on (fun b e => (GVi.out.on.lt b e).1)
          exact this
        have hr := GVi.out.m0.rus
        have a2 : IsRus V (fun j => w1.heap.size ≤ j) (.slice po i co) (rus8 i ng rg i) := hr.2.monoV (fun b e _ => (hr.1 b e).1)
        exact ⟨Reads.keep a1 hst (fun _ _ => trivial), a2.keep hst (fun _ _ => trivial)⟩
      have HBV : Hid (Below W.heap.size W (((V.setCell ⟨W.heap.size, 0, none⟩ (.int .i64 0)).setCell ⟨W.heap.size, 1, none⟩ (.slice pn i cn)).setCell ⟨W.heap.size, 2, none⟩ (.slice po i co))) := by
        have h9 := HB1.out.trans (GVi.out.m0.bl.mono HB1.out.size)
        exact ((h9.setCell (p := ⟨W.heap.size, 0, none⟩) (Nat.le_refl _) _).setCell (p := ⟨W.heap.size, 1, none⟩) (Nat.le_refl _) _).setCell (p := ⟨W.heap.size, 2, none⟩) (Nat.le_refl _) _
      have k0 := cellR h3 0
      have k1 := cellR h3 1
      have k2 := cellR h3 2
      clear hzv h3
      go_wp2
      (try simp only [Exit.inBlock, Exit.then])
      refine bodyPost_ret (v := .agg #[.int .i64 0, .slice pn i cn, .slice po i co]) (by simp [results, Try.results12, go_sem, k0, k1, k2]) rfl ⟨_, _, _, _, rfl, HGR, HBV⟩
end Go.Proofs.Ytipnfiaphmddiaa
