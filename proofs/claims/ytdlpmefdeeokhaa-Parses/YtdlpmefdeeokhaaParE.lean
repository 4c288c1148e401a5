/- The document's parser: a declaration. -/
import Derived.Test.YtdlpmefdeeokhaaParD
namespace Go.Proofs.Ytdlpmefdeeokhaa
set_option linter.unusedVariables false
set_option linter.unusedSimpArgs false
open Go.ChangeShapes Go.WideShapes Go.ChangeAt Go.RowKit

theorem Try.infoDfP : (Try.prog.info? 41).map (fun i => (i.zero, i.size, i.bytes)) = some (some (.agg #[.string ⟨#[]⟩, .slice none 0 0]), 2, 40) := by kernel_rfl
theorem Try.infoStP : (Try.prog.info? 9).map (fun i => (i.zero, i.size, i.bytes)) = some (some (.string ⟨#[]⟩), 1, 16) := by kernel_rfl
theorem rs_here {n : Nat} {ts : List Tok} {p : Pm} {k : Nat} {t : Tok} (ht : ts[k]? = some t) (h : take p t = none) : rs n ts p k = .error (plc n ts k, 300) := by
  unfold rs plc
  rw [feed_stop ht h, ht]
  rfl
/-- The declarations so far, in a variable that is the first block behind W0. -/
structure Rz (pb : Nat) (W0 : World) (S : List ByteArray) (D : List Df) (p1 : Option Addr) (m1 c1 : Nat) (p2 : Option Addr) (m2 c2 : Nat) (vs : List Value) (F : Nat → Prop) (V : World) : Prop where
  xw : Bx pb W0 V
  rv : V.heap[W0.heap.size]? = some (.cells #[.slice p1 m1 c1, .slice p2 m2 c2] 25)
  os : V.ownsRow W0.heap.size 9 1 (.slice p1 m1 c1) m1 (txV S)
  od : V.ownsRow W0.heap.size 41 2 (.slice p2 m2 c2) m2 (dfsV D vs)
  din : DefsIn V F D vs
  fl : ∀ b, F b → W0.heap.size < b ∧ b < V.heap.size ∧ (Value.slice p1 m1 c1).ownBlock ≠ some b ∧ (Value.slice p2 m2 c2).ownBlock ≠ some b
  pl : pb < W0.heap.size
  l1 : m1 = S.length
  l2 : m2 = D.length
section
variable {pb m1 m2 c1 c2 gg cap : Nat} {W0 V w2 w5 : World} {S : List ByteArray} {D : List Df} {p1 p2 : Option Addr} {vs : List Value} {F : Nat → Prop}
theorem Rz.keepX (d : Rz pb W0 S D p1 m1 c1 p2 m2 c2 vs F V) (x2 : Bx pb V w2) : Rz pb W0 S D p1 m1 c1 p2 m2 c2 vs F w2 := by
  have hp := d.pl
  have hr := blkP_lt d.rv
  exact ⟨d.xw.trans x2, (x2.block _ hr (by omega)).trans d.rv, x2.row d.os (fun e => by have := (d.os.lt pb e).1; omega), x2.row d.od (fun e => by have := (d.od.lt pb e).1; omega), d.din.keep (x2.stay (fun b hb => ⟨(d.fl b hb).2.1, by have := (d.fl b hb).1; omega⟩)) (fun _ h => h), fun b hb => ⟨(d.fl b hb).1, Nat.lt_of_lt_of_le (d.fl b hb).2.1 x2.size, (d.fl b hb).2.2⟩, hp, d.l1, d.l2⟩
theorem Rz.addS (d : Rz pb W0 S D p1 m1 c1 p2 m2 c2 vs F V) {s : ByteArray} {o : Obj} (hg : (V.alloc o).grownBy w5 (Value.slice p1 m1 c1).ownBlock) (hown : w5.ownsRow W0.heap.size 9 1 (.slice (some ⟨gg, 0, none⟩) (m1 + 1) cap) (m1 + 1) (txV S ++ [.string s])) (hat : (Value.slice p1 m1 c1).ownBlock = some gg ∨ gg = V.heap.size + 1) :
    Rz pb W0 (S ++ [s]) D (some ⟨gg, 0, none⟩) (m1 + 1) cap p2 m2 c2 vs F (w5.setCell ⟨W0.heap.size, 0, none⟩ (.slice (some ⟨gg, 0, none⟩) (m1 + 1) cap)) := by
  have hp := d.pl
  have hr := blkP_lt d.rv
  have hgs := hg.size
  simp at hgs
  have hz : (w5.setCell ⟨W0.heap.size, 0, none⟩ (.slice (some ⟨gg, 0, none⟩) (m1 + 1) cap)).heap.size = w5.heap.size := by simp [World.setCell]
  have hB2 : Below V.heap.size V (V.alloc o) := bel1 V o
  have hB : Below W0.heap.size V (w5.setCell ⟨W0.heap.size, 0, none⟩ (.slice (some ⟨gg, 0, none⟩) (m1 + 1) cap)) := (((Below.refl W0.heap.size V).alloc (by omega) o).grown hg (by simp; omega) (fun x e => (d.os.lt x e).1)).setCell (p := ⟨W0.heap.size, 0, none⟩) (Nat.le_refl _) _
  have n1 : (Value.slice p1 m1 c1).ownBlock ≠ some W0.heap.size := row_noP d.os (by decide) d.rv
  have hr5 : w5.heap[W0.heap.size]? = some (.cells #[.slice p1 m1 c1, .slice p2 m2 c2] 25) := (hg.block _ (by simp; omega) (Ne.symm n1)).trans ((hB2.block _ (by omega)).trans d.rv)
  have st : ∀ b, b ≠ W0.heap.size → (w5.setCell ⟨W0.heap.size, 0, none⟩ (.slice (some ⟨gg, 0, none⟩) (m1 + 1) cap)).heap[b]? = w5.heap[b]? := fun b hb => Go.Deep.blk_setCell_other _ ⟨W0.heap.size, 0, none⟩ _ b hb
  have od5 : w5.ownsRow W0.heap.size 41 2 (.slice p2 m2 c2) m2 (dfsV D vs) := row_grown (row_keep d.od hB2) (row_keep d.os hB2) (by decide) hg
  refine ⟨d.xw.thenB (Nat.le_refl _) hB, heap_setCell_same w5 _ 0 _ _ _ hr5, ?_, ownsRow_setCell_other (a := ⟨W0.heap.size, 0, none⟩) od5 (row_noP od5 (by decide) hr5) _, d.din.keep ⟨by omega, fun b hb => ?_⟩ (fun _ h => h), fun b hb => ?_, hp, by rw [List.length_append, ← d.l1]; rfl, d.l2⟩
  · have e : txV (S ++ [s]) = txV S ++ [.string s] := by simp [txV]
    rw [e]
    exact ownsRow_setCell_other (a := ⟨W0.heap.size, 0, none⟩) hown (row_noP hown (by decide) hr5) _
  · obtain ⟨f1, f2, f3, f4⟩ := d.fl b hb
    exact (st b (by omega)).trans ((hg.block b (by simp; omega) (Ne.symm f3)).trans (hB2.block b f2))
  · obtain ⟨f1, f2, f3, f4⟩ := d.fl b hb
    refine ⟨f1, by omega, fun e => ?_, f4⟩
    obtain rfl : gg = b := by injection e
    rcases hat with h | h
    · exact f3 h
    · omega
/-- A definition more; what def made lies behind V. -/
theorem Rz.addD (d : Rz pb W0 S D p1 m1 c1 p2 m2 c2 vs F V) (x2 : Bx pb V w2) {nm : ByteArray} {iv : Value} {alts : List (List Cj)} {o o2 : Obj} (hii : IsAlts w2 (fun b => V.heap.size ≤ b ∧ b < w2.heap.size) iv alts) (hg : ((w2.alloc o).alloc o2).grownBy w5 (Value.slice p2 m2 c2).ownBlock) (hown : w5.ownsRow W0.heap.size 41 2 (.slice (some ⟨gg, 0, none⟩) (m2 + 1) cap) (m2 + 1) (dfsV D vs ++ [.string nm, iv])) (hat : (Value.slice p2 m2 c2).ownBlock = some gg ∨ gg = w2.heap.size + 1 + 1) :
    Rz pb W0 S (D ++ [⟨nm, alts⟩]) p1 m1 c1 (some ⟨gg, 0, none⟩) (m2 + 1) cap (vs ++ [iv]) (fun b => F b ∨ (V.heap.size ≤ b ∧ b < w2.heap.size)) (w5.setCell ⟨W0.heap.size, 1, none⟩ (.slice (some ⟨gg, 0, none⟩) (m2 + 1) cap)) := by
  have d2 := d.keepX x2
  have hp := d.pl
  have hr := blkP_lt d.rv
  have h2s := x2.size
  have hgs := hg.size
  simp at hgs
  have hz : (w5.setCell ⟨W0.heap.size, 1, none⟩ (.slice (some ⟨gg, 0, none⟩) (m2 + 1) cap)).heap.size = w5.heap.size := by simp [World.setCell]
  have hB2 : Below w2.heap.size w2 ((w2.alloc o).alloc o2) := ((Below.refl w2.heap.size w2).alloc (Nat.le_refl _) o).alloc (by simp) o2
  have hB : Below W0.heap.size w2 (w5.setCell ⟨W0.heap.size, 1, none⟩ (.slice (some ⟨gg, 0, none⟩) (m2 + 1) cap)) := ((((Below.refl W0.heap.size w2).alloc (by omega) o).alloc (by simp; omega) o2).grown hg (by simp; omega) (fun x e => (d.od.lt x e).1)).setCell (p := ⟨W0.heap.size, 1, none⟩) (Nat.le_refl _) _
  have n1 : (Value.slice p2 m2 c2).ownBlock ≠ some W0.heap.size := row_noP d.od (by decide) d.rv
  have hr5 : w5.heap[W0.heap.size]? = some (.cells #[.slice p1 m1 c1, .slice p2 m2 c2] 25) := (hg.block _ (by simp; omega) (Ne.symm n1)).trans ((hB2.block _ (by omega)).trans d2.rv)
  have st : ∀ b, b ≠ W0.heap.size → (w5.setCell ⟨W0.heap.size, 1, none⟩ (.slice (some ⟨gg, 0, none⟩) (m2 + 1) cap)).heap[b]? = w5.heap[b]? := fun b hb => Go.Deep.blk_setCell_other _ ⟨W0.heap.size, 1, none⟩ _ b hb
  have os5 : w5.ownsRow W0.heap.size 9 1 (.slice p1 m1 c1) m1 (txV S) := row_grown (row_keep d2.os hB2) (row_keep d2.od hB2) (by decide) hg
  refine ⟨d2.xw.thenB (Nat.le_refl _) hB, heap_setCell_same w5 _ 1 _ _ _ hr5, ownsRow_setCell_other (a := ⟨W0.heap.size, 1, none⟩) os5 (row_noP os5 (by decide) hr5) _, ?_, ?_, fun b hb => ?_, hp, d.l1, by rw [List.length_append, ← d.l2]; rfl⟩
  · rw [dfsV_append _ _ _ _ d.din.1]
    exact ownsRow_setCell_other (a := ⟨W0.heap.size, 1, none⟩) hown (row_noP hown (by decide) hr5) _
  · refine in_snoc (P := fun (c : Df) (u : Value) => IsAlts (w5.setCell ⟨W0.heap.size, 1, none⟩ (.slice (some ⟨gg, 0, none⟩) (m2 + 1) cap)) (fun b => F b ∨ (V.heap.size ≤ b ∧ b < w2.heap.size)) u c.alts) d.din.1 (fun k c u h1 h2 => (d2.din.2 k c u h1 h2).keep ⟨by omega, fun b hb => ?_⟩ (fun b hb => Or.inl hb)) (hii.keep ⟨by omega, fun b hb => ?_⟩ (fun b hb => Or.inr hb))
    · obtain ⟨f1, f2, f3, f4⟩ := d2.fl b hb
      exact (st b (by omega)).trans ((hg.block b (by simp; omega) (Ne.symm f4)).trans (hB2.block b f2))
    · exact (st b (by omega)).trans ((hg.block b (by simp; omega) (fun e => by have := (d.od.lt b e.symm).2; omega)).trans (hB2.block b (by omega)))
  · have hgo : (Value.slice p1 m1 c1).ownBlock ≠ some gg := fun e => row_apart os5 hown (by decide) gg e rfl
    rcases hb with hb | hb
    · obtain ⟨f1, f2, f3, f4⟩ := d.fl b hb
      refine ⟨f1, by omega, f3, fun e => ?_⟩
      obtain rfl : gg = b := by injection e
      rcases hat with h | h
      · exact f4 h
      · omega
    · refine ⟨by omega, by omega, fun e => by have := (d.os.lt b e).2; omega, fun e => ?_⟩
      obtain rfl : gg = b := by injection e
      rcases hat with h | h
      · have := (d.od.lt gg h).2; omega
      · omega
end
/-- What a call of decl leaves. -/
def DcR (n : Nat) (ts : List Tok) (pb : Nat) (W0 : World) (R : Pres) (k : Nat) (w' : World) (k' : Nat) (ok : Bool) : Prop :=
  (ok = true → k < k' ∧ ∃ S D sn nm p1 m1 c1 p2 m2 c2 vs F, (m1 ≤ k' ∧ m2 ≤ k') ∧ Rz pb W0 S D p1 m1 c1 p2 m2 c2 vs F w' ∧ rs n ts ⟨0, S, D, sn, nm, [], [], false, []⟩ k' = R) ∧ (ok = false → R = .error (plc n ts k', 300) ∧ Bx pb W0 w')
end Go.Proofs.Ytdlpmefdeeokhaa
