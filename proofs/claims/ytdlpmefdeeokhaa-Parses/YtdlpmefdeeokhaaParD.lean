/- The document's parser: a definition. -/
import Derived.Test.YtdlpmefdeeokhaaParA
import Derived.Deep.RegionHeld3
namespace Go.Proofs.Ytdlpmefdeeokhaa
set_option linter.unusedVariables false
set_option linter.unusedSimpArgs false
open Go.ChangeShapes Go.WideShapes Go.ChangeAt Go.RowKit

theorem Try.infoAlP : (Try.prog.info? 42).map (fun i => (i.zero, i.size, i.bytes)) = some (some (.slice none 0 0), 1, 24) := by kernel_rfl
/-- What a call of def leaves. -/
def DfR (n : Nat) (ts : List Tok) (S : List ByteArray) (D : List Df) (sn nm : ByteArray) (R : Pres) (w w' : World) (v : Value) (k' : Nat) (ok : Bool) : Prop :=
  (ok = true → ∃ alts, IsAlts w' (fun b => w.heap.size ≤ b ∧ b < w'.heap.size) v alts ∧ rs n ts ⟨0, S, D ++ [⟨nm, alts⟩], sn, ⟨#[]⟩, [], [], false, []⟩ k' = R) ∧ (ok = false → R = .error (plc n ts k', 300))
/-- The definition so far: its variable db, the answer's rb, its alternatives. -/
structure Dq (pb db rb : Nat) (w : World) (nm : ByteArray) (AL : List (List Cj)) (p : Option Addr) (m c : Nat) (vs : List Value) (F : Nat → Prop) (V : World) : Prop where
  xw : Bx pb w V
  dv : V.heap[db]? = some (.cells #[.string nm, .slice p m c] 41)
  rv : V.heap[rb]? = some (.cells #[.string ⟨#[]⟩, .slice none 0 0] 41)
  ow : V.ownsRow w.heap.size 42 1 (.slice p m c) m vs
  ain : AltsIn V F AL vs
  fl : ∀ b, F b → w.heap.size ≤ b ∧ b < V.heap.size ∧ (Value.slice p m c).ownBlock ≠ some b ∧ b ≠ db ∧ b ≠ rb
  pl : pb < w.heap.size ∧ w.heap.size ≤ rb ∧ rb < db
theorem Dq.keepX {pb db rb m c : Nat} {w V w2 : World} {nm : ByteArray} {AL : List (List Cj)} {p : Option Addr} {vs : List Value} {F : Nat → Prop} (d : Dq pb db rb w nm AL p m c vs F V) (x2 : Bx pb V w2) : Dq pb db rb w nm AL p m c vs F w2 := by
  have hp := d.pl
  have hd := blkP_lt d.dv
  have hr := blkP_lt d.rv
  exact ⟨d.xw.trans x2, (x2.block db hd (by omega)).trans d.dv, (x2.block rb hr (by omega)).trans d.rv, x2.row d.ow (fun e => by have := (d.ow.lt pb e).1; omega), d.ain.keep (x2.stay (fun b hb => ⟨(d.fl b hb).2.1, by have := (d.fl b hb).1; omega⟩)) (fun _ h => h), fun b hb => ⟨(d.fl b hb).1, Nat.lt_of_lt_of_le (d.fl b hb).2.1 x2.size, (d.fl b hb).2.2⟩, hp⟩
/-- An alternative more. -/
theorem Dq.step {pb db rb m c gg cap : Nat} {w V w2 w5 : World} {nm : ByteArray} {AL : List (List Cj)} {p : Option Addr} {vs : List Value} {F : Nat → Prop} {iv : Value} {a : List Cj} {o : Obj} (d : Dq pb db rb w nm AL p m c vs F V) (x2 : Bx pb V w2) (hii : IsCjs w2 (fun b => V.heap.size ≤ b ∧ b < w2.heap.size) iv a)
    (hg : (w2.alloc o).grownBy w5 (Value.slice p m c).ownBlock) (hown : w5.ownsRow w.heap.size 42 1 (.slice (some ⟨gg, 0, none⟩) (m + 1) cap) (m + 1) (vs ++ [iv])) (hat : (Value.slice p m c).ownBlock = some gg ∨ gg = w2.heap.size + 1) :
    Dq pb db rb w nm (AL ++ [a]) (some ⟨gg, 0, none⟩) (m + 1) cap (vs ++ [iv]) (fun b => F b ∨ (V.heap.size ≤ b ∧ b < w2.heap.size)) (w5.setCell ⟨db, 1, none⟩ (.slice (some ⟨gg, 0, none⟩) (m + 1) cap)) ∧ Below w.heap.size w2 (w5.setCell ⟨db, 1, none⟩ (.slice (some ⟨gg, 0, none⟩) (m + 1) cap)) := by
  have d2 := d.keepX x2
  have hp := d.pl
  have hVs := d.xw.size
  have h2s := x2.size
  have hdl := blkP_lt d.dv
  have hrl := blkP_lt d.rv
  have hgs := hg.size
  simp at hgs
  have hB2 : Below w2.heap.size w2 (w2.alloc o) := bel1 w2 o
  have hz : (w5.setCell ⟨db, 1, none⟩ (.slice (some ⟨gg, 0, none⟩) (m + 1) cap)).heap.size = w5.heap.size := by simp [World.setCell]
  have hB : Below w.heap.size w2 (w5.setCell ⟨db, 1, none⟩ (.slice (some ⟨gg, 0, none⟩) (m + 1) cap)) := (((Below.refl w.heap.size w2).alloc (by omega) o).grown hg (by simp; omega) (fun x e => (d.ow.lt x e).1)).setCell (p := ⟨db, 1, none⟩) (by show _ ≤ db; omega) _
  have n1 : (Value.slice p m c).ownBlock ≠ some db := row_noP d.ow (by decide) d.dv
  have n2 : (Value.slice p m c).ownBlock ≠ some rb := row_noP d.ow (by decide) d.rv
  have hd5 : w5.heap[db]? = some (.cells #[.string nm, .slice p m c] 41) := (hg.block db (by simp; omega) (Ne.symm n1)).trans ((hB2.block db (by omega)).trans d2.dv)
  have hr5 : w5.heap[rb]? = some (.cells #[.string ⟨#[]⟩, .slice none 0 0] 41) := (hg.block rb (by simp; omega) (Ne.symm n2)).trans ((hB2.block rb (by omega)).trans d2.rv)
  have st : ∀ b, b ≠ db → (w5.setCell ⟨db, 1, none⟩ (.slice (some ⟨gg, 0, none⟩) (m + 1) cap)).heap[b]? = w5.heap[b]? := fun b hb => Go.Deep.blk_setCell_other _ ⟨db, 1, none⟩ _ b hb
  refine ⟨⟨(d.xw.trans x2).thenB (Nat.le_refl _) hB, heap_setCell_same w5 db 1 _ _ _ hd5, (st rb (by omega)).trans hr5, ownsRow_setCell_other (a := ⟨db, 1, none⟩) hown (row_noP hown (by decide) hd5) _, ?_, fun b hb => ?_, hp⟩, hB⟩
  · refine in_snoc (P := fun (c : List Cj) (u : Value) => IsCjs (w5.setCell ⟨db, 1, none⟩ (.slice (some ⟨gg, 0, none⟩) (m + 1) cap)) (fun b => F b ∨ (V.heap.size ≤ b ∧ b < w2.heap.size)) u c) d.ain.1 (fun k c u h1 h2 => (d2.ain.2 k c u h1 h2).keep ⟨by omega, fun b hb => ?_⟩ (fun b hb => Or.inl hb)) (hii.keep ⟨by omega, fun b hb => ?_⟩ (fun b hb => Or.inr hb))
    · obtain ⟨f1, f2, f3, f4, f5⟩ := d2.fl b hb
      exact (st b f4).trans ((hg.block b (by simp; omega) (Ne.symm f3)).trans (hB2.block b (by omega)))
    · exact (st b (by omega)).trans ((hg.block b (by simp; omega) (fun e => by have := (d.ow.lt b e.symm).2; omega)).trans (hB2.block b (by omega)))
  · have hgd : gg ≠ db := fun e => row_noP hown (by decide) hd5 (by rw [e]; rfl)
    have hgr : gg ≠ rb := fun e => row_noP hown (by decide) hr5 (by rw [e]; rfl)
    rcases hb with hb | hb
    · obtain ⟨f1, f2, f3, f4, f5⟩ := d.fl b hb
      refine ⟨f1, by omega, fun e => ?_, f4, f5⟩
      obtain rfl : gg = b := by injection e
      rcases hat with h | h
      · exact f3 h
      · omega
    · refine ⟨by omega, by omega, fun e => ?_, by omega, by omega⟩
      obtain rfl : gg = b := by injection e
      rcases hat with h | h
      · have := (d.ow.lt gg h).2; omega
      · omega
theorem Dq.alts {pb db rb m c : Nat} {w V : World} {nm : ByteArray} {AL : List (List Cj)} {p : Option Addr} {vs : List Value} {F : Nat → Prop} (d : Dq pb db rb w nm AL p m c vs F V) (hm : m = AL.length) : IsAlts V (fun b => w.heap.size ≤ b ∧ b < V.heap.size) (.slice p m c) AL := by
  subst hm
  exact ⟨vs, Reads.of d.ow (fun b e => d.ow.lt b e), d.ain.keep ⟨Nat.le_refl _, fun _ _ => rfl⟩ (fun b hb => ⟨(d.fl b hb).1, (d.fl b hb).2.1⟩)⟩
/-- The answer is laid. -/
theorem Dq.fin {pb db rb m c : Nat} {w V : World} {nm : ByteArray} {AL : List (List Cj)} {p : Option Addr} {vs : List Value} {F : Nat → Prop} (d : Dq pb db rb w nm AL p m c vs F V) (hm : m = AL.length) :
    ((V.setCell ⟨rb, 0, none⟩ (.string nm)).setCell ⟨rb, 1, none⟩ (.slice p m c)).heap[rb]? = some (.cells #[.string nm, .slice p m c] 41) ∧ Below w.heap.size V ((V.setCell ⟨rb, 0, none⟩ (.string nm)).setCell ⟨rb, 1, none⟩ (.slice p m c)) ∧ IsAlts ((V.setCell ⟨rb, 0, none⟩ (.string nm)).setCell ⟨rb, 1, none⟩ (.slice p m c)) (fun b => w.heap.size ≤ b ∧ b < ((V.setCell ⟨rb, 0, none⟩ (.string nm)).setCell ⟨rb, 1, none⟩ (.slice p m c)).heap.size) (.slice p m c) AL := by
  subst hm
  have hp := d.pl
  have hz : ((V.setCell ⟨rb, 0, none⟩ (.string nm)).setCell ⟨rb, 1, none⟩ (.slice p AL.length c)).heap.size = V.heap.size := by simp [World.setCell]
  have st : ∀ b, b ≠ rb → ((V.setCell ⟨rb, 0, none⟩ (.string nm)).setCell ⟨rb, 1, none⟩ (.slice p AL.length c)).heap[b]? = V.heap[b]? := fun b hb => (Go.Deep.blk_setCell_other _ ⟨rb, 1, none⟩ _ b hb).trans (Go.Deep.blk_setCell_other _ ⟨rb, 0, none⟩ _ b hb)
  have n2 : (Value.slice p AL.length c).ownBlock ≠ some rb := row_noP d.ow (by decide) d.rv
  refine ⟨set2 d.rv _ _, ((Below.refl w.heap.size V).setCell (p := ⟨rb, 0, none⟩) (by show _ ≤ rb; omega) _).setCell (p := ⟨rb, 1, none⟩) (by show _ ≤ rb; omega) _, vs, ?_, ?_⟩
  · have h9 := ownsRow_setCell_other (a := ⟨rb, 1, none⟩) (ownsRow_setCell_other (a := ⟨rb, 0, none⟩) d.ow n2 (.string nm)) n2 (.slice p AL.length c)
    exact Reads.of h9 (fun b e => h9.lt b e)
  · exact d.ain.keep ⟨by omega, fun b hb => st b (d.fl b hb).2.2.2.2⟩ (fun b hb => ⟨(d.fl b hb).1, by have := (d.fl b hb).2.1; omega⟩)
/-- All is laid at the end of def. -/
def DfQ (pb : Nat) (tp : Option Addr) (N tc : Nat) (ts : List Tok) (k : Nat) (w : World) (rb : Nat) (nm : ByteArray) (v : Value) (AL : List (List Cj)) (w9 : World) : Prop := Zs pb tp N tc ts k w9 ∧ Bx pb w w9 ∧ w9.heap[rb]? = some (.cells #[.string nm, v] 41) ∧ IsAlts w9 (fun b => w.heap.size ≤ b ∧ b < w9.heap.size) v AL
theorem Dq.q {pb db rb m c N tc k k0 : Nat} {tp : Option Addr} {ts : List Tok} {w V : World} {nm : ByteArray} {AL : List (List Cj)} {p : Option Addr} {vs : List Value} {F : Nat → Prop} (d : Dq pb db rb w nm AL p m c vs F V) (hm : m = AL.length) (z0 : Zs pb tp N tc ts k0 w) (z : Zs pb tp N tc ts k V) : DfQ pb tp N tc ts k w rb nm (.slice p m c) AL ((V.setCell ⟨rb, 0, none⟩ (.string nm)).setCell ⟨rb, 1, none⟩ (.slice p m c)) := by
  obtain ⟨q1, q2, q3⟩ := d.fin hm
  exact ⟨z0.thenB z d.xw (Nat.le_refl _) q2, d.xw.thenB (Nat.le_refl _) q2, q1, q3⟩
theorem DfQ.keep {pb rb N tc k k2 : Nat} {tp : Option Addr} {ts : List Tok} {w w9 w' : World} {nm : ByteArray} {v : Value} {AL : List (List Cj)} (q : DfQ pb tp N tc ts k w rb nm v AL w9) (hp : pb < w.heap.size) (hr : w.heap.size ≤ rb) (x : Bx pb w9 w') (z : Zs pb tp N tc ts k2 w') : DfQ pb tp N tc ts k2 w rb nm v AL w' :=
  ⟨z, q.2.1.trans x, (x.block rb (blkP_lt q.2.2.1) (by omega)).trans q.2.2.1, q.2.2.2.keep (x.stay (fun b hb => ⟨hb.2, by have := hb.1; omega⟩)) (fun b hb => ⟨hb.1, Nat.lt_of_lt_of_le hb.2 x.size⟩)⟩
set_option maxHeartbeats 8000000 in
set_option maxRecDepth 100000 in
theorem pDef_any {pb N tc k n : Nat} {tp : Option Addr} {ts : List Tok} {w : World} {S : List ByteArray} {D : List Df} {sn nm : ByteArray} {R : Pres} (z : Zs pb tp N tc ts k w) (hR : rs n ts ⟨3, S, D, sn, nm, [], [], false, []⟩ k = R) :
    Calls Try.prog 35 #[.pointer (some ⟨pb, 0, none⟩), .string nm] w fun e w' => ∃ p m c k' ok, e = .returned (.tuple #[.agg #[.string nm, .slice p m c], .bool ok]) ∧ Hid (Zs pb tp N tc ts k' w') ∧ Hid (Bx pb w w') ∧ Hid (k ≤ k' ∧ (ok = true → k < k')) ∧ Hid (DfR n ts S D sn nm R w w' (.slice p m c) k' ok) := by
  have HZ := hid_ofP z
  have hpl := z.lt
  have hM9 := z.hM
  have hkN9 := z.hk
  obtain ⟨it, hi0, hi1, hi2, hi3⟩ := info_parts Try.infoAlP
  have HI : Hid (Try.prog.info? 42 = some it ∧ it.zero = some (.slice none 0 0) ∧ it.size = 1 ∧ it.bytes = 24) := ⟨hi0, hi1, hi2, hi3⟩
  obtain ⟨W2, hW2⟩ : ∃ x, x = (w.alloc (.cells #[.string ⟨#[]⟩, .slice none 0 0] 41)).alloc (.cells #[.string nm, .slice none 0 0] 41) := ⟨_, rfl⟩
  have hb2 : Below w.heap.size w W2 := by rw [hW2]; exact (bel1 w _).alloc (by simp) _
  have HD0 : Hid (Dq pb (w.heap.size + 1) w.heap.size w nm [] none 0 0 [] (fun _ => False) W2) := by
    refine ⟨Bx.of hb2, ?_, ?_, World.ownsRow_nil _ _ _ _, ⟨rfl, fun k c u h => by simp at h⟩, fun b h => h.elim, hpl, Nat.le_refl _, Nat.lt_succ_self _⟩
    · have h := heap_alloc_new (w.alloc (.cells #[.string ⟨#[]⟩, .slice none 0 0] 41)) (.cells #[.string nm, .slice none 0 0] 41)
      rw [show (w.alloc (.cells #[.string ⟨#[]⟩, .slice none 0 0] 41)).heap.size = w.heap.size + 1 by simp, ← hW2] at h
      exact h
    · rw [hW2]
      exact ((bel1 _ _).block _ (by simp)).trans (heap_alloc_new w _)
  have HZ2 : Hid (Zs pb tp N tc ts k W2) := z.keep hb2
  clear hi0 hi1 hi2 hi3
  cases h4 : isB ts k 4 with
  | false =>
    have K4 : Hid (Calls Try.prog 33 #[.pointer (some ⟨pb, 0, none⟩), .int .i64 4] W2 fun e w' => e = .returned (.bool false) ∧ Hid (Zs pb tp N tc ts k w') ∧ Hid (Bx pb W2 w')) := (pIs_any (kd := 4) HZ2.out).mono fun e w' ⟨h1, h2, h3⟩ => by rw [h4] at h1 h2; exact ⟨h1, h2, h3⟩
    have HE : Hid (R = .error (plc n ts k, 300)) := by
      show _ = _
      rw [← hR]
      refine rs_stop (Nat.succ_ne_zero 2) (fun t ht => ?_)
      show take3 _ t = none
      unfold take3
      rw [if_neg (isB_none h4 t ht)]
    have KK := K4.out
    rw [hW2] at KK
    have HW2 := hid_ofP hW2
    clear z hR h4 hb2 hW2 K4
    go_enter Try.func35, Try.ntmps35
    go_wp2_with (go_at_call 33; refine KK.mono ?_; rintro e w3 ⟨rfl, z3, x3⟩; rw [← HW2.out] at x3; have d3 := HD0.out.keepX x3.out; have HD3 := hid_ofP d3; have c0 : w3.cell? ⟨w.heap.size + 1, 0, none⟩ = some (.string nm) := cellP d3.dv 0; have c1 : w3.cell? ⟨w.heap.size + 1, 1, none⟩ = some (.slice none 0 0) := cellP d3.dv 1; have r0 : w3.cell? ⟨w.heap.size, 0, none⟩ = some (.string ⟨#[]⟩) := cellP d3.rv 0; have r1 : w3.cell? ⟨w.heap.size, 1, none⟩ = some (.slice none 0 0) := cellP d3.rv 1; have f0 : w3.frozen? ⟨w.heap.size, 0, none⟩ = false := frzP d3.rv 0; have f1 : w3.frozen? ⟨w.heap.size, 1, none⟩ = false := frzP d3.rv 1; clear d3)
    obtain ⟨q1, q2, q3⟩ := HD3.out.fin rfl
    have g0 := cellP q1 0
    have g1 := cellP q1 1
    refine bodyPost_ret (v := .tuple #[.agg #[.string nm, .slice none 0 0], .bool false]) ?_ rfl ?_
    · rw [results_cell_tmpP Try.results35]
      simp [go_sem, g0, g1]
    · exact ⟨none, 0, 0, k, false, rfl, HZ.out.thenB z3.out HD3.out.xw (Nat.le_refl _) q2, HD3.out.xw.thenB (Nat.le_refl _) q2, ⟨Nat.le_refl _, fun h => (by cases h)⟩, ⟨fun h => (by cases h), fun _ => HE.out⟩⟩
  | true =>
    have K4 : Hid (Calls Try.prog 33 #[.pointer (some ⟨pb, 0, none⟩), .int .i64 4] W2 fun e w' => e = .returned (.bool true) ∧ Hid (Zs pb tp N tc ts (k + 1) w') ∧ Hid (Bx pb W2 w')) := (pIs_any (kd := 4) HZ2.out).mono fun e w' ⟨h1, h2, h3⟩ => by rw [h4] at h1 h2; exact ⟨h1, h2, h3⟩
    have HR4 : Hid (rs n ts ⟨4, S, D, sn, nm, [], [], false, []⟩ (k + 1) = R) := by
      obtain ⟨t, ht, h7⟩ := isB_some h4
      have e : take ⟨3, S, D, sn, nm, [], [], false, []⟩ t = some ⟨4, S, D, sn, nm, [], [], false, []⟩ := by
        show take3 _ t = _
        unfold take3
        rw [if_pos h7]
        rfl
      show _ = _
      rw [← hR, rs_step ht e]
    have KK := K4.out
    rw [hW2] at KK
    have HW2 := hid_ofP hW2
    clear z hR h4 hb2 hW2 K4
    go_enter Try.func35, Try.ntmps35
    go_wp2_with (go_at_call 33; refine KK.mono ?_; rintro e w3 ⟨rfl, z3, x3⟩; rw [← HW2.out] at x3; have d3 := HD0.out.keepX x3.out; have HD3 := hid_ofP d3; clear d3)
    have hkN3 := z3.out.hk
    obtain ⟨rb, hrb⟩ : ∃ x, x = w.heap.size := ⟨_, rfl⟩
    obtain ⟨db, hdb⟩ : ∃ x, x = w.heap.size + 1 := ⟨_, rfl⟩
    rw [← hdb, ← hrb] at HD3 ⊢
    clear hrb hdb HD0 HZ2 HW2 KK
    go_loopg [] (N - k) (fun gk wr => ∃ (kk : Nat) (AL : List (List Cj)) (p : Option Addr) (m c : Nat) (vs : List Value) (F : Nat → Prop), kk + gk = N + 1 ∧ kk ≤ N ∧ m ≤ kk ∧ Hid (m = AL.length) ∧ Hid (Zs pb tp N tc ts kk wr) ∧ Hid (Dq pb db rb w nm AL p m c vs F wr) ∧ Hid (rs n ts ⟨4, S, D, sn, nm, AL, [], false, []⟩ kk = R) ∧ Hid (k < kk))
    case atStart => exact ⟨k + 1, [], none, 0, 0, [], fun _ => False, by omega, hkN3, Nat.zero_le _, rfl, z3, HD3, HR4, Nat.lt_succ_self _⟩
    case round =>
      obtain ⟨kk, AL, p, m, c, vs, F, hgk, hkN, hmk, HM, HZk, HDk, HRk, HLk⟩ := hrel
      clear z3 x3 HD3 HR4 hkN3
      obtain ⟨V, hV⟩ : ∃ x, x = wr := ⟨_, rfl⟩
      subst hV
      have K2 := pAlt_any (n := n) HZk.out HRk.out
      have MX : Hid (m + 1 ≤ maxLen) := by show _ ≤ _; unfold maxLen; omega
      have BY : Hid ((m + 1) * 24 ≤ 140737488355328) := by show _ ≤ _; omega
      go_upto_region 5 with (go_at_call 50; refine K2.mono ?_; rintro e w2 ⟨p2, m2, c2, k2, ok, rfl, z2, x2, hk2, al⟩; have d2 := HDk.out.keepX x2.out; have HD2 := hid_ofP d2; have c0 : w2.cell? ⟨db, 0, none⟩ = some (.string nm) := cellP d2.dv 0; have c1 : w2.cell? ⟨db, 1, none⟩ = some (.slice p m c) := cellP d2.dv 1; have r0 : w2.cell? ⟨rb, 0, none⟩ = some (.string ⟨#[]⟩) := cellP d2.rv 0; have r1 : w2.cell? ⟨rb, 1, none⟩ = some (.slice none 0 0) := cellP d2.rv 1; have f0 : w2.frozen? ⟨rb, 0, none⟩ = false := frzP d2.rv 0; have f1 : w2.frozen? ⟨rb, 1, none⟩ = false := frzP d2.rv 1; have fd : w2.frozen? ⟨db, 1, none⟩ = false := frzP d2.dv 1; clear d2)
      clear K2
      cases ok with
      | false =>
        --SA
        have HE : Hid (R = .error (plc n ts k2, 300)) := al.out.2 rfl
        go_wp2
        obtain ⟨q1, q2, q3⟩ := HD2.out.fin HM.out
        have g0 := cellP q1 0
        have g1 := cellP q1 1
        refine bodyPost_ret (v := .tuple #[.agg #[.string nm, .slice p m c], .bool false]) ?_ rfl ?_
        · rw [results_cell_tmpP Try.results35]
          simp [go_sem, g0, g1]
        · exact ⟨p, m, c, k2, false, rfl, HZ.out.thenB z2.out HD2.out.xw (Nat.le_refl _) q2, HD2.out.xw.thenB (Nat.le_refl _) q2, ⟨by have := HLk.out; have := hk2.out.1; omega, fun h => (by cases h)⟩, ⟨fun h => (by cases h), fun _ => HE.out⟩⟩
        --EA
      | true =>
        --SB
        obtain ⟨A, neg, items, ii, hr2, hit, h6⟩ := al.out.1 rfl
        have HR2 := hid_ofP hr2
        have hk2b := hk2.out.2 rfl
        have hk2N := z2.out.hk
        have hw2 : w.heap.size ≤ w2.heap.size := HD2.out.xw.size
        have hdl : db < w2.heap.size := blkP_lt HD2.out.dv
        have RN : Hid ((Value.slice p m c).ownBlock ≠ some db) := row_noP HDk.out.ow (by decide) HDk.out.dv
        have HST : Hid (∀ (w5 : World) (gg cap : Nat), (w2.alloc (.cells #[.slice p2 m2 c2] 42)).grownBy w5 (Value.slice p m c).ownBlock → w5.ownsRow w.heap.size 42 1 (.slice (some ⟨gg, 0, none⟩) (m + 1) cap) (m + 1) (vs ++ [.slice p2 m2 c2]) → ((Value.slice p m c).ownBlock = some gg ∨ gg = w2.heap.size + 1) →
            Hid (Dq pb db rb w nm (AL ++ [A ++ [⟨neg, items⟩]]) (some ⟨gg, 0, none⟩) (m + 1) cap (vs ++ [.slice p2 m2 c2]) (fun b => F b ∨ (V.heap.size ≤ b ∧ b < w2.heap.size)) (w5.setCell ⟨db, 1, none⟩ (.slice (some ⟨gg, 0, none⟩) (m + 1) cap))) ∧ Hid (Zs pb tp N tc ts k2 (w5.setCell ⟨db, 1, none⟩ (.slice (some ⟨gg, 0, none⟩) (m + 1) cap)))) := fun w5 gg cap hg hown hat => by
          obtain ⟨s1, s2⟩ := HDk.out.step x2.out ii hg hown hat
          exact ⟨s1, HZ.out.thenB z2.out HD2.out.xw (Nat.le_refl _) s2⟩
        have HLL : Hid (m + 1 = (AL ++ [A ++ [(⟨neg, items⟩ : Cj)]]).length) := by show _ = _; rw [List.length_append, ← HM.out]; rfl
        clear al hr2 ii hk2
        cases h5 : isB ts k2 5 with
        | true =>
          --SC
          have HR5 : Hid (rs n ts ⟨4, S, D, sn, nm, AL ++ [A ++ [⟨neg, items⟩]], [], false, []⟩ (k2 + 1) = R ∧ k2 < N) := by
            obtain ⟨t, ht, h7⟩ := isB_some h5
            have e : take ⟨6, S, D, sn, nm, AL, A, neg, items⟩ t = some ⟨4, S, D, sn, nm, AL ++ [A ++ [⟨neg, items⟩]], [], false, []⟩ := by
              show take6 _ t = _
              unfold take6
              rw [if_neg (by omega), if_pos h7]
              rfl
            exact ⟨by rw [← HR2.out, rs_step ht e], z2.out.smT ht⟩
          have K5 : Hid (∀ w5, Zs pb tp N tc ts k2 w5 → Calls Try.prog 33 #[.pointer (some ⟨pb, 0, none⟩), .int .i64 5] w5 fun e w' => e = .returned (.bool true) ∧ Hid (Zs pb tp N tc ts (k2 + 1) w') ∧ Hid (Bx pb w5 w')) := fun w5 z5 => (pIs_any (kd := 5) z5).mono fun e w' ⟨h1, h2, h3⟩ => by rw [h5] at h1 h2; exact ⟨h1, h2, h3⟩
          clear h5 h6 hit
          go_wp2_with (first
            | (at_builtin; refine wpList_append_lies _ rfl _ _ 39 rfl w.heap.size 42 it (.slice none 0 0) 1 24 Try.underlying39 HI.out.1 HI.out.2.1 HI.out.2.2.1 HI.out.2.2.2 rfl (by decide) _ _ _ rfl (HD2.out.ow.alloc _) ⟨w2.heap.size, 0, none⟩ 1 1 [.slice p2 m2 c2] rfl rfl (World.news_of_block (cs := #[.slice p2 m2 c2]) (t := 42) (fr := (0, 0)) (heap_alloc_new w2 _)) (fun x hx => by simp at hx; rcases hx with rfl; rfl) (by decide) MX.out BY.out (by simp; omega) (w2.heap.size + 1) (by simp) ?_; intro gg cap w5 hown hgrow hat hl; have c6 : w5.cell? ⟨db, 1, none⟩ = some (.slice p m c) := (hgrow.cell_far ⟨db, 1, none⟩ (by simp; omega) (Ne.symm RN.out)).trans ((World.cell?_alloc_past _ _ _ hdl).trans c1); have f6 : w5.frozen? ⟨db, 1, none⟩ = false := (hgrow.frozen_far ⟨db, 1, none⟩ (by simp; omega) (Ne.symm RN.out)).trans ((World.frozen?_alloc_past _ _ _ hdl).trans fd); obtain ⟨S1, S4⟩ := HST.out w5 gg cap hgrow hown hat; clear hgrow hown hat hl)
            | (go_at_call 33; refine (K5.out _ S4.out).mono ?_; rintro e w6 ⟨rfl, z6, x6⟩))
          go_roundg (N - k2)
          case measure => omega
          case rel => exact ⟨k2 + 1, AL ++ [A ++ [(⟨neg, items⟩ : Cj)]], some ⟨gg, 0, none⟩, m + 1, cap, _, _, by have := HR5.out.2; omega, by have := HR5.out.2; omega, by omega, HLL, z6, S1.out.keepX x6.out, HR5.out.1, by have := HLk.out; show _ < _; omega⟩
          --EC
        | false =>
          --SD
          have HRF : Hid (isB ts k2 8 = true → rs n ts ⟨0, S, D ++ [⟨nm, AL ++ [A ++ [⟨neg, items⟩]]⟩], sn, ⟨#[]⟩, [], [], false, []⟩ (k2 + 1) = R) := fun h8 => by
            obtain ⟨t, ht, h7⟩ := isB_some h8
            have e : take ⟨6, S, D, sn, nm, AL, A, neg, items⟩ t = some ⟨0, S, D ++ [⟨nm, AL ++ [A ++ [⟨neg, items⟩]]⟩], sn, ⟨#[]⟩, [], [], false, []⟩ := by
              show take6 _ t = _
              unfold take6
              rw [if_neg (by omega), if_neg (by omega), if_pos h7]
              rfl
            rw [← HR2.out, rs_step ht e]
          have HRE : Hid (isB ts k2 8 = false → R = .error (plc n ts k2, 300)) := fun h8 => by
            rw [← HR2.out]
            refine rs_stop (Nat.succ_ne_zero 5) (fun t ht => ?_)
            have a1 := isB_none h6 t ht
            have a2 := isB_none h5 t ht
            have a3 := isB_none h8 t ht
            have a4 := itB_none hit t ht
            show take6 _ t = none
            unfold take6
            rw [if_neg a1, if_neg a2, if_neg a3]
            unfold tItem
            rw [if_neg (by omega)]
          have K5 : Hid (∀ w5, Zs pb tp N tc ts k2 w5 → Calls Try.prog 33 #[.pointer (some ⟨pb, 0, none⟩), .int .i64 5] w5 fun e w' => e = .returned (.bool false) ∧ Hid (Zs pb tp N tc ts k2 w') ∧ Hid (Bx pb w5 w')) := fun w5 z5 => (pIs_any (kd := 5) z5).mono fun e w' ⟨h1, h2, h3⟩ => by rw [h5] at h1 h2; exact ⟨h1, h2, h3⟩
          obtain ⟨b8, hb8⟩ : ∃ x, x = isB ts k2 8 := ⟨_, rfl⟩
          obtain ⟨k8, hk8⟩ : ∃ x, x = (if b8 then k2 + 1 else k2) := ⟨_, rfl⟩
          have K8 : Hid (∀ w5, Zs pb tp N tc ts k2 w5 → Calls Try.prog 33 #[.pointer (some ⟨pb, 0, none⟩), .int .i64 8] w5 fun e w' => e = .returned (.bool b8) ∧ Hid (Zs pb tp N tc ts k8 w') ∧ Hid (Bx pb w5 w')) := fun w5 z5 => (pIs_any (kd := 8) z5).mono fun e w' ⟨h1, h2, h3⟩ => by rw [← hb8] at h1 h2; rw [← hk8] at h2; exact ⟨h1, h2, h3⟩
          rw [← hb8] at HRF HRE
          have HK8 := hid_ofP hk8
          clear h5 h6 hit hb8 hk8
          go_upto_region 9 with (first
            | (at_builtin; refine wpList_append_lies _ rfl _ _ 39 rfl w.heap.size 42 it (.slice none 0 0) 1 24 Try.underlying39 HI.out.1 HI.out.2.1 HI.out.2.2.1 HI.out.2.2.2 rfl (by decide) _ _ _ rfl (HD2.out.ow.alloc _) ⟨w2.heap.size, 0, none⟩ 1 1 [.slice p2 m2 c2] rfl rfl (World.news_of_block (cs := #[.slice p2 m2 c2]) (t := 42) (fr := (0, 0)) (heap_alloc_new w2 _)) (fun x hx => by simp at hx; rcases hx with rfl; rfl) (by decide) MX.out BY.out (by simp; omega) (w2.heap.size + 1) (by simp) ?_; intro gg cap w5 hown hgrow hat hl; have c6 : w5.cell? ⟨db, 1, none⟩ = some (.slice p m c) := (hgrow.cell_far ⟨db, 1, none⟩ (by simp; omega) (Ne.symm RN.out)).trans ((World.cell?_alloc_past _ _ _ hdl).trans c1); have f6 : w5.frozen? ⟨db, 1, none⟩ = false := (hgrow.frozen_far ⟨db, 1, none⟩ (by simp; omega) (Ne.symm RN.out)).trans ((World.frozen?_alloc_past _ _ _ hdl).trans fd); obtain ⟨S1, S4⟩ := HST.out w5 gg cap hgrow hown hat; clear hgrow hown hat hl)
            | (go_at_call 33; refine (K5.out _ S4.out).mono ?_; rintro e w6 ⟨rfl, z6, x6⟩))
          have S6 := hid_ofP (S1.out.keepX x6.out)
          clear S1 S4 x6 c6 f6 c0 c1 r0 r1 f0 f1 fd
          have HPL : Hid (pb < w.heap.size ∧ w.heap.size ≤ rb) := ⟨S6.out.pl.1, S6.out.pl.2.1⟩
          have c0 : w6.cell? ⟨db, 0, none⟩ = some (.string nm) := cellP S6.out.dv 0
          have c1 : w6.cell? ⟨db, 1, none⟩ = some (.slice (some ⟨gg, 0, none⟩) (m + 1) cap) := cellP S6.out.dv 1
          have r0 : w6.cell? ⟨rb, 0, none⟩ = some (.string ⟨#[]⟩) := cellP S6.out.rv 0
          have r1 : w6.cell? ⟨rb, 1, none⟩ = some (.slice none 0 0) := cellP S6.out.rv 1
          have f0 : w6.frozen? ⟨rb, 0, none⟩ = false := frzP S6.out.rv 0
          have f1 : w6.frozen? ⟨rb, 1, none⟩ = false := frzP S6.out.rv 1
          have KA : Calls Try.prog 33 #[.pointer (some ⟨pb, 0, none⟩), .int .i64 8] w6.drew fun e w' => e = .returned (.bool b8) ∧ Hid (DfQ pb tp N tc ts k8 w rb nm (.slice (some ⟨gg, 0, none⟩) (m + 1) cap) (AL ++ [A ++ [⟨neg, items⟩]]) ((w'.setCell ⟨rb, 0, none⟩ (.string nm)).setCell ⟨rb, 1, none⟩ (.slice (some ⟨gg, 0, none⟩) (m + 1) cap))) ∧ w'.cell? ⟨db, 0, none⟩ = some (.string nm) ∧ w'.cell? ⟨db, 1, none⟩ = some (.slice (some ⟨gg, 0, none⟩) (m + 1) cap) ∧ w'.cell? ⟨rb, 0, none⟩ = some (.string ⟨#[]⟩) ∧ w'.cell? ⟨rb, 1, none⟩ = some (.slice none 0 0) ∧ w'.frozen? ⟨rb, 0, none⟩ = false ∧ w'.frozen? ⟨rb, 1, none⟩ = false := by
            refine (K8.out _ (z6.out.keep (drewN_below _ 1))).mono fun e w' ⟨h1, h2, h3⟩ => ?_
            have d9 := (S6.out.keepX (Bx.of (drewN_below w6 1))).keepX h3.out
            exact ⟨h1, d9.q HLL.out HZ.out h2.out, cellP d9.dv 0, cellP d9.dv 1, cellP d9.rv 0, cellP d9.rv 1, frzP d9.rv 0, frzP d9.rv 1⟩
          have KB : Calls Try.prog 33 #[.pointer (some ⟨pb, 0, none⟩), .int .i64 8] (((w6.setCell ⟨rb, 0, none⟩ (.string nm)).setCell ⟨rb, 1, none⟩ (.slice (some ⟨gg, 0, none⟩) (m + 1) cap))).drew fun e w' => e = .returned (.bool b8) ∧ Hid (DfQ pb tp N tc ts k8 w rb nm (.slice (some ⟨gg, 0, none⟩) (m + 1) cap) (AL ++ [A ++ [⟨neg, items⟩]]) w') := by
            have q9 := S6.out.q HLL.out HZ.out z6.out
            refine (K8.out _ (q9.1.keep (drewN_below _ 1))).mono fun e w' ⟨h1, h2, h3⟩ => ?_
            exact ⟨h1, (q9.keep HPL.out.1 HPL.out.2 (Bx.of (drewN_below _ 1)) (q9.1.keep (drewN_below _ 1))).keep HPL.out.1 HPL.out.2 h3.out h2.out⟩
          have HEND : Hid (∀ w9, DfQ pb tp N tc ts k8 w rb nm (.slice (some ⟨gg, 0, none⟩) (m + 1) cap) (AL ++ [A ++ [⟨neg, items⟩]]) w9 → w9.cell? ⟨rb, 0, none⟩ = some (.string nm) ∧ w9.cell? ⟨rb, 1, none⟩ = some (.slice (some ⟨gg, 0, none⟩) (m + 1) cap) ∧ Hid (Zs pb tp N tc ts k8 w9) ∧ Hid (Bx pb w w9) ∧ Hid (k ≤ k8 ∧ (b8 = true → k < k8)) ∧ Hid (DfR n ts S D sn nm R w w9 (.slice (some ⟨gg, 0, none⟩) (m + 1) cap) k8 b8)) := fun w9 q => by
            have hk := HK8.out
            have hl := HLk.out
            refine ⟨cellP q.2.2.1 0, cellP q.2.2.1 1, q.1, q.2.1, ⟨by rw [hk]; split <;> omega, fun hb => by rw [hk, if_pos hb]; omega⟩, ⟨fun hb => ⟨_, q.2.2.2, ?_⟩, fun hb => ?_⟩⟩
            · rw [hk, if_pos hb]; exact HRF.out hb
            · rw [hk, hb]; exact HRE.out hb
          clear K8 K5 HST S6 z6
          go_region_with (go_at_call 33; first | ((with_reducible refine KA.mono ?_); rintro e w8 ⟨rfl, q8, c0', c1', r0', r1', f0', f1'⟩) | ((with_reducible refine KB.mono ?_); rintro e w8 ⟨rfl, q8⟩))
          all_goals
            go_wp2
            obtain ⟨g0, g1, p1, p2, p3, p4⟩ := HEND.out _ q8.out
            refine bodyPost_ret (v := .tuple #[.agg #[.string nm, .slice (some ⟨gg, 0, none⟩) (m + 1) cap], .bool b8]) ?_ rfl ?_
            · rw [results_cell_tmpP Try.results35]
              simp [go_sem, g0, g1]
            · exact ⟨_, _, _, k8, b8, rfl, p1, p2, p3, p4⟩
          --ED
        --EB
end Go.Proofs.Ytdlpmefdeeokhaa
