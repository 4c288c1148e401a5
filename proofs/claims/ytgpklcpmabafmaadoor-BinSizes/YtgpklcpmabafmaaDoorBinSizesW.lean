/- BinSizes, walked over what its callees do. -/
import Derived.Test.YtgpklcpmabafmaaDoorBinNamesW
import Derived.Test.YtgpklcpmabafmaaDoorGramSame
import Derived.Test.YtgpklcpmabafmaaDoorGramLow
import Derived.Test.YtgpklcpmabafmaaDoorLawOpen
namespace Go.Proofs.YtgpklcpmabafmaaDoor
set_option linter.unusedVariables false
set_option linter.unusedSimpArgs false
open Go.ChangeShapes Go.WideShapes Go.ChangeAt Go.RowKit

/-- A conjunct's variable whose symbols are appended one by one. -/
structure CV (V : World) (cb : Nat) (ng : Bool) (ss : List Sy) (sv : Value) (w : World) : Prop where
  bl : Below V.heap.size V w
  cv : w.heap[cb]? = some (.cells #[.bool ng, sv] 30)
  so : w.ownsRow V.heap.size 32 3 sv ss.length (sysV ss)
  c1 : V.heap.size ≤ cb
theorem CV.new (V : World) (ng : Bool) : CV V V.heap.size ng [] (.slice none 0 0) (V.alloc (.cells #[.bool ng, .slice none 0 0] 30)) :=
  ⟨bel1 _ _, heap_alloc_new _ _, World.ownsRow_nil _ _ _ _, Nat.le_refl _⟩
theorem CV.sym {V w w1 w2 : World} {cb : Nat} {ng : Bool} {ss : List Sy} {sv : Value} (m : CV V cb ng ss sv w) (hb : Below w.heap.size w w1) {s : Sy} {i : Nat} (hi : ss.length = i) (hg : w1.grownBy w2 sv.ownBlock) {g cap : Nat} (hown : w2.ownsRow V.heap.size 32 3 (.slice (some ⟨g, 0, none⟩) (i + 1) cap) (i + 1) (sysV ss ++ [.int .i64 s.name, .int .i64 s.lo, .int .i64 s.hi])) :
    CV V cb ng (ss ++ [s]) (.slice (some ⟨g, 0, none⟩) (i + 1) cap) (w2.setCell ⟨cb, 1, none⟩ (.slice (some ⟨g, 0, none⟩) (i + 1) cap)) := by
  have cv1 := (hb.block cb (block_lt m.cv)).trans m.cv
  have so1 := row_keep m.so hb
  have cv2 := (hg.block cb (block_lt cv1) (Ne.symm (row_no so1 (by decide) cv1))).trans cv1
  have hbs := (m.bl.trans (hb.mono m.bl.size)).size
  refine ⟨((m.bl.trans (hb.mono m.bl.size)).grown hg (by omega) (fun k hk => (so1.lt k hk).1)).setCell (p := ⟨cb, 1, none⟩) m.c1 _, heap_setCell_same w2 cb 1 _ _ _ cv2, ?_, m.c1⟩
  rw [sysV_append, List.length_append, hi]
  exact ownsRow_setCell_other (a := ⟨cb, 1, none⟩) hown (row_no hown (by decide) cv2) _
/-- The conjunct's copy in a row of its own. -/
theorem CV.cns {V w : World} {cb : Nat} {ng : Bool} {ss : List Sy} {sv : Value} (m : CV V cb ng ss sv w) : IsCns (w.alloc (.cells #[.bool ng, sv] 30)) (fun b => V.heap.size ≤ b) (.slice (some ⟨w.heap.size, 0, none⟩) 1 1) [⟨ng, ss⟩] :=
  ⟨[sv], reads_blkV (heap_alloc_new _ _) m.bl.size (by unfold maxLen; omega) rfl, (CnsIn.nil _ _).snoc (c := ⟨ng, ss⟩) ((show IsSys w (fun b => V.heap.size ≤ b) sv ss from Reads.of m.so (fun b e => (m.so.lt b e).1)).any (bel1 _ _))⟩
def sqZ (i k : Nat) : List Sy := (List.range k).map fun (j : Nat) => ⟨-1, (i : Int), (i : Int) + (j : Int)⟩
theorem sqZ_len (i k : Nat) : (sqZ i k).length = k := by simp [sqZ]
theorem sqZ_succ (i k : Nat) : sqZ i (k + 1) = sqZ i k ++ [⟨-1, (i : Int), (i : Int) + (k : Int)⟩] := by simp [sqZ, List.range_succ]
def rusZ (K : Nat → Nat) (N : Nat → Bool) (m : Nat) : List Ru := (List.range m).map fun (i : Nat) => ⟨0, [⟨N i, sqZ i (K i)⟩]⟩
theorem rusZ_len (K : Nat → Nat) (N : Nat → Bool) (m : Nat) : (rusZ K N m).length = m := by simp [rusZ]
theorem rusZ_succ (K : Nat → Nat) (N : Nat → Bool) (m : Nat) : rusZ K N (m + 1) = rusZ K N m ++ [⟨0, [⟨N m, sqZ m (K m)⟩]⟩] := by simp [rusZ, List.range_succ]
def gZ (K : Nat → Nat) (N : Nat → Bool) (m : Nat) : Gr := ⟨0, [⟨#[83]⟩], rusZ K N m⟩
def moreZ (K : Nat → Nat) : Nat → Nat
  | 0 => 0
  | i + 1 => moreZ K i + (K i - 2)
theorem moreZ_le (K : Nat → Nat) (hK : ∀ i, K i ≤ 7) : ∀ i, moreZ K i ≤ 5 * i
  | 0 => Nat.zero_le _
  | i + 1 => by have := moreZ_le K hK i; have := hK i; show moreZ K i + (K i - 2) ≤ _; omega
theorem laterZ {w w' : World} {b j : Nat} {v : Value} (h : w.cell? ⟨b, j, none⟩ = some v) (hb : Below w.heap.size w w') : w'.cell? ⟨b, j, none⟩ = some v := (hb.cell (p := ⟨b, j, none⟩) (cell_in h)).trans h
/-- A rule of one conjunct, in memory. -/
theorem rule_one {w : World} {p : Option Addr} {n c : Nat} {L : List Ru} (h : IsRus w Any (.slice p n c) L) {q : Nat} {hd : Int} {b : Bool} {sq : List Sy} (hq : L[q]? = some ⟨hd, [⟨b, sq⟩]⟩) :
    ∃ g o pc oc cc ps cs, p = some ⟨g, o, none⟩ ∧ (∀ w', Below w.heap.size w w' → w'.cell? ⟨g, o + q * 2, none⟩ = some (.int .i64 hd) ∧ w'.cell? ⟨g, o + q * 2 + 1, none⟩ = some (.slice (some ⟨pc, oc, none⟩) 1 cc) ∧ w'.cell? ⟨pc, oc, none⟩ = some (.bool b) ∧ w'.cell? ⟨pc, oc + 1, none⟩ = some (.slice ps sq.length cs)) ∧ IsSys w Any (.slice ps sq.length cs) sq := by
  obtain ⟨g, o, u, hp, k0, k1, hu⟩ := h.row hq
  obtain ⟨p2, c2, e2⟩ : ∃ p c, u = .slice p 1 c := by
    obtain ⟨vs, ⟨p, c, e, -⟩, -⟩ := hu
    exact ⟨p, c, e⟩
  subst e2
  obtain ⟨gc, oc, u2, hp2, m0, m1, hs⟩ := hu.row (k := 0) (r := ⟨b, sq⟩) rfl
  obtain ⟨ps, cs, e3⟩ := IsSys.slc hs
  subst hp2 e3
  rw [show oc + 0 * 2 = oc by omega] at m0 m1
  exact ⟨g, o, gc, oc, c2, ps, cs, hp, fun w' hb => ⟨laterZ k0 hb, laterZ k1 hb, laterZ m0 hb, laterZ m1 hb⟩, hs⟩
theorem sys_at {w : World} {ps : Option Addr} {n cs : Nat} {l : List Sy} (h : IsSys w Any (.slice ps n cs) l) {k : Nat} {t : Sy} (hk : l[k]? = some t) : ∃ g o, ps = some ⟨g, o, none⟩ ∧ g < w.heap.size ∧ w.cell? ⟨g, o + k * 3, none⟩ = some (.int .i64 t.name) ∧ w.cell? ⟨g, o + k * 3 + 1, none⟩ = some (.int .i64 t.lo) ∧ w.cell? ⟨g, o + k * 3 + 2, none⟩ = some (.int .i64 t.hi) := by
  obtain ⟨p2, c2, e, hm, hx⟩ := h
  injection e with e _ _
  have hl := (List.getElem?_eq_some_iff.1 hk).1
  obtain ⟨g, o, e2, -, hg, hc, -⟩ := hx (by omega)
  obtain ⟨a0, a1, a2⟩ := sysV_at l k t hk
  exact ⟨g, o, e.trans e2, hg, hc _ _ a0, (by rw [Nat.add_assoc]; exact hc _ _ a1), (by rw [Nat.add_assoc]; exact hc _ _ a2)⟩
theorem belZ_alloc {W w' : World} {o : Obj} (h : Below W.heap.size W w') : Below W.heap.size W (w'.alloc o) := h.alloc h.size o
theorem belZ_set {W w' : World} {b j : Nat} (h : Below W.heap.size W w') (hb : W.heap.size ≤ b) (v : Value) : Below W.heap.size W (w'.setCell ⟨b, j, none⟩ v) := h.trans ⟨rfl, rfl, rfl, by simp [World.setCell], fun i hi => Below.heap_setCell _ _ _ _ (by simp; omega)⟩
theorem two_newZ (V : World) (a b : Array Value) (t : TypeId) : (∀ j, ((V.alloc (.cells a t)).alloc (.cells b t)).drew.cell? ⟨V.heap.size, j, none⟩ = a[j]?) ∧ (∀ j, ((V.alloc (.cells a t)).alloc (.cells b t)).drew.cell? ⟨V.heap.size + 1, j, none⟩ = b[j]?) ∧ Below V.heap.size V ((V.alloc (.cells a t)).alloc (.cells b t)).drew := by
  refine ⟨fun j => ?_, fun j => ?_, ((bel1 V _).alloc (by simp) _).drew⟩
  · show ((V.alloc (.cells a t)).alloc (.cells b t)).cell? ⟨V.heap.size, j, none⟩ = _
    rw [World.cell?_alloc_past _ _ _ (by simp)]; exact World.cell?_alloc_at _ _ _ _ rfl
  · exact World.cell?_alloc_at _ _ _ _ (by simp)
theorem drewN_belZ {W w : World} (h : Below W.heap.size W w) (n : Nat) : Below W.heap.size W (w.drewN n) := h.trans ⟨rfl, rfl, rfl, Nat.le_refl _, fun _ _ => rfl⟩
set_option maxHeartbeats 16000000 in
set_option maxRecDepth 100000 in
theorem binSizes_core (W : World) (pv : Option Addr) (zn cv : Nat) (a : Int) (K : Nat → Nat) (hK : ∀ i, K i ≤ 7) (N : Nat → Bool) (hz8 : zn * 8 ≤ 140737488351232)
    (HNG : ∀ i, i < zn → ∀ w', Below W.heap.size W w' → ∃ g o z, pv = some ⟨g, o, none⟩ ∧ w'.cell? ⟨g, o + i, none⟩ = some (.int .i64 z) ∧ g < w'.heap.size ∧ bits .and .i64 z 7 = (K i : Int))
    (HNE : ∀ i : Nat, (bits .and .i64 (a / 2 ^ i) 1 == 1) = N i)
    (m : Nat) (hm : m = min zn 8) (X : Gr) (hX0 : X.start = 0) (l : List ByteArray) (hXn : X.names = [⟨#[83]⟩] ++ l) (hll : l.length = moreZ K m) (hln : ∀ i, i < moreZ K m → l[i]? = some (nmQ i)) (hXl : X.rules.length = m + moreZ K m)
    (hXa : ∀ i, i < moreZ K m → ∃ sq, X.rules[m + i]? = some ⟨1 + (i : Int), [⟨false, sq⟩]⟩ ∧ sq.length = 2)
    (hXb : ∀ i, i < m → ∃ dq, X.rules[i]? = some ⟨0, [⟨N i, dq⟩]⟩ ∧ dq.length = min 2 (K i) ∧ (K i < 3 → dq = sqZ i (K i)) ∧ (2 < K i → ∃ s t, dq = [s, t] ∧ (sqZ i (K i))[0]? = some s ∧ 1 ≤ t.name))
    (KA : ∀ w, Calls Tryd.prog 6 #[] w fun e w' => e = .returned (.bool true) ∧ Hid (Below w.heap.size w w'))
    (KN : ∀ (n : Int) w, Calls Tryd.prog 8 #[.int .i64 n] w fun e w' => e = .returned (.int .i64 n) ∧ w = w')
    (KB : 0 < m → ∀ v1 v2 w, GrIs w Any v1 v2 (gZ K N m) → Calls Tryd.prog 7 #[.agg #[.int .i64 0, v1, v2]] w fun e w' => ∃ p c p2 c2, e = .returned (.tuple #[.agg #[.int .i64 0, .slice p (1 + moreZ K m) c, .slice p2 (m + moreZ K m) c2], .int .i64 0]) ∧ Hid (GrIs w' Any (.slice p (1 + moreZ K m) c) (.slice p2 (m + moreZ K m) c2) X) ∧ Hid (Below w.heap.size w w')) :
    Calls Tryd.prog 3 #[.slice pv zn cv, .int .i64 a] W fun e W' => e = .returned (.bool true) ∧ Below W.heap.size W W' := by
  have HKB := (show Hid _ from KB)
  have HN := (show Hid _ from HNG)
  have HNB := (show Hid _ from HNE)
  have HX : Hid (X.names = [⟨#[83]⟩] ++ l ∧ X.start = 0 ∧ l.length = moreZ K m ∧ X.rules.length = m + moreZ K m) := ⟨hXn, hX0, hll, hXl⟩
  have HLN := (show Hid _ from hln)
  have HXA := (show Hid _ from hXa)
  have HXB := (show Hid _ from hXb)
  have HKK := (show Hid _ from hK)
  have HM : Hid (m = min zn 8) := hm
  have hm8 : m ≤ 8 := by omega
  have hmz : m ≤ zn := by omega
  clear KB HNG HNE hXn hX0 hll hXl hln hXa hXb hK hm
  go_enter Tryd.func3, Tryd.ntmps3
  go_upto_region 6 with (go_at_call 6; refine (KA _).mono ?_; rintro e w1 ⟨rfl, b1⟩; have HB1 : Hid (Below W.heap.size W w1) := b1; clear b1)
  have GV0 : Hid (GV w1 (w1.heap.size + 1) (fun _ => False) 0 [⟨#[83]⟩] (.slice (some ⟨w1.heap.size, 0, none⟩) 1 1) (rusZ K N 0) [] (.slice none 0 0) ((w1.alloc (.cells #[.string ⟨#[83]⟩] 9)).alloc (.cells #[.int .i64 0, .slice (some ⟨w1.heap.size, 0, none⟩) 1 1, .slice none 0 0] 27))) := GV.new1 w1 ⟨#[83]⟩
  obtain ⟨gb, hgb⟩ : ∃ gb, gb = w1.heap.size + 1 := ⟨_, rfl⟩
  obtain ⟨nv, hnv⟩ : ∃ nv, nv = Value.slice (some ⟨w1.heap.size, 0, none⟩) 1 1 := ⟨_, rfl⟩
  have HNV : Hid (nv = Value.slice (some ⟨w1.heap.size, 0, none⟩) 1 1) := hnv
  rw [← hgb, ← hnv] at GV0
  rw [← hgb, ← hnv]
  clear hgb hnv
  go_loopw [6, 7] (fun x y wr => ∃ i : Nat, i ≤ m ∧ x = .int .i64 (moreZ K i : Int) ∧ y = .int .i64 (i : Int) ∧ ∃ F o us, Hid (GV w1 gb F 0 [⟨#[83]⟩] nv (rusZ K N i) us o wr)) (fun _ y _ => m - (intOf y).toNat)
  case atStart => exact ⟨0, Nat.zero_le _, rfl, rfl, _, _, _, GV0⟩
  case round =>
    obtain ⟨i, hi, rfl, rfl, F, o, us, GVi⟩ := hrel
    obtain ⟨V, hV⟩ : ∃ V, V = wr := ⟨_, rfl⟩
    subst hV
    have HBV : Hid (Below W.heap.size W V) := HB1.out.trans (GVi.out.m0.bl.mono HB1.out.size)
    by_cases hlt : i < m
    · skip
      as_aux_lemma =>
        have hiz : (i : Int) < (zn : Int) := by omega
        have hi8 : (i : Int) < 8 := by omega
        have hd8 : decide ((i : Int) < 8) = true := decide_eq_true hi8
        obtain ⟨g, og, z, hp, cz, hgl2, hbz⟩ := HN.out i (by omega) V HBV.out
        subst hp
        have hK7 := HKK.out i
        obtain ⟨k, hk⟩ : ∃ k, k = K i := ⟨_, rfl⟩
        have HKI : Hid (k = K i) := hk
        rw [← hk] at hbz hK7
        obtain ⟨ng, hng⟩ : ∃ b, b = N i := ⟨_, rfl⟩
        have hne := HNB.out i
        rw [← hng] at hne
        have HNI : Hid (ng = N i) := hng
        clear hk hng
        go_upto_region 11 with fail
        have CV0 : Hid (CV V V.heap.size ng (sqZ i 0) (.slice none 0 0) (V.alloc (.cells #[.bool ng, .slice none 0 0] 30))) := CV.new V ng
        obtain ⟨cb, hcb⟩ : ∃ cb, cb = V.heap.size := ⟨_, rfl⟩
        rw [← hcb] at CV0
        rw [← hcb]
        have HCB : Hid (cb = V.heap.size) := hcb
        have MB := moreZ_le K HKK.out i
        obtain ⟨M, hMM⟩ : ∃ M, M = moreZ K i := ⟨_, rfl⟩
        have HMM : Hid (M = moreZ K i) := hMM
        rw [← hMM] at MB ⊢
        have hM40 : M ≤ 40 := by omega
        clear hcb cz hgl2 hbz hne hMM MB
        go_loopw [10] (fun y wr => ∃ j : Nat, j ≤ k ∧ y = .int .i64 (j : Int) ∧ ∃ sv, Hid (CV V cb ng (sqZ i j) sv wr)) (fun y _ => k - (intOf y).toNat)
        case atStart => exact ⟨0, Nat.zero_le _, rfl, _, CV0⟩
        case round =>
          obtain ⟨j, hj, rfl, sv, CVj⟩ := hrel
          obtain ⟨Y, hY⟩ : ∃ Y, Y = wr := ⟨_, rfl⟩
          subst hY
          by_cases hjk : j < k
          · have hjI : (j : Int) < (k : Int) := by omega
            have hjD : decide ((j : Int) < (k : Int)) = true := decide_eq_true hjI
            have so := CVj.out.so
            rw [sqZ_len] at so
            obtain ⟨ps, cs, hvs⟩ := row_slice so
            subst hvs
            have OC : Hid (Y.ownsRow V.heap.size 32 3 (.slice ps j cs) j (sysV (sqZ i j))) := so
            have hcl : cb < Y.heap.size := block_lt CVj.out.cv
            have hwz : V.heap.size ≤ Y.heap.size := CVj.out.bl.size
            have c2 : Y.cell? ⟨cb, 1, none⟩ = some (.slice ps j cs) := cellV CVj.out.cv 1
            have f2 : Y.frozen? ⟨cb, 1, none⟩ = false := frzV CVj.out.cv 1
            have RNc : Hid ((Value.slice ps j cs).ownBlock ≠ some cb) := row_no so (by decide) CVj.out.cv
            obtain ⟨iy, hy0, hy1, hy2, hy3⟩ := info_parts Tryd.infoSymV
            have HI : Hid (Tryd.prog.info? 32 = some iy ∧ iy.zero = some (.agg #[.int .i64 0, .int .i64 0, .int .i64 0]) ∧ iy.size = 3 ∧ iy.bytes = 24) := ⟨hy0, hy1, hy2, hy3⟩
            have MX : Hid (j + 1 ≤ maxLen) := by show _ ≤ _; unfold maxLen; omega
            have BY : Hid ((j + 1) * 24 ≤ 140737488355328) := by show _ ≤ _; omega
            have hij : wrap64 ((i : Int) + (j : Int)) = (i : Int) + (j : Int) := by unfold wrap64; omega
            clear so hy0 hy1 hy2 hy3
            go_wp2_with (at_builtin; refine wpList_append_lies _ rfl _ _ 28 rfl V.heap.size 32 iy (.agg #[.int .i64 0, .int .i64 0, .int .i64 0]) 3 24 Tryd.underlying28 HI.out.1 HI.out.2.1 HI.out.2.2.1 HI.out.2.2.2 rfl (by decide) _ _ _ rfl (OC.out.alloc _) ⟨Y.heap.size, 0, none⟩ 1 1 [.int .i64 (-1), .int .i64 (i : Int), .int .i64 ((i : Int) + (j : Int))] rfl rfl (World.news_of_block (cs := #[.int .i64 (-1), .int .i64 (i : Int), .int .i64 ((i : Int) + (j : Int))]) (t := 32) (fr := (0, 0)) (heap_alloc_new Y _)) (fun x hx => by simp at hx; rcases hx with rfl | rfl | rfl <;> rfl) (by decide) MX.out BY.out (Nat.le_trans hwz (le_alloc _ _)) (Y.heap.size + 1) (by simp) ?_; intro gg cap1 w5 hown1 hgrow1 hat1 hl1; have r5 : w5.cell? ⟨cb, 1, none⟩ = some (.slice ps j cs) := (hgrow1.cell_far ⟨cb, 1, none⟩ (by simp; omega) (Ne.symm RNc.out)).trans ((World.cell?_alloc_past _ _ _ hcl).trans c2); have f5 : w5.frozen? ⟨cb, 1, none⟩ = false := (hgrow1.frozen_far ⟨cb, 1, none⟩ (by simp; omega) (Ne.symm RNc.out)).trans ((World.frozen?_alloc_past _ _ _ hcl).trans f2))
            have FIN : Hid (CV V cb ng (sqZ i (j + 1)) (.slice (some ⟨gg, 0, none⟩) (j + 1) cap1) (w5.setCell ⟨cb, 1, none⟩ (.slice (some ⟨gg, 0, none⟩) (j + 1) cap1))) := by
              show CV _ _ _ _ _ _
              rw [sqZ_succ]
              exact CVj.out.sym (bel1 _ _) (sqZ_len i j) hgrow1 hown1
            go_roundw
            case rel => exact ⟨j + 1, by omega, by go_num, _, FIN⟩
            case measure => simp [intOf]; omega
          · obtain rfl : j = k := by omega
            have hjI : ¬ (j : Int) < (j : Int) := by omega
            have hjD : decide ((j : Int) < (j : Int)) = false := decide_eq_false hjI
            have GVY := GVi.out.keep CVj.out.bl
            have oo := GVY.m0.oo
            rw [rusZ_len] at oo
            obtain ⟨po, co, hvo⟩ := row_slice oo
            subst hvo
            have so := CVj.out.so
            rw [sqZ_len] at so
            obtain ⟨ps, cs, hvs⟩ := row_slice so
            subst hvs
            have OR5 : Hid (Y.ownsRow w1.heap.size 35 2 (.slice po i co) i (rusV (rusZ K N i) us)) := oo
            obtain ⟨i3, hj0, hj1, hj2, hj3⟩ := info_parts Tryd.infoRuleV
            have HI3 : Hid (Tryd.prog.info? 35 = some i3 ∧ i3.zero = some (.agg #[.int .i64 0, .slice none 0 0]) ∧ i3.size = 2 ∧ i3.bytes = 32) := ⟨hj0, hj1, hj2, hj3⟩
            have MX3 : Hid (i + 1 ≤ maxLen) := by show _ ≤ _; unfold maxLen; omega
            have BY3 : Hid ((i + 1) * 32 ≤ 140737488355328) := by show _ ≤ _; omega
            have e5 : Y.cell? ⟨gb, 2, none⟩ = some (.slice po i co) := cellV GVY.vb 2
            have f5 : Y.frozen? ⟨gb, 2, none⟩ = false := frzV GVY.vb 2
            have RN5 : Hid ((Value.slice po i co).ownBlock ≠ some gb) := row_no oo (by decide) GVY.vb
            have gl5 : gb < Y.heap.size := block_lt GVY.vb
            have hw5 : w1.heap.size ≤ Y.heap.size := GVY.m0.bl.size
            have k0 : Y.cell? ⟨cb, 0, none⟩ = some (.bool ng) := cellV CVj.out.cv 0
            have k1 : Y.cell? ⟨cb, 1, none⟩ = some (.slice ps j cs) := cellV CVj.out.cv 1
            obtain ⟨e, hmx, hmx2, hwj, he5, HE⟩ : ∃ e : Nat, max (0 : Int) (wrap64 ((j : Int) - 2)) = (e : Int) ∧ max (0 : Int) ((j : Int) - 2) = (e : Int) ∧ wrap64 ((j : Int) - 2) = (j : Int) - 2 ∧ e ≤ 5 ∧ Hid (e = j - 2) := ⟨j - 2, by unfold wrap64; omega, by omega, by unfold wrap64; omega, by omega, rfl⟩
            have hwm : wrap64 ((M : Int) + (e : Int)) = (M : Int) + (e : Int) := by unfold wrap64; omega
            have HME : Hid ((M : Int) + (e : Int) = ((moreZ K (i + 1) : Nat) : Int)) := by
              show _ = ((moreZ K i + (K i - 2) : Nat) : Int)
              rw [← HKI.out, ← HMM.out, HE.out]
              omega
            have HLL : Hid (rusZ K N (i + 1) = rusZ K N i ++ [⟨0, [⟨ng, sqZ i j⟩]⟩]) := by show _ = _; rw [rusZ_succ, ← HKI.out, ← HNI.out]
            clear oo so hj0 hj1 hj2 hj3 GVY
            go_wp2_with (at_builtin; first
              | (refine wpList_append_lies _ rfl _ _ 25 rfl w1.heap.size 35 i3 (.agg #[.int .i64 0, .slice none 0 0]) 2 32 Tryd.underlying25 HI3.out.1 HI3.out.2.1 HI3.out.2.2.1 HI3.out.2.2.2 rfl (by decide) _ _ _ rfl ((OR5.out.alloc _).alloc _) ⟨Y.heap.size + 1, 0, none⟩ 1 1 [.int .i64 0, .slice (some ⟨Y.heap.size, 0, none⟩) 1 1] rfl rfl (World.news_of_block (cs := #[.int .i64 0, .slice (some ⟨Y.heap.size, 0, none⟩) 1 1]) (t := 35) (fr := (0, 0)) (new2V Y _ _)) (fun x hx => by simp at hx; rcases hx with rfl | rfl <;> rfl) (by decide) MX3.out BY3.out (Nat.le_trans hw5 (Nat.le_trans (le_alloc _ _) (le_alloc _ _))) (Y.heap.size + 1 + 1) (by simp) ?_; intro gg3 cap3 w6 hown3 hgrow3 hat3 hl3; have e6 : w6.cell? ⟨gb, 2, none⟩ = some (.slice po i co) := (hgrow3.cell_far ⟨gb, 2, none⟩ (by simp; omega) (Ne.symm RN5.out)).trans ((World.cell?_alloc_past _ _ _ (by simp; omega)).trans ((World.cell?_alloc_past _ _ _ gl5).trans e5)); have f6 : w6.frozen? ⟨gb, 2, none⟩ = false := (hgrow3.frozen_far ⟨gb, 2, none⟩ (by simp; omega) (Ne.symm RN5.out)).trans ((World.frozen?_alloc_past _ _ _ (by simp; omega)).trans ((World.frozen?_alloc_past _ _ _ gl5).trans f5))))
            obtain ⟨F6, G6⟩ := GVi.out.rule (CVj.out.bl.trans ((bel1 Y _).mono CVj.out.bl.size)) CVj.out.cns (fun b h => h) (rusZ_len K N i) hgrow3 hown3 (by rcases hat3 with h | h; exact Or.inl h; exact Or.inr (by simpa using h)) HLL.out
            go_roundw
            case rel => exact ⟨i + 1, by omega, by rw [← HME.out]; first | rfl | rw [hwm], by go_num, _, _, _, G6⟩
            case measure => simp [intOf]; omega
    · obtain rfl : i = m := by omega
      have oo := GVi.out.m0.oo
      rw [rusZ_len] at oo
      obtain ⟨po, co, hvo⟩ := row_slice oo
      subst hvo
      have HGR : Hid (GrIs V Any nv (.slice po i co) (gZ K N i)) := GVi.out.gr
      have c0 : V.cell? ⟨gb, 0, none⟩ = some (.int .i64 0) := cellV GVi.out.vb 0
      have c1 : V.cell? ⟨gb, 1, none⟩ = some nv := cellV GVi.out.vb 1
      have c2 : V.cell? ⟨gb, 2, none⟩ = some (.slice po i co) := cellV GVi.out.vb 2
      have hgl : gb < V.heap.size := block_lt GVi.out.vb
      have MB := moreZ_le K HKK.out i
      obtain ⟨R, hR⟩ : ∃ R, R = moreZ K i := ⟨_, rfl⟩
      rw [← hR] at MB HKB HX HLN HXA ⊢
      have hR40 : R ≤ 40 := by omega
      have hcs : ¬ (i : Int) < (zn : Int) ∧ decide ((i : Int) < (zn : Int)) = false ∨ (i : Int) < (zn : Int) ∧ decide ((i : Int) < (zn : Int)) = true ∧ ¬ (i : Int) < 8 ∧ decide ((i : Int) < 8) = false := by
        have := HM.out
        by_cases h1 : (i : Int) < (zn : Int)
        · exact Or.inr ⟨h1, decide_eq_true h1, by omega, decide_eq_false (by omega)⟩
        · exact Or.inl ⟨h1, decide_eq_false h1⟩
      have HI8 : Hid (i ≤ 8) := hm8
      clear oo HNV GV0 hmz hz8 hm8 hi hlt hR MB
      by_cases h0 : i = 0
      · subst h0
        rcases hcs with ⟨q1, q2⟩ | ⟨q1, q2, q3, q4⟩
        · go_wp2
          go_ret
          exact ⟨rfl, HBV⟩
        · exact absurd q3 (by decide)
      · have h0I : ((i : Int) == 0) = false := by rw [beq_eq_false_iff_ne]; omega
        have H0 : Hid (0 < i) := by show _ < _; omega
        have hi8 : i ≤ 8 := HI8
        clear h0
        rcases hcs with ⟨q1, q2⟩ | ⟨q1, q2, q3, q4⟩
        all_goals
          go_upto_region 19 with (go_at_call 7; refine (HKB.out H0.out _ _ _ HGR.out).mono ?_; rintro e w2 ⟨p, c, p2, cc2, rfl, IX, b2⟩)
          obtain ⟨V2, hV2⟩ : ∃ w, w = w2.alloc (.cells #[.int .i64 0, .slice p (1 + R) c, .slice p2 (i + R) cc2] 27) := ⟨_, rfl⟩
          obtain ⟨xb, hxb⟩ : ∃ b, b = w2.heap.size := ⟨_, rfl⟩
          have bv : Below V.heap.size V V2 := by rw [hV2]; exact b2.out.alloc b2.out.size _
          have xv : V2.heap[xb]? = some (.cells #[.int .i64 0, .slice p (1 + R) c, .slice p2 (i + R) cc2] 27) := by rw [hxb, hV2]; exact heap_alloc_new _ _
          have b3 : Below w2.heap.size w2 V2 := by rw [hV2]; exact bel1 _ _
          rw [← hV2, ← hxb]
          clear hV2 hxb
          have BW2 : Hid (Below W.heap.size W V2) := HBV.out.trans (bv.mono HBV.out.size)
          have IX2 : Hid (GrIs V2 Any (.slice p (1 + R) c) (.slice p2 (i + R) cc2) X) := IX.out.any b3
          have IG2 : Hid (IsRus V2 Any (.slice po i co) (rusZ K N i)) := HGR.out.2.any bv
          have HXC : Hid (∀ w', Below V2.heap.size V2 w' → w'.cell? ⟨xb, 1, none⟩ = some (.slice p (1 + R) c) ∧ w'.cell? ⟨xb, 2, none⟩ = some (.slice p2 (i + R) cc2)) := fun w' hb => ⟨(hb.cell (p := ⟨_, _, none⟩) (block_lt xv)).trans (cellV xv 1), (hb.cell (p := ⟨_, _, none⟩) (block_lt xv)).trans (cellV xv 2)⟩
          have HGC : Hid (∀ w', Below V2.heap.size V2 w' → w'.cell? ⟨gb, 2, none⟩ = some (.slice po i co)) := fun w' hb => laterZ ((bv.cell (p := ⟨_, _, none⟩) hgl).trans c2) hb
          obtain ⟨gx, ox, hp, HXN⟩ : ∃ g o, p = some ⟨g, o, none⟩ ∧ Hid (∀ q t, q < R → (t : Nat) = 1 + q → ∀ w', Below V2.heap.size V2 w' → w'.cell? ⟨g, o + t, none⟩ = some (.string (⟨#[95]⟩ ++ decT q))) := by
            obtain ⟨p', c', e1, hm, hx⟩ := IX2.out.1
            injection e1 with e1 _ _
            have hlen : X.names.length = 1 + R := by rw [HX.out.1, List.length_append, HX.out.2.2.1]; rfl
            obtain ⟨g, o, e2, -, hg, hc, -⟩ := hx (by omega)
            refine ⟨g, o, by rw [e1]; exact e2, fun q t hq ht w' hb => (hb.cell (p := ⟨_, _, none⟩) hg).trans (hc t _ ?_)⟩
            rw [HX.out.1, ht]
            simp only [txV, List.map_append]
            rw [List.getElem?_append_right (by simp), List.length_map]
            simp only [List.length_cons, List.length_nil]
            rw [show 1 + q - (0 + 1) = q by omega, List.getElem?_map, HLN.out q hq]
            rfl
          obtain ⟨dq0, hd0, -⟩ := HXB.out 0 H0.out
          obtain ⟨g2, o2, -, -, -, -, -, hp2, -⟩ := rule_one IX2.out.2 hd0
          obtain ⟨g3, o3, -, -, -, -, -, hp3, -⟩ := rule_one IG2.out (q := 0) (hd := 0) (b := N 0) (sq := sqZ 0 (K 0)) (by unfold rusZ; rw [List.getElem?_map, List.getElem?_range H0.out]; rfl)
          subst hp hp2 hp3
          obtain ⟨x1, x2⟩ := HXC.out V2 (Below.refl _ _)
          have g1 := HGC.out V2 (Below.refl _ _)
          have e1 : wrap64 (1 + (R : Int)) = 1 + (R : Int) := by unfold wrap64; omega
          have e2 : wrap64 ((i : Int) + (R : Int)) = (i : Int) + (R : Int) := by unfold wrap64; omega
          have e3 : (1 + (R : Int) != 1 + (R : Int)) = false := by simp
          have e4 : ((i : Int) + (R : Int) != (i : Int) + (R : Int)) = false := by simp
          clear bv xv b3 IX b2 c0 c1 c2 hgl GVi HGR hd0 dq0 HNB HN
          go_upto_region 22 with (go_at_call 8; refine (KN _ _).mono ?_; rintro e wn ⟨rfl, rfl⟩)
          clear e1 e2 e3 e4 x1 x2 g1
          go_loopw [13] (fun x wr => ∃ q : Nat, q ≤ R ∧ x = .int .i64 (q : Int) ∧ Hid (Below V2.heap.size V2 wr)) (fun x _ => R - (intOf x).toNat)
          case atStart => exact ⟨0, Nat.zero_le _, rfl, Below.refl _ _⟩
          case round =>
            obtain ⟨q, hq, rfl, BV⟩ := hrel
            obtain ⟨U, hU⟩ : ∃ U, U = wr := ⟨_, rfl⟩
            subst hU
            by_cases hlt : q < R
            · have hltI : (q : Int) < (R : Int) := by omega
              have hltD : decide ((q : Int) < (R : Int)) = true := decide_eq_true hltI
              as_aux_lemma =>
                obtain ⟨sq, hsq, hs2⟩ := HXA.out q hlt
                obtain ⟨gg, oo2, pc, oc, cc, ps, cs, hpp, HCE, ISq⟩ := rule_one IX2.out.2 hsq
                injection hpp with hpp
                injection hpp with hg2 ho2
                subst hg2 ho2
                rw [hs2] at HCE ISq
                obtain ⟨y, hy⟩ : ∃ y, y = i + q := ⟨_, rfl⟩
                obtain ⟨t, ht⟩ : ∃ t, t = 1 + q := ⟨_, rfl⟩
                have hty : (1 : Int) + (q : Int) = (t : Int) := by omega
                rw [hty, ← hy] at HCE
                have HN1 := HXN.out q t hlt ht
                have HCEH := (show Hid _ from HCE)
                have HN1H := (show Hid _ from HN1)
                have w1' : wrap64 ((i : Int) + (q : Int)) = (y : Int) := by unfold wrap64; omega
                have w2' : (i : Int) + (q : Int) = (y : Int) := by omega
                have w3' : IntKind.i64.wrap (1 + (q : Int)) = (t : Int) := by rw [IntKind.wrap_i64]; omega
                have w4' : (y : Int) < (i : Int) + (R : Int) := by omega
                have w5' : (t : Int) < 1 + (R : Int) := by omega
                have w6' : t < 1 + R := by omega
                obtain ⟨x1, x2⟩ := HXC.out U BV.out
                have g1 := HGC.out U BV.out
                obtain ⟨k0, k1, -, -⟩ := HCEH.out U BV.out
                have hds : ¬ 9223372036854775807 < 1 + (decT q).size := by have := dec_sizeV q; omega
                clear HCE HN1 hsq hs2 ISq hy ht
                go_upto_region 25 with fail
                obtain ⟨rb, hrb⟩ : ∃ b, b = U.heap.size := ⟨_, rfl⟩
                obtain ⟨U2, hU2⟩ : ∃ w, w = U.alloc (.cells #[.int .i64 (t : Int), .slice (some ⟨pc, oc, none⟩) 1 cc] 35) := ⟨_, rfl⟩
                have bu : Below U.heap.size U U2 := by rw [hU2]; exact bel1 _ _
                have rv : U2.heap[rb]? = some (.cells #[.int .i64 (t : Int), .slice (some ⟨pc, oc, none⟩) 1 cc] 35) := by rw [hrb, hU2]; exact heap_alloc_new _ _
                have HB2 : Hid (Below V2.heap.size V2 U2) := BV.out.trans (bu.mono BV.out.size)
                rw [← hU2, ← hrb]
                clear hU2 hrb x1 x2 g1 k0 k1
                have KD : ∀ w', Below U2.heap.size U2 w' → Calls Tryd.prog 9 #[.int .i64 (q : Int)] w' fun e w'' => e = .returned (.string (decT q)) ∧ Below U2.heap.size U2 w'' := fun w' hb => (decimal_any q (by omega) w').mono fun e w'' ⟨h1, h2⟩ => ⟨h1, hb.trans (h2.mono hb.size)⟩
                obtain ⟨ι, f, n0, hf0, hf, hcl⟩ := family2V (fun w' => Below U2.heap.size U2 w') U2.drew (Below.refl _ _).drew
                have hne0 : Nonempty ι := ⟨n0⟩
                have hV : ∀ n, Below V2.heap.size V2 (f n) := fun n => HB2.out.trans ((hf n).mono HB2.out.size)
                have z1 := fun n => (HXC.out (f n) (hV n)).1
                have z2 := fun n => HN1H.out (f n) (hV n)
                have z3 := fun n => laterZ (cellV rv 0) (hf n)
                have z4 := fun n => laterZ (cellV rv 1) (hf n)
                have z5 := fun n => (HCEH.out (f n) (hV n)).2.2.1
                have z6 := fun n => (HCEH.out (f n) (hV n)).2.2.2
                clear hV rv bu
                refine region_classV f (by kernel_rfl) (by kernel_rfl) ⟨n0, hf0⟩ ?_
                clear hf0
                repeat (go_big_quiet_step ((go_at_call 9; (with_reducible refine (KD _ (hf _)).mono ?_; rintro e w' ⟨rfl, hb⟩; exact ⟨rfl, hcl _ hb⟩))))
                refine wpQuiet_nil ?_
                intro w9 hw9
                obtain ⟨mm, rfl⟩ := hw9
                have H9 : Hid (Below V2.heap.size V2 (f mm)) := HB2.out.trans ((hf mm).mono HB2.out.size)
                generalize f mm = w9 at H9
                clear hcl hf hne0 n0 z1 z2 z3 z4 z5 z6
                clear f
                go_wp2
                go_roundw
                case rel => exact ⟨q + 1, by omega, by go_num, H9⟩
                case measure => simp [intOf]; omega
            · obtain rfl : R = q := by omega
              have hltI : ¬ (R : Int) < (R : Int) := by omega
              have hltD : decide ((R : Int) < (R : Int)) = false := decide_eq_false hltI
              clear hlt hq
              go_upto_region 28 with fail
              clear hltI hltD
              go_loopw [15] (fun x wr => ∃ q : Nat, q ≤ i ∧ x = .int .i64 (q : Int) ∧ Hid (Below V2.heap.size V2 wr)) (fun x _ => i - (intOf x).toNat)
              case atStart => exact ⟨0, Nat.zero_le _, rfl, BV⟩
              case round =>
                obtain ⟨r, hr, rfl, BV⟩ := hrel
                obtain ⟨U, hU⟩ : ∃ U, U = wr := ⟨_, rfl⟩
                subst hU
                have g1 := HGC.out U BV.out
                by_cases hlt : r < i
                · have hltI : (r : Int) < (i : Int) := by omega
                  have hltD : decide ((r : Int) < (i : Int)) = true := decide_eq_true hltI
                  obtain ⟨dq, hdq, hdl, hds, hdn⟩ := HXB.out r hlt
                  obtain ⟨gg, oo2, pc, oc, cc, ps, cs, hpp, HCE, IS1⟩ := rule_one IX2.out.2 hdq
                  injection hpp with hpp
                  injection hpp with hg2 ho2
                  subst hg2 ho2
                  obtain ⟨gg, oo3, pe, oe, ce, pt, ct, hpp, HCF, IS2⟩ := rule_one IG2.out (q := r) (hd := 0) (b := N r) (sq := sqZ r (K r)) (by unfold rusZ; rw [List.getElem?_map, List.getElem?_range hlt]; rfl)
                  injection hpp with hpp
                  injection hpp with hg3 ho3
                  subst hg3 ho3
                  rw [sqZ_len] at HCF IS2
                  have hK7 := HKK.out r
                  obtain ⟨k, hk⟩ : ∃ k, k = K r := ⟨_, rfl⟩
                  rw [← hk] at HCF IS2 hdl hds hdn hK7
                  obtain ⟨bq, hbq⟩ : ∃ b, b = N r := ⟨_, rfl⟩
                  rw [← hbq] at HCF HCE
                  obtain ⟨dl, hdl2⟩ : ∃ d, d = dq.length := ⟨_, rfl⟩
                  rw [← hdl2] at HCE IS1 hdl
                  have HD : Hid (dl = min 2 k ∧ (k < 3 → dq = sqZ r k) ∧ (2 < k → ∃ s t, dq = [s, t] ∧ (sqZ r k)[0]? = some s ∧ 1 ≤ t.name)) := ⟨hdl, hds, hdn⟩
                  have HI1 : Hid (IsSys V2 Any (.slice ps dl cs) dq) := IS1
                  have HI2 : Hid (IsSys V2 Any (.slice pt k ct) (sqZ r k)) := IS2
                  have HS2 : Hid (∀ w', Below U.heap.size U w' → Below U.heap.size U w' ∧ w'.cell? ⟨gb, 2, none⟩ = some (.slice (some ⟨g3, o3, none⟩) i co) ∧ w'.cell? ⟨g3, o3 + r * 2 + 1, none⟩ = some (.slice (some ⟨pe, oe, none⟩) 1 ce) ∧ w'.cell? ⟨pe, oe, none⟩ = some (.bool bq) ∧ w'.cell? ⟨pe, oe + 1, none⟩ = some (.slice pt k ct) ∧ w'.cell? ⟨xb, 2, none⟩ = some (.slice (some ⟨g2, o2, none⟩) (i + R) cc2) ∧ w'.cell? ⟨g2, o2 + r * 2 + 1, none⟩ = some (.slice (some ⟨pc, oc, none⟩) 1 cc) ∧ w'.cell? ⟨pc, oc, none⟩ = some (.bool bq) ∧ w'.cell? ⟨pc, oc + 1, none⟩ = some (.slice ps dl cs)) := fun w' hb => by
                    have h2 : Below V2.heap.size V2 w' := BV.out.trans (hb.mono BV.out.size)
                    obtain ⟨-, a1, a2, a3⟩ := HCE w' h2
                    obtain ⟨-, b1, b2, b3⟩ := HCF w' h2
                    exact ⟨hb, HGC.out w' h2, b1, b2, b3, (HXC.out w' h2).2, a1, a2, a3⟩
                  obtain ⟨-, t1, t2, t3, t4, t5, t6, t7, t8⟩ := HS2.out U (Below.refl _ _)
                  have v1 : (r : Int) < (i : Int) + (R : Int) := by omega
                  have v2 : r < i + R := by omega
                  clear HCE HCF hdq hds hdn IS1 IS2 hk hbq hdl2 hdl g1
                  go_upto_region 32 with fail
                  go_cut [16, 17] from 155 to 239 (fun p q wc => ∃ n6 n7, p = .pointer (some ⟨n6, 0, none⟩) ∧ q = .pointer (some ⟨n7, 0, none⟩) ∧ Hid (Below U.heap.size U wc) ∧ wc.cell? ⟨n6, 0, none⟩ = some (.bool bq) ∧ wc.cell? ⟨n6, 1, none⟩ = some (.slice pt k ct) ∧ wc.cell? ⟨n7, 0, none⟩ = some (.bool bq) ∧ wc.cell? ⟨n7, 1, none⟩ = some (.slice ps dl cs))
                  case first =>
                    as_aux_lemma =>
                      go_region_held3 (fun w' => Below U.heap.size U w' ∧ w'.cell? ⟨gb, 2, none⟩ = some (.slice (some ⟨g3, o3, none⟩) i co) ∧ w'.cell? ⟨g3, o3 + r * 2 + 1, none⟩ = some (.slice (some ⟨pe, oe, none⟩) 1 ce) ∧ w'.cell? ⟨pe, oe, none⟩ = some (.bool bq) ∧ w'.cell? ⟨pe, oe + 1, none⟩ = some (.slice pt k ct) ∧ w'.cell? ⟨xb, 2, none⟩ = some (.slice (some ⟨g2, o2, none⟩) (i + R) cc2) ∧ w'.cell? ⟨g2, o2 + r * 2 + 1, none⟩ = some (.slice (some ⟨pc, oc, none⟩) 1 cc) ∧ w'.cell? ⟨pc, oc, none⟩ = some (.bool bq) ∧ w'.cell? ⟨pc, oc + 1, none⟩ = some (.slice ps dl cs))
                        ((refine HS2.out _ ?_; (repeat' (first | with_reducible assumption | with_reducible exact Below.refl _ _ | with_reducible apply Below.drew | with_reducible apply belZ_alloc | with_reducible refine belZ_set ?_ ?_ _)); all_goals (first | omega | (simp; done))))
                        (fail)
                      all_goals
                        go_wp2
                        go_meet
                      all_goals
                        case rel =>
                          first
                          | exact ⟨_, _, rfl, rfl, (two_newZ U _ _ _).2.2, (two_newZ U _ _ _).1 0, (two_newZ U _ _ _).1 1, (two_newZ U _ _ _).2.1 0, (two_newZ U _ _ _).2.1 1⟩
                          | exact ⟨_, _, rfl, rfl, (two_newZ U _ _ _).2.2, (two_newZ U _ _ _).2.1 0, (two_newZ U _ _ _).2.1 1, (two_newZ U _ _ _).1 0, (two_newZ U _ _ _).1 1⟩
                  case rest =>
                    obtain ⟨n6, n7, rfl, rfl, HBc, s0, s1, u0, u1⟩ := hcut
                    have HBd : Hid (Below V2.heap.size V2 wc) := BV.out.trans (HBc.out.mono BV.out.size)
                    clear t1 t2 t3 t4 t5 t6 t7 t8 v1 v2 HS2 hltI hltD
                    have hdl := HD.out.1
                    have n1 : (bq != bq) = false := by simp
                    have n2 : ((dl : Int) != min 2 (k : Int)) = false := by
                      have : (dl : Int) = min 2 (k : Int) := by omega
                      rw [this]; simp
                    have HW2 : Hid (Below W.heap.size W wc) := BW2.out.trans (HBd.out.mono BW2.out.size)
                    have HB4 : Hid (Below V2.heap.size V2 wc) := HBd
                    go_upto_region 33 with fail
                    by_cases hk3 : k < 3
                    · skip
                      as_aux_lemma =>
                        have k3I : (k : Int) < 3 := by omega
                        have k3D : decide ((k : Int) < 3) = true := decide_eq_true k3I
                        have k2I : ¬ (2 : Int) < (k : Int) := by omega
                        have k2D : decide ((2 : Int) < (k : Int)) = false := decide_eq_false k2I
                        have hdq := HD.out.2.1 hk3
                        have hlk : dl = k := by omega
                        subst hlk
                        rw [hdq] at HI1
                        have KS : ∀ w', Below wc.heap.size wc w' → Calls Tryd.prog 10 #[.slice pt dl ct, .slice ps dl cs] w' fun e w'' => e = .returned (.bool true) ∧ Below wc.heap.size wc w'' := fun w' hb => (sameSyms_yes _ _ (sqZ r dl) w' (HI2.out.any (HB4.out.trans (hb.mono HB4.out.size))) (HI1.out.any (HB4.out.trans (hb.mono HB4.out.size)))).mono fun e w'' ⟨h1, n, h2⟩ => ⟨h1, by rw [h2]; exact drewN_belZ hb n⟩
                        obtain ⟨ι, f, n0, hf0, hf, hcl⟩ := family2V (fun w' => Below wc.heap.size wc w') wc.drew (Below.refl _ _).drew
                        have hne0 : Nonempty ι := ⟨n0⟩
                        have z1 := fun n => laterZ s0 (hf n)
                        have z2 := fun n => laterZ s1 (hf n)
                        have z3 := fun n => laterZ u0 (hf n)
                        have z4 := fun n => laterZ u1 (hf n)
                        clear s0 s1 u0 u1 HD hdq hdl
                        refine region_classV f (by kernel_rfl) (by kernel_rfl) ⟨n0, hf0⟩ ?_
                        clear hf0
                        repeat (go_big_quiet_step ((go_at_call 10; (with_reducible refine (KS _ (hf _)).mono ?_; rintro e w' ⟨rfl, hb⟩; exact ⟨rfl, hcl _ hb⟩))))
                        refine wpQuiet_nil ?_
                        intro w9 hw9
                        obtain ⟨mm, rfl⟩ := hw9
                        have H9 : Hid (Below V2.heap.size V2 (f mm)) := HB4.out.trans ((hf mm).mono HB4.out.size)
                        generalize f mm = w9 at H9
                        clear hcl hf hne0 n0 z1 z2 z3 z4
                        clear f
                        go_wp2
                        go_roundw
                        case rel => exact ⟨r + 1, by omega, by go_num, H9⟩
                        case measure => simp [intOf]; omega
                    · skip
                      as_aux_lemma =>
                        have k3I : ¬ (k : Int) < 3 := by omega
                        have k3D : decide ((k : Int) < 3) = false := decide_eq_false k3I
                        have k2I : (2 : Int) < (k : Int) := by omega
                        have k2D : decide ((2 : Int) < (k : Int)) = true := decide_eq_true k2I
                        have hl2 : dl = 2 := by omega
                        obtain ⟨sy, ty, hdq, hsy, hty⟩ := HD.out.2.2 (by omega)
                        subst hl2
                        rw [hdq] at HI1
                        have hmn : min (2 : Int) (k : Int) = 2 := by omega
                        have n3 : ((2 : Int) != min (2 : Int) (k : Int)) = false := by rw [hmn]; rfl
                        have n4 : ((2 : Int) != 2) = false := rfl
                        clear n2
                        obtain ⟨ga, oa, hpa, -, a0, a1, a2⟩ := sys_at HI1.out (k := 0) (t := sy) rfl
                        obtain ⟨ga2, oa2, hpa2, -, a3, -, -⟩ := sys_at HI1.out (k := 1) (t := ty) rfl
                        obtain ⟨gd, od, hpd, -, d0, d1, d2⟩ := sys_at HI2.out (k := 0) (t := sy) hsy
                        rw [hpa] at hpa2
                        injection hpa2 with hpa2
                        injection hpa2 with hg4 ho4
                        subst hg4 ho4 hpa hpd
                        rw [show oa + 0 * 3 = oa by omega] at a0 a1 a2
                        rw [show od + 0 * 3 = od by omega] at d0 d1 d2
                        rw [show oa + 1 * 3 = oa + 3 by omega] at a3
                        have t1I : ¬ ty.name < 1 := by omega
                        have t1D : decide (ty.name < 1) = false := decide_eq_false t1I
                        have heq := Tryd.eqSym
                        generalize ty.name = tn at a3 t1I t1D
                        generalize sy.name = x0 at a0 d0
                        generalize sy.lo = x3 at a1 d1
                        generalize sy.hi = x4 at a2 d2
                        obtain ⟨ι, f, n0, hf0, hf, hcl⟩ := family2V (fun w' => Below wc.heap.size wc w') wc.drew (Below.refl _ _).drew
                        have hne0 : Nonempty ι := ⟨n0⟩
                        have z1 := fun n => laterZ s0 (hf n)
                        have z2 := fun n => laterZ s1 (hf n)
                        have z3 := fun n => laterZ u0 (hf n)
                        have z4 := fun n => laterZ u1 (hf n)
                        have hV : ∀ n, Below V2.heap.size V2 (f n) := fun n => HB4.out.trans ((hf n).mono HB4.out.size)
                        have ya0 := fun n => laterZ a0 (hV n)
                        have ya1 := fun n => laterZ a1 (hV n)
                        have ya2 := fun n => laterZ a2 (hV n)
                        have ya3 := fun n => laterZ a3 (hV n)
                        have yd0 := fun n => laterZ d0 (hV n)
                        have yd1 := fun n => laterZ d1 (hV n)
                        have yd2 := fun n => laterZ d2 (hV n)
                        clear s0 s1 u0 u1 HD hdq hdl hV hsy hty a0 a1 a2 a3 d0 d1 d2 HI1 HI2
                        refine region_classV f (by kernel_rfl) (by kernel_rfl) ⟨n0, hf0⟩ ?_
                        clear hf0
                        repeat (go_big_quiet_step (fail))
                        refine wpQuiet_nil ?_
                        intro w9 hw9
                        obtain ⟨mm, rfl⟩ := hw9
                        have H9 : Hid (Below V2.heap.size V2 (f mm)) := HB4.out.trans ((hf mm).mono HB4.out.size)
                        generalize f mm = w9 at H9
                        clear hcl hf hne0 n0 z1 z2 z3 z4 ya0 ya1 ya2 ya3 yd0 yd1 yd2
                        clear f
                        go_wp2
                        go_roundw
                        case rel => exact ⟨r + 1, by omega, by go_num, H9⟩
                        case measure => simp [intOf]; omega
                · obtain rfl : r = i := by omega
                  have hltI : ¬ (r : Int) < (r : Int) := by omega
                  have hltD : decide ((r : Int) < (r : Int)) = false := decide_eq_false hltI
                  have BWU : Hid (Below W.heap.size W U) := BW2.out.trans (BV.out.mono BW2.out.size)
                  go_wp2
                  go_ret
                  exact ⟨rfl, BWU⟩
end Go.Proofs.YtgpklcpmabafmaaDoor
