/- addRests of the program. -/
import Derived.Test.YtfjejnkjlnkkhaaGreatDoorGk
namespace Go.Proofs.YtfjejnkjlnkkhaaGreatDoor
set_option linter.unusedVariables false
set_option linter.unusedSimpArgs false
open Go.ChangeShapes Go.WideShapes Go.ChangeAt Go.RowKit Go.Shelf
attribute [local go_sem] Oper.semAt_some

def SyIn (N : Nat) (r : Ru) : Prop := ∀ c, c ∈ r.conj → ∀ s, s ∈ c.seq → s.name = -1 ∨ 0 ≤ s.name ∧ s.name < (N : Int)
/-- In a round: the table, the box of the conjunct, the box of the rest's number. -/
structure Ar (X : World) (D : Md) (A cb rb : Nat) (cv : Value) (z : Int) (T : SpM) (w' : World) : Prop where
  bu : Bu D.hb X w'
  ha : HasAt w' D.hb A T
  c1 : w'.cell? ⟨cb, 1, none⟩ = some cv
  r0 : w'.cell? ⟨rb, 0, none⟩ = some (.int .i64 z)
  rf : w'.frozen? ⟨rb, 0, none⟩ = false
theorem bu_below {b B : Nat} {X W W' : World} (h : Bu b X W) (hb : Below B W W') (hX : X.heap.size ≤ B) : Bu b X W' :=
  ⟨hb.os.trans h.os, hb.tape.trans h.tape, hb.output.trans h.output, Nat.le_trans h.size hb.size, fun k hk hkb => (hb.block k (by omega)).trans (h.block k hk hkb)⟩
section
variable {X : World} {D : Md} {A cb rb : Nat} {cv : Value} {z : Int} {T : SpM} {W W' : World}
theorem Ar.below {B : Nat} (h : Ar X D A cb rb cv z T W) (hb : Below B W W') (hX : X.heap.size ≤ B) (hc : cb < B) (hr : rb < B) (hh : D.hb < B) : Ar X D A cb rb cv z T W' :=
  ⟨bu_below h.bu hb hX, h.ha.blk hb.size (hb.block _ hh), (hb.cell (p := ⟨_, _, none⟩) hc).trans h.c1, (hb.cell (p := ⟨_, _, none⟩) hr).trans h.r0, (hb.frozen (p := ⟨_, _, none⟩) hr).trans h.rf⟩
theorem Ar.go {T' : SpM} (h : Ar X D A cb rb cv z T W) (hb : Bu D.hb W W') (ht : HasAt W' D.hb A T') (hc : cb ≠ D.hb) (hr : rb ≠ D.hb) : Ar X D A cb rb cv z T' W' :=
  ⟨h.bu.trans hb, ht, hb.cell hc h.c1, hb.cell hr h.r0, (World.frozen?_of_block (a := ⟨rb, 0, none⟩) (hb.block rb (block_lt_of_cell h.r0) hr)).trans h.rf⟩
theorem Ar.set (h : Ar X D A cb rb cv z T W) (hX : X.heap.size ≤ rb) (hc : rb ≠ cb) (hr : rb ≠ D.hb) (z' : Int) : Ar X D A cb rb cv z' T (W.setCell ⟨rb, 0, none⟩ (.int .i64 z')) := by
  have hblk : ∀ k, k ≠ rb → (W.setCell ⟨rb, 0, none⟩ (.int .i64 z')).heap[k]? = W.heap[k]? := fun k hk => Go.Deep.blk_setCell_other W ⟨rb, 0, none⟩ _ k hk
  refine ⟨⟨h.bu.os, h.bu.tape, h.bu.output, by rw [Go.Deep.nblk_setCell]; exact h.bu.size, fun k hk hkb => (hblk k (by omega)).trans (h.bu.block k hk hkb)⟩, h.ha.blk (by rw [Go.Deep.nblk_setCell]; exact Nat.le_refl _) (hblk _ (Ne.symm hr)), ?_, World.cell?_setCell_same _ _ _ h.r0, (World.frozen?_setCell _ _ _ _).trans h.rf⟩
  rw [World.cell?_of_block (a := ⟨cb, 1, none⟩) (hblk cb (Ne.symm hc))]; exact h.c1
/-- What is no row stays. -/
theorem keeps_bu {b : Nat} {W W' : World} (h : Bu b W W') (hb : ∀ o, W.heap[b]? = some o → o.isCells = true) : KeepsOthers W W' := ⟨h.size, fun k o hk ho => by
  by_cases e : k = b
  · subst e; rw [hb o hk] at ho; cases ho
  · exact (h.block k (Array.getElem?_eq_some_iff.1 hk).1 e).trans hk⟩
theorem keeps_set {W : World} {b o : Nat} {v x : Value} (hc : W.cell? ⟨b, o, none⟩ = some x) : KeepsOthers W (W.setCell ⟨b, o, none⟩ v) := ⟨by rw [Go.Deep.nblk_setCell]; exact Nat.le_refl _, fun k ob hk ho => by
  by_cases e : k = b
  · subst e
    unfold World.cell? at hc
    simp only [hk] at hc
    cases ob <;> first | cases hc | cases ho
  · exact (Go.Deep.blk_setCell_other W ⟨b, o, none⟩ v k e).trans hk⟩
theorem cells_of {W : World} {b o : Nat} {x : Value} (hc : W.cell? ⟨b, o, none⟩ = some x) : ∀ ob, W.heap[b]? = some ob → ob.isCells = true := fun ob hk => by
  unfold World.cell? at hc
  simp only [hk] at hc
  cases ob <;> first | cases hc | rfl
theorem belM_set {W w' : World} {b o : Nat} (h : Below W.heap.size W w') (hb : W.heap.size ≤ b) (v : Value) : Below W.heap.size W (w'.setCell ⟨b, o, none⟩ v) := h.setCell (p := ⟨b, o, none⟩) hb v
theorem bu_set {b k o : Nat} {X W : World} (h : Bu b X W) (hk : X.heap.size ≤ k) (v : Value) : Bu b X (W.setCell ⟨k, o, none⟩ v) :=
  ⟨h.os, h.tape, h.output, by rw [Go.Deep.nblk_setCell]; exact h.size, fun i hi hb => (Go.Deep.blk_setCell_other W ⟨k, o, none⟩ v i (show i ≠ k by omega)).trans (h.block i hi hb)⟩
end
set_option maxHeartbeats 8000000 in
set_option maxRecDepth 100000 in
theorem addRests_any (F : Nat → Prop) (g : Gr) (W : ByteArray) (D : Md) (T : SpM) (w : World) (h : Wm F g W D w) (hF : Fm F D) (hH : HasAt w D.hb (allN g) T) {q : Nat} {r : Ru} (hr : g.rules[q]? = some r) (hsi : SyIn g.names.length r) (i j : Nat) (hij : i ≤ j) (hj : j ≤ W.size) (hm : W.size ≤ 32) (hin : PlIn g.rules) (hnn : g.names.length ≤ 64) (Z : Nat → Nat → SpM → Prop) (hz : AdZ (btsW W) g.names.length g.rules q r i j Z) (h0 : Z 0 0 T) :
    Calls Tryz.prog 92 #[.pointer (some ⟨D.kb, 0, none⟩), .int .i64 (q : Int), .int .i64 (i : Int), .int .i64 (j : Int)] w fun e w' => e = .returned (.tuple #[]) ∧ Hid (∃ T', HasAt w' D.hb (allN g) T' ∧ Z r.conj.length 0 T' ∧ Bu D.hb w w') := by
  obtain ⟨X, hX⟩ : ∃ X, X = ((w.alloc (.cells #[.pointer (some ⟨D.kb, 0, none⟩)] 65)).alloc (.cells #[.int .i64 (i : Int)] 3)).alloc (.cells #[.int .i64 (j : Int)] 3) := ⟨_, rfl⟩
  have hXb : Below w.heap.size w X := by rw [hX]; exact ((bel1 _ _).alloc (by simp) _).alloc (by simp; omega) _
  have HXB : Hid (Below w.heap.size w X) := hXb
  have hXs : X.heap.size = w.heap.size + 3 := by rw [hX]; simp
  have HXS : Hid (X.heap.size = w.heap.size + 3) := hXs
  have HW : Hid (Wm F g W D X) := h.any hF hXb
  have HF : Hid (Fm F D) := hF
  have HH : Hid (HasAt X D.hb (allN g) T) := hH.any hXb
  have HR : Hid (g.rules[q]? = some r) := hr
  have HI : Hid (PlIn g.rules) := hin
  have HSI : Hid (SyIn g.names.length r) := hsi
  have HAZ : Hid (AdZ (btsW W) g.names.length g.rules q r i j Z) := hz
  have HZ0 : Hid (Z 0 0 T) := h0
  have HWB : Hid (D.B ≤ w.heap.size) := h.lo
  obtain ⟨g1, o1, p1, c1, e1, a0, a1, hcn⟩ := HW.out.rule hr
  have HC : Hid (IsCns X F (.slice p1 r.conj.length c1) r.conj) := hcn
  have hk3 := HW.out.k3
  rw [e1] at hk3
  have hq := (List.getElem?_eq_some_iff.1 hr).1
  have hn9 : r.conj.length ≤ 8 := (hin.2 r (List.mem_of_getElem? hr)).1
  obtain ⟨n, hn⟩ : ∃ n, n = r.conj.length := ⟨_, rfl⟩
  have HN : Hid (n = r.conj.length) := hn
  obtain ⟨l, hl⟩ : ∃ l, l = g.rules.length := ⟨_, rfl⟩
  have HL : Hid (l = g.rules.length) := hl
  rw [← hn] at a1 hn9
  rw [← hn]
  rw [← hl] at hk3 hq
  obtain ⟨nb, hnb⟩ : ∃ nb, nb = w.heap.size := ⟨_, rfl⟩
  have HNB : Hid (nb = w.heap.size) := hnb
  have x0 : X.cell? ⟨nb, 0, none⟩ = some (.pointer (some ⟨D.kb, 0, none⟩)) := by
    rw [hnb, hX, World.cell?_alloc_past _ _ _ (by simp; omega), World.cell?_alloc_past _ _ _ (by simp)]; exact World.cell?_alloc_at _ _ _ _ rfl
  have x1 : X.cell? ⟨nb + 1, 0, none⟩ = some (.int .i64 (i : Int)) := by
    rw [hnb, hX, World.cell?_alloc_past _ _ _ (by simp)]; exact World.cell?_alloc_at _ _ _ _ (by simp)
  have x2 : X.cell? ⟨nb + 1 + 1, 0, none⟩ = some (.int .i64 (j : Int)) := by
    rw [hnb, hX]; exact World.cell?_alloc_at _ _ _ _ (by simp)
  have HX0 : Hid (∀ w', Bu D.hb X w' → w'.cell? ⟨nb, 0, none⟩ = some (.pointer (some ⟨D.kb, 0, none⟩)) ∧ w'.cell? ⟨nb + 1, 0, none⟩ = some (.int .i64 (i : Int)) ∧ w'.cell? ⟨nb + 1 + 1, 0, none⟩ = some (.int .i64 (j : Int)) ∧ w'.cell? ⟨D.kb, 0, none⟩ = some (.pointer (some ⟨D.tb, 0, none⟩)) ∧ w'.cell? ⟨D.tb, 3, none⟩ = some (.slice (some ⟨D.hb, 0, none⟩) (allN g) (allN g))) := fun w' hb => by
    have h1 : ∀ k, nb ≤ k → k ≠ D.hb := fun k hk e => by have := HF.out.hB; have := HWB.out; omega
    exact ⟨hb.cell (h1 _ (by omega)) x0, hb.cell (h1 _ (by omega)) x1, hb.cell (h1 _ (by omega)) x2, hb.cell (fun e => HF.out.nh (e ▸ HW.out.fk)) HW.out.k0, hb.cell (fun e => HF.out.nh (e ▸ HW.out.ft)) HW.out.t3⟩
  clear h hF hH hr hcn hin hn hl hsi hz h0
  refine (callsIn_wide (n := 4)).1 ?_
  refine callsIn_of_wp_marks Tryz.func92 rfl trivial ?_ rfl
  simp only [Tryz.ntmps92, List.size_toArray, List.length_cons, List.length_nil, Nat.reduceAdd, Nat.reduceSub, Array.replicate_succ, Array.replicate_zero, List.push_toArray, List.append_toArray, List.nil_append, List.cons_append]
  refine wpIn_wide.2 ?_
  go_upto_region 1 with fail
  rw [← hX, ← hnb]
  clear hX hXb hnb hXs
  go_wp2
  refine wp_loop (fun a' wr => ∃ (u8 u9 u10 u11 u12 u23 u24 u25 u26 u27 u28 u29 u30 u31 u32 u33 u34 u35 u36 u37 u38 u39 u40 u41 u42 u43 u44 u45 u46 u47 u48 u49 u50 u51 u52 u53 u54 u55 u56 u57 u58 u59 u60 u61 u62 u63 u64 u65 u66 u67 u68 u69 u70 u71 u72 u73 u74 u75 u76 u77 u78 u79 u80 u81 u82 u83 : Value) (ds : List Deferred), (∃ (c : Nat) (T' : SpM), c ≤ n ∧ u23 = .int .i64 (c : Int) ∧ Hid (Bu D.hb X wr) ∧ Hid (HasAt wr D.hb (allN g) T') ∧ Hid (Z c 0 T') ∧ Hid (Marks X.heap.size ds wr)) ∧ a' = { tmps := #[.pointer (some ⟨D.kb, 0, none⟩), .int .i64 (q : Int), .int .i64 (i : Int), .int .i64 (j : Int), .pointer (some ⟨nb, 0, none⟩), undef, .pointer (some ⟨nb + 1, 0, none⟩), .pointer (some ⟨nb + 1 + 1, 0, none⟩), u8, u9, u10, u11, u12, .pointer (some ⟨D.kb, 0, none⟩), .pointer (some ⟨D.kb, 0, none⟩), .pointer (some ⟨D.kb, 1, none⟩), .pointer (some ⟨D.kb, 3, none⟩), .slice (some ⟨g1, o1, none⟩) l D.cr, .int .i64 (q : Int), .pointer (some ⟨g1, o1 + q * 2, none⟩), .pointer (some ⟨g1, o1 + q * 2 + 1, none⟩), .slice p1 n c1, .int .i64 (n : Int), u23, u24, u25, u26, u27, u28, u29, u30, u31, u32, u33, u34, u35, u36, u37, u38, u39, u40, u41, u42, u43, u44, u45, u46, u47, u48, u49, u50, u51, u52, u53, u54, u55, u56, u57, u58, u59, u60, u61, u62, u63, u64, u65, u66, u67, u68, u69, u70, u71, u72, u73, u74, u75, u76, u77, u78, u79, u80, u81, u82, u83], defers := ds }) (fun a' _ => n - (intOf (a'.tmps.getD 23 undef)).toNat) ?start ?round
  case start => exact ⟨_, _, _, _, _, _, _, _, _, _, _, _, _, _, _, _, _, _, _, _, _, _, _, _, _, _, _, _, _, _, _, _, _, _, _, _, _, _, _, _, _, _, _, _, _, _, _, _, _, _, _, _, _, _, _, _, _, _, _, _, _, _, _, _, _, _, _, ⟨0, T, Nat.zero_le _, rfl, Bu.refl _ _, HH, HZ0, (show Marks _ [] _ from trivial)⟩, rfl⟩
  case round =>
    intro a' wr hinv
    obtain ⟨u8, hinv⟩ := hinv
    obtain ⟨u9, hinv⟩ := hinv
    obtain ⟨u10, hinv⟩ := hinv
    obtain ⟨u11, hinv⟩ := hinv
    obtain ⟨u12, hinv⟩ := hinv
    obtain ⟨u23, hinv⟩ := hinv
    obtain ⟨u24, hinv⟩ := hinv
    obtain ⟨u25, hinv⟩ := hinv
    obtain ⟨u26, hinv⟩ := hinv
    obtain ⟨u27, hinv⟩ := hinv
    obtain ⟨u28, hinv⟩ := hinv
    obtain ⟨u29, hinv⟩ := hinv
    obtain ⟨u30, hinv⟩ := hinv
    obtain ⟨u31, hinv⟩ := hinv
    obtain ⟨u32, hinv⟩ := hinv
    obtain ⟨u33, hinv⟩ := hinv
    obtain ⟨u34, hinv⟩ := hinv
    obtain ⟨u35, hinv⟩ := hinv
    obtain ⟨u36, hinv⟩ := hinv
    obtain ⟨u37, hinv⟩ := hinv
    obtain ⟨u38, hinv⟩ := hinv
    obtain ⟨u39, hinv⟩ := hinv
    obtain ⟨u40, hinv⟩ := hinv
    obtain ⟨u41, hinv⟩ := hinv
    obtain ⟨u42, hinv⟩ := hinv
    obtain ⟨u43, hinv⟩ := hinv
    obtain ⟨u44, hinv⟩ := hinv
    obtain ⟨u45, hinv⟩ := hinv
    obtain ⟨u46, hinv⟩ := hinv
    obtain ⟨u47, hinv⟩ := hinv
    obtain ⟨u48, hinv⟩ := hinv
    obtain ⟨u49, hinv⟩ := hinv
    obtain ⟨u50, hinv⟩ := hinv
    obtain ⟨u51, hinv⟩ := hinv
    obtain ⟨u52, hinv⟩ := hinv
    obtain ⟨u53, hinv⟩ := hinv
    obtain ⟨u54, hinv⟩ := hinv
    obtain ⟨u55, hinv⟩ := hinv
    obtain ⟨u56, hinv⟩ := hinv
    obtain ⟨u57, hinv⟩ := hinv
    obtain ⟨u58, hinv⟩ := hinv
    obtain ⟨u59, hinv⟩ := hinv
    obtain ⟨u60, hinv⟩ := hinv
    obtain ⟨u61, hinv⟩ := hinv
    obtain ⟨u62, hinv⟩ := hinv
    obtain ⟨u63, hinv⟩ := hinv
    obtain ⟨u64, hinv⟩ := hinv
    obtain ⟨u65, hinv⟩ := hinv
    obtain ⟨u66, hinv⟩ := hinv
    obtain ⟨u67, hinv⟩ := hinv
    obtain ⟨u68, hinv⟩ := hinv
    obtain ⟨u69, hinv⟩ := hinv
    obtain ⟨u70, hinv⟩ := hinv
    obtain ⟨u71, hinv⟩ := hinv
    obtain ⟨u72, hinv⟩ := hinv
    obtain ⟨u73, hinv⟩ := hinv
    obtain ⟨u74, hinv⟩ := hinv
    obtain ⟨u75, hinv⟩ := hinv
    obtain ⟨u76, hinv⟩ := hinv
    obtain ⟨u77, hinv⟩ := hinv
    obtain ⟨u78, hinv⟩ := hinv
    obtain ⟨u79, hinv⟩ := hinv
    obtain ⟨u80, hinv⟩ := hinv
    obtain ⟨u81, hinv⟩ := hinv
    obtain ⟨u82, hinv⟩ := hinv
    obtain ⟨u83, hinv⟩ := hinv
    obtain ⟨ds, hinv⟩ := hinv
    obtain ⟨⟨c, T', hc, hu, HB, HT, HZ, HM⟩, ha⟩ := hinv
    subst ha hu
    clear a0
    have hnm : n - (intOf (Value.int .i64 (c : Int))).toNat = n - c := by simp [intOf]
    by_cases hlt : c < n
    · obtain ⟨d, hd⟩ : ∃ d, r.conj[c]? = some d := ⟨_, List.getElem?_eq_getElem (by rw [← HN.out]; exact hlt)⟩
      have HD : Hid (r.conj[c]? = some d) := hd
      have hstay : Stay F X wr := HB.out.stay fun i hi => ⟨Nat.lt_of_lt_of_le (HF.out.lt i hi) (Nat.le_trans HWB.out (by rw [HXS.out]; omega)), fun e => HF.out.nh (e ▸ hi)⟩
      obtain ⟨g2, o2, p2, c2, e2, hg2, b0, b1, hsy⟩ := cn_at (HC.out.keep hstay (fun _ h => h)) hd
      subst e2
      have HSY : Hid (SyCs wr (fun k => k = D.hb ∨ k = wr.heap.size + 1) p2 d.seq) := fun k s hs => by
        obtain ⟨gp, o, h1, h2, h6, h3, h4, h5⟩ := sy_at hsy hs
        exact ⟨gp, o, h1, fun e => e.elim (fun e => HF.out.nh (e ▸ h2)) (fun e => by omega), h3, h4, h5⟩
      have hWr := HW.out.bu HF.out HB.out
      obtain ⟨g4, o4, u4, e4, -, hg4, x4, hi4⟩ := hWr.wh.row (k := q) (List.getElem?_eq_some_iff.1 HR.out).1
      obtain ⟨p5, c5, e5, hm5, hz5⟩ := Reads.num hi4
      have hwl := whL_len (N := g.names.length) HR.out
      have hwa := whL_at (N := g.names.length) HR.out hd
      obtain ⟨g6, o6, e6, -, hg6, x6⟩ := hz5 c _ hwa
      subst e5 e6
      rw [hwl, ← HN.out] at x4
      have k6 := hWr.k6
      rw [e4, ← HL.out] at k6
      obtain ⟨y, hy⟩ : ∃ y, y = g.names.length + ofRu g.rules q c := ⟨_, rfl⟩
      have HY : Hid (y = g.names.length + ofRu g.rules q c) := hy
      have HYA : Hid (y + d.seq.length < allN g) := by
        have := ofRu_lt HR.out hd (Nat.le_refl d.seq.length)
        show _ < _
        rw [hy]; unfold allN; omega
      have hA9 : allN g ≤ 200000 := by have := HI.out.len; unfold allN; omega
      have hz64 : d.seq.length ≤ 64 := (HI.out.2 r (List.mem_of_getElem? HR.out)).2 d (List.mem_of_getElem? hd)
      rw [← hy] at x6
      obtain ⟨A, hA⟩ : ∃ A, A = allN g := ⟨_, rfl⟩
      have HA : Hid (A = allN g) := hA
      rw [← hA] at hA9 HYA HT HX0
      obtain ⟨zl, hzl⟩ : ∃ zl, zl = d.seq.length := ⟨_, rfl⟩
      have HZL : Hid (zl = d.seq.length) := hzl
      rw [← hzl] at b1 hz64 HYA
      have hyz : y + zl < A := HYA.out
      obtain ⟨V, hV⟩ : ∃ V, V = wr.alloc (.cells #[.bool d.neg, .slice p2 zl c2] 48) := ⟨_, rfl⟩
      have hVb : Below wr.heap.size wr V := by rw [hV]; exact bel1 _ _
      have hVs : V.heap.size = wr.heap.size + 1 := by rw [hV]; simp
      obtain ⟨cb, hcb⟩ : ∃ cb, cb = wr.heap.size := ⟨_, rfl⟩
      obtain ⟨rb, hrb⟩ : ∃ rb, rb = V.heap.size := ⟨_, rfl⟩
      have HCB : Hid (cb = wr.heap.size ∧ rb = cb + 1 ∧ X.heap.size ≤ cb ∧ D.hb < cb) := by
        refine ⟨hcb, by omega, by rw [hcb]; exact HB.out.size, ?_⟩
        have := HF.out.hB; have := HWB.out; have := HB.out.size; have := HXS.out; omega
      have q1 : V.cell? ⟨cb, 1, none⟩ = some (.slice p2 zl c2) := by rw [hcb, hV]; exact World.cell?_alloc_at _ _ _ _ rfl
      obtain ⟨q0, q2, q3, q4, q5⟩ := HX0.out wr HB.out
      have HSS : Hid (∀ w', Below V.heap.size V w' → Below V.heap.size V w' ∧ w'.cell? ⟨nb, 0, none⟩ = some (.pointer (some ⟨D.kb, 0, none⟩)) ∧ w'.cell? ⟨D.kb, 6, none⟩ = some (.slice (some ⟨g4, o4, none⟩) l D.cw) ∧ w'.cell? ⟨g4, o4 + q, none⟩ = some (.slice (some ⟨g6, o6, none⟩) n c5) ∧ w'.cell? ⟨g6, o6 + c, none⟩ = some (.int .i64 (y : Int)) ∧ w'.cell? ⟨cb, 1, none⟩ = some (.slice p2 zl c2)) := fun w' hb => by
        have hb2 : Below wr.heap.size wr w' := hVb.trans (hb.mono hVb.size)
        exact ⟨hb, (hb2.cell (p := ⟨_, _, none⟩) (block_lt_of_cell q0)).trans q0, (hb2.cell (p := ⟨_, _, none⟩) (block_lt_of_cell k6)).trans k6, (hb2.cell (p := ⟨_, _, none⟩) (block_lt_of_cell x4)).trans x4, (hb2.cell (p := ⟨_, _, none⟩) (block_lt_of_cell x6)).trans x6, (hb.cell (p := ⟨_, _, none⟩) (block_lt_of_cell q1)).trans q1⟩
      have HVB : Hid (Below wr.heap.size wr V) := hVb
      obtain ⟨yz, hyze⟩ : ∃ yz, yz = y + zl := ⟨_, rfl⟩
      have HYZ : Hid (yz = y + zl) := hyze
      have hyzA : yz < A := by omega
      have hyzc : (y : Int) + (zl : Int) = (yz : Int) := by omega
      have HYC : Hid ((y : Int) + (zl : Int) = (yz : Int)) := hyzc
      have HV3 : Hid (Ar X D A cb rb (.slice p2 zl c2) (yz : Int) T' (V.alloc (.cells #[.int .i64 ((y : Int) + (zl : Int))] 3)).drew ∧ Bu D.hb wr (V.alloc (.cells #[.int .i64 ((y : Int) + (zl : Int))] 3)).drew) := by
        obtain ⟨h1, h2, h3, h4⟩ := HCB.out
        have hb : Below V.heap.size V (V.alloc (.cells #[.int .i64 ((y : Int) + (zl : Int))] 3)).drew := (bel1 _ _).drew
        have hb2 := HVB.out.trans (hb.mono HVB.out.size)
        have hn2 : (V.alloc (.cells #[.int .i64 ((y : Int) + (zl : Int))] 3)).drew.heap[rb]? = some (.cells #[.int .i64 ((y : Int) + (zl : Int))] 3) := by rw [hrb]; exact heap_alloc_new V _
        exact ⟨⟨HB.out.trans (Bu.of hb2), HT.out.any hb2, (HSS.out _ hb).2.2.2.2.2, (Lib.cell_of_heap hn2 0).trans (by rw [← hyzc]; rfl), by unfold World.frozen?; rw [hn2]; rfl⟩, Bu.of hb2⟩
      clear hyzc hyze
      have hwy : IntKind.i64.wrap ((y : Int) + (zl : Int)) = (y : Int) + (zl : Int) := by rw [IntKind.wrap_i64]; omega
      have hn9c : c < 9223372036854775807 := by omega
      clear hd hsy hWr hi4 hz5 hwl hwa hy hA hzl hstay hVb e4 hm5 q0 q1 q2 q3 q4 q5 k6 x4 x6
      go_upto_region 4 with fail
      rw [← hV, ← hcb]
      have HVS : Hid (V.heap.size = wr.heap.size + 1) := hVs
      clear hV hcb hVs
      have HRB : Hid (rb = V.heap.size) := hrb
      clear hrb
      go_cut [10, 23] from 23 to 83 (fun t x wc => t = .pointer (some ⟨rb, 0, none⟩) ∧ x = .int .i64 (c : Int) ∧ Hid (Ar X D A cb rb (.slice p2 zl c2) (yz : Int) T' wc ∧ Bu D.hb wr wc))
      case first =>
        go_region_held3 (fun w' => Below V.heap.size V w' ∧ w'.cell? ⟨nb, 0, none⟩ = some (.pointer (some ⟨D.kb, 0, none⟩)) ∧ w'.cell? ⟨D.kb, 6, none⟩ = some (.slice (some ⟨g4, o4, none⟩) l D.cw) ∧ w'.cell? ⟨g4, o4 + q, none⟩ = some (.slice (some ⟨g6, o6, none⟩) n c5) ∧ w'.cell? ⟨g6, o6 + c, none⟩ = some (.int .i64 (y : Int)) ∧ w'.cell? ⟨cb, 1, none⟩ = some (.slice p2 zl c2))
          ((refine HSS.out _ ?_; (repeat' (first | with_reducible assumption | with_reducible exact Below.refl _ _ | with_reducible apply Below.drew | with_reducible apply bel_alloc | with_reducible refine belM_set ?_ ?_ _)); all_goals (first | omega | (simp; done))))
          (fail)
        all_goals
          go_wp2
          go_meet
          case rel => exact ⟨by rw [HRB.out], rfl, HV3⟩
      case rest =>
        obtain ⟨h10, h23, HAr⟩ := hcut
        subst h10 h23
        obtain ⟨wq, hwq⟩ : ∃ wq, wq = wc := ⟨_, rfl⟩
        subst hwq
        clear HSS HV3
        have HAR : Hid (Ar X D A cb rb (.slice p2 zl c2) (yz : Int) T' wq) := HAr.out.1
        have HBW : Hid (Bu D.hb wr wq) := HAr.out.2
        obtain ⟨q0, q2, q3, q4, q5⟩ := HX0.out wq HAR.out.bu
        go_upto_if 44 with fail
        have HST : Hid (∀ T3, T3 = (if i = j then putS3 T' yz i j else T') → Z c 1 T3) := fun T3 e3 => by
          rw [e3, HYZ.out, HY.out, HZL.out]; exact HAZ.out.en c d T' HD.out HZ.out
        go_cut [23] from 23 to 83 (fun x wd => x = .int .i64 (c : Int) ∧ ∃ T3, Hid (Ar X D A cb rb (.slice p2 zl c2) (yz : Int) T3 wd) ∧ Hid (Bu D.hb wr wd) ∧ Hid (Z c 1 T3))
        case first =>
          by_cases he : i = j
          · have FIN3 : Hid (Z c 1 (putS3 T' yz i j)) := HST.out _ (by rw [if_pos he])
            subst he
            have KA : Hid (∀ w', Bu D.hb wq w' → HasAt w' D.hb A T' → Calls Tryz.prog 93 #[.pointer (some ⟨D.hb, yz * 66, none⟩), .int .i64 (i : Int), .int .i64 (i : Int)] w' fun e w'' => e = .returned (.tuple #[]) ∧ Hid (HasAt w'' D.hb A (putS3 T' yz i i)) ∧ Hid (Bu D.hb w' w'')) := fun w' hb ht => addSp_any yz i i ht hyzA (by omega) (by omega)
            have r0 := HAR.out.r0
            have hcr := HCB.out
            have HSS : Hid (∀ w', Bu D.hb wq w' → Bu D.hb wq w' ∧ w'.cell? ⟨nb, 0, none⟩ = some (.pointer (some ⟨D.kb, 0, none⟩)) ∧ w'.cell? ⟨D.kb, 0, none⟩ = some (.pointer (some ⟨D.tb, 0, none⟩)) ∧ w'.cell? ⟨D.tb, 3, none⟩ = some (.slice (some ⟨D.hb, 0, none⟩) A A) ∧ w'.cell? ⟨rb, 0, none⟩ = some (.int .i64 (yz : Int)) ∧ w'.cell? ⟨nb + 1, 0, none⟩ = some (.int .i64 (i : Int)) ∧ w'.cell? ⟨nb + 1 + 1, 0, none⟩ = some (.int .i64 (i : Int))) := fun w' hb => by
              obtain ⟨z0, z2, z3, z4, z5⟩ := HX0.out w' (HAR.out.bu.trans hb)
              exact ⟨hb, z0, z4, z5, hb.cell (by omega) r0, z2, z3⟩
            have hlt3 : (yz : Int) < (A : Int) := by omega
            clear r0 hcr q0 q2 q3 q4 q5
            go_wp2
            go_region_held3 (fun w' => Bu D.hb wq w' ∧ w'.cell? ⟨nb, 0, none⟩ = some (.pointer (some ⟨D.kb, 0, none⟩)) ∧ w'.cell? ⟨D.kb, 0, none⟩ = some (.pointer (some ⟨D.tb, 0, none⟩)) ∧ w'.cell? ⟨D.tb, 3, none⟩ = some (.slice (some ⟨D.hb, 0, none⟩) A A) ∧ w'.cell? ⟨rb, 0, none⟩ = some (.int .i64 (yz : Int)) ∧ w'.cell? ⟨nb + 1, 0, none⟩ = some (.int .i64 (i : Int)) ∧ w'.cell? ⟨nb + 1 + 1, 0, none⟩ = some (.int .i64 (i : Int)))
              ((refine HSS.out _ ?_; (repeat' (first | with_reducible assumption | with_reducible exact Bu.refl _ _ | with_reducible apply Bu.drew))))
              ((go_at_call 93; refine (KA.out _ (Bu.refl _ _).drew (HAR.out.ha.any (Below.refl _ _).drew)).mono ?_; rintro e w3 ⟨rfl, t3, b3⟩; have b4 : Bu D.hb wq w3 := (Bu.refl D.hb wq).drew.trans b3.out))
            have FIN : Hid (Ar X D A cb rb (.slice p2 zl c2) (yz : Int) (putS3 T' yz i i) w3) := by
              have := HCB.out
              exact HAR.out.go b4 t3.out (by omega) (by omega)
            have FIN2 : Hid (Bu D.hb wr w3) := HBW.out.trans b4
            clear b4 t3 b3
            go_wp2
            go_meet
            case rel => exact ⟨rfl, _, FIN, FIN2, FIN3⟩
          · have heI : ((i : Int) == (j : Int)) = false := by rw [beq_eq_false_iff_ne]; omega
            have FIN3 : Hid (Z c 1 T') := HST.out _ (by rw [if_neg he])
            clear he
            go_wp2
            go_meet
            case rel => exact ⟨rfl, _, HAR, HBW, FIN3⟩
        case rest =>
          obtain ⟨h23, T3, HAR3, HBW3, HZ3⟩ := hcut
          subst h23
          obtain ⟨wd, hwd⟩ : ∃ wd, wd = wc := ⟨_, rfl⟩
          subst hwd
          clear HAR HBW HST HAr q0 q2 q3 q4 q5
          have c1 := HAR3.out.c1
          go_wp2_with (go_at_call 117; refine (backward_any _ _ _ _).mono ?_; rintro e w5 ⟨rfl, rfl⟩)
          obtain ⟨w5, hw5⟩ : ∃ w5, w5 = wd.alloc (.cells #[.slice p2 zl c2] 45) := ⟨_, rfl⟩
          have hw5s : w5.heap.size = wd.heap.size + 1 := by rw [hw5]; simp
          rw [← hw5]
          have hb5 : Below wd.heap.size wd w5 := by rw [hw5]; exact bel1 _ _
          have x5 : w5.cell? ⟨wd.heap.size, 0, none⟩ = some (.slice p2 zl c2) := by rw [hw5]; exact World.cell?_alloc_at _ _ _ _ rfl
          obtain ⟨hz1, hz2, hz3, hz4⟩ := HCB.out
          have hwd2 := HBW3.out.size
          have hrl : rb < wd.heap.size := block_lt_of_cell HAR3.out.r0
          have hcl : cb < wd.heap.size := block_lt_of_cell c1
          have HSZ : Hid (D.hb < w5.heap.size ∧ cb < w5.heap.size ∧ rb < w5.heap.size ∧ X.heap.size ≤ w5.heap.size ∧ wr.heap.size ≤ w5.heap.size) := ⟨by omega, by omega, by omega, by omega, by omega⟩
          have HAR5 : Hid (Ar X D A cb rb (.slice p2 zl c2) (yz : Int) T3 w5) := HAR3.out.below hb5 (by omega) (by omega) hrl (by omega)
          have HBW5 : Hid (Bu D.hb wr w5) := HBW3.out.trans (Bu.of hb5)
          have HEE : Hid ((fun k => k = D.hb ∨ k = rb) = (fun k => k = D.hb ∨ k = wr.heap.size + 1)) := by
            show _ = _
            rw [hz2, hz1]
          have HSQ : Hid (SyCs w5 (fun k => k = D.hb ∨ k = rb) p2 d.seq) := by
            show SyCs _ _ _ _
            rw [HEE.out]; exact HSY.out.keep (Bc.of HBW5.out (Or.inl rfl))
          have HIO : Hid (OwnFrom w5.heap.size (fun (pre : List Nat) W' => w5.heap.size ≤ W'.heap.size ∧ pre.length ≤ zl ∧ ∃ (ζ : Nat) (T4 : SpM), ζ + pre.length = yz ∧ Ar X D A cb rb (.slice p2 zl c2) (ζ : Int) T4 W' ∧ Bu D.hb wr W' ∧ (pre = dwn zl pre.length → Z c (pre.length + 1) T4))) := by
            rintro pre W1 W2 row ⟨h1, h2, ζ, T4, h3, h4, h5, h6⟩ hg hr
            have hbl : Below w5.heap.size W1 W2 := (Below.refl _ W1).grown hg h1 (fun k e => (hr k e).1)
            obtain ⟨s1, s2, s3, s4, s5⟩ := HSZ.out
            exact ⟨Nat.le_trans h1 hbl.size, h2, ζ, T4, h3, h4.below hbl s4 s2 s3 s1, bu_below h5 hbl s5, h6⟩
          refine range_box (encs := bkE d.seq) (Kp := Bc (fun k => k = D.hb ∨ k = rb)) rfl (enters_of Tryz.func130 (by kernel_rfl) rfl) (back_stops 3 wd.heap.size (fun k => k = D.hb ∨ k = rb) (by omega) p2 c2 d.seq w5 HSQ.out (fun e => e.elim (by omega) (by omega)) (by rw [x5, HZL.out]) (by rw [← HZL.out]; exact hz64)) (fun h k => h.trans k) (fun W' l' o o' _ h9 h8 _ => Bc.put h9 h8) (fun W' o => Bc.ofB (bel1 _ _)) (fun _ => rfl) _ HIO.out (fun pre W' h9 => h9.1)
            ⟨Nat.le_refl _, Nat.zero_le _, yz, T3, rfl, HAR5.out, HBW5.out, fun _ => HZ3.out⟩ 12 (fun k => #[.int .i64 (symD d.seq k).name, .int .i64 (symD d.seq k).lo, .int .i64 (symD d.seq k).hi]) 44 ?assign ?body ?done
          case assign =>
            intro l' x W' K hK
            unfold bkE at hK ⊢
            generalize symD d.seq x = sx at hK ⊢
            obtain ⟨nm, lo, up⟩ := sx
            simp only [List.zip_toArray, List.zip_cons_cons, List.zip_nil_right, List.foldl_toArray', List.foldl_cons, List.foldl_nil, List.size_toArray, List.length_cons, List.length_nil, List.setIfInBounds_toArray, List.set_cons_zero, List.set_cons_succ] at hK ⊢
            gi_wp2
            exact hK
          case body =>
            rintro l' pre x Bx W' ⟨hw1, hw2, ζ, T4, hw3, ar, hbw, hzz⟩ hBx hle hlen
            unfold bkE
            obtain ⟨sx, hsx⟩ : ∃ sx, sx = symD d.seq x := ⟨_, rfl⟩
            rw [← hsx] at hBx ⊢
            have hsi : sx.name = -1 ∨ 0 ≤ sx.name ∧ sx.name < (g.names.length : Int) := by
              rw [hsx]
              unfold symD
              rw [List.getD_eq_getElem?_getD]
              cases h9 : d.seq[x]? with
              | none => exact Or.inl rfl
              | some s => exact HSI.out d (List.mem_of_getElem? HD.out) s (List.mem_of_getElem? h9)
            have HSX : Hid (sx = symD d.seq x) := hsx
            rw [← HZL.out] at hlen
            obtain ⟨ρ, hρ⟩ : ∃ ρ, ζ = ρ + 1 := ⟨ζ - 1, by have := HYZ.out; omega⟩
            subst hρ
            have hρA : ρ + 1 < A := by have := HYZ.out; omega
            have HPZ : Hid (ρ + 1 + pre.length = yz) := hw3
            have HPL : Hid (pre.length < zl) := hlen
            have HZZ : Hid (pre = dwn zl pre.length → Z c (pre.length + 1) T4) := hzz
            have HARB : Hid (Ar X D A cb rb (.slice p2 zl c2) ((ρ + 1 : Nat) : Int) T4 W') := ar
            have HBWB : Hid (Bu D.hb wr W') := hbw
            have HSB : Hid (w5.heap.size ≤ W'.heap.size) := hw1
            obtain ⟨nm, lo, up⟩ := sx
            dsimp only at hBx hsi ⊢
            have y0 : W'.cell? ⟨Bx, 0, none⟩ = some (.int .i64 nm) := Lib.cell_of_heap hBx 0
            have y1 : W'.cell? ⟨Bx, 1, none⟩ = some (.int .i64 lo) := Lib.cell_of_heap hBx 1
            have y2 : W'.cell? ⟨Bx, 2, none⟩ = some (.int .i64 up) := Lib.cell_of_heap hBx 2
            obtain ⟨q0, q2, q3, q4, q5⟩ := HX0.out W' ar.bu
            have r0 := ar.r0
            rw [show ((ρ + 1 : Nat) : Int) = (ρ : Int) + 1 by omega] at r0
            have KL : Hid (Calls Tryz.prog 118 #[.pointer (some ⟨D.kb, 0, none⟩), .agg #[.int .i64 nm, .int .i64 lo, .int .i64 up], .int .i64 ((ρ : Int) + 1), .int .i64 (i : Int), .int .i64 (j : Int)] W' fun e w' => e = .returned (.bool (ledB (btsW W) T4 ⟨nm, lo, up⟩ (ρ + 1) i j)) ∧ Hid (Below W'.heap.size W' w')) := by
              have := leads_any F g W D T4 W' (HW.out.bu HF.out ar.bu) HF.out (by rw [← HA.out]; exact ar.ha) nm lo up hsi (ρ + 1) i j (by rw [← HA.out]; exact hρA) hij hj hm
              rw [show ((ρ + 1 : Nat) : Int) = (ρ : Int) + 1 by omega] at this
              exact this
            have HLED : Hid (∀ T5, T5 = (if ledB (btsW W) T4 ⟨nm, lo, up⟩ (ρ + 1) i j = true then putS3 T4 ρ i j else T4) → pre ++ [x] = dwn zl (pre ++ [x]).length → Z c ((pre ++ [x]).length + 1) T5) := fun T5 e5 e6 => by
              have e7 : (pre ++ [x]).length = pre.length + 1 := by simp
              rw [e7] at e6 ⊢
              have e8 : pre ++ [x] = dwn zl pre.length ++ [zl - 1 - pre.length] := e6
              have e9 := List.append_inj' e8 rfl
              have ex : x = zl - 1 - pre.length := by simpa using e9.2
              have hpl := HPL.out
              have hs : d.seq[x]? = some ⟨nm, lo, up⟩ := by
                have hx : x < d.seq.length := by rw [← HZL.out]; omega
                have h1 : d.seq[x]? = some d.seq[x] := List.getElem?_eq_getElem hx
                rw [h1, HSX.out, symD_at h1]
              have hyy := HYZ.out
              have hpz := HPZ.out
              have h2 := HAZ.out.sy c d x (pre.length + 1) ⟨nm, lo, up⟩ T4 HD.out hs (by rw [← HZL.out]; omega) (HZZ.out e9.1)
              rw [← HY.out] at h2
              rw [show y + (x + 1) = ρ + 1 by omega, show y + x = ρ by omega] at h2
              rw [e5]; exact h2
            obtain ⟨bL, hbL⟩ : ∃ bL, bL = ledB (btsW W) T4 ⟨nm, lo, up⟩ (ρ + 1) i j := ⟨_, rfl⟩
            rw [← hbL] at KL HLED
            have HCB2 : Hid (rb ≠ D.hb ∧ cb ≠ D.hb ∧ rb ≠ cb ∧ X.heap.size ≤ rb ∧ wr.heap.size ≤ rb) := ⟨by omega, by omega, by omega, by omega, by omega⟩
            have HF6 : Hid (∀ (w6 : World) (T5 : SpM), Bu D.hb W' w6 → HasAt w6 D.hb A T5 → (pre ++ [x] = dwn zl (pre ++ [x]).length → Z c ((pre ++ [x]).length + 1) T5) → w6.cell? ⟨rb, 0, none⟩ = some (.int .i64 ((ρ : Int) + 1)) ∧ w6.frozen? ⟨rb, 0, none⟩ = false ∧ (KeepsFrom w5.heap.size W' (w6.setCell ⟨rb, 0, none⟩ (.int .i64 (ρ : Int))) ∧ Bc (fun k => k = D.hb ∨ k = rb) W' (w6.setCell ⟨rb, 0, none⟩ (.int .i64 (ρ : Int))) ∧ (w5.heap.size ≤ (w6.setCell ⟨rb, 0, none⟩ (.int .i64 (ρ : Int))).heap.size ∧ (pre ++ [x]).length ≤ zl ∧ ∃ (ζ : Nat) (T4 : SpM), ζ + (pre ++ [x]).length = yz ∧ Ar X D A cb rb (.slice p2 zl c2) (ζ : Int) T4 (w6.setCell ⟨rb, 0, none⟩ (.int .i64 (ρ : Int))) ∧ Bu D.hb wr (w6.setCell ⟨rb, 0, none⟩ (.int .i64 (ρ : Int))) ∧ (pre ++ [x] = dwn zl (pre ++ [x]).length → Z c ((pre ++ [x]).length + 1) T4)))) := fun w6 T5 hb6 ht6 hz6 => by
              obtain ⟨n1, n2, n3, n4, n5⟩ := HCB2.out
              have ar6 := HARB.out.go hb6 ht6 n2 n1
              have hr6 := ar6.r0
              rw [show ((ρ + 1 : Nat) : Int) = (ρ : Int) + 1 by omega] at hr6
              have hk1 : KeepsOthers W' w6 := keeps_bu hb6 (cells_of (HARB.out.ha.fr 0 0 (by omega) (by omega)))
              refine ⟨hr6, ar6.rf, (hk1.trans (keeps_set hr6)).from _, (Bc.of hb6 (Or.inl rfl)).trans (Bc.set (Or.inr rfl) _), by rw [Go.Deep.nblk_setCell]; exact Nat.le_trans HSB.out hb6.size, by simp; have := HPL.out; omega, ρ, T5, by simp; have := HPZ.out; omega, ar6.set n4 n3 n1 _, bu_set (HBWB.out.trans hb6) n5 _, hz6⟩
            have HARH : Hid (HasAt W' D.hb A T4) := HARB.out.ha
            clear hbL ar hbw hw1 hw2 hw3 hzz hlen hsx hsi hBx hz1 hz2 hz3 hz4 hwd2 hrl hcl hw5 hw5s hb5 x5 c1
            simp only [List.zip_toArray, List.zip_cons_cons, List.zip_nil_right, List.foldl_toArray', List.foldl_cons, List.foldl_nil, List.size_toArray, List.length_cons, List.length_nil, List.setIfInBounds_toArray, List.set_cons_zero, List.set_cons_succ]
            cases bL
            · gi_wp2_with (refine ⟨trivial, ?_⟩; gi_at_call 118; refine (CallsIn.inRound l' (callsIn_wide.2 KL.out)).mono ?_; rintro e w6 ⟨rfl, b6⟩; obtain ⟨f1, f2, f3⟩ := HF6.out w6 T4 (Bu.of b6.out) (HARH.out.any b6.out) (HLED.out _ rfl); have F3 : Hid _ := f3; clear f3)
              exact F3.out
            · gi_wp2_with (refine ⟨trivial, ?_⟩; gi_at_call 118; refine (CallsIn.inRound l' (callsIn_wide.2 KL.out)).mono ?_; rintro e w6 ⟨rfl, b6⟩)
              have KA : Hid (Calls Tryz.prog 93 #[.pointer (some ⟨D.hb, ρ * 66, none⟩), .int .i64 (i : Int), .int .i64 (j : Int)] w6.drew fun e w'' => e = .returned (.tuple #[]) ∧ Hid (HasAt w'' D.hb A (putS3 T4 ρ i j)) ∧ Hid (Bu D.hb w6.drew w'')) := addSp_any ρ i j ((HARH.out.any b6.out).any (Below.refl _ _).drew) (by omega) (by omega) (by omega)
              have HSS : Hid (∀ w', Bu D.hb w6 w' → Bu D.hb w6 w' ∧ w'.cell? ⟨nb, 0, none⟩ = some (.pointer (some ⟨D.kb, 0, none⟩)) ∧ w'.cell? ⟨D.kb, 0, none⟩ = some (.pointer (some ⟨D.tb, 0, none⟩)) ∧ w'.cell? ⟨D.tb, 3, none⟩ = some (.slice (some ⟨D.hb, 0, none⟩) A A) ∧ w'.cell? ⟨rb, 0, none⟩ = some (.int .i64 ((ρ : Int) + 1)) ∧ w'.cell? ⟨nb + 1, 0, none⟩ = some (.int .i64 (i : Int)) ∧ w'.cell? ⟨nb + 1 + 1, 0, none⟩ = some (.int .i64 (j : Int))) := fun w' hb => by
                have hb6 : Bu D.hb W' w' := (Bu.of b6.out).trans hb
                obtain ⟨z0, z2, z3, z4, z5⟩ := HX0.out w' (HARB.out.bu.trans hb6)
                exact ⟨hb, z0, z4, z5, hb6.cell HCB2.out.1 r0, z2, z3⟩
              have HB6 : Hid (Bu D.hb W' w6) := Bu.of b6.out
              have hρI : (ρ : Int) < (A : Int) := by omega
              have hwρ : IntKind.i64.wrap (ρ : Int) = (ρ : Int) := by rw [IntKind.wrap_i64]; omega
              clear b6 y0 y1 y2 q0 q2 q3 q4 q5 r0
              refine wpIn_region_held_round (S := fun w' => Bu D.hb w6 w' ∧ w'.cell? ⟨nb, 0, none⟩ = some (.pointer (some ⟨D.kb, 0, none⟩)) ∧ w'.cell? ⟨D.kb, 0, none⟩ = some (.pointer (some ⟨D.tb, 0, none⟩)) ∧ w'.cell? ⟨D.tb, 3, none⟩ = some (.slice (some ⟨D.hb, 0, none⟩) A A) ∧ w'.cell? ⟨rb, 0, none⟩ = some (.int .i64 ((ρ : Int) + 1)) ∧ w'.cell? ⟨nb + 1, 0, none⟩ = some (.int .i64 (i : Int)) ∧ w'.cell? ⟨nb + 1 + 1, 0, none⟩ = some (.int .i64 (j : Int))) (by kernel_rfl) (by kernel_rfl) (fun ⟨_, _, h9⟩ => h9) (HSS.out _ (Bu.refl _ _).drew) (fun hHeld => ?_)
              refine wpAnyH_take (i := 0) (oi := _) (v := ?_) rfl (by kernel_rfl) (by kernel_rfl) (by kernel_rfl) (fun _ _ _ h => h) (Or.inl ⟨by rfl, ?_⟩) (by assumption) ?_
              rotate_left
              · intro w' hSw; (try dsimp only at hSw); go_simp; (try with_reducible rfl)
              simp only [Act.put, List.setIfInBounds_toArray, List.set_cons_zero, List.set_cons_succ]
              refine wpAnyH_take (i := 1) (oi := _) (v := ?_) rfl (by kernel_rfl) (by kernel_rfl) (by kernel_rfl) (fun _ _ _ h => h) (Or.inl ⟨by rfl, ?_⟩) (by assumption) ?_
              rotate_left
              · intro w' hSw; (try dsimp only at hSw); go_simp; (try with_reducible rfl)
              simp only [Act.put, List.setIfInBounds_toArray, List.set_cons_zero, List.set_cons_succ]
              refine wpAnyH_take (i := 2) (oi := _) (v := ?_) rfl (by kernel_rfl) (by kernel_rfl) (by kernel_rfl) (fun _ _ _ h => h) (Or.inl ⟨by rfl, ?_⟩) (by assumption) ?_
              rotate_left
              · intro w' hSw; (try dsimp only at hSw); go_simp; (try with_reducible rfl)
              simp only [Act.put, List.setIfInBounds_toArray, List.set_cons_zero, List.set_cons_succ]
              refine wpAnyH_take (i := 3) (oi := _) (v := ?_) rfl (by kernel_rfl) (by kernel_rfl) (by kernel_rfl) (fun _ _ _ h => h) (Or.inl ⟨by rfl, ?_⟩) (by assumption) ?_
              rotate_left
              · intro w' hSw; (try dsimp only at hSw); go_simp; (try with_reducible rfl)
              simp only [Act.put, List.setIfInBounds_toArray, List.set_cons_zero, List.set_cons_succ]
              refine wpAnyH_take (i := 4) (oi := _) (v := ?_) rfl (by kernel_rfl) (by kernel_rfl) (by kernel_rfl) (fun _ _ _ h => h) (Or.inl ⟨by rfl, ?_⟩) (by assumption) ?_
              rotate_left
              · intro w' hSw; (try dsimp only at hSw); go_simp; (try with_reducible rfl)
              simp only [Act.put, List.setIfInBounds_toArray, List.set_cons_zero, List.set_cons_succ]
              refine wpAnyH_take (i := 5) (oi := _) (v := ?_) rfl (by kernel_rfl) (by kernel_rfl) (by kernel_rfl) (fun _ _ _ h => h) (Or.inl ⟨by rfl, ?_⟩) (by assumption) ?_
              rotate_left
              · intro w' hSw; (try dsimp only at hSw); go_simp; (try with_reducible rfl)
              simp only [Act.put, List.setIfInBounds_toArray, List.set_cons_zero, List.set_cons_succ]
              refine wpAnyH_take (i := 6) (oi := _) (v := ?_) rfl (by kernel_rfl) (by kernel_rfl) (by kernel_rfl) (fun _ _ _ h => h) (Or.inl ⟨by rfl, ?_⟩) (by assumption) ?_
              rotate_left
              · intro w' hSw; (try dsimp only at hSw); go_simp; (try with_reducible rfl)
              simp only [Act.put, List.setIfInBounds_toArray, List.set_cons_zero, List.set_cons_succ]
              refine wpAnyH_take (i := 7) (oi := _) (v := ?_) rfl (by kernel_rfl) (by kernel_rfl) (by kernel_rfl) (fun _ _ _ h => h) (Or.inl ⟨by rfl, ?_⟩) (by assumption) ?_
              rotate_left
              · intro w' hSw; (try dsimp only at hSw); go_simp; (try with_reducible rfl)
              simp only [Act.put, List.setIfInBounds_toArray, List.set_cons_zero, List.set_cons_succ]
              refine wpAnyH_take (i := 8) (oi := _) (v := ?_) rfl (by kernel_rfl) (by kernel_rfl) (by kernel_rfl) (fun _ _ _ h => h) (Or.inl ⟨by rfl, ?_⟩) (by assumption) ?_
              rotate_left
              · intro w' hSw; (try dsimp only at hSw); go_simp; (try with_reducible rfl)
              simp only [Act.put, List.setIfInBounds_toArray, List.set_cons_zero, List.set_cons_succ]
              refine wpAnyH_take (i := 9) (oi := _) (v := ?_) rfl (by kernel_rfl) (by kernel_rfl) (by kernel_rfl) (fun _ _ _ h => h) (Or.inl ⟨by rfl, ?_⟩) (by assumption) ?_
              rotate_left
              · intro w' hSw; (try dsimp only at hSw); go_simp; (try with_reducible rfl)
              simp only [Act.put, List.setIfInBounds_toArray, List.set_cons_zero, List.set_cons_succ]
              refine wpAnyH_take (i := 10) (oi := _) (v := ?_) rfl (by kernel_rfl) (by kernel_rfl) (by kernel_rfl) (fun _ _ _ h => h) (Or.inl ⟨by rfl, ?_⟩) (by assumption) ?_
              rotate_left
              · intro w' hSw; (try dsimp only at hSw); go_simp; (try with_reducible rfl)
              simp only [Act.put, List.setIfInBounds_toArray, List.set_cons_zero, List.set_cons_succ]
              refine wpAnyH_take (i := 11) (oi := _) (v := ?_) rfl (by kernel_rfl) (by kernel_rfl) (by kernel_rfl) (fun _ _ _ h => h) (Or.inl ⟨by rfl, ?_⟩) (by assumption) ?_
              rotate_left
              · intro w' hSw; (try dsimp only at hSw); go_simp; (try with_reducible rfl)
              simp only [Act.put, List.setIfInBounds_toArray, List.set_cons_zero, List.set_cons_succ]
              refine wpAnyH_ready (rs := [12]) (by kernel_rfl) (by simp) ?_
              refine AllReadyH.cons rfl (fun K hK => ?_) ?_
              · go_simp
                refine KA.out.mono ?_
                rintro e w3 ⟨rfl, t3, b3⟩
                have HB3 : Hid (Bu D.hb w6 w3) := ((Bu.refl D.hb w6).drew).trans b3.out
                refine hK.out _ _ (HSS.out _ HB3.out) (fun hHeld => ?_)
                clear hK K
                refine wpAnyH_done (by kernel_rfl) ?_ _
                obtain ⟨f1, f2, f3⟩ := HF6.out w3 (putS3 T4 ρ i j) (HB6.out.trans HB3.out) t3.out (HLED.out _ rfl)
                have F3 : Hid _ := f3
                clear f3 t3 b3
                gi_wp2
                exact F3.out
              exact AllReadyH.nil
          case done =>
            rintro D2 xs W' hD2 rfl ⟨hw1, hw2, ζ, T4, hw3, ar, hbw, hzz⟩ hK2
            have HZN : Hid (Z (c + 1) 0 T4) := by
              refine HAZ.out.nx c d T4 HD.out ?_
              rw [← HZL.out] at hzz ⊢
              have := hzz (by rw [dwn_len])
              rw [dwn_len] at this
              exact this
            have HBX : Hid (Bu D.hb X W') := ar.bu
            have HT4 : Hid (HasAt W' D.hb (allN g) T4) := by show HasAt _ _ _ _; rw [← HA.out]; exact ar.ha
            have HM2 : Hid (Marks X.heap.size ({ target := .collected D2, args := #[] } :: ds) W') := by
              refine ⟨⟨D2, rfl, by omega, hK2, fun d' hd' D' e' => ?_⟩, HM.out.keep fun d' hd' D' e' => ?_⟩
              · have := HM.out.lt d' hd' D' e'; omega
              · have h8 := HM.out.lt d' hd' D' e'
                have h9 := (HM.out.ge d' hd' D' e').1
                have h7 := HXS.out
                have h6 := HWB.out
                have h5 := HF.out.hB
                exact hbw.block D' h8 (by omega)
            clear ar hbw hzz hK2 hw1 hw2 hw3 hz1 hz2 hz3 hz4 hwd2 hrl hcl hw5 hw5s hb5 x5 c1 hD2
            go_wp2
            refine ⟨⟨_, _, _, _, _, _, _, _, _, _, _, _, _, _, _, _, _, _, _, _, _, _, _, _, _, _, _, _, _, _, _, _, _, _, _, _, _, _, _, _, _, _, _, _, _, _, _, _, _, _, _, _, _, _, _, _, _, _, _, _, _, _, _, _, _, _, _, ⟨c + 1, T4, by omega, by go_num, HBX, HT4, HZN, HM2⟩, rfl⟩, ?_⟩
            have hms : n - (c + 1) < n - c := by omega
            simpa [intOf] using hms
    · obtain rfl : c = n := by omega
      clear hnm
      go_wp2
      refine leaves_marks (v := .tuple #[]) (fun w9 => results_none rfl _ _ _) ds wr HM.out ?_
      intro w' g1 g2 g3 g4 g5
      have hb9 : ∀ k, k < X.heap.size → w'.heap[k]? = wr.heap[k]? := fun k hk => g5 k (Or.inl hk)
      refine ⟨rfl, T', HT.out.blk (Nat.le_of_eq g4.symm) (hb9 _ ?_), HZ.out, ?_⟩
      · have h7 := HXS.out
        have h6 := HWB.out
        have h5 := HF.out.hB
        omega
      · have h1 := (Bu.of (b := D.hb) HXB.out).trans HB.out
        exact ⟨g1.trans h1.os, g2.trans h1.tape, g3.trans h1.output, by rw [g4]; exact h1.size, fun k hk hkb => (hb9 k (by have := HXS.out; omega)).trans (h1.block k hk hkb)⟩
end Go.Proofs.YtfjejnkjlnkkhaaGreatDoor
