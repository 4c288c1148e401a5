/- FirstsMore, walked. -/
import Derived.Test.YtopokicdgdjgkaaMorP
import Derived.Test.YtopokicdgdjgkaaFirL
namespace Go.Proofs.Ytopokicdgdjgkaa
set_option linter.unusedVariables false
set_option linter.unusedSimpArgs false
open Go.ChangeShapes Go.WideShapes Go.ChangeAt Go.RowKit

theorem Try.infoCnM : (Try.prog.info? 30).map (fun i => (i.zero, i.size, i.bytes)) = some (some (.agg #[.bool false, .slice none 0 0]), 2, 32) := by kernel_rfl
theorem modM_lt (x : Int) (m : Nat) (hm : 0 < m) : ∃ r : Nat, r < m ∧ (IntKind.u64.wrap x).tmod (m : Int) = (r : Int) := by
  have h0 : 0 ≤ IntKind.u64.wrap x := by rw [IntKind.wrap_u64]; omega
  have h1 := Int.emod_nonneg (IntKind.u64.wrap x) (b := (m : Int)) (by omega)
  have h2 := Int.emod_lt_of_pos (IntKind.u64.wrap x) (b := (m : Int)) (by omega)
  rw [Int.tmod_eq_emod_of_nonneg h0]
  exact ⟨((IntKind.u64.wrap x) % (m : Int)).toNat, by omega, by omega⟩
theorem Cp.gvS {w w' : World} {g : Gr} {u1 u2 : Value} (h : Cp w g u1 u2 w') : ∃ (B : World) (F : Nat → Prop) (us : List Value), Below w.heap.size w B ∧ GV B w'.heap.size F g.start g.names u1 g.rules us u2 (w'.alloc (.cells #[.int .i64 g.start, u1, u2] 27)) ∧ Sep (w'.alloc (.cells #[.int .i64 g.start, u1, u2] 27)) B.heap.size F g.rules us := by
  obtain ⟨B, F, us, hb, m0, on, nn, sp⟩ := h
  exact ⟨B, F, us, hb, ⟨m0.keep (bel1 _ _), row_keep on (bel1 _ _), nn, heap_alloc_new _ _, fun hF => by have := (m0.fl _ hF).2; omega, m0.bl.size⟩, sp.stay ⟨le_alloc _ _, fun b hF => heap_alloc_old _ (m0.fl b hF).2⟩⟩
theorem mix_none (a b : Nat → Nat) (w : World) (ha : okB a) (hb : okB b) (h : leB a b) : Calls Try.prog 10 #[.int .i64 2, bv a, bv b] w fun e w' => e = .returned (.agg #[.int .u64 0, .int .u64 0, .int .u64 0, .int .u64 0]) ∧ Below w.heap.size w w' := by
  have k := rmix_min a b w ha hb
  have e : ∀ j, j < 4 → minB a b j = 0 := fun j hj => by
    unfold minB
    have h1 : a j &&& b j = a j := by
      apply Nat.eq_of_testBit_eq
      intro i
      rw [Nat.testBit_and]
      cases hi : (a j).testBit i with
      | false => rfl
      | true => rw [h j hj i hi]; rfl
    rw [h1, Nat.xor_self]
  rw [e 0 (by omega), e 1 (by omega), e 2 (by omega), e 3 (by omega)] at k
  exact k
/-- The argument's blocks, and what is behind them. -/
def BxC (W : World) (s : Int) (v1 v2 : Value) (b : Bool) (cv : Value) (w : World) : Prop := BxF W s v1 v2 w ∧ W.heap.size + 1 < w.heap.size ∧ w.cell? ⟨W.heap.size + 1, 0, none⟩ = some (.bool b) ∧ w.cell? ⟨W.heap.size + 1, 1, none⟩ = some cv
theorem BxC.new (W : World) (s : Int) (v1 v2 : Value) (b : Bool) (cv : Value) : BxC W s v1 v2 b cv ((W.alloc (.cells #[.int .i64 s, v1, v2] 27)).alloc (.cells #[.bool b, cv] 30)) := by
  have hs : W.heap.size + 1 = (W.alloc (.cells #[.int .i64 s, v1, v2] 27)).heap.size := by simp
  refine ⟨(BxF.new W s v1 v2).any (bel1 _ _), by simp, ?_, ?_⟩
  · rw [hs]; exact World.cell?_alloc_at _ _ _ _ rfl
  · rw [hs]; exact World.cell?_alloc_at _ _ _ _ rfl
theorem BxC.any {W : World} {s : Int} {v1 v2 cv : Value} {b : Bool} {w w' : World} (h : BxC W s v1 v2 b cv w) (hb : Below w.heap.size w w') : BxC W s v1 v2 b cv w' :=
  ⟨h.1.any hb, Nat.lt_of_lt_of_le h.2.1 hb.size, (hb.cell (p := ⟨_, _, none⟩) h.2.1).trans h.2.2.1, (hb.cell (p := ⟨_, _, none⟩) h.2.1).trans h.2.2.2⟩
/-- The argument, and the copy with its conjunct more. -/
def Mo (W : World) (hb : Nat) (s : Int) (v1 v2 o1 o2 : Value) (h : Gr) (w : World) : Prop := BxF W s v1 v2 w ∧ hb < w.heap.size ∧ w.cell? ⟨hb, 0, none⟩ = some (.int .i64 s) ∧ w.cell? ⟨hb, 1, none⟩ = some o1 ∧ w.cell? ⟨hb, 2, none⟩ = some o2 ∧ GrIs w Any o1 o2 h
theorem Mo.any {W : World} {hb : Nat} {s : Int} {v1 v2 o1 o2 : Value} {h : Gr} {w w' : World} (m : Mo W hb s v1 v2 o1 o2 h w) (b : Below w.heap.size w w') : Mo W hb s v1 v2 o1 o2 h w' :=
  ⟨m.1.any b, Nat.lt_of_lt_of_le m.2.1 b.size, (b.cell (p := ⟨_, _, none⟩) m.2.1).trans m.2.2.1, (b.cell (p := ⟨_, _, none⟩) m.2.1).trans m.2.2.2.1, (b.cell (p := ⟨_, _, none⟩) m.2.1).trans m.2.2.2.2.1, m.2.2.2.2.2.any b⟩
/-- What is known of the calls: the first is bad; the second alone is bad; none is bad. -/
def MoA (W : World) (s : Int) (v1 v2 : Value) (h : Gr) : Prop :=
  (∀ w, Below W.heap.size W w → Calls Try.prog 11 #[.agg #[.int .i64 s, v1, v2]] w fun e w' => e = .returned (.tuple #[.slice none 0 0, .int .i64 1200]) ∧ Hid (Below w.heap.size w w')) ∧
  (∀ w, Below W.heap.size W w → Calls Try.prog 15 #[.agg #[.int .i64 s, v1, v2]] w fun e w' => e = .returned (.bool false) ∧ Hid (Below w.heap.size w w')) ∧
  ∀ o1 o2 w, GrIs w Any o1 o2 h → Calls Try.prog 11 #[.agg #[.int .i64 s, o1, o2]] w fun e w' => ∃ x y, e = .returned (.tuple #[x, .int .i64 y]) ∧ Hid (Below w.heap.size w w')
def MoB (W : World) (s : Int) (v1 v2 : Value) (h : Gr) : Prop :=
  (∀ w, Below W.heap.size W w → Calls Try.prog 11 #[.agg #[.int .i64 s, v1, v2]] w fun e w' => ∃ x, e = .returned (.tuple #[x, .int .i64 0]) ∧ Hid (Below w.heap.size w w')) ∧
  (∀ w, Below W.heap.size W w → Calls Try.prog 15 #[.agg #[.int .i64 s, v1, v2]] w fun e w' => e = .returned (.bool true) ∧ Hid (Below w.heap.size w w')) ∧
  (∀ o1 o2 w, GrIs w Any o1 o2 h → Calls Try.prog 11 #[.agg #[.int .i64 s, o1, o2]] w fun e w' => e = .returned (.tuple #[.slice none 0 0, .int .i64 1200]) ∧ Hid (Below w.heap.size w w')) ∧
  ∀ o1 o2 w, GrIs w Any o1 o2 h → Calls Try.prog 15 #[.agg #[.int .i64 s, o1, o2]] w fun e w' => e = .returned (.bool false) ∧ Hid (Below w.heap.size w w')
def MoC1 (n : Nat) (g : Gr) (s : Int) (v1 v2 : Value) (w : World) : Prop :=
  (Calls Try.prog 11 #[.agg #[.int .i64 s, v1, v2]] w fun e w' => ∃ eb E, e = .returned (.tuple #[.slice (some ⟨eb, 0, none⟩) n n, .int .i64 0]) ∧ Hid (BlAt w' eb n E) ∧ Hid (EmpOk g.rules E) ∧ Hid (Below w.heap.size w w')) ∧
  (Calls Try.prog 12 #[.agg #[.int .i64 s, v1, v2]] w fun e w' => ∃ bb E B, e = .returned (.tuple #[.slice (some ⟨bb, 0, none⟩) n n, .int .i64 0]) ∧ Hid (ByAt w' bb n B) ∧ Hid (FstOk g E B) ∧ Hid (Below w.heap.size w w')) ∧
  Calls Try.prog 13 #[.agg #[.int .i64 s, v1, v2]] w fun e w' => ∃ fb E B D, e = .returned (.tuple #[.slice (some ⟨fb, 0, none⟩) n n, .int .i64 0]) ∧ Hid (FoAt w' fb n D) ∧ Hid (FstOk g E B) ∧ Hid (okF D ∧ ClosF g E B D ∧ LeastF g E B D) ∧ Hid (Below w.heap.size w w')
def MoC (W : World) (n : Nat) (g : Gr) (s : Int) (v1 v2 : Value) (h : Gr) : Prop := n ≤ 64 ∧
  (∀ w, Below W.heap.size W w → MoC1 n g s v1 v2 w) ∧ ∀ o1 o2 w, GrIs w Any o1 o2 h → MoC1 n h s o1 o2 w
set_option maxHeartbeats 40000000 in
set_option maxRecDepth 100000 in
theorem firstsMore_core (W : World) (g : Gr) (c : Cn) (v1 v2 cv : Value) (ru : Int) (n : Nat) (hnl : n = g.names.length) (k1 : Option Addr × Nat) (k2 k3 : Option Addr × Nat × Nat) (e1 : v1 = .slice k1.1 n k1.2) (e2 : v2 = .slice k2.1 k2.2.1 k2.2.2) (e3 : cv = .slice k3.1 k3.2.1 k3.2.2) (hcs : IsSys W Any cv c.seq)
    (hrl : g.rules.length * 32 ≤ reachBytes) (hcl : ∀ r, r ∈ g.rules → r.conj.length * 32 ≤ reachBytes)
    (KC0 : ∀ w, Below W.heap.size W w → Calls Try.prog 16 #[.agg #[.int .i64 g.start, v1, v2]] w fun e w' => ∃ u1 u2, e = .returned (.agg #[.int .i64 g.start, u1, u2]) ∧ Hid (Below w.heap.size w w') ∧ Hid (Cp w g u1 u2 w'))
    (KH0 : ∀ k r, g.rules[k]? = some r → MoA W g.start v1 v2 (moreG g k r c) ∨ MoB W g.start v1 v2 (moreG g k r c) ∨ MoC W n g g.start v1 v2 (moreG g k r c)) :
    Calls Try.prog 6 #[.agg #[.int .i64 g.start, v1, v2], .int .i64 ru, .agg #[.bool c.neg, cv]] W fun e W' => e = .returned (.bool true) ∧ Below W.heap.size W W' := by
  have HX1 : Hid (BxC W g.start v1 v2 c.neg cv ((W.alloc (.cells #[.int .i64 g.start, v1, v2] 27)).alloc (.cells #[.bool c.neg, cv] 30))) := BxC.new _ _ _ _ _ _
  have KC := hid_ofF KC0
  have KH := hid_ofF KH0
  have HCL := hid_ofF hcl
  have HNL := hid_ofF hnl
  have HCS := hid_ofF hcs
  obtain ⟨neg, hneg⟩ : ∃ b, b = c.neg := ⟨_, rfl⟩
  have HNEG : Hid (neg = c.neg) := hneg
  rw [← hneg] at HX1 ⊢
  subst e1 e2 e3
  clear KC0 KH0 hcl hnl hcs hneg
  go_enter Try.func6, Try.ntmps6
  go_upto_region 4 with (first
    | (go_at_call 7; refine (awake12_any _).mono ?_; rintro e wa ⟨rfl, ba⟩; have XA : Hid (BxC _ _ _ _ _ _ wa) := HX1.out.any ba.out; obtain ⟨-, z1, c0, c1, c2⟩ := XA.out.1)
    | (go_at_call 16; refine (KC.out _ XA.out.1.1).mono ?_; rintro e wc ⟨u1, u2, rfl, bc, CP⟩; obtain ⟨B, F, us, hBb, GV0, SP0⟩ := CP.out.gvS; obtain ⟨q1, m1, hu1⟩ := row_slice GV0.on; obtain ⟨q2, d2, hu2⟩ := row_slice GV0.m0.oo; rw [← HNL.out] at hu1; subst hu1 hu2; have HGV0 : Hid _ := hid_ofF GV0; have HSP0 : Hid _ := hid_ofF SP0; clear GV0 SP0 z1 c0 c1 c2))
  obtain ⟨Y, hY⟩ : ∃ Y, Y = wc.alloc (.cells #[.int .i64 g.start, .slice q1 n m1, .slice q2 g.rules.length d2] 27) := ⟨_, rfl⟩
  rw [← hY] at HGV0 HSP0 ⊢
  have f0 : Y.cell? ⟨wc.heap.size, 0, none⟩ = some (.int .i64 g.start) := Lib.cell_of_heap HGV0.out.vb 0
  have f1 : Y.cell? ⟨wc.heap.size, 1, none⟩ = some (.slice q1 n m1) := Lib.cell_of_heap HGV0.out.vb 1
  have f2 : Y.cell? ⟨wc.heap.size, 2, none⟩ = some (.slice q2 g.rules.length d2) := Lib.cell_of_heap HGV0.out.vb 2
  have HBY : Hid (Below wa.heap.size wa Y) := hBb.trans (HGV0.out.m0.bl.mono hBb.size)
  obtain ⟨hb, hhb⟩ : ∃ b, b = wc.heap.size := ⟨_, rfl⟩
  rw [← hhb] at f0 f1 f2 HGV0 ⊢
  have HWB : Hid (Below wa.heap.size wa B) := hBb
  obtain ⟨M, hM⟩ : ∃ M, M = g.rules.length := ⟨_, rfl⟩
  have HM := hid_ofF hM
  rw [← hM] at f2 hrl ⊢
  clear hY hhb CP hBb bc HX1 ba KC hM
  have hM9 : M ≤ 9223372036854775807 := by unfold reachBytes at hrl; omega
  by_cases hM0 : M = 0
  · --SA
    subst hM0
    have HW9 : Hid (Below W.heap.size W Y) := XA.out.1.1.trans (HBY.out.mono XA.out.1.1.size)
    go_wp2
    go_ret
    exact ⟨rfl, HW9.out⟩
  · have hMb : ((M : Int) == 0) = false := by rw [beq_eq_false_iff_ne]; omega
    obtain ⟨k, hk, ek⟩ := modM_lt ru M (by omega)
    have ew : IntKind.u64.wrap (M : Int) = (M : Int) := by rw [IntKind.wrap_u64]; omega
    have ew0 : ¬ ((M : Int) = 0) := by omega
    have wk : IntKind.i64.wrap (k : Int) = (k : Int) := by rw [IntKind.wrap_i64]; omega
    have hkM : (k : Int) < (M : Int) := by omega
    have oo := HGV0.out.m0.oo
    obtain ⟨gr, hgr⟩ : ∃ gr, q2 = some ⟨gr, 0, none⟩ := by
      obtain ⟨_, ⟨h1, h2⟩ | ⟨gr, co, cur, h1, h2, h3, h4⟩⟩ := id oo
      · rw [← HM.out] at h2; omega
      · injection h1 with h1; exact ⟨gr, h1⟩
    subst hgr
    obtain ⟨r, hr⟩ : ∃ r, g.rules[k]? = some r := ⟨_, List.getElem?_eq_getElem (by rw [← HM.out]; exact hk)⟩
    obtain ⟨pc, hpc⟩ : ∃ u, us[k]? = some u := ⟨_, List.getElem?_eq_getElem (by rw [HGV0.out.m0.ri.1, ← HM.out]; exact hk)⟩
    obtain ⟨G, vs, s1, s2, s3, s4, s5⟩ := HSP0.out k r pc hr hpc
    obtain ⟨pp, cc, hpe⟩ := row_slice s1
    obtain ⟨q, hq⟩ : ∃ q, q = r.conj.length := ⟨_, rfl⟩
    rw [← hq] at hpe
    subst hpe
    have HQ : Hid (q = r.conj.length) := hq
    have hq32 := HCL.out r (List.mem_of_getElem? hr)
    rw [← hq] at hq32 s1
    have a1 : Y.cell? ⟨gr, k * 2 + 1, none⟩ = some (.slice pp q cc) := by
      obtain ⟨_, h9⟩ := rusV_at g.rules us k r _ hr hpc
      have h8 := oo.cellAt (k * 2 + 1) (by rw [← HM.out]; omega)
      exact h8.trans h9
    have a2 : Y.frozen? ⟨gr, k * 2 + 1, none⟩ = false := by
      obtain ⟨_, ⟨h1, h2⟩ | ⟨gr', co, cur, h1, h2, h3, h4⟩⟩ := id oo
      · rw [← HM.out] at h2; omega
      · injection h1 with h1
        injection h1 with h1
        injection h1 with h1
        subst h1
        simp [World.frozen?, h3]
    have hgl : gr < Y.heap.size := (oo.lt gr rfl).2
    have hhl : hb < Y.heap.size := block_lt HGV0.out.vb
    have NG : Hid ((Value.slice pp q cc).ownBlock ≠ some gr) := fun e => row_apart s1 oo (by decide) gr e rfl
    have NH : Hid ((Value.slice pp q cc).ownBlock ≠ some hb) := row_no s1 (by decide) HGV0.out.vb
    have XY : Hid (BxC _ _ _ _ _ _ Y) := XA.out.any HBY.out
    obtain ⟨-, z1, b0, b1⟩ := XY.out
    obtain ⟨Z, hZ⟩ : ∃ Z, Z = Y.alloc (.cells #[.bool neg, .slice k3.1 k3.2.1 k3.2.2] 30) := ⟨_, rfl⟩
    have g1 : Z.cell? ⟨gr, k * 2 + 1, none⟩ = some (.slice pp q cc) := by rw [hZ]; exact (World.cell?_alloc_past _ _ _ hgl).trans a1
    have g2 : Z.cell? ⟨hb, 2, none⟩ = some (.slice (some ⟨gr, 0, none⟩) M d2) := by rw [hZ]; exact (World.cell?_alloc_past _ _ _ hhl).trans f2
    have HZF : Hid (Z.frozen? ⟨gr, k * 2 + 1, none⟩ = false) := by show _ = _; rw [hZ]; exact (World.frozen?_alloc_past _ _ _ hgl).trans a2
    obtain ⟨iy, hy0, hy1, hy2, hy3⟩ := info_parts Try.infoCnM
    have HI : Hid (Try.prog.info? 30 = some iy ∧ iy.zero = some (.agg #[.bool false, .slice none 0 0]) ∧ iy.size = 2 ∧ iy.bytes = 32) := ⟨hy0, hy1, hy2, hy3⟩
    have MX : Hid (q + 1 ≤ maxLen) := by show _ ≤ _; unfold maxLen; unfold reachBytes at hq32; omega
    have BY : Hid ((q + 1) * 32 ≤ 140737488355328) := by show _ ≤ _; unfold reachBytes at hq32; omega
    have S1 : Hid (Y.ownsRow B.heap.size 30 2 (.slice pp q cc) q (cnsV r.conj vs)) := s1
    have S2 := hid_ofF s2
    have S3 := hid_ofF s3
    have S4 := hid_ofF s4
    have S5 := hid_ofF s5
    have HRK := hid_ofF hr
    have HPC := hid_ofF hpc
    have hBY : B.heap.size ≤ Y.heap.size := HGV0.out.m0.bl.size
    have BZ : Hid (Below Y.heap.size Y Z) := by show Below _ _ _; rw [hZ]; exact bel1 _ _
    have hZs : Z.heap.size = Y.heap.size + 1 := by rw [hZ]; simp
    have GRB : Hid (B.heap.size ≤ gr) := (oo.lt gr rfl).1
    have HGB : Hid (gr ≠ hb) := fun e => row_no oo (by decide) HGV0.out.vb (by rw [← e]; rfl)
    have NVG : Hid ((Value.slice q1 n m1).ownBlock ≠ some gr) := fun e => row_apart HGV0.out.on oo (by decide) gr e rfl
    have NVP : Hid (∀ w2, (Y.alloc (.cells #[.bool neg, .slice k3.1 k3.2.1 k3.2.2] 30)).grownBy w2 (Value.slice pp q cc).ownBlock → w2.ownsRow B.heap.size 9 1 (.slice q1 n m1) g.names.length (txV g.names)) := fun w2 hg => row_grown (row_keep HGV0.out.on (bel1 _ _)) (row_keep s1 (bel1 _ _)) (by decide) hg
    clear s1 s2 s3 s4 s5 hr hpc oo hq hy0 hy1 hy2 hy3 a2
    go_upto_region 7 with fail
    rw [hZ] at g1 g2
    have d1 : (Y.alloc (.cells #[.bool neg, .slice k3.1 k3.2.1 k3.2.2] 30)).frozen? ⟨gr, k * 2 + 1, none⟩ = false := hZ ▸ HZF.out
    clear hZ BZ hZs HZF XY
    have HFIN : Hid (∀ (gg cap1 : Nat) (w2 : World), (Y.alloc (.cells #[.bool neg, .slice k3.1 k3.2.1 k3.2.2] 30)).grownBy w2 (Value.slice pp q cc).ownBlock → w2.ownsRow B.heap.size 30 2 (.slice (some ⟨gg, 0, none⟩) (q + 1) cap1) (q + 1) (cnsV r.conj vs ++ [.bool neg, .slice k3.1 k3.2.1 k3.2.2]) → Mo W hb g.start (.slice k1.1 n k1.2) (.slice k2.1 k2.2.1 k2.2.2) (.slice q1 n m1) (.slice (some ⟨gr, 0, none⟩) M d2) (moreG g k r c) (w2.setCell ⟨gr, k * 2 + 1, none⟩ (.slice (some ⟨gg, 0, none⟩) (q + 1) cap1))) := by
      intro gg cap1 w2 hgrow hown1
      have HB3 : Hid (Below wa.heap.size wa (w2.setCell ⟨gr, k * 2 + 1, none⟩ (.slice (some ⟨gg, 0, none⟩) (q + 1) cap1))) := by
        have h9 : Below B.heap.size B (w2.setCell ⟨gr, k * 2 + 1, none⟩ (.slice (some ⟨gg, 0, none⟩) (q + 1) cap1)) := ((HGV0.out.m0.bl.trans ((bel1 Y _).mono hBY)).grown hgrow (Nat.le_trans hBY (le_alloc _ _)) (fun b e => (S1.out.lt b e).1)).setCell (p := ⟨gr, k * 2 + 1, none⟩) GRB.out _
        exact HWB.out.trans (h9.mono HWB.out.size)
      have FIN : Hid (Mo W hb g.start (.slice k1.1 n k1.2) (.slice k2.1 k2.2.1 k2.2.2) (.slice q1 n m1) (.slice (some ⟨gr, 0, none⟩) M d2) (moreG g k r c) (w2.setCell ⟨gr, k * 2 + 1, none⟩ (.slice (some ⟨gg, 0, none⟩) (q + 1) cap1))) := by
        have hcell : ∀ j v, Y.cell? ⟨hb, j, none⟩ = some v → (w2.setCell ⟨gr, k * 2 + 1, none⟩ (.slice (some ⟨gg, 0, none⟩) (q + 1) cap1)).cell? ⟨hb, j, none⟩ = some v := fun j v h =>
          (World.cell?_setCell_far w2 ⟨gr, k * 2 + 1, none⟩ ⟨hb, j, none⟩ _ HGB.out).trans ((hgrow.cell_far ⟨hb, j, none⟩ (by simp; omega) (Ne.symm NH.out)).trans ((World.cell?_alloc_past _ _ _ hhl).trans h))
        have hWa := XA.out.1.1
        refine ⟨(XA.out.any HB3.out).1, ?_, hcell 0 _ f0, hcell 1 _ f1, hcell 2 _ f2, Reads.of (ownsRow_setCell_other (a := ⟨gr, k * 2 + 1, none⟩) (NVP.out w2 hgrow) NVG.out _) (fun _ _ => trivial), ?_⟩
        · show hb < (World.setCell _ _ _).heap.size
          have h8 := hgrow.size
          simp [World.setCell] at h8 ⊢; omega
        · have hcs2 : IsSys Y (fun b => b < W.heap.size) (.slice k3.1 k3.2.1 k3.2.2) c.seq := by
            have h7 : IsSys W (fun b => b < W.heap.size) (.slice k3.1 k3.2.1 k3.2.2) c.seq := Reads.low HCS.out (fun b _ h => h)
            exact h7.any (hWa.trans (HBY.out.mono hWa.size))
          have h6 := more_rus (k := k) (q := q) (c := c) (w2 := w2) (X := Y.alloc (.cells #[.bool neg, .slice k3.1 k3.2.1 k3.2.2] 30)) (gg := gg) (cap := cap1) HGV0.out.m0 (by rw [← HQ.out]; exact S1.out) S2.out S3.out S4.out S5.out HRK.out HPC.out rfl (bel1 _ _) hgrow HQ.out.symm rfl (by rw [← HNEG.out]; exact hown1) hcs2 (fun b h => Nat.lt_of_lt_of_le h (Nat.le_trans hWa.size HWB.out.size))
          rw [HM.out]
          exact h6
      exact FIN.out
    clear f0 f1 NVP NVG HGB GRB S2 S3 S4 S5 HPC HSP0 HCS HNEG HWB HBY HQ
    go_cut [] from 23 (fun wc => Hid (Mo W hb g.start (.slice k1.1 n k1.2) (.slice k2.1 k2.2.1 k2.2.2) (.slice q1 n m1) (.slice (some ⟨gr, 0, none⟩) M d2) (moreG g k r c) wc))
    case first =>
      go_region_law (first | (refine step_append_lies _ (by rfl) _ _ _ (by rfl) B.heap.size 30 iy _ 2 32 Try.underlying31 HI.out.1 HI.out.2.1 HI.out.2.2.1 HI.out.2.2.2 rfl (by omega) (.slice pp q cc) q (cnsV r.conj vs) (by rfl) (S1.out.alloc _) ⟨Y.heap.size, 0, none⟩ 1 1 [.bool neg, .slice k3.1 k3.2.1 k3.2.2] (by rfl) (by rfl) (World.news_of_block (cs := #[.bool neg, .slice k3.1 k3.2.1 k3.2.2]) (t := 30) (fr := (0, 0)) (heap_alloc_new Y _)) (by simp [Value.oneCell']) (by omega) MX.out BY.out (Nat.le_trans hBY (le_alloc _ _)) (Y.heap.size + 1) (by simp) ?_; intro gg cap1 w2 hown1 hgrow hat hltg; have x1 : w2.cell? ⟨hb, 2, none⟩ = some (.slice (some ⟨gr, 0, none⟩) M d2) := (hgrow.cell_far ⟨hb, 2, none⟩ (by simp; omega) (Ne.symm NH.out)).trans g2; have y1 : w2.frozen? ⟨gr, k * 2 + 1, none⟩ = false := (hgrow.frozen_far ⟨gr, k * 2 + 1, none⟩ (by simp; omega) (Ne.symm NG.out)).trans d1; have x2 : w2.cell? ⟨gr, k * 2 + 1, none⟩ = some (.slice pp q cc) := (hgrow.cell_far ⟨gr, k * 2 + 1, none⟩ (by simp; omega) (Ne.symm NG.out)).trans g1))
      all_goals
        have FIN := HFIN.out gg cap1 w2 ⟨hgrow.os, hgrow.tape, hgrow.output, hgrow.size, hgrow.block⟩ hown1
        clear hgrow hown1 hat x1 y1 x2
        go_wp2
        go_meet
        case rel => exact FIN
    case rest =>
      obtain ⟨V, hV⟩ : ∃ V, V = wc := ⟨_, rfl⟩
      subst hV
      have M0 : Hid (Mo W hb g.start (.slice k1.1 n k1.2) (.slice k2.1 k2.2.1 k2.2.2) (.slice q1 n m1) (.slice (some ⟨gr, 0, none⟩) M d2) (moreG g k r c) V) := hcut
      have KK := KH.out k r HRK.out
      clear hcut HFIN g1 g2 d1 z1 b0 b1 f2 a1 NG NH HI MX BY S1 HGV0 hq32 hgl hhl ek ew ew0 wk hkM hMb HCL XA KH hM0 hk hM9
      obtain ⟨⟨-, z1, c0, c1, c2⟩, z2, t0, t1, t2, -⟩ := M0.out
      rcases KK with ⟨A1, A2, A3⟩ | ⟨B1, B2, B3, B4⟩ | ⟨hn64, C1, C2⟩
      · --SB
        go_wp2_with (first
          | (go_at_call 14; refine (num_any _ _).mono ?_; rintro e wn ⟨rfl, rfl⟩)
          | (go_at_call 15; refine (A2 _ M2.out.1.1).mono ?_; rintro e w3 ⟨rfl, b3⟩; have M3 : Hid (Mo _ _ _ _ _ _ _ _ w3) := M2.out.any b3.out; clear z1 c0 c1 c2 z2 t0 t1 t2)
          | (go_at_call 11; refine (A3 _ _ _ M1.out.2.2.2.2.2).mono ?_; rintro e w2 ⟨x, y, rfl, b2⟩; have M2 : Hid (Mo _ _ _ _ _ _ _ _ w2) := M1.out.any b2.out; clear z1 c0 c1 c2 z2 t0 t1 t2; obtain ⟨⟨-, z1, c0, c1, c2⟩, z2, t0, t1, t2, -⟩ := M2.out)
          | (go_at_call 11; refine (A1 _ M0.out.1.1).mono ?_; rintro e w1 ⟨rfl, b1⟩; have M1 : Hid (Mo _ _ _ _ _ _ _ _ w1) := M0.out.any b1.out; clear z1 c0 c1 c2 z2 t0 t1 t2; obtain ⟨⟨-, z1, c0, c1, c2⟩, z2, t0, t1, t2, -⟩ := M1.out))
        go_ret
        exact ⟨rfl, M3.out.1.1⟩
      · --SC
        go_wp2_with (first
          | (go_at_call 14; refine (num_any _ _).mono ?_; rintro e wn ⟨rfl, rfl⟩)
          | (go_at_call 15; refine (B4 _ _ _ M3.out.2.2.2.2.2).mono ?_; rintro e w4 ⟨rfl, b4⟩; have M4 : Hid (Mo _ _ _ _ _ _ _ _ w4) := M3.out.any b4.out; clear z1 c0 c1 c2 z2 t0 t1 t2)
          | (go_at_call 15; refine (B2 _ M2.out.1.1).mono ?_; rintro e w3 ⟨rfl, b3⟩; have M3 : Hid (Mo _ _ _ _ _ _ _ _ w3) := M2.out.any b3.out; clear z1 c0 c1 c2 z2 t0 t1 t2; obtain ⟨⟨-, z1, c0, c1, c2⟩, z2, t0, t1, t2, -⟩ := M3.out)
          | (go_at_call 11; refine (B3 _ _ _ M1.out.2.2.2.2.2).mono ?_; rintro e w2 ⟨rfl, b2⟩; have M2 : Hid (Mo _ _ _ _ _ _ _ _ w2) := M1.out.any b2.out; clear z1 c0 c1 c2 z2 t0 t1 t2; obtain ⟨⟨-, z1, c0, c1, c2⟩, z2, t0, t1, t2, -⟩ := M2.out)
          | (go_at_call 11; refine (B1 _ M0.out.1.1).mono ?_; rintro e w1 ⟨x, rfl, b1⟩; have M1 : Hid (Mo _ _ _ _ _ _ _ _ w1) := M0.out.any b1.out; clear z1 c0 c1 c2 z2 t0 t1 t2; obtain ⟨⟨-, z1, c0, c1, c2⟩, z2, t0, t1, t2, -⟩ := M1.out))
        go_ret
        exact ⟨rfl, M4.out.1.1⟩
      · as_aux_lemma =>
          go_upto_region 19 with (first
            | (go_at_call 14; refine (num_any _ _).mono ?_; rintro e wn ⟨rfl, rfl⟩)
            | (go_at_call 13; refine ((C2 _ _ _ M5.out.2.2.2.2.2).2.2).mono ?_; rintro e w6 ⟨fb, E6, P6, D', rfl, i6, j6, l6, b6⟩; have M6 : Hid (Mo _ _ _ _ _ _ _ _ w6) := M5.out.any b6.out; clear z1 c0 c1 c2 z2 t0 t1 t2; obtain ⟨⟨-, z1, c0, c1, c2⟩, z2, t0, t1, t2, -⟩ := M6.out)
            | (go_at_call 13; refine ((C1 _ M4.out.1.1).2.2).mono ?_; rintro e w5 ⟨fa, E5, P5, D, rfl, i5, j5, l5, b5⟩; have M5 : Hid (Mo _ _ _ _ _ _ _ _ w5) := M4.out.any b5.out; clear z1 c0 c1 c2 z2 t0 t1 t2; obtain ⟨⟨-, z1, c0, c1, c2⟩, z2, t0, t1, t2, -⟩ := M5.out)
            | (go_at_call 12; refine ((C2 _ _ _ M3.out.2.2.2.2.2).2.1).mono ?_; rintro e w4 ⟨ba, E4, P', rfl, i4, j4, b4⟩; have M4 : Hid (Mo _ _ _ _ _ _ _ _ w4) := M3.out.any b4.out; clear z1 c0 c1 c2 z2 t0 t1 t2; obtain ⟨⟨-, z1, c0, c1, c2⟩, z2, t0, t1, t2, -⟩ := M4.out)
            | (go_at_call 12; refine ((C1 _ M2.out.1.1).2.1).mono ?_; rintro e w3 ⟨aa, E3, P, rfl, i3, j3, b3⟩; have M3 : Hid (Mo _ _ _ _ _ _ _ _ w3) := M2.out.any b3.out; clear z1 c0 c1 c2 z2 t0 t1 t2; obtain ⟨⟨-, z1, c0, c1, c2⟩, z2, t0, t1, t2, -⟩ := M3.out)
            | (go_at_call 11; refine ((C2 _ _ _ M1.out.2.2.2.2.2).1).mono ?_; rintro e w2 ⟨eb, E', rfl, i2, j2, b2⟩; have M2 : Hid (Mo _ _ _ _ _ _ _ _ w2) := M1.out.any b2.out; clear z1 c0 c1 c2 z2 t0 t1 t2; obtain ⟨⟨-, z1, c0, c1, c2⟩, z2, t0, t1, t2, -⟩ := M2.out)
            | (go_at_call 11; refine ((C1 _ M0.out.1.1).1).mono ?_; rintro e w1 ⟨ea, E, rfl, i1, j1, b1⟩; have M1 : Hid (Mo _ _ _ _ _ _ _ _ w1) := M0.out.any b1.out; clear z1 c0 c1 c2 z2 t0 t1 t2; obtain ⟨⟨-, z1, c0, c1, c2⟩, z2, t0, t1, t2, -⟩ := M1.out))
          have B56 : Below w5.heap.size w5 w6 := b6.out
          have B46 : Below w4.heap.size w4 w6 := b5.out.trans (B56.mono b5.out.size)
          have B36 : Below w3.heap.size w3 w6 := b4.out.trans (B46.mono b4.out.size)
          have B26 : Below w2.heap.size w2 w6 := b3.out.trans (B36.mono b3.out.size)
          have B16 : Below w1.heap.size w1 w6 := b2.out.trans (B26.mono b2.out.size)
          have a1 : BlAt w6 ea n E := i1.out.keep B16
          have a2 : BlAt w6 eb n E' := i2.out.keep B26
          have a3 : ByAt w6 aa n P := (B36.block _ (block_lt i3.out)).trans i3.out
          have a4 : ByAt w6 ba n P' := (B46.block _ (block_lt i4.out)).trans i4.out
          have a5 : FoAt w6 fa n D := (B56.block _ (block_lt i5.out)).trans i5.out
          have a6 : FoAt w6 fb n D' := i6.out
          have HCE : Hid (∀ w', Below w6.heap.size w6 w' → ∀ i, i < n → w'.cell? ⟨ea, i, none⟩ = some (.bool (E i)) ∧ w'.cell? ⟨eb, i, none⟩ = some (.bool (E' i)) ∧ (∀ j, j < 4 → w'.cell? ⟨aa, i * 4 + j, none⟩ = some (.int .u64 ((P i j : Nat) : Int))) ∧ (∀ j, j < 4 → w'.cell? ⟨ba, i * 4 + j, none⟩ = some (.int .u64 ((P' i j : Nat) : Int))) ∧ (∀ j, j < 5 → w'.cell? ⟨fa, i * 5 + j, none⟩ = some (foV (D i) j)) ∧ ∀ j, j < 5 → w'.cell? ⟨fb, i * 5 + j, none⟩ = some (foV (D' i) j)) := fun w' h i hi =>
            ⟨(a1.keep h).cell hi, (a2.keep h).cell hi, fun j hj => ByAt.cell (w := w') ((h.block _ (block_lt a3)).trans a3) hi hj, fun j hj => ByAt.cell (w := w') ((h.block _ (block_lt a4)).trans a4) hi hj, fun j hj => FoAt.cell (w := w') ((h.block _ (block_lt a5)).trans a5) hi hj, fun j hj => FoAt.cell (w := w') ((h.block _ (block_lt a6)).trans a6) hi hj⟩
          have HLE : Hid (∀ i, (E i = true → E' i = true) ∧ leB (P i) (P' i) ∧ leF (D i) (D' i) ∧ okB (P i) ∧ okB (P' i) ∧ okB (D i).1 ∧ okB (D' i).1) := fun i => ⟨more_emp HRK.out j1.out j2.out i, more_fst HRK.out j3.out j4.out i, more_fol HRK.out j5.out j6.out l5.out.2.2 l6.out.2.1 i, j3.out.ok i, j4.out.ok i, l5.out.1 i, l6.out.1 i⟩
          have HW6 : Hid (Below W.heap.size W w6) := M6.out.1.1
          have hq2 : ∀ w, (Op.equalIn 10000 39 (.agg #[.int .u64 0, .int .u64 0, .int .u64 0, .int .u64 0]) (.agg #[.int .u64 0, .int .u64 0, .int .u64 0, .int .u64 0])).run Try.prog w = .ok true w := fun w => by rw [Try.eqBytes]; rfl
          clear B56 B46 B36 B26 B16 a1 a2 a3 a4 a5 a6 i1 i2 i3 i4 i5 i6 j1 j2 j3 j4 j5 j6 l5 l6 b1 b2 b3 b4 b5 b6 M0 M1 M2 M3 M4 M5 M6 C1 C2 HRK z1 c0 c1 c2 z2 t0 t1 t2
          go_wp2
          go_loopw [22] (fun x wr => ∃ i : Nat, i ≤ n ∧ x = .int .i64 (i : Int) ∧ Hid (Below w6.heap.size w6 wr)) (fun x _ => n - (intOf x).toNat)
          case atStart => exact ⟨0, Nat.zero_le _, rfl, Below.refl _ _⟩
          case round =>
            obtain ⟨i, hi, rfl, HB⟩ := hrel
            obtain ⟨V4, hV4⟩ : ∃ x, x = wr := ⟨_, rfl⟩
            subst hV4
            by_cases hlt : i < n
            · have hltI : (i : Int) < (n : Int) := by omega
              have hltD : decide ((i : Int) < (n : Int)) = true := decide_eq_true hltI
              obtain ⟨q0, q1', q2', q3', q4', q5'⟩ := HCE.out V4 HB.out i hlt
              obtain ⟨e1', e2', e3', e4', e5', e6', e7'⟩ := HLE.out i
              obtain ⟨x, hx⟩ : ∃ x, x = E i := ⟨_, rfl⟩
              obtain ⟨y, hy⟩ : ∃ x, x = E' i := ⟨_, rfl⟩
              obtain ⟨a, ha⟩ : ∃ x, x = P i := ⟨_, rfl⟩
              obtain ⟨b, hbb⟩ : ∃ x, x = P' i := ⟨_, rfl⟩
              obtain ⟨u, hu⟩ : ∃ x, x = D i := ⟨_, rfl⟩
              obtain ⟨v, hv⟩ : ∃ x, x = D' i := ⟨_, rfl⟩
              rw [← hx] at q0 e1'
              rw [← hy] at q1' e1'
              rw [← ha] at q2' e2' e4'
              rw [← hbb] at q3' e2' e5'
              rw [← hu] at q4' e3' e6'
              rw [← hv] at q5' e3' e7'
              clear hx hy ha hbb hu hv
              obtain ⟨ua, ue⟩ := u
              obtain ⟨va, ve⟩ := v
              have K1 : Hid (∀ w, Below V4.heap.size V4 w → Calls Try.prog 10 #[.int .i64 2, bv a, bv b] w fun e w' => e = .returned (.agg #[.int .u64 0, .int .u64 0, .int .u64 0, .int .u64 0]) ∧ Below V4.heap.size V4 w') := fun w h => (mix_none a b w e4' e5' e2').mono fun e w' h2 => ⟨h2.1, h.trans (h2.2.mono h.size)⟩
              have K2 : Hid (∀ w, Below V4.heap.size V4 w → Calls Try.prog 10 #[.int .i64 2, bv ua, bv va] w fun e w' => e = .returned (.agg #[.int .u64 0, .int .u64 0, .int .u64 0, .int .u64 0]) ∧ Below V4.heap.size V4 w') := fun w h => (mix_none ua va w e6' e7' e3'.1).mono fun e w' h2 => ⟨h2.1, h.trans (h2.2.mono h.size)⟩
              have hx : x = false ∨ (x = true ∧ y = true) := by cases x with
                | false => exact Or.inl rfl
                | true => exact Or.inr ⟨rfl, e1' rfl⟩
              have hp : ue = false ∨ (ue = true ∧ ve = true) := by cases ue with
                | false => exact Or.inl rfl
                | true => exact Or.inr ⟨rfl, e3'.2 rfl⟩
              have D0 : V4.cell? ⟨aa, i * 4, none⟩ = some (.int .u64 ((a 0 : Nat) : Int)) := q2' 0 (by omega)
              have D1 : V4.cell? ⟨aa, i * 4 + 1, none⟩ = some (.int .u64 ((a 1 : Nat) : Int)) := q2' 1 (by omega)
              have D2 : V4.cell? ⟨aa, i * 4 + 2, none⟩ = some (.int .u64 ((a 2 : Nat) : Int)) := q2' 2 (by omega)
              have D3 : V4.cell? ⟨aa, i * 4 + 3, none⟩ = some (.int .u64 ((a 3 : Nat) : Int)) := q2' 3 (by omega)
              have D4 : V4.cell? ⟨ba, i * 4, none⟩ = some (.int .u64 ((b 0 : Nat) : Int)) := q3' 0 (by omega)
              have D5 : V4.cell? ⟨ba, i * 4 + 1, none⟩ = some (.int .u64 ((b 1 : Nat) : Int)) := q3' 1 (by omega)
              have D6 : V4.cell? ⟨ba, i * 4 + 2, none⟩ = some (.int .u64 ((b 2 : Nat) : Int)) := q3' 2 (by omega)
              have D7 : V4.cell? ⟨ba, i * 4 + 3, none⟩ = some (.int .u64 ((b 3 : Nat) : Int)) := q3' 3 (by omega)
              have N0 : V4.cell? ⟨fa, i * 5, none⟩ = some (.int .u64 ((ua 0 : Nat) : Int)) := q4' 0 (by omega)
              have N1 : V4.cell? ⟨fa, i * 5 + 1, none⟩ = some (.int .u64 ((ua 1 : Nat) : Int)) := q4' 1 (by omega)
              have N2 : V4.cell? ⟨fa, i * 5 + 2, none⟩ = some (.int .u64 ((ua 2 : Nat) : Int)) := q4' 2 (by omega)
              have N3 : V4.cell? ⟨fa, i * 5 + 3, none⟩ = some (.int .u64 ((ua 3 : Nat) : Int)) := q4' 3 (by omega)
              have N4 : V4.cell? ⟨fa, i * 5 + 4, none⟩ = some (.bool ue) := q4' 4 (by omega)
              have N5 : V4.cell? ⟨fb, i * 5, none⟩ = some (.int .u64 ((va 0 : Nat) : Int)) := q5' 0 (by omega)
              have N6 : V4.cell? ⟨fb, i * 5 + 1, none⟩ = some (.int .u64 ((va 1 : Nat) : Int)) := q5' 1 (by omega)
              have N7 : V4.cell? ⟨fb, i * 5 + 2, none⟩ = some (.int .u64 ((va 2 : Nat) : Int)) := q5' 2 (by omega)
              have N8 : V4.cell? ⟨fb, i * 5 + 3, none⟩ = some (.int .u64 ((va 3 : Nat) : Int)) := q5' 3 (by omega)
              have N9 : V4.cell? ⟨fb, i * 5 + 4, none⟩ = some (.bool ve) := q5' 4 (by omega)
              clear q2' q3' q4' q5' e1' e2' e3' e4' e5' e6' e7'
              go_upto_region 22 with fail
              obtain ⟨ι, f, n0, hf0, hf, hcl⟩ := family2F (fun w' => Below V4.heap.size V4 w') V4.drew (Below.refl _ _).drew
              have hne0 : Nonempty ι := ⟨n0⟩
              have y00 := fun n => laterF q0 (hf n)
              have y01 := fun n => laterF q1' (hf n)
              have y02 := fun n => laterF D0 (hf n)
              have y03 := fun n => laterF D1 (hf n)
              have y04 := fun n => laterF D2 (hf n)
              have y05 := fun n => laterF D3 (hf n)
              have y06 := fun n => laterF D4 (hf n)
              have y07 := fun n => laterF D5 (hf n)
              have y08 := fun n => laterF D6 (hf n)
              have y09 := fun n => laterF D7 (hf n)
              have y10 := fun n => laterF N0 (hf n)
              have y11 := fun n => laterF N1 (hf n)
              have y12 := fun n => laterF N2 (hf n)
              have y13 := fun n => laterF N3 (hf n)
              have y14 := fun n => laterF N4 (hf n)
              have y15 := fun n => laterF N5 (hf n)
              have y16 := fun n => laterF N6 (hf n)
              have y17 := fun n => laterF N7 (hf n)
              have y18 := fun n => laterF N8 (hf n)
              have y19 := fun n => laterF N9 (hf n)
              clear D0 D1 D2 D3 D4 D5 D6 D7 N0 N1 N2 N3 N4 N5 N6 N7 N8 N9 q0 q1'
              rcases hx with rfl | ⟨rfl, rfl⟩ <;> rcases hp with rfl | ⟨rfl, rfl⟩
              all_goals
                refine region_classF f (by kernel_rfl) (by kernel_rfl) ⟨n0, hf0⟩ ?_
                clear hf0
                have k1' := K1.out
                have k2' := K2.out
                repeat (go_big_quiet_step (first | (go_at_call 10; (with_reducible refine (k1' _ (hf _)).mono ?_; rintro e w' ⟨rfl, hb⟩; exact ⟨rfl, hcl _ hb⟩)) | (go_at_call 10; (with_reducible refine (k2' _ (hf _)).mono ?_; rintro e w' ⟨rfl, hb⟩; exact ⟨rfl, hcl _ hb⟩))))
                clear k1' k2'
                refine wpQuiet_nil ?_
                intro w9 hw9
                obtain ⟨mm, rfl⟩ := hw9
                have H9 : Hid (Below w6.heap.size w6 (f mm)) := HB.out.trans ((hf mm).mono HB.out.size)
                generalize f mm = w9 at H9
                clear hcl hf hne0 n0 y00 y01 y02 y03 y04 y05 y06 y07 y08 y09 y10 y11 y12 y13 y14 y15 y16 y17 y18 y19
                clear f
                go_wp2
                go_roundw
                case rel => exact ⟨i + 1, by omega, by go_num, H9⟩
                case measure => simp [intOf]; omega
            · obtain rfl : n = i := by omega
              have hltI : ¬ (n : Int) < (n : Int) := by omega
              have hltD : decide ((n : Int) < (n : Int)) = false := decide_eq_false hltI
              clear hlt hi
              go_wp2
              go_ret
              exact ⟨rfl, HW6.out.trans (HB.out.mono HW6.out.size)⟩
end Go.Proofs.Ytopokicdgdjgkaa
