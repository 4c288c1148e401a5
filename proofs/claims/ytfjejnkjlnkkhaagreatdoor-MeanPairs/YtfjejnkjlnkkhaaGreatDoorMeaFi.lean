/- The first round of ranks: first of the program. -/
import Derived.Test.YtfjejnkjlnkkhaaGreatDoorMeaJ
namespace Go.Proofs.YtfjejnkjlnkkhaaGreatDoor
set_option linter.unusedVariables false
set_option linter.unusedSimpArgs false
open Go.ChangeShapes Go.WideShapes Go.ChangeAt Go.RowKit Go.Shelf

set_option maxHeartbeats 1000000 in
set_option maxRecDepth 100000 in
theorem notNeg_any (w : World) (ng : Bool) (v : Value) :
    Calls Tryz.prog 69 #[.agg #[.bool ng, v]] w fun e w' => e = .returned (.bool (!ng)) ∧ Hid (Below w.heap.size w w') := by
  have HB : Hid (Below w.heap.size w (w.alloc (.cells #[.bool ng, v] 48))) := bel1 _ _
  go_enter Tryz.func69, Tryz.ntmps69
  go_wp2
  go_ret
  exact ⟨rfl, HB⟩
set_option maxHeartbeats 1000000 in
set_option maxRecDepth 100000 in
theorem same_any (w : World) (i j : Nat) :
    Calls Tryz.prog 67 #[.int .i64 (i : Int), .int .i64 (j : Int)] w fun e w' => e = .returned (.bool (decide (i = j))) ∧ Hid (Below w.heap.size w w') := by
  have HB : Hid (Below w.heap.size w w) := Below.refl _ _
  by_cases h : i = j
  · subst h
    rw [decide_eq_true rfl]
    go_enter Tryz.func67, Tryz.ntmps67
    go_wp2
    go_ret
    exact ⟨rfl, HB⟩
  · rw [decide_eq_false h]
    have n1 : ((i : Int) == (j : Int)) = false := by rw [beq_eq_false_iff_ne]; omega
    have n2 : ¬ (i : Int) = (j : Int) := by omega
    clear h
    go_enter Tryz.func67, Tryz.ntmps67
    go_wp2
    go_ret
    exact ⟨rfl, HB⟩
set_option maxHeartbeats 2000000 in
set_option maxRecDepth 100000 in
theorem indexNeg_any {F : Nat → Prop} (w : World) (v : Value) (l : List Cn) (hc : IsCns w F v l) (hl : l.length ≤ 8) :
    Calls Tryz.prog 95 #[v, .func (.func 69) #[] #[]] w fun e w' => ∃ z : Int, e = .returned (.int .i64 z) ∧ (0 ≤ z ↔ ∃ d, d ∈ l ∧ d.neg = false) ∧ Hid (Below w.heap.size w w') := by
  obtain ⟨p, c, rfl⟩ := lngC hc
  have HC : Hid (IsCns w F (.slice p l.length c) l) := hc
  obtain ⟨n, hn⟩ : ∃ n, n = l.length := ⟨_, rfl⟩
  have HN : Hid (n = l.length) := hn
  rw [← hn] at hl HC ⊢
  clear hc hn
  go_enter Tryz.func95, Tryz.ntmps95
  go_wp2
  go_loopw [8] (fun x wr => ∃ k : Nat, k ≤ n ∧ x = .int .i64 (k : Int) ∧ Hid (∀ j d, j < k → l[j]? = some d → d.neg = true) ∧ Hid (Below w.heap.size w wr)) (fun x _ => n - (intOf x).toNat)
  case atStart => exact ⟨0, Nat.zero_le _, rfl, (fun j d h => (by omega)), Below.refl _ _⟩
  case round =>
    obtain ⟨k, hk, rfl, HA, HB⟩ := hrel
    by_cases hlt : k < n
    · obtain ⟨d, hd⟩ : ∃ d, l[k]? = some d := ⟨_, List.getElem?_eq_getElem (by rw [← HN.out]; exact hlt)⟩
      have HD : Hid (l[k]? = some d) := hd
      obtain ⟨g2, o2, p2, c2, e2, hg2, b0, b1, -⟩ := cn_at (HC.out.any HB.out) hd
      subst e2
      obtain ⟨ng, sq⟩ := d
      dsimp only at b0 b1
      generalize sq.length = sl at b1
      have K1 : Hid (Calls Tryz.prog 69 #[.agg #[.bool ng, .slice p2 sl c2]] wr fun e w' => e = .returned (.bool (!ng)) ∧ Hid (Below w.heap.size w w')) := (notNeg_any wr ng _).mono fun e w' ⟨h1, h2⟩ => ⟨h1, HB.out.trans (h2.out.mono HB.out.size)⟩
      clear hd
      cases ng with
      | true =>
        have HA2 : Hid (∀ j d, j < k + 1 → l[j]? = some d → d.neg = true) := fun j d h1 h2 => by
          by_cases e : j = k
          · subst e; rw [HD.out] at h2; injection h2 with h2; rw [← h2]
          · exact HA.out j d (by omega) h2
        go_wp2_with (go_at_call 69; refine K1.out.mono ?_; rintro e w2 ⟨rfl, B2⟩)
        go_roundw
        case rel => exact ⟨k + 1, by omega, by go_num, HA2, B2⟩
        case measure => simp [intOf]; omega
      | false =>
        have FIN : Hid (0 ≤ (k : Int) ↔ ∃ d, d ∈ l ∧ d.neg = false) := ⟨fun _ => ⟨_, List.mem_of_getElem? HD.out, rfl⟩, fun _ => Int.natCast_nonneg _⟩
        go_wp2_with (go_at_call 69; refine K1.out.mono ?_; rintro e w2 ⟨rfl, B2⟩)
        go_ret
        exact ⟨_, rfl, FIN.out, B2⟩
    · obtain rfl : k = n := by omega
      have FIN : Hid (0 ≤ (-1 : Int) ↔ ∃ d, d ∈ l ∧ d.neg = false) := ⟨fun h => absurd h (by omega), fun ⟨d, h1, h2⟩ => by
        obtain ⟨j, hj⟩ := List.mem_iff_getElem?.1 h1
        have := HA.out j d (by rw [HN.out]; exact (List.getElem?_eq_some_iff.1 hj).1) hj
        rw [h2] at this; cases this⟩
      go_wp2
      go_ret
      exact ⟨_, rfl, FIN.out, HB⟩
set_option maxHeartbeats 2000000 in
set_option maxRecDepth 100000 in
theorem containsNeg_any {F : Nat → Prop} (w : World) (v : Value) (l : List Cn) (hc : IsCns w F v l) (hl : l.length ≤ 8) :
    Calls Tryz.prog 68 #[v, .func (.func 69) #[] #[]] w fun e w' => e = .returned (.bool (l.any fun d => !d.neg)) ∧ Hid (Below w.heap.size w w') := by
  have K1 : Calls Tryz.prog 95 #[v, .func (.func 69) #[] #[]] w fun e w' => ∃ z : Int, e = .returned (.int .i64 z) ∧ decide (0 ≤ z) = (l.any fun d => !d.neg) ∧ Hid (Below w.heap.size w w') := (indexNeg_any w v l hc hl).mono fun e w' ⟨z, h1, h2, h3⟩ => ⟨z, h1, by
    rw [Bool.eq_iff_iff, decide_eq_true_eq, h2, List.any_eq_true]
    simp, h3⟩
  generalize (l.any fun d => !d.neg) = bb at K1 ⊢
  obtain ⟨p, c, rfl⟩ := lngC hc
  generalize l.length = n at *
  clear hc
  go_enter Tryz.func68, Tryz.ntmps68
  go_wp2_with (go_at_call 95; refine K1.mono ?_; rintro e w2 ⟨z, rfl, hz, B2⟩)
  go_ret
  exact ⟨rfl, B2⟩
set_option maxHeartbeats 4000000 in
set_option maxRecDepth 100000 in
theorem holdsC_any {F : Nat → Prop} {g : Gr} {W : ByteArray} {D : Md} {T : SpM} {X : World} {R : Nat} {K : Nat → Nat} {fd : List Fct} (w : World) (hs : Ws F g W D T X) (hT : MnOk (btsW W) W.size g.names.length g.rules T) {f : Nat → Nat} (hgo : GrOk g f) (h : Sx g W D T X R 0 K fd w) {q : Nat} {r : Ru} (hr : g.rules[q]? = some r) (ca cb : Nat) (hca : w.cell? ⟨ca, 0, none⟩ = some (.pointer (some ⟨R, 0, none⟩))) (hcb : w.cell? ⟨cb, 0, none⟩ = some (.int .i64 (q : Int))) (i j : Nat) (hij : i ≤ j) (hj : j ≤ W.size) :
    Calls Tryz.prog 70 #[.int .i64 (i : Int), .int .i64 (j : Int), .pointer (some ⟨ca, 0, none⟩), .pointer (some ⟨cb, 0, none⟩)] w fun e w' => e = .returned (.bool (holB3 (btsW W) (nmT g.names.length T) r i j)) ∧ Hid (Below w.heap.size w w') := by
  have r0 := h.rs.r0
  have KH : Hid (∀ w', Below w.heap.size w w' → Calls Tryz.prog 71 #[.pointer (some ⟨D.kb, 0, none⟩), .int .i64 (q : Int), .int .i64 (i : Int), .int .i64 (j : Int)] w' fun e w'' => e = .returned (.bool (holB3 (btsW W) (nmT g.names.length T) r i j)) ∧ Hid (Below w.heap.size w w'')) := fun w' hb => by
    have hY := h.any hb
    obtain ⟨hWw, hHh⟩ := hs.at hY.rs.bu
    have := hs.hm
    rw [← hT.hol hr hij hj]
    exact (holdsM_any F g W D T w' hWw hs.fm hHh hr i j (by omega) (by omega) hgo.pl).mono fun e w'' ⟨h1, h2⟩ => ⟨h1, hb.trans (h2.out.mono hb.size)⟩
  have HSC : Hid (∀ w', Below w.heap.size w w' → w'.cell? ⟨R, 0, none⟩ = some (.pointer (some ⟨D.kb, 0, none⟩)) ∧ w'.cell? ⟨ca, 0, none⟩ = some (.pointer (some ⟨R, 0, none⟩)) ∧ w'.cell? ⟨cb, 0, none⟩ = some (.int .i64 (q : Int))) := fun w' hb => ⟨(hb.cell (p := ⟨_, _, none⟩) (block_lt_of_cell r0)).trans r0, (hb.cell (p := ⟨_, _, none⟩) (block_lt_of_cell hca)).trans hca, (hb.cell (p := ⟨_, _, none⟩) (block_lt_of_cell hcb)).trans hcb⟩
  have HB : Hid (Below w.heap.size w w) := Below.refl _ _
  generalize holB3 (btsW W) (nmT g.names.length T) r i j = v at KH ⊢
  clear hs hT hgo h hr hij hj r0 hca hcb
  go_enter Tryz.func70, Tryz.ntmps70
  go_wp2
  go_region_held3 (fun w' => Below w.heap.size w w' ∧ w'.cell? ⟨R, 0, none⟩ = some (.pointer (some ⟨D.kb, 0, none⟩)) ∧ w'.cell? ⟨ca, 0, none⟩ = some (.pointer (some ⟨R, 0, none⟩)) ∧ w'.cell? ⟨cb, 0, none⟩ = some (.int .i64 (q : Int)))
    ((first | (refine ⟨b4, HSC.out _ b4⟩; done) | exact ⟨HB.out.drew, HSC.out _ HB.out.drew⟩))
    ((go_at_call 71; refine (KH.out _ HB.out.drew).mono ?_; rintro e w3 ⟨rfl, b3⟩; have b4 : Below w.heap.size w w3 := b3.out))
  go_wp2
  go_ret
  exact ⟨rfl, b4⟩
theorem first_loop1 {g : Gr} {f : Nat → Nat} (hgo : GrOk g f) {m : Nat} {e : Plc} (he : (ruP 0 g.rules)[m]? = some e) : ∃ q c r d p, g.rules[q]? = some r ∧ r.conj[c]? = some d ∧ p ≤ d.seq.length ∧ m = ofRu g.rules q c + p ∧ e = ((q : Int), (c : Int), (p : Int)) := by
  obtain ⟨q, c, r, d, p, h1, h2, h3, h4, h5⟩ := ruP_num he
  rw [Nat.zero_add] at h5
  exact ⟨q, c, r, d, p, h1, h2, h3, h4, h5⟩
/-- The rests at their end, of the places so far. -/
def FrA (g : Gr) (W : ByteArray) (m : Nat) (K' : Nat → Nat) : Prop := ∀ q c r d i, g.rules[q]? = some r → r.conj[c]? = some d → ofRu g.rules q c + d.seq.length < m → i ≤ W.size → K' (idx W.size (g.names.length + ofRu g.rules q c + d.seq.length) i i) ≠ 0
/-- The rules that negate all, so far. -/
def FrB (g : Gr) (W : ByteArray) (T : SpM) (m : Nat) (K' : Nat → Nat) : Prop := ∀ (q : Nat) (r : Ru) (i j : Nat), q < m → g.rules[q]? = some r → (∀ d, d ∈ r.conj → d.neg = true) → i ≤ j → j ≤ W.size → holB3 (btsW W) (nmT g.names.length T) r i j = true → K' (idx W.size r.head.toNat i j) ≠ 0
set_option maxHeartbeats 4000000 in
set_option maxRecDepth 100000 in
theorem first_any {F : Nat → Prop} {g : Gr} {W : ByteArray} {D : Md} {T : SpM} {X : World} {R : Nat} {K : Nat → Nat} {fd : List Fct} (w : World) (hs : Ws F g W D T X) (hT : MnOk (btsW W) W.size g.names.length g.rules T) {f : Nat → Nat} (hgo : GrOk g f) (h : Sx g W D T X R 0 K fd w) :
    Calls Tryz.prog 48 #[.pointer (some ⟨R, 0, none⟩)] w fun e w' => e = .returned (.tuple #[]) ∧ Hid (Gives g W D T X R 0 K (fun K' => FrA g W (ruP 0 g.rules).length K' ∧ FrB g W T g.rules.length K') w w') := by
  -- the box of r
  obtain ⟨Y, hY⟩ : ∃ Y, Y = w.alloc (.cells #[.pointer (some ⟨R, 0, none⟩)] 104) := ⟨_, rfl⟩
  obtain ⟨bx, hbx⟩ : ∃ bx, bx = w.heap.size := ⟨_, rfl⟩
  have hYb : Below w.heap.size w Y := by rw [hY]; exact bel1 _ _
  have y0 : Y.cell? ⟨bx, 0, none⟩ = some (.pointer (some ⟨R, 0, none⟩)) := by rw [hbx, hY]; exact World.cell?_alloc_at _ _ _ _ rfl
  have hR1 : R < w.heap.size := block_lt_of_cell h.rs.r0
  have hnr : bx ≠ D.rb := by have := hs.fm.rB; have := hs.wm.lo; have := h.rs.bu.size; omega
  have hno : ¬ OwnR Y R bx := fun ⟨v, h1, h2⟩ => h.rs.newer (Nat.le_refl _) ⟨v, (hYb.cell (p := ⟨R, 2, none⟩) hR1).symm.trans h1, by rw [← hbx]; exact h2⟩
  have hYS := h.any hYb
  have HS : Hid (Ws F g W D T X) := hs
  have HT : Hid (MnOk (btsW W) W.size g.names.length g.rules T) := hT
  have HGO : Hid (GrOk g f) := hgo
  have HFIN : Hid (∀ w' P, Gives g W D T X R 0 K P Y w' → Gives g W D T X R 0 K P w w') := fun w' P hg => hg.from (Kq.of hYb hR1)
  have HBEL : Hid (∀ P w1 w2, Gives g W D T X R 0 K P Y w1 → Below w1.heap.size w1 w2 → Gives g W D T X R 0 K P Y w2) := fun P w1 w2 ⟨K', fd', h1, h2, h3, h4⟩ hb => ⟨K', fd', h1.any hb, h2, h3, h4.trans (Kq.of hb (block_lt_of_cell h1.rs.r0))⟩
  -- cells in any such world
  have HCL : Hid (∀ w' P, Gives g W D T X R 0 K P Y w' → w'.cell? ⟨bx, 0, none⟩ = some (.pointer (some ⟨R, 0, none⟩)) ∧ w'.cell? ⟨R, 0, none⟩ = some (.pointer (some ⟨D.kb, 0, none⟩)) ∧ Wm F g W D w') := fun w' P ⟨K', fd', h1, _, _, h4⟩ => ⟨h4.cell hnr (by omega) hno y0, h1.rs.r0, (HS.out.at h1.rs.bu).1⟩
  have G0 : Hid (Gives g W D T X R 0 K (FrA g W 0) Y Y) := ⟨K, fd, hYS, Up.refl _, fun q c r d i _ _ h => absurd h (Nat.not_lt_zero _), Kq.refl _ _ _⟩
  -- the first loop's giving
  have KE : Hid (∀ (m q c : Nat) (r : Ru) (d : Cn) (w' : World), g.rules[q]? = some r → r.conj[c]? = some d → m = ofRu g.rules q c + d.seq.length → Gives g W D T X R 0 K (FrA g W m) Y w' → Calls Tryz.prog 66 #[.pointer (some ⟨R, 0, none⟩), .int .i64 ((g.names.length : Int) + (m : Int)), .func (.func 67) #[] #[]] w' fun e w'' => e = .returned (.tuple #[]) ∧ Hid (Gives g W D T X R 0 K (FrA g W (m + 1)) Y w'')) := fun m q c r d w' hr hd hm hg => by
    obtain ⟨K1, fd1, h1, h2, h3, h4⟩ := hg
    have := giveAllE_any w' HS.out h1 (g.names.length + m) 0 0 (fun i j => decide (i = j)) (fun w2 _ _ i j _ _ => same_any w2 i j) (fun i j hij hj hx => by
      obtain rfl : i = j := of_decide_eq_true hx
      rw [hm, ← Nat.add_assoc]
      exact at_firstR HGO.out.nm hr hd hj)
    rw [show ((g.names.length + m : Nat) : Int) = (g.names.length : Int) + (m : Int) by omega] at this
    refine this.mono ?_
    rintro e w'' ⟨rfl, hx⟩
    obtain ⟨K2, fd2, k1, k2, k3, k4⟩ := hx.out
    refine ⟨rfl, K2, fd2, k1, h2.trans k2, fun q' c' r' d' i a1 a2 a3 a4 => ?_, h4.trans k4⟩
    by_cases e : ofRu g.rules q' c' + d'.seq.length = m
    · have := k3 i i (Nat.le_refl _) a4 (decide_eq_true rfl)
      rw [Nat.add_assoc, e]
      exact this
    · exact k2 _ (h3 q' c' r' d' i a1 a2 (by omega) a4)
  have HSK : Hid (∀ (m q c p : Nat) (r : Ru) (d : Cn) (w' : World), g.rules[q]? = some r → r.conj[c]? = some d → m = ofRu g.rules q c + p → p < d.seq.length → Gives g W D T X R 0 K (FrA g W m) Y w' → Gives g W D T X R 0 K (FrA g W (m + 1)) Y w') := fun m q c p r d w' hr hd hm hp hg => hg.mono fun K' h3 q' c' r' d' i a1 a2 a3 a4 => by
    by_cases e : ofRu g.rules q' c' + d'.seq.length = m
    · obtain ⟨rfl, rfl, e3⟩ := ofRu_inj hr a1 hd a2 (p := p) (by omega) (Nat.le_refl _) (by omega)
      rw [hr] at a1; injection a1 with a1; subst a1
      rw [hd] at a2; injection a2 with a2; subst a2
      omega
    · exact h3 q' c' r' d' i a1 a2 (by omega) a4
  -- the second loop's giving
  have KH : Hid (∀ (q : Nat) (r : Ru) (cb : Nat) (w' : World), g.rules[q]? = some r → (∀ d, d ∈ r.conj → d.neg = true) → w'.cell? ⟨cb, 0, none⟩ = some (.int .i64 (q : Int)) → cb ≠ D.rb → cb ≠ R → ¬ OwnR w' R cb → Gives g W D T X R 0 K (fun K' => FrA g W (ruP 0 g.rules).length K' ∧ FrB g W T q K') Y w' → Calls Tryz.prog 66 #[.pointer (some ⟨R, 0, none⟩), .int .i64 r.head, .func (.func 70) #[] #[.pointer (some ⟨bx, 0, none⟩), .pointer (some ⟨cb, 0, none⟩)]] w' fun e w'' => e = .returned (.tuple #[]) ∧ Hid (Gives g W D T X R 0 K (fun K' => FrA g W (ruP 0 g.rules).length K' ∧ FrB g W T (q + 1) K') Y w'')) := fun q r cb w' hr hng hcb n1 n2 n3 hg => by
    have hbxc := (HCL.out w' _ hg).1
    have hown : ¬ OwnR w' R bx := by
      obtain ⟨K1, fd1, h1, h2, h3, h4⟩ := hg
      intro ho
      rcases h4.own bx ho with h9 | h9
      · exact hno h9
      · have h8 : bx < Y.heap.size := block_lt_of_cell y0
        omega
    obtain ⟨K1, fd1, h1, h2, h3, h4⟩ := hg
    have := giveAllH_any w' HS.out h1 r.head.toNat bx cb (fun i j => holB3 (btsW W) (nmT g.names.length T) r i j) (fun w2 ⟨K2, fd2, s2⟩ k2 i j hij hj => holdsC_any w2 HS.out HT.out HGO.out s2 hr bx cb (k2.cell hnr (by omega) hown hbxc) (k2.cell n1 n2 n3 hcb) i j hij hj) (fun i j hij hj hx => at_firstN HGO.out.nm HT.out.stb hr hng hij hj hx)
    rw [show ((r.head.toNat : Nat) : Int) = r.head by have := HGO.out.hd r (List.mem_of_getElem? hr); omega] at this
    refine this.mono ?_
    rintro e w'' ⟨rfl, hx⟩
    obtain ⟨K2, fd2, k1, k2, k3, k4⟩ := hx.out
    refine ⟨rfl, K2, fd2, k1, h2.trans k2, ⟨fun q' c' r' d' i a1 a2 a3 a4 => k2 _ (h3.1 q' c' r' d' i a1 a2 a3 a4), fun q' r' i j a1 a2 a3 a4 a5 a6 => ?_⟩, h4.trans k4⟩
    by_cases e : q' = q
    · subst e
      rw [hr] at a2; injection a2 with a2; subst a2
      exact k3 i j a4 a5 a6
    · exact k2 _ (h3.2 q' r' i j (by omega) a2 a3 a4 a5 a6)
  have HSK2 : Hid (∀ (q : Nat) (r : Ru) (w' : World), g.rules[q]? = some r → (∃ d, d ∈ r.conj ∧ d.neg = false) → Gives g W D T X R 0 K (fun K' => FrA g W (ruP 0 g.rules).length K' ∧ FrB g W T q K') Y w' → Gives g W D T X R 0 K (fun K' => FrA g W (ruP 0 g.rules).length K' ∧ FrB g W T (q + 1) K') Y w') := fun q r w' hr ⟨d0, hd0, hn0⟩ hg => hg.mono fun K' h3 => ⟨h3.1, fun q' r' i j a1 a2 a3 a4 a5 a6 => by
    by_cases e : q' = q
    · subst e
      rw [hr] at a2; injection a2 with a2; subst a2
      have := a3 d0 hd0
      rw [hn0] at this; cases this
    · exact h3.2 q' r' i j (by omega) a2 a3 a4 a5 a6⟩
  have HEND : Hid (∀ w', Gives g W D T X R 0 K (FrA g W (ruP 0 g.rules).length) Y w' → Gives g W D T X R 0 K (fun K' => FrA g W (ruP 0 g.rules).length K' ∧ FrB g W T 0 K') Y w') := fun w' hg => hg.mono fun K' h3 => ⟨h3, fun q' r' i j a1 => absurd a1 (Nat.not_lt_zero _)⟩
  have KS : Hid (∀ (w' : World) (P : (Nat → Nat) → Prop) (q c p : Nat) (r : Ru) (d : Cn), Gives g W D T X R 0 K P Y w' → g.rules[q]? = some r → r.conj[c]? = some d → p ≤ d.seq.length → Calls Tryz.prog 63 #[.agg #[.int .i64 g.start, D.v1, .slice D.pr g.rules.length D.cr], .agg #[.int .i64 (q : Int), .int .i64 (c : Int), .int .i64 (p : Int)]] w' fun e w'' =>
      (match d.seq[p]? with
        | none => e = .returned (.tuple #[.agg #[.int .i64 0, .int .i64 0, .int .i64 0], .bool false])
        | some s => e = .returned (.tuple #[.agg #[.int .i64 s.name, .int .i64 s.lo, .int .i64 s.hi], .bool true])) ∧ Hid (Below w'.heap.size w' w'')) := fun w' P q c p r d hg hr hd hp => symbol_any F g W D w' (HCL.out w' P hg).2.2 HS.out.fm hr hd hp HGO.out.pl
  have HCS : Hid (∀ w' P, Gives g W D T X R 0 K P Y w' → w'.cell? ⟨bx, 0, none⟩ = some (.pointer (some ⟨R, 0, none⟩)) ∧ w'.cell? ⟨R, 0, none⟩ = some (.pointer (some ⟨D.kb, 0, none⟩)) ∧ w'.cell? ⟨D.kb, 0, none⟩ = some (.pointer (some ⟨D.tb, 0, none⟩)) ∧ w'.cell? ⟨D.tb, 1, none⟩ = some (.int .i64 (g.names.length : Int))) := fun w' P hg => ⟨(HCL.out w' P hg).1, (HCL.out w' P hg).2.1, (HCL.out w' P hg).2.2.k0, (HCL.out w' P hg).2.2.t1⟩
  have hpl : (ruP 0 g.rules).length ≤ 133120 := hgo.pl.len
  have hrl : g.rules.length ≤ 256 := hgo.pl.1
  have hNl : g.names.length ≤ 64 := hgo.nn
  obtain ⟨-, r0, hWY⟩ := HCL.out Y _ G0.out
  have k5 := hWY.k5
  obtain ⟨pp, hpp⟩ : ∃ pp, pp = D.pp := ⟨_, rfl⟩
  have HPP : Hid (pp = D.pp) := hpp
  obtain ⟨pr, hpr⟩ : ∃ pr, pr = D.pr := ⟨_, rfl⟩
  have HPR : Hid (pr = D.pr) := hpr
  obtain ⟨l, hl⟩ : ∃ l, l = (ruP 0 g.rules).length := ⟨_, rfl⟩
  have HL : Hid (l = (ruP 0 g.rules).length) := hl
  obtain ⟨rl, hrl2⟩ : ∃ rl, rl = g.rules.length := ⟨_, rfl⟩
  have HRL : Hid (rl = g.rules.length) := hrl2
  obtain ⟨N, hNN⟩ : ∃ N, N = g.names.length := ⟨_, rfl⟩
  obtain ⟨st, hst⟩ : ∃ st, st = g.start := ⟨_, rfl⟩
  have HST : Hid (st = g.start) := hst
  obtain ⟨dv, hdv⟩ : ∃ dv, dv = D.v1 := ⟨_, rfl⟩
  have HDV : Hid (dv = D.v1) := hdv
  have HKK : Hid (∀ w' P, Gives g W D T X R 0 K P Y w' → w'.cell? ⟨D.kb, 1, none⟩ = some (.int .i64 st) ∧ w'.cell? ⟨D.kb, 2, none⟩ = some dv ∧ w'.cell? ⟨D.kb, 3, none⟩ = some (.slice pr rl D.cr)) := fun w' P hg => by rw [hpr, hrl2, hst, hdv]; exact ⟨(HCL.out w' P hg).2.2.k1, (HCL.out w' P hg).2.2.k2, (HCL.out w' P hg).2.2.k3⟩
  have HNN : Hid (N = g.names.length) := hNN
  have HK3 : Hid (∀ w' P, Gives g W D T X R 0 K P Y w' → w'.cell? ⟨D.kb, 3, none⟩ = some (.slice pr rl D.cr)) := fun w' P hg => by rw [hpr, hrl2]; exact (HCL.out w' P hg).2.2.k3
  obtain ⟨PF, hPF⟩ : ∃ PF : (Nat → Nat) → Prop, PF = fun K' => FrA g W (ruP 0 g.rules).length K' ∧ FrB g W T g.rules.length K' := ⟨_, rfl⟩
  rw [← hPF]
  have HPF : Hid (PF = fun K' => FrA g W (ruP 0 g.rules).length K' ∧ FrB g W T g.rules.length K') := hPF
  rw [← hNN] at HCS hNl KE
  rw [← hl] at k5 hpl HEND KH HSK2
  rw [← hrl2] at hrl
  rw [← hpp] at k5
  clear hs hT hgo h hYb hR1 hnr hno hYS hWY hpp hpr hl hrl2 hNN hPF hst hdv
  go_enter Tryz.func48, Tryz.ntmps48
  go_upto_region 1 with fail
  rw [← hY, ← hbx]
  clear hY hbx
  go_wp2
  go_loopw [16] (fun x wr => ∃ m : Nat, m ≤ l ∧ x = .int .i64 (m : Int) ∧ Hid (Gives g W D T X R 0 K (FrA g W m) Y wr)) (fun x _ => l - (intOf x).toNat)
  case atStart => exact ⟨0, Nat.zero_le _, rfl, G0⟩
  case round =>
    clear G0 y0 r0 k5
    obtain ⟨m, hm, rfl, HG⟩ := hrel
    by_cases hlt : m < l
    · obtain ⟨e, he⟩ : ∃ e, (ruP 0 g.rules)[m]? = some e := ⟨_, List.getElem?_eq_getElem (by rw [← HL.out]; exact hlt)⟩
      obtain ⟨q, c, r, d, p, hr, hd, hp, hmm, rfl⟩ := first_loop1 HGO.out he
      obtain ⟨g5, o5, e5, hg5, p0, p1, p2⟩ := (HCL.out wr _ HG.out).2.2.pl.at he
      dsimp only at p0 p1 p2
      rw [← HPP.out] at e5
      subst e5
      obtain ⟨V, hV⟩ : ∃ V, V = wr.alloc (.cells #[.int .i64 (q : Int), .int .i64 (c : Int), .int .i64 (p : Int)] 56) := ⟨_, rfl⟩
      obtain ⟨nb, hnb⟩ : ∃ nb, nb = wr.heap.size := ⟨_, rfl⟩
      have hVb : Below wr.heap.size wr V := by rw [hV]; exact bel1 _ _
      have GV : Hid (Gives g W D T X R 0 K (FrA g W m) Y V) := HBEL.out _ _ _ HG.out hVb
      have HGB : Hid (∀ w', Below V.heap.size V w' → Gives g W D T X R 0 K (FrA g W m) Y w') := fun w' hb => HBEL.out _ _ _ GV.out hb
      have v0 : V.cell? ⟨nb, 0, none⟩ = some (.int .i64 (q : Int)) := by rw [hnb, hV]; exact World.cell?_alloc_at _ _ _ _ rfl
      have v1 : V.cell? ⟨nb, 1, none⟩ = some (.int .i64 (c : Int)) := by rw [hnb, hV]; exact World.cell?_alloc_at _ _ _ _ rfl
      have v2 : V.cell? ⟨nb, 2, none⟩ = some (.int .i64 (p : Int)) := by rw [hnb, hV]; exact World.cell?_alloc_at _ _ _ _ rfl
      have hx : ∃ (nm lo up : Int) (ok : Bool), (ok = true ↔ p < d.seq.length) ∧ ∀ w', Below V.heap.size V w' → Calls Tryz.prog 63 #[.agg #[.int .i64 st, dv, .slice pr rl D.cr], .agg #[.int .i64 (q : Int), .int .i64 (c : Int), .int .i64 (p : Int)]] w' fun e w'' => e = .returned (.tuple #[.agg #[.int .i64 nm, .int .i64 lo, .int .i64 up], .bool ok]) ∧ Hid (Below w'.heap.size w' w'') := by
        by_cases hpl : p < d.seq.length
        · have hsy : d.seq[p]? = some d.seq[p] := List.getElem?_eq_getElem hpl
          refine ⟨d.seq[p].name, d.seq[p].lo, d.seq[p].hi, true, by simp [hpl], fun w' hb => ?_⟩
          have := KS.out w' _ q c p r d (HGB.out w' hb) hr hd hp
          rw [hsy, ← HST.out, ← HDV.out, ← HPR.out, ← HRL.out] at this
          exact this
        · have hsy : d.seq[p]? = none := List.getElem?_eq_none (by omega)
          refine ⟨0, 0, 0, false, by simp; omega, fun w' hb => ?_⟩
          have := KS.out w' _ q c p r d (HGB.out w' hb) hr hd hp
          rw [hsy, ← HST.out, ← HDV.out, ← HPR.out, ← HRL.out] at this
          exact this
      obtain ⟨nm, lo, up, ok, hok, ks⟩ := hx
      have KSV : Hid (∀ w', Below V.heap.size V w' → Calls Tryz.prog 63 #[.agg #[.int .i64 st, dv, .slice pr rl D.cr], .agg #[.int .i64 (q : Int), .int .i64 (c : Int), .int .i64 (p : Int)]] w' fun e w'' => e = .returned (.tuple #[.agg #[.int .i64 nm, .int .i64 lo, .int .i64 up], .bool ok]) ∧ Hid (Below w'.heap.size w' w'')) := ks
      have m2 : nb < V.heap.size := block_lt_of_cell v0
      have HSC : Hid (∀ w', Below V.heap.size V w' → w'.cell? ⟨bx, 0, none⟩ = some (.pointer (some ⟨R, 0, none⟩)) ∧ w'.cell? ⟨R, 0, none⟩ = some (.pointer (some ⟨D.kb, 0, none⟩)) ∧ w'.cell? ⟨nb, 0, none⟩ = some (.int .i64 (q : Int)) ∧ w'.cell? ⟨nb, 1, none⟩ = some (.int .i64 (c : Int)) ∧ w'.cell? ⟨nb, 2, none⟩ = some (.int .i64 (p : Int)) ∧ w'.cell? ⟨D.kb, 1, none⟩ = some (.int .i64 st) ∧ w'.cell? ⟨D.kb, 2, none⟩ = some dv ∧ w'.cell? ⟨D.kb, 3, none⟩ = some (.slice pr rl D.cr)) := fun w' hb => ⟨(HCS.out _ _ (HGB.out w' hb)).1, (HCS.out _ _ (HGB.out w' hb)).2.1, (hb.cell (p := ⟨_, _, none⟩) m2).trans v0, (hb.cell (p := ⟨_, _, none⟩) m2).trans v1, (hb.cell (p := ⟨_, _, none⟩) m2).trans v2, HKK.out _ _ (HGB.out w' hb)⟩
      -- what follows
      have HYES : Hid (ok = true → ∀ w', Below V.heap.size V w' → Gives g W D T X R 0 K (FrA g W (m + 1)) Y w') := fun ho w' hb => HSK.out m q c p r d w' hr hd hmm (hok.1 ho) (HGB.out w' hb)
      have HNO : Hid (ok = false → ∀ w', Below V.heap.size V w' → Calls Tryz.prog 66 #[.pointer (some ⟨R, 0, none⟩), .int .i64 ((N : Int) + (m : Int)), .func (.func 67) #[] #[]] w' fun e w'' => e = .returned (.tuple #[]) ∧ Hid (Gives g W D T X R 0 K (FrA g W (m + 1)) Y w'')) := fun ho w' hb => KE.out m q c r d w' hr hd (by
        have : ¬ p < d.seq.length := fun h => by rw [hok.2 h] at ho; cases ho
        omega) (HGB.out w' hb)
      have hwm : IntKind.i64.wrap ((N : Int) + (m : Int)) = (N : Int) + (m : Int) := by rw [IntKind.wrap_i64]; omega
      have hpI : (p : Int) < 9223372036854775807 := by have := (HGO.out.pl.2 r (List.mem_of_getElem? hr)).2 d (List.mem_of_getElem? hd); omega
      clear he hr hd hp hmm hok ks v0 v1 v2 hVb hg5 KE KH HSK HSK2 KS
      go_upto_region 4 with fail
      rw [← hV, ← hnb]
      clear hV hnb p0 p1 p2 HG
      go_region_held3 (fun w' => Below V.heap.size V w' ∧ w'.cell? ⟨bx, 0, none⟩ = some (.pointer (some ⟨R, 0, none⟩)) ∧ w'.cell? ⟨R, 0, none⟩ = some (.pointer (some ⟨D.kb, 0, none⟩)) ∧ w'.cell? ⟨nb, 0, none⟩ = some (.int .i64 (q : Int)) ∧ w'.cell? ⟨nb, 1, none⟩ = some (.int .i64 (c : Int)) ∧ w'.cell? ⟨nb, 2, none⟩ = some (.int .i64 (p : Int)) ∧ w'.cell? ⟨D.kb, 1, none⟩ = some (.int .i64 st) ∧ w'.cell? ⟨D.kb, 2, none⟩ = some dv ∧ w'.cell? ⟨D.kb, 3, none⟩ = some (.slice pr rl D.cr))
        ((refine (fun hb => ⟨hb, HSC.out _ hb⟩ : Below V.heap.size V _ → _) ?_; repeat' (first | with_reducible assumption | with_reducible exact Below.refl _ _ | with_reducible apply Below.drew | with_reducible refine Below.alloc ?_ ?_ _ | with_reducible refine Below.setCell ?_ ?_ _ | exact Nat.le_refl _ | (first | exact b4.size | (have := b4.size; simp; omega) | (simp; omega)))))
        ((first | (go_at_call 63; refine (KSV.out _ (Below.refl _ V).drew).mono ?_; rintro e w4 ⟨rfl, hb2⟩; have b4 : Below V.heap.size V w4 := ((Below.refl _ V).drew).trans hb2.out; clear hb2) | (go_at_call 63; refine (KSV.out _ ((bel1 V _).drew)).mono ?_; rintro e w4 ⟨rfl, hb2⟩; have b4 : Below V.heap.size V w4 := ((bel1 V _).drew).trans (hb2.out.mono (by simp)); have zz0 : w4.cell? ⟨V.heap.size, 0, none⟩ = some (.int .i64 0) := (hb2.out.cell (p := ⟨V.heap.size, 0, none⟩) (by simp)).trans (World.cell?_alloc_at _ _ _ _ rfl); have zz1 : w4.cell? ⟨V.heap.size, 1, none⟩ = some (.int .i64 0) := (hb2.out.cell (p := ⟨V.heap.size, 1, none⟩) (by simp)).trans (World.cell?_alloc_at _ _ _ _ rfl); have zz2 : w4.cell? ⟨V.heap.size, 2, none⟩ = some (.int .i64 0) := (hb2.out.cell (p := ⟨V.heap.size, 2, none⟩) (by simp)).trans (World.cell?_alloc_at _ _ _ _ rfl); have zf0 : w4.frozen? ⟨V.heap.size, 0, none⟩ = false := (hb2.out.frozen (p := ⟨V.heap.size, 0, none⟩) (by simp)).trans (World.frozen?_alloc_at _ _ _ _ rfl); have zf1 : w4.frozen? ⟨V.heap.size, 1, none⟩ = false := (hb2.out.frozen (p := ⟨V.heap.size, 1, none⟩) (by simp)).trans (World.frozen?_alloc_at _ _ _ _ rfl); have zf2 : w4.frozen? ⟨V.heap.size, 2, none⟩ = false := (hb2.out.frozen (p := ⟨V.heap.size, 2, none⟩) (by simp)).trans (World.frozen?_alloc_at _ _ _ _ rfl); clear hb2)))
      · obtain ⟨Z, hZ⟩ : ∃ Z, Z = w4.alloc (.cells #[.int .i64 nm, .int .i64 lo, .int .i64 up] 44) := ⟨_, rfl⟩
        rw [← hZ]
        have HZB : Hid (Below V.heap.size V Z) := by show Below _ _ _; rw [hZ]; exact b4.alloc b4.size _
        clear hZ b4
        cases ok with
        | true =>
          have G9 : Hid (Gives g W D T X R 0 K (FrA g W (m + 1)) Y Z) := HYES.out rfl Z HZB.out
          clear HYES HNO HZB HSC KSV
          go_wp2
          go_roundw
          case rel => exact ⟨m + 1, by omega, by go_num, G9⟩
          case measure => simp [intOf]; omega
        | false =>
          have HQ : Hid (∀ w', Below Z.heap.size Z w' → w'.cell? ⟨bx, 0, none⟩ = some (.pointer (some ⟨R, 0, none⟩)) ∧ w'.cell? ⟨R, 0, none⟩ = some (.pointer (some ⟨D.kb, 0, none⟩)) ∧ w'.cell? ⟨D.kb, 0, none⟩ = some (.pointer (some ⟨D.tb, 0, none⟩)) ∧ w'.cell? ⟨D.tb, 1, none⟩ = some (.int .i64 (N : Int))) := fun w' hb => HCS.out w' _ (HGB.out w' (HZB.out.trans (hb.mono HZB.out.size)))
          have HN2 : Hid (Calls Tryz.prog 66 #[.pointer (some ⟨R, 0, none⟩), .int .i64 ((N : Int) + (m : Int)), .func (.func 67) #[] #[]] Z.drew fun e w'' => e = .returned (.tuple #[]) ∧ Hid (Gives g W D T X R 0 K (FrA g W (m + 1)) Y w'')) := HNO.out rfl _ HZB.out.drew
          clear HYES HNO HZB HSC KSV
          go_wp2
          go_region_held3 (fun w' => w'.cell? ⟨bx, 0, none⟩ = some (.pointer (some ⟨R, 0, none⟩)) ∧ w'.cell? ⟨R, 0, none⟩ = some (.pointer (some ⟨D.kb, 0, none⟩)) ∧ w'.cell? ⟨D.kb, 0, none⟩ = some (.pointer (some ⟨D.tb, 0, none⟩)) ∧ w'.cell? ⟨D.tb, 1, none⟩ = some (.int .i64 (N : Int)))
            ((first | (exact b6) | exact HQ.out _ (Below.refl _ Z).drew))
            ((go_at_call 66; refine HN2.out.mono ?_; rintro e w5 ⟨rfl, G5⟩; have b6 := HCS.out w5 _ G5.out))
          clear b6 HQ HN2
          go_wp2
          go_roundw
          case rel => exact ⟨m + 1, by omega, by go_num, G5⟩
          case measure => simp [intOf]; omega
      · obtain ⟨Z, hZ⟩ : ∃ Z, Z = ((w4.setCell ⟨V.heap.size, 0, none⟩ (.int .i64 nm)).setCell ⟨V.heap.size, 1, none⟩ (.int .i64 lo)).setCell ⟨V.heap.size, 2, none⟩ (.int .i64 up) := ⟨_, rfl⟩
        rw [← hZ]
        have HZB : Hid (Below V.heap.size V Z) := by show Below _ _ _; rw [hZ]; exact ((b4.setCell (p := ⟨V.heap.size, 0, none⟩) (Nat.le_refl _) _).setCell (p := ⟨V.heap.size, 1, none⟩) (Nat.le_refl _) _).setCell (p := ⟨V.heap.size, 2, none⟩) (Nat.le_refl _) _
        clear hZ b4 zz0 zz1 zz2 zf0 zf1 zf2
        cases ok with
        | true =>
          have G9 : Hid (Gives g W D T X R 0 K (FrA g W (m + 1)) Y Z) := HYES.out rfl Z HZB.out
          clear HYES HNO HZB HSC KSV
          go_wp2
          go_roundw
          case rel => exact ⟨m + 1, by omega, by go_num, G9⟩
          case measure => simp [intOf]; omega
        | false =>
          have HQ : Hid (∀ w', Below Z.heap.size Z w' → w'.cell? ⟨bx, 0, none⟩ = some (.pointer (some ⟨R, 0, none⟩)) ∧ w'.cell? ⟨R, 0, none⟩ = some (.pointer (some ⟨D.kb, 0, none⟩)) ∧ w'.cell? ⟨D.kb, 0, none⟩ = some (.pointer (some ⟨D.tb, 0, none⟩)) ∧ w'.cell? ⟨D.tb, 1, none⟩ = some (.int .i64 (N : Int))) := fun w' hb => HCS.out w' _ (HGB.out w' (HZB.out.trans (hb.mono HZB.out.size)))
          have HN2 : Hid (Calls Tryz.prog 66 #[.pointer (some ⟨R, 0, none⟩), .int .i64 ((N : Int) + (m : Int)), .func (.func 67) #[] #[]] Z.drew fun e w'' => e = .returned (.tuple #[]) ∧ Hid (Gives g W D T X R 0 K (FrA g W (m + 1)) Y w'')) := HNO.out rfl _ HZB.out.drew
          clear HYES HNO HZB HSC KSV
          go_wp2
          go_region_held3 (fun w' => w'.cell? ⟨bx, 0, none⟩ = some (.pointer (some ⟨R, 0, none⟩)) ∧ w'.cell? ⟨R, 0, none⟩ = some (.pointer (some ⟨D.kb, 0, none⟩)) ∧ w'.cell? ⟨D.kb, 0, none⟩ = some (.pointer (some ⟨D.tb, 0, none⟩)) ∧ w'.cell? ⟨D.tb, 1, none⟩ = some (.int .i64 (N : Int)))
            ((first | (exact b6) | exact HQ.out _ (Below.refl _ Z).drew))
            ((go_at_call 66; refine HN2.out.mono ?_; rintro e w5 ⟨rfl, G5⟩; have b6 := HCS.out w5 _ G5.out))
          clear b6 HQ HN2
          go_wp2
          go_roundw
          case rel => exact ⟨m + 1, by omega, by go_num, G5⟩
          case measure => simp [intOf]; omega
    · obtain rfl : m = l := by omega
      have HG3 : Hid (Gives g W D T X R 0 K (fun K' => FrA g W m K' ∧ FrB g W T 0 K') Y wr) := HEND.out wr HG.out
      obtain ⟨c0, c1, c2, c3⟩ := HCS.out wr _ HG.out
      have c4 := HK3.out wr _ HG.out
      clear HG HEND KE HSK
      go_wp2
      go_loopw [59] (fun x wr => ∃ q : Nat, q ≤ rl ∧ x = .int .i64 (q : Int) ∧ Hid (Gives g W D T X R 0 K (fun K' => FrA g W m K' ∧ FrB g W T q K') Y wr)) (fun x _ => rl - (intOf x).toNat)
      case atStart => exact ⟨0, Nat.zero_le _, rfl, HG3⟩
      case round =>
        clear HG3 c0 c1 c2 c3 c4
        obtain ⟨q, hq, rfl, HG⟩ := hrel
        by_cases hltq : q < rl
        · obtain ⟨r, hr⟩ : ∃ r, g.rules[q]? = some r := ⟨_, List.getElem?_eq_getElem (by rw [← HRL.out]; exact hltq)⟩
          obtain ⟨g1, o1, p1, c1, e1, a0, a1, hcn⟩ := (HCL.out wr _ HG.out).2.2.rule hr
          rw [← HPR.out] at e1
          subst e1
          have hl8 : r.conj.length ≤ 8 := (HGO.out.pl.2 r (List.mem_of_getElem? hr)).1
          obtain ⟨V, hV⟩ : ∃ V, V = (wr.alloc (.cells #[.int .i64 (q : Int)] 3)).alloc (.cells #[.int .i64 r.head, .slice p1 r.conj.length c1] 53) := ⟨_, rfl⟩
          obtain ⟨nb, hnb⟩ : ∃ nb, nb = wr.heap.size := ⟨_, rfl⟩
          have hVb : Below wr.heap.size wr V := by rw [hV]; exact (bel1 _ _).alloc (by simp) _
          have GV : Hid (Gives g W D T X R 0 K (fun K' => FrA g W m K' ∧ FrB g W T q K') Y V) := HBEL.out _ _ _ HG.out hVb
          have HGB : Hid (∀ w', Below V.heap.size V w' → Gives g W D T X R 0 K (fun K' => FrA g W m K' ∧ FrB g W T q K') Y w') := fun w' hb => HBEL.out _ _ _ GV.out hb
          have v0 : V.cell? ⟨nb, 0, none⟩ = some (.int .i64 (q : Int)) := by
            rw [hnb, hV]
            exact (World.cell?_alloc_past _ _ _ (by simp)).trans (World.cell?_alloc_at _ _ _ _ rfl)
          have v1 : V.cell? ⟨nb + 1, 0, none⟩ = some (.int .i64 r.head) := by
            rw [hnb, hV]
            exact World.cell?_alloc_at _ _ _ _ (by simp)
          have v2 : V.cell? ⟨nb + 1, 1, none⟩ = some (.slice p1 r.conj.length c1) := by
            rw [hnb, hV]
            exact World.cell?_alloc_at _ _ _ _ (by simp)
          have hno : ¬ OwnR wr R nb := by
            obtain ⟨K1, fd1, h1, -, -, -⟩ := HG.out
            exact h1.rs.newer (by omega)
          have hRl : R < wr.heap.size := by
            obtain ⟨K1, fd1, h1, -, -, -⟩ := HG.out
            exact block_lt_of_cell h1.rs.r0
          have hnr : nb ≠ D.rb := by
            obtain ⟨K1, fd1, h1, -, -, -⟩ := HG.out
            have := HS.out.fm.rB; have := HS.out.wm.lo; have := h1.rs.bu.size; omega
          have HSC : Hid (∀ w', Below V.heap.size V w' → w'.cell? ⟨bx, 0, none⟩ = some (.pointer (some ⟨R, 0, none⟩)) ∧ w'.cell? ⟨nb, 0, none⟩ = some (.int .i64 (q : Int)) ∧ w'.cell? ⟨nb + 1, 0, none⟩ = some (.int .i64 r.head)) := fun w' hb => ⟨(HCS.out _ _ (HGB.out w' hb)).1, (hb.cell (p := ⟨_, _, none⟩) (block_lt_of_cell v0)).trans v0, (hb.cell (p := ⟨_, _, none⟩) (block_lt_of_cell v1)).trans v1⟩
          have HYES : Hid (∀ w', (∃ d, d ∈ r.conj ∧ d.neg = false) → Below V.heap.size V w' → Gives g W D T X R 0 K (fun K' => FrA g W m K' ∧ FrB g W T (q + 1) K') Y w') := fun w' hd hb => HSK2.out q r w' hr hd (HGB.out w' hb)
          have HNO : Hid (∀ w', ¬ (∃ d, d ∈ r.conj ∧ d.neg = false) → Below V.heap.size V w' → Calls Tryz.prog 66 #[.pointer (some ⟨R, 0, none⟩), .int .i64 r.head, .func (.func 70) #[] #[.pointer (some ⟨bx, 0, none⟩), .pointer (some ⟨nb, 0, none⟩)]] w' fun e w'' => e = .returned (.tuple #[]) ∧ Hid (Gives g W D T X R 0 K (fun K' => FrA g W m K' ∧ FrB g W T (q + 1) K') Y w'')) := fun w' hd hb => KH.out q r nb w' hr (fun d hm => by
              cases hn : d.neg with
              | true => rfl
              | false => exact absurd ⟨d, hm, hn⟩ hd) (HSC.out w' hb).2.1 hnr (by omega) (fun ⟨v, h1, h2⟩ => hno ⟨v, by
                have e1 := (hb.cell (p := ⟨R, 2, none⟩) (Nat.lt_of_lt_of_le hRl hVb.size)).trans (hVb.cell (p := ⟨R, 2, none⟩) hRl)
                rw [← e1]; exact h1, h2⟩) (HGB.out w' hb)
          have KC : Hid (Calls Tryz.prog 68 #[.slice p1 r.conj.length c1, .func (.func 69) #[] #[]] V fun e w' => e = .returned (.bool (r.conj.any fun d => !d.neg)) ∧ Hid (Below V.heap.size V w')) := containsNeg_any V _ r.conj (hcn.any hVb) hl8
          have hany : (r.conj.any fun d => !d.neg) = true ↔ ∃ d, d ∈ r.conj ∧ d.neg = false := by rw [List.any_eq_true]; simp
          have HY2 : Hid ((r.conj.any fun d => !d.neg) = true → ∀ w', Below V.heap.size V w' → Gives g W D T X R 0 K (fun K' => FrA g W m K' ∧ FrB g W T (q + 1) K') Y w') := fun h w' hb => HYES.out w' (hany.1 h) hb
          have HN2 : Hid ((r.conj.any fun d => !d.neg) = false → ∀ w', Below V.heap.size V w' → Calls Tryz.prog 66 #[.pointer (some ⟨R, 0, none⟩), .int .i64 r.head, .func (.func 70) #[] #[.pointer (some ⟨bx, 0, none⟩), .pointer (some ⟨nb, 0, none⟩)]] w' fun e w'' => e = .returned (.tuple #[]) ∧ Hid (Gives g W D T X R 0 K (fun K' => FrA g W m K' ∧ FrB g W T (q + 1) K') Y w'')) := fun h w' hb => HNO.out w' (fun hx => by rw [hany.2 hx] at h; cases h) hb
          generalize (r.conj.any fun d => !d.neg) = b at KC HY2 HN2
          clear hany HYES HNO
          obtain ⟨cl, hcl⟩ : ∃ cl, cl = r.conj.length := ⟨_, rfl⟩
          rw [← hcl] at hV a1 v2 KC
          obtain ⟨hd, hhd⟩ : ∃ hd, hd = r.head := ⟨_, rfl⟩
          rw [← hhd] at hV a0 v1 HSC HN2
          clear hr hcn hl8 hVb GV HG v0 hno hRl hnr hcl hhd KH HSK2 KS
          go_upto_region 11 with fail
          rw [← hV, ← hnb]
          clear hV hnb a0 a1
          cases b with
          | true =>
            have HY3 : Hid (∀ w', Below V.heap.size V w' → Gives g W D T X R 0 K (fun K' => FrA g W m K' ∧ FrB g W T (q + 1) K') Y w') := HY2.out rfl
            clear HY2 HN2
            go_wp2_with (go_at_call 68; refine KC.out.mono ?_; rintro e w4 ⟨rfl, B4⟩)
            have G9 := HY3.out w4 B4.out
            have HG9 : Hid (Gives g W D T X R 0 K (fun K' => FrA g W m K' ∧ FrB g W T (q + 1) K') Y w4) := G9
            clear G9
            go_roundw
            case rel => exact ⟨q + 1, by omega, by go_num, HG9⟩
            case measure => simp [intOf]; omega
          | false =>
            have HN3 : Hid (∀ w', Below V.heap.size V w' → Calls Tryz.prog 66 #[.pointer (some ⟨R, 0, none⟩), .int .i64 hd, .func (.func 70) #[] #[.pointer (some ⟨bx, 0, none⟩), .pointer (some ⟨nb, 0, none⟩)]] w' fun e w'' => e = .returned (.tuple #[]) ∧ Hid (Gives g W D T X R 0 K (fun K' => FrA g W m K' ∧ FrB g W T (q + 1) K') Y w'')) := HN2.out rfl
            clear HN2 HY2
            go_wp2_with (first
              | (go_at_call 68; refine KC.out.mono ?_; rintro e w4 ⟨rfl, B4⟩; obtain ⟨s0, s1, s2⟩ := HSC.out w4 B4.out; have K4 := HN3.out w4 B4.out; clear HN3)
              | (fail))
            go_at_call 66
            refine K4.mono ?_
            rintro e w5 ⟨rfl, G5⟩
            go_wp2
            go_roundw
            case rel => exact ⟨q + 1, by omega, by go_num, G5⟩
            case measure => simp [intOf]; omega
        · obtain rfl : q = rl := by omega
          have FIN : Hid (Gives g W D T X R 0 K PF w wr) := by
            show Gives _ _ _ _ _ _ _ _ _ _ _
            rw [HPF.out, ← HL.out, ← HRL.out]
            exact HFIN.out _ _ HG.out
          clear HG
          go_wp2
          go_end0
          exact ⟨rfl, FIN⟩
end Go.Proofs.YtfjejnkjlnkkhaaGreatDoor
