import Derived.Test.YtfjejnkjlnkkhaaGreatDoorGm
import Derived.Test.YtfjejnkjlnkkhaaGreatDoorGk
import Derived.Shelf.Spec.TrailingZeros
/- A round of ranks: followWhole of the program. -/
namespace Go.Proofs.YtfjejnkjlnkkhaaGreatDoor
set_option linter.unusedVariables false
set_option linter.unusedSimpArgs false
open Go.ChangeShapes Go.WideShapes Go.ChangeAt Go.RowKit

/-- In round t + 1: memory, and what is given. -/
structure Sx (g : Gr) (W : ByteArray) (D : Md) (T : SpM) (X : World) (R t : Nat) (K : Nat → Nat) (fd : List Fct) (w' : World) : Prop where
  rs : Rs g W D X R (t + 1) K fd w'
  rk : Rk (btsW W) W.size g.names.length g.rules (nmT g.names.length T) (t + 1) t K fd
def Up (K K' : Nat → Nat) : Prop := ∀ z, K z ≠ 0 → K' z ≠ 0
theorem Up.refl (K : Nat → Nat) : Up K K := fun _ h => h
theorem Up.trans {K K' K'' : Nat → Nat} (h : Up K K') (k : Up K' K'') : Up K K'' := fun z hz => k z (h z hz)
/-- What a call that gives leaves. -/
def Gives (g : Gr) (W : ByteArray) (D : Md) (T : SpM) (X : World) (R t : Nat) (K : Nat → Nat) (P : (Nat → Nat) → Prop) (w w' : World) : Prop := ∃ K' fd', Sx g W D T X R t K' fd' w' ∧ Up K K' ∧ P K' ∧ Kq R D.rb w w'
abbrev AtM (g : Gr) (W : ByteArray) (T : SpM) := At (btsW W) W.size g.names.length g.rules (nmT g.names.length T)
section
variable {F : Nat → Prop} {g : Gr} {W : ByteArray} {D : Md} {T : SpM} {X : World} {R t : Nat} {K : Nat → Nat} {fd : List Fct} {w : World}
theorem Rs.any (h : Rs g W D X R t K fd w) {w' : World} (hb : Below w.heap.size w w') : Rs g W D X R t K fd w' := by
  have hR := block_lt_of_cell h.r0
  obtain ⟨p, c, r2, ow⟩ := h.rr
  exact ⟨h.bu.trans (Bu.of hb), h.rk.any hb, (hb.cell (p := ⟨R, 0, none⟩) hR).trans h.r0, (hb.cell (p := ⟨R, 1, none⟩) hR).trans h.r1, ⟨p, c, (hb.cell (p := ⟨R, 2, none⟩) hR).trans r2, row_keep ow hb⟩, fun k => (hb.frozen (p := ⟨R, k, none⟩) hR).trans (h.fz k), h.xr, h.ln⟩
theorem Sx.any (h : Sx g W D T X R t K fd w) {w' : World} (hb : Below w.heap.size w w') : Sx g W D T X R t K fd w' := ⟨h.rs.any hb, h.rk⟩
theorem giveS_any (hs : Ws F g W D T X) (h : Sx g W D T X R t K fd w) (y i j : Nat) (ha : AtM g W T (t + 1) y i j) :
    Calls Tryz.prog 94 #[.pointer (some ⟨R, 0, none⟩), .int .i64 (y : Int), .int .i64 (i : Int), .int .i64 (j : Int)] w fun e w' => e = .returned (.tuple #[]) ∧ Hid (Gives g W D T X R t K (fun K' => K' (idx W.size y i j) ≠ 0) w w') := by
  have hsp := ha.1
  refine (give_any hs h.rs (by omega) y i j ha.num (by omega) hsp.2).mono ?_
  rintro e w' ⟨rfl, hr, hk⟩
  refine ⟨rfl, _, _, ⟨hr.out, ?_⟩, ?_, ?_, hk.out⟩
  · unfold givK givF
    by_cases hz : K (idx W.size y i j) = 0
    · rw [if_pos hz, if_pos hz]; exact h.rk.give ha hz
    · rw [if_neg hz, if_neg hz]; exact h.rk
  · unfold givK
    split
    · exact putK_up (by omega)
    · exact Up.refl K
  · unfold givK
    split
    · unfold putK; rw [if_pos rfl]; omega
    · assumption
theorem MnOk.hol {b : Nat → Nat} {n N : Nat} {L : List Ru} {T : SpM} (h : MnOk b n N L T) {q : Nat} {r : Ru} (hr : L[q]? = some r) {i j : Nat} (hi : i ≤ j) (hj : j ≤ n) : holM N L T q r i j = holB3 b (nmT N T) r i j := by
  have key : ∀ c d, r.conj[c]? = some d → rsT N L T q c 0 i j = restB b (nmT N T) d.seq i j := fun c d hd => by
    have := h.rs q c 0 i j r d hr hd (Nat.zero_le _) hi hj
    rw [List.drop_zero] at this
    exact this
  unfold holM holB3
  rw [Bool.eq_iff_iff, List.all_eq_true, List.all_eq_true]
  constructor
  · intro g d hd
    obtain ⟨c, hcd⟩ := List.mem_iff_getElem?.1 hd
    have := g c (List.mem_range.2 (List.getElem?_eq_some_iff.1 hcd).1)
    rw [List.getD_eq_getElem?_getD, hcd, key c d hcd] at this
    exact this
  · intro g c hc
    have hlt := List.mem_range.1 hc
    have hcd : r.conj[c]? = some r.conj[c] := List.getElem?_eq_getElem hlt
    rw [List.getD_eq_getElem?_getD, hcd, key c _ hcd]
    exact g _ (List.getElem_mem hlt)
theorem Rs.newer (h : Rs g W D X R t K fd w) {k : Nat} (hk : w.heap.size ≤ k) : ¬ OwnR w R k := by
  rintro ⟨v, h1, h2⟩
  obtain ⟨p, c, r2, ow⟩ := h.rr
  rw [r2] at h1
  injection h1 with h1
  subst h1
  have := (ow.lt k h2).2
  omega
end
set_option maxHeartbeats 4000000 in
set_option maxRecDepth 100000 in
theorem followWhole_any {F : Nat → Prop} {g : Gr} {W : ByteArray} {D : Md} {T : SpM} {X : World} {R t : Nat} {K : Nat → Nat} {fd : List Fct} (w : World) (hs : Ws F g W D T X) (hT : MnOk (btsW W) W.size g.names.length g.rules T) {f : Nat → Nat} (hgo : GrOk g f) (h : Sx g W D T X R t K fd w) {q : Nat} {r : Ru} (hr : g.rules[q]? = some r) (y i j : Nat) (hij : i ≤ j) (hj : j ≤ W.size) :
    Calls Tryz.prog 73 #[.pointer (some ⟨R, 0, none⟩), .int .i64 (q : Int), .agg #[.int .i64 (y : Int), .int .i64 (i : Int), .int .i64 (j : Int)]] w fun e w' => e = .returned (.tuple #[]) ∧ Hid (Gives g W D T X R t K (fun K' => holB3 (btsW W) (nmT g.names.length T) r i j = true → (∀ c d, r.conj[c]? = some d → d.neg = false → AtM g W T t (g.names.length + ofRu g.rules q c) i j) → K' (idx W.size r.head.toNat i j) ≠ 0) w w') := by
  obtain ⟨P, hP⟩ : ∃ P : (Nat → Nat) → Prop, P = fun K' => holB3 (btsW W) (nmT g.names.length T) r i j = true → (∀ c d, r.conj[c]? = some d → d.neg = false → AtM g W T t (g.names.length + ofRu g.rules q c) i j) → K' (idx W.size r.head.toNat i j) ≠ 0 := ⟨_, rfl⟩
  rw [← hP]
  have HP : Hid (P = fun K' => holB3 (btsW W) (nmT g.names.length T) r i j = true → (∀ c d, r.conj[c]? = some d → d.neg = false → AtM g W T t (g.names.length + ofRu g.rules q c) i j) → K' (idx W.size r.head.toNat i j) ≠ 0) := hP
  have hR1 : R < w.heap.size := block_lt_of_cell h.rs.r0
  have hnew := h.rs.newer (Nat.le_refl _)
  have hnr : w.heap.size ≠ D.rb := by have := hs.fm.rB; have := hs.wm.lo; have := h.rs.bu.size; omega
  obtain ⟨X2, hX2⟩ : ∃ X2, X2 = w.alloc (.cells #[.int .i64 (y : Int), .int .i64 (i : Int), .int .i64 (j : Int)] 109) := ⟨_, rfl⟩
  have hX2s : X2.heap.size = w.heap.size + 1 := by rw [hX2]; simp
  have hXb : Below w.heap.size w X2 := by rw [hX2]; exact bel1 _ _
  have hX := h.any hXb
  obtain ⟨hW, hHas⟩ := hs.at hX.rs.bu
  obtain ⟨g1, o1, p1, c1, e1, a0, a1, hcn⟩ := hW.rule hr
  have hk3 := hW.k3
  rw [e1] at hk3
  have hq := (List.getElem?_eq_some_iff.1 hr).1
  have r0 := hX.rs.r0
  obtain ⟨nb, hnb⟩ : ∃ nb, nb = w.heap.size := ⟨_, rfl⟩
  have x1 : X2.cell? ⟨nb, 1, none⟩ = some (.int .i64 (i : Int)) := by rw [hnb, hX2]; exact World.cell?_alloc_at _ _ _ _ rfl
  have x2 : X2.cell? ⟨nb, 2, none⟩ = some (.int .i64 (j : Int)) := by rw [hnb, hX2]; exact World.cell?_alloc_at _ _ _ _ rfl
  have HS : Hid (Ws F g W D T X) := hs
  have HT : Hid (MnOk (btsW W) W.size g.names.length g.rules T) := hT
  have HGO : Hid (GrOk g f) := hgo
  have HX : Hid (Sx g W D T X R t K fd X2) := hX
  have HR : Hid (g.rules[q]? = some r) := hr
  have HC : Hid (IsCns X2 F (.slice p1 r.conj.length c1) r.conj) := hcn
  have HL : Hid (Bu D.rb X X2) := hX.rs.bu
  have hn9 : r.conj.length ≤ 8 := (hgo.pl.2 r (List.mem_of_getElem? hr)).1
  obtain ⟨n, hn⟩ : ∃ n, n = r.conj.length := ⟨_, rfl⟩
  have HN : Hid (n = r.conj.length) := hn
  obtain ⟨l, hl⟩ : ∃ l, l = g.rules.length := ⟨_, rfl⟩
  have HLL : Hid (l = g.rules.length) := hl
  rw [← hn] at a1 hn9
  rw [← hl] at hk3 hq
  have HXC : Hid (∀ w', Below X2.heap.size X2 w' → w'.cell? ⟨nb, 1, none⟩ = some (.int .i64 (i : Int)) ∧ w'.cell? ⟨nb, 2, none⟩ = some (.int .i64 (j : Int))) := fun w' hb => ⟨(hb.cell (p := ⟨_, _, none⟩) (block_lt_of_cell x1)).trans x1, (hb.cell (p := ⟨_, _, none⟩) (block_lt_of_cell x2)).trans x2⟩
  -- what stays when it is done
  have HK : Hid (∀ w', Below X2.heap.size X2 w' → Kq R D.rb w w') := fun w' hb => Kq.of (hXb.trans (hb.mono (by omega))) hR1
  have HNO : Hid (∀ w', Below X2.heap.size X2 w' → P K → Gives g W D T X R t K P w w') := fun w' hb hp => ⟨K, fd, HX.out.any hb, Up.refl _, hp, HK.out w' hb⟩
  have HCE : Hid (∀ w', Wm F g W D w' → w'.cell? ⟨D.kb, 3, none⟩ = some (.slice (some ⟨g1, o1, none⟩) g.rules.length D.cr) ∧ w'.cell? ⟨g1, o1 + q * 2, none⟩ = some (.int .i64 r.head)) := fun w' hW' => by
    have h3 := hW'.k3
    rw [e1] at h3
    obtain ⟨g1', o1', p1', c1', e1', a0', -, -⟩ := hW'.rule hr
    rw [e1] at e1'
    injection e1' with e1'
    injection e1' with e2 e3
    subst e2 e3
    exact ⟨h3, a0'⟩
  have HSA : Hid (∀ w', Below X2.heap.size X2 w' → w'.cell? ⟨R, 0, none⟩ = some (.pointer (some ⟨D.kb, 0, none⟩)) ∧ w'.cell? ⟨D.kb, 3, none⟩ = some (.slice (some ⟨g1, o1, none⟩) l D.cr) ∧ w'.cell? ⟨g1, o1 + q * 2, none⟩ = some (.int .i64 r.head) ∧ w'.cell? ⟨nb, 1, none⟩ = some (.int .i64 (i : Int)) ∧ w'.cell? ⟨nb, 2, none⟩ = some (.int .i64 (j : Int))) := fun w' hb => by
    have hY := HX.out.any hb
    obtain ⟨z3, z4⟩ := HCE.out w' (HS.out.at hY.rs.bu).1
    obtain ⟨z1, z2⟩ := HXC.out w' hb
    rw [← hl] at z3
    exact ⟨hY.rs.r0, z3, z4, z1, z2⟩
  have HSB : Hid (∀ w', Gives g W D T X R t K P w w' → Kq R D.rb X2 w' → w'.cell? ⟨R, 0, none⟩ = some (.pointer (some ⟨D.kb, 0, none⟩)) ∧ w'.cell? ⟨D.kb, 3, none⟩ = some (.slice (some ⟨g1, o1, none⟩) l D.cr) ∧ w'.cell? ⟨g1, o1 + q * 2, none⟩ = some (.int .i64 r.head) ∧ w'.cell? ⟨nb, 1, none⟩ = some (.int .i64 (i : Int)) ∧ w'.cell? ⟨nb, 2, none⟩ = some (.int .i64 (j : Int))) := fun w' ⟨K', fd', hY, _, _, _⟩ hk => by
    obtain ⟨z3, z4⟩ := HCE.out w' (HS.out.at hY.rs.bu).1
    rw [← hl] at z3
    have hno : ¬ OwnR X2 R nb := fun ⟨v, h1, h2⟩ => hnew ⟨v, (hXb.cell (p := ⟨R, 2, none⟩) hR1).symm.trans h1, by rw [← hnb]; exact h2⟩
    exact ⟨hY.rs.r0, z3, z4, hk.cell (by omega) (by omega) hno x1, hk.cell (by omega) (by omega) hno x2⟩
  have KH : Hid (∀ w', Below X2.heap.size X2 w' → Calls Tryz.prog 71 #[.pointer (some ⟨D.kb, 0, none⟩), .int .i64 (q : Int), .int .i64 (i : Int), .int .i64 (j : Int)] w' fun e w'' => e = .returned (.bool (holB3 (btsW W) (nmT g.names.length T) r i j)) ∧ Hid (Below X2.heap.size X2 w'')) := fun w' hb => by
    have hY := HX.out.any hb
    obtain ⟨hWw, hHh⟩ := HS.out.at hY.rs.bu
    have := HS.out.hm
    rw [← HT.out.hol HR.out hij hj]
    exact (holdsM_any F g W D T w' hWw HS.out.fm hHh HR.out i j (by omega) (by omega) HGO.out.pl).mono fun e w'' ⟨h1, h2⟩ => ⟨h1, hb.trans (h2.out.mono hb.size)⟩
  obtain ⟨x, hx⟩ : ∃ x, x = r.head.toNat := ⟨_, rfl⟩
  have hxh : r.head = (x : Int) := by have := HGO.out.hd r (List.mem_of_getElem? HR.out); omega
  have KGV : Hid (holB3 (btsW W) (nmT g.names.length T) r i j = true → (∀ c d, r.conj[c]? = some d → d.neg = false → AtM g W T t (g.names.length + ofRu g.rules q c) i j) → ∀ w', Below X2.heap.size X2 w' → Calls Tryz.prog 94 #[.pointer (some ⟨R, 0, none⟩), .int .i64 (x : Int), .int .i64 (i : Int), .int .i64 (j : Int)] w' fun e w'' => e = .returned (.tuple #[]) ∧ Hid (Gives g W D T X R t K P w w'') ∧ Hid (Kq R D.rb X2 w'')) := fun h1 h2 w' hb => by
    have ha := at_whole HGO.out.nm HT.out.stb HR.out hij hj h1 h2
    rw [← hx] at ha
    refine (giveS_any HS.out (HX.out.any hb) x i j ha).mono ?_
    rintro e w'' ⟨rfl, hgv⟩
    obtain ⟨K', fd', k1, k2, k3, k4⟩ := hgv.out
    refine ⟨rfl, ⟨K', fd', k1, k2, ?_, (HK.out w' hb).trans k4⟩, (Kq.of hb (by omega)).trans k4⟩
    rw [HP.out]
    intro _ _
    rw [← hx]
    exact k3
  rw [hxh] at HSA HSB
  clear h hs hT hgo hX hW hHas hcn hr hn hl hXb hP hR1 hnew hnr hX2s HCE HK hx hxh a0
  go_enter Tryz.func73, Tryz.ntmps73
  go_upto_region 1 with fail
  rw [← hX2, ← hnb]
  clear hX2 hnb
  go_wp2
  go_loopw [21] (fun x wr => ∃ c : Nat, c ≤ n ∧ x = .int .i64 (c : Int) ∧ Hid (Below X2.heap.size X2 wr) ∧ Hid (∀ c' d', c' < c → r.conj[c']? = some d' → d'.neg = false → AtM g W T t (g.names.length + ofRu g.rules q c') i j)) (fun x _ => n - (intOf x).toNat)
  case atStart => exact ⟨0, Nat.zero_le _, rfl, Below.refl _ _, (fun c' d' h => (by omega))⟩
  case round =>
    clear hk3 a1 r0 x1 x2
    obtain ⟨c, hc, rfl, HB, HA⟩ := hrel
    by_cases hlt : c < n
    · obtain ⟨d, hd⟩ : ∃ d, r.conj[c]? = some d := ⟨_, List.getElem?_eq_getElem (by rw [← HN.out]; exact hlt)⟩
      have HD : Hid (r.conj[c]? = some d) := hd
      obtain ⟨g2, o2, p2, c2, e2, hg2, b0, b1, hsy⟩ := cn_at (HC.out.any HB.out) hd
      subst e2
      obtain ⟨V, hV⟩ : ∃ V, V = wr.alloc (.cells #[.bool d.neg, .slice p2 d.seq.length c2] 48) := ⟨_, rfl⟩
      have hVb : Below wr.heap.size wr V := by rw [hV]; exact bel1 _ _
      have hVB : Below X2.heap.size X2 V := HB.out.trans (hVb.mono HB.out.size)
      have HVB : Hid (Below X2.heap.size X2 V) := hVB
      have hSV := HX.out.any hVB
      obtain ⟨hW, -⟩ := HS.out.at hSV.rs.bu
      obtain ⟨g4, o4, u4, e4, -, hg4, x4, hi4⟩ := hW.wh.row (k := q) (List.getElem?_eq_some_iff.1 HR.out).1
      obtain ⟨p5, c5, e5, hm5, hz5⟩ := Reads.num hi4
      have hwl := whL_len (N := g.names.length) HR.out
      have hwa := whL_at (N := g.names.length) HR.out hd
      obtain ⟨g6, o6, e6, -, hg6, x6⟩ := hz5 c _ hwa
      subst e5 e6
      rw [hwl, ← HN.out] at x4
      have k6 := hW.k6
      rw [e4, ← HLL.out] at k6
      have r0 := hSV.rs.r0
      have q0 : V.cell? ⟨wr.heap.size, 0, none⟩ = some (.bool d.neg) := by rw [hV]; exact World.cell?_alloc_at _ _ _ _ rfl
      obtain ⟨nb2, hnb2⟩ : ∃ nb2, nb2 = wr.heap.size := ⟨_, rfl⟩
      rw [← hnb2] at q0
      obtain ⟨q1, q2⟩ := HXC.out V hVB
      obtain ⟨z, hz⟩ : ∃ z, z = g.names.length + ofRu g.rules q c := ⟨_, rfl⟩
      have hzA : z < allN g := by have := ofRu_lt HR.out hd (Nat.zero_le d.seq.length); rw [hz]; unfold allN; omega
      rw [← hz] at x6
      have HZ : Hid (z = g.names.length + ofRu g.rules q c) := hz
      obtain ⟨sl, hsl⟩ : ∃ sl, sl = d.seq.length := ⟨_, rfl⟩
      rw [← hsl] at hV b1
      cases hng : d.neg with
      | true =>
        rw [hng] at hV b0 q0
        have HA2 : Hid (∀ c' d', c' < c + 1 → r.conj[c']? = some d' → d'.neg = false → AtM g W T t (g.names.length + ofRu g.rules q c') i j) := fun c' d' h1 h2 h3 => by
          by_cases e : c' = c
          · subst e; rw [HD.out] at h2; injection h2 with h2; subst h2; rw [hng] at h3; cases h3
          · exact HA.out c' d' (by omega) h2 h3
        clear hd hsy hVb hVB hSV hW hi4 hz5 hwl hwa hz hm5 e4 hsl hng
        go_upto_region 4 with fail
        rw [← hV, ← hnb2]
        clear hV hnb2
        go_quiet (fail)
        go_wp2
        go_roundw
        case rel => exact ⟨c + 1, by omega, by go_num, below_drewN HVB.out _, HA2⟩
        case measure => simp [intOf]; omega
      | false =>
        rw [hng] at hV b0 q0
        obtain ⟨v, hv⟩ : ∃ v : Bool, (v = true ↔ AtM g W T t z i j) ∧ ∀ m, Calls Tryz.prog 97 #[.pointer (some ⟨R, 0, none⟩), .int .i64 (z : Int), .int .i64 (i : Int), .int .i64 (j : Int)] (V.drewN m) fun e w' => e = .returned (.bool v) ∧ w' = V.drewN m := by
          refine ⟨decide (K (idx W.size z i j) ≠ 0) && decide (K (idx W.size z i j) < t + 1), ?_, fun m => ?_⟩
          · unfold AtM; rw [← hSV.rk.given hij hj]; simp
          · exact (isGiven_any HS.out (hSV.rs.any (below_drewN (Below.refl _ _) m)) z i j hzA (by omega) hj).mono fun e w' ⟨h1, h2⟩ => ⟨h1, h2.symm⟩
        obtain ⟨hv1, KG⟩ := hv
        have HFV : Hid (∀ m, Below X2.heap.size X2 (V.drewN m)) := fun m => below_drewN HVB.out m
        cases v with
        | true =>
          have HA2 : Hid (∀ c' d', c' < c + 1 → r.conj[c']? = some d' → d'.neg = false → AtM g W T t (g.names.length + ofRu g.rules q c') i j) := fun c' d' h1 h2 h3 => by
            by_cases e : c' = c
            · subst e; rw [← hz]; exact hv1.1 rfl
            · exact HA.out c' d' (by omega) h2 h3
          clear hd hsy hVb hVB hSV hW hi4 hz5 hwl hwa hz hm5 e4 hsl hng hv1
          go_upto_region 4 with fail
          rw [← hV, ← hnb2]
          clear hV hnb2
          go_quiet ((go_at_call 97; exact Calls.quiet_of_same (KG _)))
          go_wp2
          go_roundw
          case rel => exact ⟨c + 1, by omega, by go_num, HFV.out _, HA2⟩
          case measure => simp [intOf]; omega
        | false =>
          have HFN : Hid (∀ m, Gives g W D T X R t K P w (V.drewN m)) := fun m => HNO.out _ (HFV.out m) (by
            rw [HP.out]
            exact fun _ h9 => absurd (hv1.2 (by rw [hz]; exact h9 c d HD.out hng)) (by decide))
          clear hd hsy hVb hVB hSV hW hi4 hz5 hwl hwa hz hm5 e4 hsl hng hv1
          go_upto_region 4 with fail
          rw [← hV, ← hnb2]
          clear hV hnb2
          go_quiet ((go_at_call 97; exact Calls.quiet_of_same (KG _)))
          go_wp2
          refine bodyPost_ret (v := .tuple #[]) (results_none rfl _ _ _) rfl ⟨rfl, HFN.out _⟩
    · have hcn : c = n := by omega
      subst hcn
      have HA2 : Hid (∀ c d, r.conj[c]? = some d → d.neg = false → AtM g W T t (g.names.length + ofRu g.rules q c) i j) := fun c' d' h1 h2 => HA.out c' d' (by rw [HN.out]; exact (List.getElem?_eq_some_iff.1 h1).1) h1 h2
      clear HA
      have HV1 : Hid (∀ w', Below X2.heap.size X2 w' → holB3 (btsW W) (nmT g.names.length T) r i j = false → Gives g W D T X R t K P w w') := fun w' hb hf => HNO.out w' hb (by rw [HP.out, hf]; exact fun h => by cases h)
      have KGW : Hid (holB3 (btsW W) (nmT g.names.length T) r i j = true → ∀ w', Below X2.heap.size X2 w' → Calls Tryz.prog 94 #[.pointer (some ⟨R, 0, none⟩), .int .i64 (x : Int), .int .i64 (i : Int), .int .i64 (j : Int)] w' fun e w'' => e = .returned (.tuple #[]) ∧ Hid (Gives g W D T X R t K P w w'') ∧ Hid (Kq R D.rb X2 w'')) := fun h1 => KGV.out h1 HA2.out
      generalize holB3 (btsW W) (nmT g.names.length T) r i j = v at KH HV1 KGW
      clear HA2 KGV HNO HXC HX HS HT HGO HR HC HL
      go_wp2
      go_region_held3 (fun w' => Below X2.heap.size X2 w' ∧ w'.cell? ⟨R, 0, none⟩ = some (.pointer (some ⟨D.kb, 0, none⟩)) ∧ w'.cell? ⟨D.kb, 3, none⟩ = some (.slice (some ⟨g1, o1, none⟩) l D.cr) ∧ w'.cell? ⟨g1, o1 + q * 2, none⟩ = some (.int .i64 (x : Int)) ∧ w'.cell? ⟨nb, 1, none⟩ = some (.int .i64 (i : Int)) ∧ w'.cell? ⟨nb, 2, none⟩ = some (.int .i64 (j : Int)))
        ((first | (refine ⟨b4, HSA.out _ b4⟩; done) | exact ⟨HB.out.drew, HSA.out _ HB.out.drew⟩))
        ((go_at_call 71; refine (KH.out _ HB.out.drew).mono ?_; rintro e w3 ⟨rfl, b3⟩; have b4 : Below X2.heap.size X2 w3 := b3.out))
      have HB3 : Hid (Below X2.heap.size X2 w3) := b4
      clear b3 b4 HB KH
      cases v with
      | false =>
        have FIN : Hid (Gives g W D T X R t K P w w3) := HV1.out w3 HB3.out rfl
        go_wp2
        go_end0
        exact ⟨rfl, FIN⟩
      | true =>
        have KGX : Hid (Calls Tryz.prog 94 #[.pointer (some ⟨R, 0, none⟩), .int .i64 (x : Int), .int .i64 (i : Int), .int .i64 (j : Int)] w3.drew fun e w'' => e = .returned (.tuple #[]) ∧ Hid (Gives g W D T X R t K P w w'') ∧ Hid (Kq R D.rb X2 w'')) := KGW.out rfl _ HB3.out.drew
        go_wp2
        go_region_held3 (fun w' => w'.cell? ⟨R, 0, none⟩ = some (.pointer (some ⟨D.kb, 0, none⟩)) ∧ w'.cell? ⟨D.kb, 3, none⟩ = some (.slice (some ⟨g1, o1, none⟩) l D.cr) ∧ w'.cell? ⟨g1, o1 + q * 2, none⟩ = some (.int .i64 (x : Int)) ∧ w'.cell? ⟨nb, 1, none⟩ = some (.int .i64 (i : Int)) ∧ w'.cell? ⟨nb, 2, none⟩ = some (.int .i64 (j : Int)))
          ((first | (exact b6) | exact HSA.out _ HB3.out.drew))
          ((go_at_call 94; refine KGX.out.mono ?_; rintro e w5 ⟨rfl, G5, k5⟩; have b6 := HSB.out w5 G5.out k5.out))
        clear b6 k5
        go_wp2
        go_end0
        exact ⟨rfl, G5⟩
end Go.Proofs.YtfjejnkjlnkkhaaGreatDoor
/- The points of a word, one by one: TrailingZeros64, points.all of the program. -/
namespace Go.Proofs.YtfjejnkjlnkkhaaGreatDoor
set_option linter.unusedVariables false
set_option linter.unusedSimpArgs false
open Go.ChangeShapes Go.WideShapes Go.ChangeAt Go.RowKit Go.Shelf
attribute [local go_sem] Oper.semAt_some

/-- The library's table in its variable. -/
def TabG (w : World) : Prop := TabAt 0 Lib.deBruijn64tab w
/-- The variable's cells stay. -/
def Kg (w w' : World) : Prop := ∀ o v, w.cell? ⟨0, o, none⟩ = some v → w'.cell? ⟨0, o, none⟩ = some v
theorem Kg.refl (w : World) : Kg w w := fun _ _ h => h
theorem Kg.trans {u v w : World} (h : Kg u v) (k : Kg v w) : Kg u w := fun o x hx => k o x (h o x hx)
theorem Kg.tab {w w' : World} (h : Kg w w') (hT : TabG w) : TabG w' := fun j hj => h _ _ (hT j hj)
theorem Kg.ofB {w w' : World} (h : Below w.heap.size w w') : Kg w w' := fun o v hv => (h.cell (p := ⟨0, o, none⟩) (block_lt_of_cell hv)).trans hv
theorem Kg.put {w : World} {l : Nat} {o o' : Obj} (h : w.heap[l]? = some o) (hc : o.isCells = false) : Kg w (w.putObj l o') := fun k v hv =>
  (Bc.put (E := fun _ => False) (o' := o') h hc).cell (fun h => h) hv
set_option maxHeartbeats 1000000 in
theorem tz_core (x k ix : Nat) (w : World) (h0 : ((x : Int) == 0) = false)
    (key : IntKind.u64.wrap (bits BinOp.and IntKind.u64 (x : Int) (IntKind.u64.wrap (-(x : Int))) * 285870213051353865) / 288230376151711744 = (ix : Int))
    (hi : ix < 64) (hk : k < 64) (hcell : w.cell? ⟨0, ix, none⟩ = some (.int .u8 k)) :
    Calls Tryz.prog 120 #[.int .u64 (x : Int)] w fun e w' => e = .returned (.int .i64 (k : Int)) ∧ w' = w := by
  go_enter Tryz.func120, Tryz.ntmps120
  go_wp2_with (simp only [key])
  go_ret
  exact ⟨rfl, rfl⟩
theorem tz_any (x : Nat) (hx : x < 18446744073709551616) (hx0 : x ≠ 0) (w : World) (hT : TabG w) :
    Calls Tryz.prog 120 #[.int .u64 (x : Int)] w fun e w' => e = .returned (.int .i64 ((Lib.ctz 64 x : Nat) : Int)) ∧ w' = w := by
  obtain ⟨hlow, hk⟩ := Lib.lowest_bit 64 x hx0 hx
  obtain ⟨hi, htab⟩ := Lib.deBruijn64_at _ hk
  have hcell := hT _ hi
  rw [htab] at hcell
  exact tz_core x _ _ w (by simp; omega) (tz64_key x _ hx hx0 hlow) hi hk hcell
theorem low_and {x : Nat} (hx : x < 18446744073709551616) (hx0 : x ≠ 0) : x.testBit (Lib.ctz 64 x) = true ∧ Lib.ctz 64 x < 64 ∧ ∀ j, (x &&& (x - 1)).testBit j = (x.testBit j && decide (j ≠ Lib.ctz 64 x)) := by
  obtain ⟨m, hm, hk⟩ := Lib.ctzFrom_spec 64 x (by omega) hx
  have e : Lib.ctz 64 x = Lib.ctzFrom 64 x := by simp [Lib.ctz, hx0]
  rw [e]
  generalize Lib.ctzFrom 64 x = c at *
  have h2 : 0 < 2 ^ c := Nat.two_pow_pos c
  have e1 : ∀ j, x.testBit j = if j < c then false else (2 * m + 1).testBit (j - c) := fun j => by
    have := Nat.testBit_two_pow_mul_add (2 * m + 1) (b := 0) (i := c) h2 j
    rw [Nat.add_zero, ← hm] at this
    rw [this]; simp
  have e2 : ∀ j, (x - 1).testBit j = if j < c then (2 ^ c - 1).testBit j else (2 * m).testBit (j - c) := fun j => by
    rw [show x - 1 = 2 ^ c * (2 * m) + (2 ^ c - 1) by rw [hm, Nat.mul_add]; omega]
    exact Nat.testBit_two_pow_mul_add (2 * m) (b := 2 ^ c - 1) (i := c) (by omega) j
  refine ⟨?_, hk, fun j => ?_⟩
  · rw [e1, if_neg (Nat.lt_irrefl c), Nat.sub_self]; simp
  · rw [Nat.testBit_and, e1, e2]
    by_cases hj : j < c
    · rw [if_pos hj]; simp
    · rw [if_neg hj, if_neg hj]
      cases hd : j - c with
      | zero => simp; omega
      | succ d =>
        rw [Nat.testBit_succ, Nat.testBit_succ, show (2 * m + 1) / 2 = m by omega, show 2 * m / 2 = m by omega, Bool.and_self]
        have : decide (j ≠ c) = true := decide_eq_true (by omega)
        rw [this, Bool.and_true]
/-- A point of a word. -/
abbrev Pt (z : Nat) := {k : Nat // z.testBit k = true}
def ptE (z : Nat) (x : Pt z) : Array Value := #[.int .i64 (x.val : Int)]
/-- What is left, and what was told. -/
structure Lf (z left : Nat) (pre : List (Pt z)) : Prop where
  up : ∀ k, left.testBit k = true → z.testBit k = true
  al : ∀ x : Pt z, left.testBit x.val = true ∨ x ∈ pre
  ln : pre.length + left ≤ z
theorem Lf.zero (z : Nat) : Lf z z [] := ⟨fun _ h => h, fun x => Or.inl x.2, by simp⟩
theorem Lf.done {z : Nat} {pre : List (Pt z)} (h : Lf z 0 pre) : ∀ x, x ∈ pre := fun x => (h.al x).resolve_left (by simp)
theorem Lf.step {z left : Nat} {pre : List (Pt z)} (h : Lf z left pre) (hz : z < 18446744073709551616) (h0 : left ≠ 0) : ∃ x : Pt z, x.val = Lib.ctz 64 left ∧ Lf z (left &&& (left - 1)) (pre ++ [x]) := by
  have hl := h.ln
  obtain ⟨b1, b2, b3⟩ := low_and (x := left) (by omega) h0
  refine ⟨⟨_, h.up _ b1⟩, rfl, fun k hk => ?_, fun x => ?_, ?_⟩
  · rw [b3, Bool.and_eq_true] at hk; exact h.up k hk.1
  · rcases h.al x with hx | hx
    · by_cases e : x.val = Lib.ctz 64 left
      · exact Or.inr (List.mem_append_right _ (List.mem_singleton.2 (Subtype.ext e)))
      · refine Or.inl ?_
        rw [b3, hx, Bool.true_and]; exact decide_eq_true e
    · exact Or.inr (List.mem_append_left _ hx)
  · have : left &&& (left - 1) ≤ left - 1 := Nat.and_le_right
    simp; omega
set_option maxHeartbeats 2000000 in
set_option maxRecDepth 100000 in
theorem all1_in (m l Bs z : Nat) (hz : z < 18446744073709551616) (hm : 1 ≤ m) (W : World) (hT : TabG W) (hc : W.cell? ⟨Bs, 0, none⟩ = some (.int .u64 (z : Int))) (J Jx : List (Pt z) → World → Prop)
    (hY : ∀ pre x W1, J pre W1 → pre.length < z → YieldAt Fence.wide (m - 1) Tryz.prog l (ptE z x) W1 fun e W' => (e = .returned (.bool true) ∧ J (pre ++ [x]) W' ∧ Kg W1 W') ∨ (e = .returned (.bool false) ∧ Jx (pre ++ [x]) W')) (h0 : J [] W) :
    CallsIn Fence.wide m Tryz.prog 119 #[.func (.yield l) #[] #[], .pointer (some ⟨Bs, 0, none⟩)] W fun e W' => (∃ v, e = .returned v) ∧
      ((∃ ys : List (Pt z), (∀ x, x ∈ ys) ∧ J ys W') ∨ (∃ pre : List (Pt z), True ∧ Jx pre W')) := by
  have HT : Hid (TabG W) := hT
  have HY : Hid (∀ pre x W1, J pre W1 → pre.length < z → YieldAt Fence.wide (m - 1) Tryz.prog l (ptE z x) W1 fun e W' => (e = .returned (.bool true) ∧ J (pre ++ [x]) W' ∧ Kg W1 W') ∨ (e = .returned (.bool false) ∧ Jx (pre ++ [x]) W')) := hY
  have H0 : Hid (J [] W) := h0
  clear hT hY h0
  refine callsIn_of_wp Tryz.func119 rfl trivial ?_ rfl
  simp only [Tryz.ntmps119, List.size_toArray, List.length_cons, List.length_nil, Nat.reduceAdd, Nat.reduceSub, Array.replicate_succ, Array.replicate_zero, List.push_toArray, List.append_toArray, List.nil_append, List.cons_append]
  gi_wp2
  gi_loopw [3] (fun i wr => ∃ (left : Nat) (pre : List (Pt z)), i = .int .u64 (left : Int) ∧ Hid (Lf z left pre) ∧ Hid (J pre wr) ∧ Hid (Kg W wr)) (fun i _ => (intOf i).toNat)
  case atStart => exact ⟨z, [], rfl, Lf.zero z, H0, Kg.refl _⟩
  case round =>
    obtain ⟨left, pre, rfl, HL, HJ, HB⟩ := hrel
    clear hc
    by_cases hl0 : left = 0
    · subst hl0
      have HD : Hid (∀ x, x ∈ pre) := HL.out.done
      gi_wp2
      go_end0
      exact ⟨⟨_, rfl⟩, .inl ⟨_, HD.out, HJ.out⟩⟩
    · obtain ⟨x, hx, hst⟩ := HL.out.step hz hl0
      have hln := HL.out.ln
      have hl64 : left < 18446744073709551616 := by omega
      have KT : Hid (Calls Tryz.prog 120 #[.int .u64 (left : Int)] wr fun e w' => e = .returned (.int .i64 (x.val : Int)) ∧ w' = wr) := by
        have := tz_any left hl64 hl0 wr (HB.out.tab HT.out)
        rw [← hx] at this; exact this
      have n1 : ((left : Int) == 0) = false := by rw [beq_eq_false_iff_ne]; omega
      have n2 : IntKind.u64.wrap ((left : Int) - 1) = ((left - 1 : Nat) : Int) := by rw [IntKind.wrap_u64]; omega
      have n3 : bits .and .u64 (left : Int) ((left - 1 : Nat) : Int) = ((left &&& (left - 1) : Nat) : Int) := bits_and_u64_nat _ _ hl64 (by omega)
      have hlt : left &&& (left - 1) < left := by have : left &&& (left - 1) ≤ left - 1 := Nat.and_le_right; omega
      have HST : Hid (Lf z (left &&& (left - 1)) (pre ++ [x])) := hst
      obtain ⟨fn, tmps, assign, body, hy, hR⟩ := HY.out _ x wr HJ.out (by omega)
      unfold ptE at hy
      generalize left &&& (left - 1) = l2 at *
      generalize left - 1 = l1 at *
      obtain ⟨k, hk⟩ := x
      dsimp only at KT hy
      clear hst hx hln hl64
      gi_wp2_with (refine ⟨trivial, ?_⟩; gi_at_call 120; refine (callsIn_wide.2 KT.out).mono ?_; rintro e w2 ⟨rfl, rfl⟩)
      refine hR.mono ?_
      rintro e W3 (⟨rfl, hJ3, hk3⟩ | ⟨rfl, hJx3⟩)
      · have HJ3 : Hid (J (pre ++ [⟨k, hk⟩]) W3) := hJ3
        have HB3 : Hid (Kg W W3) := HB.out.trans hk3
        clear hJ3 hk3
        gi_wp2
        go_roundw
        case rel => exact ⟨l2, _, rfl, HST, HJ3, HB3⟩
        case measure => simp [intOf]; omega
      · have HJ3 : Hid (Jx (pre ++ [⟨k, hk⟩]) W3) := hJx3
        gi_wp2
        refine bodyPost_ret (results_none rfl _ _ _) rfl ?_
        exact ⟨⟨_, rfl⟩, .inr ⟨_, trivial, HJ3.out⟩⟩
theorem all_stops (m Bs z : Nat) (hz : z < 18446744073709551616) (hm : 1 ≤ m) (w : World) (hT : TabG w) (hc : w.cell? ⟨Bs, 0, none⟩ = some (.int .u64 (z : Int))) :
    SeqStopsK Fence.wide m Tryz.prog 119 #[.pointer (some ⟨Bs, 0, none⟩)] (ptE z) Kg (fun ys => ∀ x, x ∈ ys) (fun _ => True) z w := fun l J Jx W hW _ _ hY h0 =>
  all1_in m l Bs z hz hm W ((Kg.ofB hW).tab hT) ((hW.cell (p := ⟨Bs, 0, none⟩) (block_lt_of_cell hc)).trans hc) J Jx hY h0
set_option maxHeartbeats 1000000 in
theorem all_any (z : Nat) (w : World) :
    Calls Tryz.prog 96 #[.int .u64 (z : Int)] w fun e w' => e = .returned (.func (.func 119) #[] #[.pointer (some ⟨w.heap.size, 0, none⟩)]) ∧ w' = w.alloc (.cells #[.int .u64 (z : Int)] 79) := by
  go_enter Tryz.func96, Tryz.ntmps96
  have hmf : ∀ (fn : Fn) (first cap : Array Value) (w : World), (Instr.makeFunc fn first cap).run Tryz.prog w = .ok (.func fn first cap) w := fun _ _ _ _ => rfl
  go_wp2
  go_ret
  exact ⟨rfl, rfl⟩
end Go.Proofs.YtfjejnkjlnkkhaaGreatDoor
/- A round of ranks: what abides a range over points; followRest of the program. -/
namespace Go.Proofs.YtfjejnkjlnkkhaaGreatDoor
set_option linter.unusedVariables false
set_option linter.unusedSimpArgs false
open Go.ChangeShapes Go.WideShapes Go.ChangeAt Go.RowKit Go.Shelf
attribute [local go_sem] Oper.semAt_some

/-- Cells stay, and all below B. -/
structure Sc (B : Nat) (W W' : World) : Prop where
  os : W'.os = W.os
  tape : W'.tape = W.tape
  output : W'.output = W.output
  size : W.heap.size ≤ W'.heap.size
  same : ∀ k, k < W.heap.size → (k < B ∨ ∃ o, W.heap[k]? = some o ∧ o.isCells = true) → W'.heap[k]? = W.heap[k]?
theorem Sc.blk {B : Nat} {W W' : World} (h : Sc B W W') {k o : Nat} {v : Value} (hc : W.cell? ⟨k, o, none⟩ = some v) : W'.heap[k]? = W.heap[k]? := by
  have hk := block_lt_of_cell hc
  have h1 : W.heap[k]? = some W.heap[k] := Array.getElem?_eq_getElem hk
  exact h.same k hk (Or.inr ⟨_, h1, cells_of hc _ h1⟩)
theorem Sc.cell {B : Nat} {W W' : World} (h : Sc B W W') {k o : Nat} {v : Value} (hc : W.cell? ⟨k, o, none⟩ = some v) : W'.cell? ⟨k, o, none⟩ = some v := (World.cell?_of_block (a := ⟨k, o, none⟩) (h.blk hc)).trans hc
theorem Sc.grown {B : Nat} {W W' : World} {row : Option Nat} (hg : W.grownBy W' row) (hr : ∀ r, row = some r → B ≤ r ∧ ∃ o : Obj, W.heap[r]? = some o ∧ o.isCells = false) : Sc B W W' :=
  ⟨hg.os, hg.tape, hg.output, hg.size, fun k hk h => hg.block k hk fun e => by
    obtain ⟨h1, o, h2, h3⟩ := hr k e.symm
    rcases h with h | ⟨o', h4, h5⟩
    · omega
    · rw [h2] at h4; injection h4 with h4; rw [← h4, h3] at h5; cases h5⟩
section
variable {F : Nat → Prop} {g : Gr} {W : ByteArray} {D : Md} {T : SpM} {X : World} {R t : Nat} {K : Nat → Nat} {fd : List Fct} {w w1 w2 : World} {B : Nat}
theorem Rs.sc (h : Rs g W D X R t K fd w1) (hX : X.heap.size ≤ B) (hr : D.rb < B) (s : Sc B w1 w2) : Rs g W D X R t K fd w2 := by
  have hR : w2.heap[R]? = w1.heap[R]? := s.blk h.r0
  obtain ⟨p, c, r2, ow⟩ := h.rr
  refine ⟨⟨s.os.trans h.bu.os, s.tape.trans h.bu.tape, s.output.trans h.bu.output, Nat.le_trans h.bu.size s.size, fun k hk hkb => (s.same k (Nat.lt_of_lt_of_le hk h.bu.size) (Or.inl (by omega))).trans (h.bu.block k hk hkb)⟩, h.rk.blk s.size (s.same _ h.rk.lt (Or.inl hr)), s.cell h.r0, s.cell h.r1, ⟨p, c, s.cell r2, ow.1, ?_⟩, fun k => (World.frozen?_of_block (a := ⟨R, k, none⟩) hR).trans (h.fz k), h.xr, h.ln⟩
  rcases ow.2 with hn | ⟨g', cap, cur, e, hb, hgg, rest⟩
  · exact Or.inl hn
  · exact Or.inr ⟨g', cap, cur, e, hb, (s.same g' (Array.getElem?_eq_some_iff.1 hgg).1 (Or.inr ⟨_, hgg, rfl⟩)).trans hgg, rest⟩
theorem Kq.sc (h : Kq R D.rb w w1) (hs : Rs g W D X R t K fd w1) (hw : w.heap.size ≤ B) (s : Sc B w1 w2) : Kq R D.rb w w2 :=
  ⟨Nat.le_trans h.size s.size, fun k hk h1 h2 h3 => (s.same k (Nat.lt_of_lt_of_le hk h.size) (Or.inl (by omega))).trans (h.same k hk h1 h2 h3), fun k ⟨v, e1, e2⟩ => by
    obtain ⟨p, c, r2, ow⟩ := hs.rr
    rw [s.cell r2] at e1
    injection e1 with e1
    exact h.own k ⟨_, r2, by rw [e1]; exact e2⟩⟩
theorem Gives.sc {P : (Nat → Nat) → Prop} (h : Gives g W D T X R t K P w w1) (hX : X.heap.size ≤ B) (hr : D.rb < B) (hw : w.heap.size ≤ B) (s : Sc B w1 w2) : Gives g W D T X R t K P w w2 := by
  obtain ⟨K', fd', h1, h2, h3, h4⟩ := h
  exact ⟨K', fd', ⟨h1.rs.sc hX hr s, h1.rk⟩, h2, h3, h4.sc h1.rs hw s⟩
theorem Gives.own {α : Type} {P : List α → (Nat → Nat) → Prop} (hX : X.heap.size ≤ B) (hr : D.rb < B) (hw : w.heap.size ≤ B) : OwnFrom B (fun pre W' => Gives g W D T X R t K (P pre) w W') := fun pre W1 W2 row h hg hh => h.sc hX hr hw (Sc.grown hg hh)
theorem Kq.keeps (h : Kq R D.rb w1 w2) (hs : Rs g W D X R t K fd w1) {z : Nat} (hz : z < rkZ g W) : KeepsOthers w1 w2 := ⟨h.size, fun k o hk ho => by
  refine (h.same k (Array.getElem?_eq_some_iff.1 hk).1 ?_ ?_ ?_).trans hk
  · rintro rfl; rw [cells_of (hs.rk.cl z hz) o hk] at ho; cases ho
  · rintro rfl; rw [cells_of hs.r0 o hk] at ho; cases ho
  · rintro ⟨v, e1, e2⟩
    obtain ⟨p, c, r2, ow⟩ := hs.rr
    rw [r2] at e1
    injection e1 with e1
    subst e1
    rcases ow.2 with ⟨e3, _⟩ | ⟨g', cap, cur, e3, hb, hgg, rest⟩
    · rw [e3] at e2; cases e2
    · rw [e3] at e2
      have e4 : g' = k := Option.some.inj e2
      subst e4
      rw [hgg] at hk
      injection hk with hk
      rw [← hk] at ho; cases ho⟩
theorem Kq.kg (h : Kq R D.rb w1 w2) (hs : Rs g W D X R t K fd w1) (hr : 0 < D.rb) (hR : 0 < R) : Kg w1 w2 := fun o v hv =>
  h.cell (by omega) (by omega) (fun ⟨v, e1, e2⟩ => by
    obtain ⟨p, c, r2, ow⟩ := hs.rr
    rw [r2] at e1
    injection e1 with e1
    subst e1
    have := (ow.lt 0 e2).1
    omega) hv
/-- A point's turn: it is not given. -/
theorem turn_no {z : Nat} {C : Nat → Prop} {ix : Nat → Nat} {pre : List (Pt z)} {x : Pt z} (h : Gives g W D T X R t K (fun K' => ∀ x ∈ pre, C x.val → K' (ix x.val) ≠ 0) w w1) (hx : ¬ C x.val) (B : Nat) :
    KeepsFrom B w1 w1 ∧ Kg w1 w1 ∧ Gives g W D T X R t K (fun K' => ∀ y ∈ pre ++ [x], C y.val → K' (ix y.val) ≠ 0) w w1 := by
  obtain ⟨K', fd', h1, h2, h3, h4⟩ := h
  refine ⟨KeepsFrom.refl _ _, Kg.refl _, K', fd', h1, h2, fun y hy hc => ?_, h4⟩
  rcases List.mem_append.1 hy with hy | hy
  · exact h3 y hy hc
  · rw [List.mem_singleton.1 hy] at hc; exact absurd hc hx
/-- It is given: what give leaves. -/
theorem turn_yes {z : Nat} {C : Nat → Prop} {ix : Nat → Nat} {pre : List (Pt z)} {x : Pt z} {K1 : Nat → Nat} {fd1 : List Fct} (h1 : Sx g W D T X R t K1 fd1 w1) (h2 : Up K K1) (h3 : ∀ x ∈ pre, C x.val → K1 (ix x.val) ≠ 0) (h4 : Kq R D.rb w w1) (hr : 0 < D.rb) (hR : 0 < R) {zz : Nat} (hz : zz < rkZ g W)
    (k : Gives g W D T X R t K1 (fun K' => K' (ix x.val) ≠ 0) w1 w2) (B : Nat) :
    KeepsFrom B w1 w2 ∧ Kg w1 w2 ∧ Gives g W D T X R t K (fun K' => ∀ y ∈ pre ++ [x], C y.val → K' (ix y.val) ≠ 0) w w2 := by
  obtain ⟨K', fd', k1, k2, k3, k4⟩ := k
  refine ⟨(k4.keeps h1.rs hz).from B, k4.kg h1.rs hr hR, K', fd', k1, h2.trans k2, fun y hy hc => ?_, h4.trans k4⟩
  rcases List.mem_append.1 hy with hy | hy
  · exact k2 _ (h3 y hy hc)
  · rw [List.mem_singleton.1 hy]; exact k3
end
/-- A name's span that is given is in the table. -/
theorem AtM.tab {g : Gr} {W : ByteArray} {T : SpM} {t y i j : Nat} (hN : y < g.names.length) (h : AtM g W T t y i j) : T y i j = true := by
  cases t with
  | zero =>
    have := (at_name hN).1 h
    have h2 := this.2
    simp [rkS] at h2
  | succ t =>
    have h2 := ((at_nameS hN).1 h).2.1
    unfold nmT at h2
    simp only [Bool.and_eq_true] at h2
    first | exact h2.2 | exact h2.1
end Go.Proofs.YtfjejnkjlnkkhaaGreatDoor
