/- least of layer 11's statements: of the rules that hold the least of their greatest ranks. -/
import Derived.Test.YtclceeghjgeplaaGreatDoorMhA
namespace Go.Proofs.YtclceeghjgeplaaGreatDoor
set_option linter.unusedVariables false
set_option linter.unusedSimpArgs false
open Go.ChangeShapes Go.WideShapes Go.ChangeAt Go.RowKit Go.Maps

theorem fstAt_max (f : Nat → Bool) : ∀ n, fstAt f n ≤ n
  | 0 => Nat.le_refl _
  | n + 1 => by
    have := fstAt_max f n
    unfold fstAt
    split
    · split <;> omega
    · omega
/-- The best of the first m rules so far. -/
def Best (b : Nat → Nat) (L : List Ru) (M : SpM) (n x i j m : Nat) (v : Int) : Prop :=
  (v = -1 ∧ ∀ q r, q < m → L[q]? = some r → rlB b M x i j r = false) ∨
  (∃ t : Nat, v = (t : Int) ∧ (∃ q r, q < m ∧ L[q]? = some r ∧ rlB b M x i j r = true ∧ topR b L M n q r.conj i j r.conj.length = t) ∧ ∀ q r, q < m → L[q]? = some r → rlB b M x i j r = true → t ≤ topR b L M n q r.conj i j r.conj.length)
section
variable {b : Nat → Nat} {L : List Ru} {M : SpM} {n x i j m : Nat} {v : Int}
theorem Best.zero : Best b L M n x i j 0 (-1) := Or.inl ⟨rfl, fun q r h => absurd h (Nat.not_lt_zero _)⟩
theorem Best.ge (h : Best b L M n x i j m v) : -1 ≤ v := by rcases h with ⟨h, -⟩ | ⟨t, h, -⟩ <;> omega
theorem Best.skip (h : Best b L M n x i j m v) {r : Ru} (hr : L[m]? = some r) (hn : rlB b M x i j r = false) : Best b L M n x i j (m + 1) v := by
  rcases h with ⟨h1, h2⟩ | ⟨t, h1, ⟨q0, r0, a1, a2, a3, a4⟩, h3⟩
  · refine Or.inl ⟨h1, fun q r' hq hr' => ?_⟩
    by_cases e : q = m
    · subst e; rw [hr] at hr'; injection hr' with hr'; rw [← hr']; exact hn
    · exact h2 q r' (by omega) hr'
  · refine Or.inr ⟨t, h1, ⟨q0, r0, by omega, a2, a3, a4⟩, fun q r' hq hr' ht => ?_⟩
    by_cases e : q = m
    · subst e; rw [hr] at hr'; injection hr' with hr'; rw [← hr', hn] at ht; cases ht
    · exact h3 q r' (by omega) hr' ht
theorem Best.keep (h : Best b L M n x i j m v) {r : Ru} (hr : L[m]? = some r) (hv : 0 ≤ v) (hn : v ≤ ((topR b L M n m r.conj i j r.conj.length : Nat) : Int)) : Best b L M n x i j (m + 1) v := by
  rcases h with ⟨h1, h2⟩ | ⟨t, h1, ⟨q0, r0, a1, a2, a3, a4⟩, h3⟩
  · omega
  · refine Or.inr ⟨t, h1, ⟨q0, r0, by omega, a2, a3, a4⟩, fun q r' hq hr' ht => ?_⟩
    by_cases e : q = m
    · subst e; rw [hr] at hr'; injection hr' with hr'; rw [← hr']; omega
    · exact h3 q r' (by omega) hr' ht
theorem Best.take (h : Best b L M n x i j m v) {r : Ru} (hr : L[m]? = some r) (hy : rlB b M x i j r = true) (hn : v < 0 ∨ ((topR b L M n m r.conj i j r.conj.length : Nat) : Int) < v) : Best b L M n x i j (m + 1) ((topR b L M n m r.conj i j r.conj.length : Nat) : Int) := by
  refine Or.inr ⟨_, rfl, ⟨m, r, by omega, hr, hy, rfl⟩, fun q r' hq hr' ht => ?_⟩
  by_cases e : q = m
  · subst e; rw [hr] at hr'; injection hr' with hr'; rw [← hr']; exact Nat.le_refl _
  · rcases h with ⟨h1, h2⟩ | ⟨t, h1, -, h3⟩
    · rw [h2 q r' (by omega) hr'] at ht; cases ht
    · have := h3 q r' (by omega) hr' ht
      omega
/-- The least is the rank less one. -/
theorem Best.rank (h : Best b L M n x i j L.length v) (hnm : (rkS b L M n).1 x i j = M x i j) (hrs : ∀ q c r d, L[q]? = some r → r.conj[c]? = some d → ((rkS b L M n).2 q c 0 i j = restB b M d.seq i j)) (hx : M x i j = true) : ((rnkN b L M n x i j : Nat) : Int) = 1 + v := by
  obtain ⟨⟨q, r, hr, hh, ho, he⟩, hle⟩ := rnkN_eq hnm hrs hx
  have hlt := (List.getElem?_eq_some_iff.1 hr).1
  have hy : rlB b M x i j r = true := by unfold rlB; rw [ho, decide_eq_true hh]; rfl
  rcases h with ⟨h1, h2⟩ | ⟨t, h1, ⟨q0, r0, a1, a2, a3, a4⟩, h3⟩
  · rw [h2 q r hlt hr] at hy; cases hy
  · have e1 := h3 q r hlt hr hy
    unfold rlB at a3
    rw [Bool.and_eq_true, decide_eq_true_eq] at a3
    have e2 := hle q0 r0 a2 a3.1 a3.2
    omega
end
set_option maxHeartbeats 8000000 in
set_option maxRecDepth 100000 in
theorem leastR_any {F : Nat → Prop} {g : Gr} {W : ByteArray} {M : SpM} {n tb : Nat} (v1 v2 : Value) (w : World) (hg : GrIs w F v1 v2 g) (h : TbM g W M n tb w) (hh : ∀ r, r ∈ g.rules → 0 ≤ r.head) (hn : n ≤ 300000000) {x i j : Nat} (hi : i ≤ j) (hj : j ≤ W.size) :
    Calls Tryz.prog 20 #[.agg #[.int .i64 g.start, v1, v2], .pointer (some ⟨tb, 0, none⟩), .int .i64 (x : Int), .int .i64 (i : Int), .int .i64 (j : Int)] w fun e w' => ∃ v : Int, e = .returned (.int .i64 v) ∧ Hid (Best (btsW W) g.rules M n x i j g.rules.length v) ∧ Hid (Below w.heap.size w w') := by
  obtain ⟨V, hV⟩ : ∃ V, V = w.alloc (.cells #[.int .i64 g.start, v1, v2] 25) := ⟨_, rfl⟩
  obtain ⟨gb, hgb⟩ : ∃ gb, gb = w.heap.size := ⟨_, rfl⟩
  have hVb : Below w.heap.size w V := by rw [hV]; exact bel1 _ _
  have u2 : V.cell? ⟨gb, 2, none⟩ = some v2 := by rw [hgb, hV]; exact World.cell?_alloc_at _ _ _ _ rfl
  have hgl : gb < V.heap.size := block_lt_of_cell u2
  have HVB : Hid (Below w.heap.size w V) := hVb
  have hTV := h.any hVb
  have hpl := h.pl
  have HRU : Hid (IsRus V F v2 g.rules) := hg.2.any hVb
  have KR : Hid (∀ (w' : World) (q c : Nat) (r : Ru) (d : Cn), Below V.heap.size V w' → g.rules[q]? = some r → r.conj[c]? = some d → Calls Tryz.prog 24 #[.pointer (some ⟨tb, 0, none⟩), .agg #[.int .i64 (q : Int), .int .i64 (c : Int), .int .i64 0], .int .i64 (i : Int), .int .i64 (j : Int)] w' fun e w'' => e = .returned (.bool (restB (btsW W) M d.seq i j)) ∧ Hid (Below w'.heap.size w' w'')) := fun w' q c r d hb hr hd => by
    have := rest_tb w' (hTV.any hb) hr hd (Nat.zero_le _) hi hj
    rw [List.drop_zero] at this
    exact this
  have KK : Hid (∀ (w' : World) (q c : Nat) (r : Ru) (d : Cn), Below V.heap.size V w' → g.rules[q]? = some r → r.conj[c]? = some d → Calls Tryz.prog 25 #[.pointer (some ⟨tb, 0, none⟩), .agg #[.int .i64 (q : Int), .int .i64 (c : Int), .int .i64 0], .int .i64 (i : Int), .int .i64 (j : Int)] w' fun e w'' => e = .returned (.int .i64 ((rnkR (btsW W) g.rules M n q c 0 i j : Nat) : Int)) ∧ Hid (Below w'.heap.size w' w'')) := fun w' q c r d hb hr hd => restRank_tb w' (hTV.any hb) hr hd (Nat.zero_le _) hi hj
  have HH : Hid (∀ r, r ∈ g.rules → 0 ≤ r.head) := hh
  have HLE : Hid (∀ q c, rnkR (btsW W) g.rules M n q c 0 i j ≤ 300000000) := fun q c => Nat.le_trans (fstAt_max _ n) hn
  obtain ⟨L, hL⟩ : ∃ L, L = g.rules := ⟨_, rfl⟩
  rw [← hL] at HRU KR KK HH hpl HLE ⊢
  have HPL : Hid (PlIn L) := hpl
  obtain ⟨p2, q2, e2⟩ := lngR HRU.out
  obtain ⟨l, hl⟩ : ∃ l, l = L.length := ⟨_, rfl⟩
  have HL : Hid (l = L.length) := hl
  have hl256 : l ≤ 256 := by rw [hl]; exact hpl.1
  rw [← hl] at e2
  obtain ⟨b, hb0⟩ : ∃ b, b = btsW W := ⟨_, rfl⟩
  rw [← hb0] at KR KK HLE ⊢
  obtain ⟨st, hst⟩ : ∃ st, st = g.start := ⟨_, rfl⟩
  rw [← hst] at hV ⊢
  subst e2
  obtain ⟨p1, c1, e1, -⟩ := hg.1
  subst e1
  have HSC0 : Hid (∀ w', Below V.heap.size V w' → w'.cell? ⟨gb, 2, none⟩ = some (.slice p2 l q2)) := fun w' hb => (hb.cell (p := ⟨gb, 2, none⟩) hgl).trans u2
  clear hg h hh hVb hTV hpl hl hL hb0 hst hi hj u2 hn
  go_enter Tryz.func20, Tryz.ntmps20
  go_upto_region 1 with fail
  rw [← hV]
  rw [← hgb]
  clear hV hgb
  go_wp2
  go_loopw [11, 12] (fun y x' wr => ∃ (m : Nat) (v : Int), m ≤ l ∧ x' = .int .i64 (m : Int) ∧ y = .int .i64 v ∧ Hid (Below V.heap.size V wr) ∧ Hid (Best b L M n x i j m v)) (fun _ x' _ => l - (intOf x').toNat)
  case atStart => exact ⟨0, -1, Nat.zero_le _, rfl, rfl, Below.refl _ _, Best.zero⟩
  case round =>
    obtain ⟨m, v, hm, rfl, rfl, HB, HA⟩ := hrel
    have c2 := HSC0.out wr HB.out
    by_cases hlt : m < l
    · obtain ⟨r, hr⟩ : ∃ r, L[m]? = some r := ⟨_, List.getElem?_eq_getElem (by rw [← HL.out]; exact hlt)⟩
      obtain ⟨g1, o1, u1, hp, a0, a1, hcn⟩ := HRU.out.row hr
      subst hp
      have lg : g1 < V.heap.size := block_lt_of_cell a0
      have h8 := (HPL.out.2 r (List.mem_of_getElem? hr)).1
      have hhd := HH.out r (List.mem_of_getElem? hr)
      have HSK : Hid (rlB b M x i j r = false → Best b L M n x i j (m + 1) v) := fun hf => HA.out.skip hr hf
      have HTK : Hid (rlB b M x i j r = true → (v < 0 ∨ ((topR b L M n m r.conj i j r.conj.length : Nat) : Int) < v) → Best b L M n x i j (m + 1) ((topR b L M n m r.conj i j r.conj.length : Nat) : Int)) := fun ht hc => HA.out.take hr ht hc
      have HKE : Hid (0 ≤ v → v ≤ ((topR b L M n m r.conj i j r.conj.length : Nat) : Int) → Best b L M n x i j (m + 1) v) := fun h1 h2 => HA.out.keep hr h1 h2
      have KR2 : Hid (∀ (w' : World) (c : Nat) (d : Cn), Below V.heap.size V w' → r.conj[c]? = some d → Calls Tryz.prog 24 #[.pointer (some ⟨tb, 0, none⟩), .agg #[.int .i64 (m : Int), .int .i64 (c : Int), .int .i64 0], .int .i64 (i : Int), .int .i64 (j : Int)] w' fun e w'' => e = .returned (.bool (restB b M d.seq i j)) ∧ Hid (Below w'.heap.size w' w'')) := fun w' c d hb hd => KR.out w' m c r d hb hr hd
      have KK2 : Hid (∀ (w' : World) (c : Nat) (d : Cn), Below V.heap.size V w' → r.conj[c]? = some d → Calls Tryz.prog 25 #[.pointer (some ⟨tb, 0, none⟩), .agg #[.int .i64 (m : Int), .int .i64 (c : Int), .int .i64 0], .int .i64 (i : Int), .int .i64 (j : Int)] w' fun e w'' => e = .returned (.int .i64 ((rnkR b L M n m c 0 i j : Nat) : Int)) ∧ Hid (Below w'.heap.size w' w'')) := fun w' c d hb hd => KK.out w' m c r d hb hr hd
      have hv1 := HA.out.ge
      obtain ⟨hd, cs⟩ := r
      simp only at a0 a1 hcn hhd h8 KR2 KK2 HTK HKE
      obtain ⟨y, rfl⟩ : ∃ y : Nat, hd = (y : Int) := ⟨hd.toNat, by omega⟩
      obtain ⟨q, cq, hu1⟩ := lngC hcn
      subst hu1
      have HCN : Hid (IsCns V F (.slice q cs.length cq) cs) := hcn
      obtain ⟨l2, hl2⟩ : ∃ l2, l2 = cs.length := ⟨_, rfl⟩
      have HL2 : Hid (l2 = cs.length) := hl2
      rw [← hl2] at h8 a1 HCN HTK HKE
      have HSC : Hid (∀ w', Below V.heap.size V w' → w'.cell? ⟨gb, 2, none⟩ = some (.slice (some ⟨g1, o1, none⟩) l q2) ∧ w'.cell? ⟨g1, o1 + m * 2, none⟩ = some (.int .i64 (y : Int)) ∧ w'.cell? ⟨g1, o1 + m * 2 + 1, none⟩ = some (.slice q l2 cq)) := fun w' hb => ⟨HSC0.out w' hb, (hb.cell (p := ⟨g1, o1 + m * 2, none⟩) lg).trans a0, (hb.cell (p := ⟨g1, o1 + m * 2 + 1, none⟩) lg).trans a1⟩
      clear hr hcn hhd a0 a1 c2 hl2 HA
      obtain ⟨c2, a0, a1⟩ := HSC.out wr HB.out
      by_cases hyx : y = x
      · subst hyx
        have HRB : Hid (rlB b M y i j ⟨(y : Int), cs⟩ = cs.all fun c => conB3 b M c i j) := by
          show _ = _
          unfold rlB holB3
          simp
        go_wp2
        clear c2 a0 a1
        go_loopw [13, 14, 15] (fun f z x' wr => ∃ k : Nat, k ≤ l2 ∧ x' = .int .i64 (k : Int) ∧ f = .bool ((cs.take k).all fun c => conB3 b M c i j) ∧ z = .int .i64 ((topR b L M n m cs i j k : Nat) : Int) ∧ Hid (Below V.heap.size V wr)) (fun _ _ x' _ => l2 - (intOf x').toNat)
        case atStart => exact ⟨0, Nat.zero_le _, rfl, rfl, rfl, HB⟩
        case round =>
          clear HB
          obtain ⟨k, hk, rfl, rfl, rfl, HB⟩ := hrel
          obtain ⟨c2, a0, a1⟩ := HSC.out wr HB.out
          by_cases hlt2 : k < l2
          · obtain ⟨d, hd⟩ : ∃ d, cs[k]? = some d := ⟨_, List.getElem?_eq_getElem (by rw [← HL2.out]; exact hlt2)⟩
            obtain ⟨g3, o3, u3, hp3, b0, b1, hsy⟩ := HCN.out.row hd
            subst hp3
            have lg3 : g3 < V.heap.size := block_lt_of_cell b0
            have htj := tkAll (p := fun c => conB3 b M c i j) hd
            have KR3 : Hid (∀ (w' : World), Below V.heap.size V w' → Calls Tryz.prog 24 #[.pointer (some ⟨tb, 0, none⟩), .agg #[.int .i64 (m : Int), .int .i64 (k : Int), .int .i64 0], .int .i64 (i : Int), .int .i64 (j : Int)] w' fun e w'' => e = .returned (.bool (restB b M d.seq i j)) ∧ Hid (Below w'.heap.size w' w'')) := fun w' hb => KR2.out w' k d hb hd
            have KK3 : Hid (∀ (w' : World), Below V.heap.size V w' → Calls Tryz.prog 25 #[.pointer (some ⟨tb, 0, none⟩), .agg #[.int .i64 (m : Int), .int .i64 (k : Int), .int .i64 0], .int .i64 (i : Int), .int .i64 (j : Int)] w' fun e w'' => e = .returned (.int .i64 ((rnkR b L M n m k 0 i j : Nat) : Int)) ∧ Hid (Below w'.heap.size w' w'')) := fun w' hb => KK2.out w' k d hb hd
            obtain ⟨H, hH⟩ : ∃ H, H = (cs.take k).all fun c => conB3 b M c i j := ⟨_, rfl⟩
            rw [← hH] at htj ⊢
            obtain ⟨ng, sq⟩ := d
            simp only at b0 KR3
            unfold conB3 at htj
            simp only at htj
            obtain ⟨Rv, hRv⟩ : ∃ Rv, Rv = restB b M sq i j := ⟨_, rfl⟩
            rw [← hRv] at htj KR3
            have HTJ : Hid (((cs.take (k + 1)).all fun c => conB3 b M c i j) = (H && !(Rv == ng))) := htj
            obtain ⟨tp, htp⟩ : ∃ tp, tp = topR b L M n m cs i j k := ⟨_, rfl⟩
            obtain ⟨rk, hrk⟩ : ∃ rk, rk = rnkR b L M n m k 0 i j := ⟨_, rfl⟩
            have HTP : Hid (topR b L M n m cs i j (k + 1) = max tp rk) := by rw [htp, hrk]; rfl
            rw [← htp]
            rw [← hrk] at KK3
            obtain ⟨X, hX⟩ : ∃ X, X = wr.alloc (.cells #[.int .i64 (m : Int), .int .i64 (k : Int), .int .i64 0] 56) := ⟨_, rfl⟩
            obtain ⟨pb, hpb⟩ : ∃ pb, pb = wr.heap.size := ⟨_, rfl⟩
            have hXb : Below wr.heap.size wr X := by rw [hX]; exact bel1 _ _
            have HBX : Hid (Below V.heap.size V X) := HB.out.trans (hXb.mono HB.out.size)
            have x0 : X.cell? ⟨pb, 0, none⟩ = some (.int .i64 (m : Int)) := by rw [hpb, hX]; exact World.cell?_alloc_at _ _ _ _ rfl
            have x1 : X.cell? ⟨pb, 1, none⟩ = some (.int .i64 (k : Int)) := by rw [hpb, hX]; exact World.cell?_alloc_at _ _ _ _ rfl
            have x2 : X.cell? ⟨pb, 2, none⟩ = some (.int .i64 0) := by rw [hpb, hX]; exact World.cell?_alloc_at _ _ _ _ rfl
            have lp : pb < X.heap.size := block_lt_of_cell x0
            have HSP : Hid (∀ w', Below X.heap.size X w' → w'.cell? ⟨pb, 0, none⟩ = some (.int .i64 (m : Int)) ∧ w'.cell? ⟨pb, 1, none⟩ = some (.int .i64 (k : Int)) ∧ w'.cell? ⟨pb, 2, none⟩ = some (.int .i64 0)) := fun w' hb => ⟨(hb.cell (p := ⟨pb, 0, none⟩) lp).trans x0, (hb.cell (p := ⟨pb, 1, none⟩) lp).trans x1, (hb.cell (p := ⟨pb, 2, none⟩) lp).trans x2⟩
            have HS3 : Hid (∀ w', Below X.heap.size X w' → w'.cell? ⟨gb, 2, none⟩ = some (.slice (some ⟨g1, o1, none⟩) l q2) ∧ w'.cell? ⟨g1, o1 + m * 2 + 1, none⟩ = some (.slice (some ⟨g3, o3, none⟩) l2 cq) ∧ w'.cell? ⟨g3, o3 + k * 2, none⟩ = some (.bool ng) ∧ w'.cell? ⟨pb, 0, none⟩ = some (.int .i64 (m : Int)) ∧ w'.cell? ⟨pb, 1, none⟩ = some (.int .i64 (k : Int)) ∧ w'.cell? ⟨pb, 2, none⟩ = some (.int .i64 0)) := fun w' hb => by
              have hb' := HBX.out.trans (hb.mono HBX.out.size)
              obtain ⟨y1, y2, y3⟩ := HSC.out w' hb'
              exact ⟨y1, y3, (hb'.cell (p := ⟨g3, o3 + k * 2, none⟩) lg3).trans b0, HSP.out w' hb⟩
            have KR4 : Hid (∀ (w' : World), Below X.heap.size X w' → Calls Tryz.prog 24 #[.pointer (some ⟨tb, 0, none⟩), .agg #[.int .i64 (m : Int), .int .i64 (k : Int), .int .i64 0], .int .i64 (i : Int), .int .i64 (j : Int)] w' fun e w'' => e = .returned (.bool Rv) ∧ Hid (Below w'.heap.size w' w'')) := fun w' hb => KR3.out w' (HBX.out.trans (hb.mono HBX.out.size))
            have KK4 : Hid (∀ (w' : World), Below X.heap.size X w' → Calls Tryz.prog 25 #[.pointer (some ⟨tb, 0, none⟩), .agg #[.int .i64 (m : Int), .int .i64 (k : Int), .int .i64 0], .int .i64 (i : Int), .int .i64 (j : Int)] w' fun e w'' => e = .returned (.int .i64 (rk : Int)) ∧ Hid (Below w'.heap.size w' w'')) := fun w' hb => KK3.out w' (HBX.out.trans (hb.mono HBX.out.size))
            have hmx : max (tp : Int) (rk : Int) = ((max tp rk : Nat) : Int) := by omega
            clear hd htj hH hRv hsy KR3 KK3 b0 b1 hXb htp hrk x0 x1 x2
            go_upto_region 11 with fail
            rw [← hX, ← hpb]
            clear hX hpb c2 a0 a1
            go_cut [13] from 65 to 71 (fun x' wc => x' = .bool (H && !(Rv == ng)) ∧ Hid (Below X.heap.size X wc))
            case first =>
              cases H with
              | false =>
                obtain ⟨d1, d2, d3, d4, d5, d6⟩ := HS3.out X (Below.refl _ _)
                have HD : Hid (Below X.heap.size X X.drew) := (Below.refl _ X).drew
                have HD0 : Hid (Below X.heap.size X X) := Below.refl _ X
                go_region
                all_goals
                  go_wp2
                  go_meet
                  case rel => first | exact ⟨rfl, HD⟩ | exact ⟨rfl, HD0⟩
              | true =>
                go_region_held3 (fun w' => Below X.heap.size X w' ∧ w'.cell? ⟨gb, 2, none⟩ = some (.slice (some ⟨g1, o1, none⟩) l q2) ∧ w'.cell? ⟨g1, o1 + m * 2 + 1, none⟩ = some (.slice (some ⟨g3, o3, none⟩) l2 cq) ∧ w'.cell? ⟨g3, o3 + k * 2, none⟩ = some (.bool ng) ∧ w'.cell? ⟨pb, 0, none⟩ = some (.int .i64 (m : Int)) ∧ w'.cell? ⟨pb, 1, none⟩ = some (.int .i64 (k : Int)) ∧ w'.cell? ⟨pb, 2, none⟩ = some (.int .i64 0))
                  ((refine (fun hb => ⟨hb, HS3.out _ hb⟩ : Below X.heap.size X _ → _) ?_; repeat' (first | with_reducible assumption | with_reducible exact Below.refl _ _ | with_reducible apply Below.drew)))
                  ((go_at_call 24; refine (KR4.out _ (Below.refl _ X).drew).mono ?_; rintro e w4 ⟨rfl, hb2⟩; have b4 : Below X.heap.size X w4 := ((Below.refl _ X).drew).trans hb2.out; clear hb2))
                go_wp2
                go_meet
                case rel => exact ⟨by cases Rv <;> cases ng <;> rfl, b4⟩
            case rest =>
              obtain ⟨rfl, HB4⟩ := hcut
              obtain ⟨w5, hw5⟩ : ∃ w5, w5 = wc := ⟨_, rfl⟩
              subst hw5
              obtain ⟨d4, d5, d6⟩ := HSP.out w5 HB4.out
              have K9 : Hid (Calls Tryz.prog 25 #[.pointer (some ⟨tb, 0, none⟩), .agg #[.int .i64 (m : Int), .int .i64 (k : Int), .int .i64 0], .int .i64 (i : Int), .int .i64 (j : Int)] w5 fun e w'' => e = .returned (.int .i64 (rk : Int)) ∧ Hid (Below w5.heap.size w5 w'')) := KK4.out w5 HB4.out
              have HBW : Hid (Below V.heap.size V w5) := HBX.out.trans (HB4.out.mono HBX.out.size)
              clear KR4 KK4 HS3 HSP
              go_wp2_with (go_at_call 25; refine K9.out.mono ?_; rintro e w6 ⟨rfl, b6⟩)
              have HB6 : Hid (Below V.heap.size V w6) := HBW.out.trans (b6.out.mono HBW.out.size)
              go_roundw
              case rel => exact ⟨k + 1, by omega, by go_num, by rw [HTJ.out], by rw [HTP.out, ← hmx], HB6⟩
              case measure => simp [intOf]; omega
          · obtain rfl : k = l2 := by omega
            obtain ⟨Q, hQ⟩ : ∃ Q, Q = rlB b M y i j ⟨(y : Int), cs⟩ := ⟨_, rfl⟩
            have htl : ((cs.take k).all fun c => conB3 b M c i j) = Q := by rw [HL2.out, List.take_length, ← HRB.out, hQ]
            rw [htl]
            rw [← hQ] at HSK HTK
            have htop : topR b L M n m cs i j k ≤ 300000000 := topR_le fun c _ => HLE.out m c
            obtain ⟨tp, htp⟩ : ∃ tp, tp = topR b L M n m cs i j k := ⟨_, rfl⟩
            rw [← htp] at HTK HKE htop ⊢
            clear htl hQ htp
            cases Q with
            | false =>
              have HN : Hid (Best b L M n y i j (m + 1) v) := HSK.out rfl
              clear HSK HTK HKE
              go_wp2
              go_roundw
              case rel => exact ⟨m + 1, v, by omega, by go_num, rfl, HB, HN⟩
              case measure => simp [intOf]; omega
            | true =>
              by_cases hc : v < 0
              · have HN : Hid (Best b L M n y i j (m + 1) (tp : Int)) := HTK.out rfl (Or.inl hc)
                have d1 : decide (v < 0) = true := decide_eq_true hc
                clear HSK HTK HKE
                go_wp2
                go_roundw
                case rel => exact ⟨m + 1, (tp : Int), by omega, by go_num, rfl, HB, HN⟩
                case measure => simp [intOf]; omega
              · have d1 : decide (v < 0) = false := decide_eq_false hc
                by_cases hc2 : (tp : Int) < v
                · have HN : Hid (Best b L M n y i j (m + 1) (tp : Int)) := HTK.out rfl (Or.inr hc2)
                  have d2 : decide ((tp : Int) < v) = true := decide_eq_true hc2
                  clear HSK HTK HKE
                  go_wp2
                  go_roundw
                  case rel => exact ⟨m + 1, (tp : Int), by omega, by go_num, rfl, HB, HN⟩
                  case measure => simp [intOf]; omega
                · have HN : Hid (Best b L M n y i j (m + 1) v) := HKE.out (by omega) (by omega)
                  have d2 : decide ((tp : Int) < v) = false := decide_eq_false hc2
                  clear HSK HTK HKE
                  go_wp2
                  go_roundw
                  case rel => exact ⟨m + 1, v, by omega, by go_num, rfl, HB, HN⟩
                  case measure => simp [intOf]; omega
      · have HTN : Hid (Best b L M n x i j (m + 1) v) := HSK.out (by unfold rlB; simp [hyx])
        have n1 : ((y : Int) == (x : Int)) = false := by rw [beq_eq_false_iff_ne]; omega
        have n2 : ¬ (y : Int) = (x : Int) := by omega
        clear HSK HTK HKE
        go_wp2
        go_roundw
        case rel => exact ⟨m + 1, v, by omega, by go_num, rfl, HB, HTN⟩
        case measure => simp [intOf]; omega
    · obtain rfl : m = l := by omega
      have hA := HA.out
      rw [HL.out] at hA
      have HA2 : Hid (Best b L M n x i j L.length v) := hA
      have HF : Hid (Below w.heap.size w wr) := HVB.out.trans (HB.out.mono HVB.out.size)
      clear hA HA
      go_wp2
      go_ret
      exact ⟨v, rfl, HA2, HF⟩
end Go.Proofs.YtclceeghjgeplaaGreatDoor
