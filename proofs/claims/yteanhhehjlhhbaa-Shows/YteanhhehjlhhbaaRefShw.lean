/- The document's Show, walked. -/
import Derived.Test.YteanhhehjlhhbaaRefSeq
import Derived.Test.YteanhhehjlhhbaaRefMayG
import Derived.Test.YteanhhehjlhhbaaRefMayE
namespace Go.Proofs.Yteanhhehjlhhbaa
set_option linter.unusedVariables false
set_option linter.unusedSimpArgs false
open Go.ChangeShapes Go.WideShapes Go.ChangeAt Go.RowKit

theorem headsD (k : Nat) : ∀ (l : List Ru) (z : Int), mayHeads k z l = true → ∀ r, r ∈ l → 0 ≤ r.head ∧ r.head < (k : Int)
  | [], _, _, r, hr => by simp at hr
  | a :: l, z, h, r, hr => by
    unfold mayHeads at h
    simp only [Bool.and_eq_true] at h
    rcases List.mem_cons.1 hr with rfl | hr
    · have := h.1; unfold isNum at this; simpa using this
    · exact headsD k l _ h.2.2 r hr
def zzL (l : List Ru) (i : Nat) : Int := if i = 0 then -1 else (l.getD (i - 1) ⟨0, []⟩).head
theorem zz_succ {l : List Ru} {i : Nat} {r : Ru} (h : l[i]? = some r) : zzL l (i + 1) = r.head := by
  unfold zzL
  rw [if_neg (by omega), Nat.add_sub_cancel, List.getD_eq_getElem?_getD, h]; rfl
theorem dropD_at {l : List Ru} {i : Nat} {r : Ru} (h : l[i]? = some r) : l.drop i = r :: l.drop (i + 1) := by
  obtain ⟨hl, e⟩ := List.getElem?_eq_some_iff.1 h
  rw [List.drop_eq_getElem_cons hl, e]
theorem tail_step (names : List ByteArray) {l : List Ru} {i : Nat} {r : Ru} (h : l[i]? = some r) : tailL names (zzL l i) (l.drop i) = (if r.head = zzL l i then [32, 124, 32] else (names.getD r.head.toNat ⟨#[]⟩).data.toList ++ [32, 61, 32]) ++ conjsT names r.conj ++ (if (l[i + 1]?.map (·.head)) = some r.head then [] else [59, 10]) ++ tailL names (zzL l (i + 1)) (l.drop (i + 1)) := by
  rw [dropD_at h, zz_succ h]
  show _ ++ _ ++ (if ((l.drop (i + 1)).head?.map (·.head)) = some r.head then [] else [59, 10]) ++ _ = _
  rw [List.head?_drop]
theorem conjsD_len (names : List ByteArray) (cs : List Cn) (hl : cs.length ≤ 8) (h : ∀ c, c ∈ cs → (seqL names c.seq).length ≤ 3000) : (conjsT names cs).length ≤ 30000 := by
  unfold conjsT
  have h1 := joinN_len [32, 38, 32] (conjAt names cs) 3001 cs.length (fun i hi => by
    unfold conjAt
    rw [List.getD_eq_getElem?_getD, List.getElem?_eq_getElem hi]
    show (conjT names cs[i]).length ≤ 3001
    rw [conjT_seq, List.length_append]
    have h2 := h cs[i] (List.getElem_mem hi)
    have h3 : (if cs[i].neg = true then [126] else ([] : List UInt8)).length ≤ 1 := by split <;> simp
    omega)
  have h2 : cs.length * ([32, 38, 32].length + 3001) ≤ 8 * ([32, 38, 32].length + 3001) := Nat.mul_le_mul_right _ hl
  have h3 : ([32, 38, 32] : List UInt8).length = 3 := rfl
  have h4 : ([32, 38, 32] : List Nat).length = 3 := rfl
  simp only [List.length_cons, List.length_nil] at h1 h2
  omega
set_option maxHeartbeats 4000000 in
set_option maxRecDepth 100000 in
theorem showD_no (g : Gr) (v1 v2 : Value) (w : World) (k1 k2 : Option Addr × Nat × Nat) (e1 : v1 = .slice k1.1 k1.2.1 k1.2.2) (e2 : v2 = .slice k2.1 k2.2.1 k2.2.2)
    (KM : ∀ w', Below w.heap.size w w' → Calls Try.prog 15 #[.agg #[.int .i64 g.start, v1, v2]] w' fun e w'' => e = .returned (.bool false) ∧ Hid (Below w'.heap.size w' w'')) :
    Calls Try.prog 6 #[.agg #[.int .i64 g.start, v1, v2]] w fun e w' => e = .returned (.tuple #[.string ⟨#[]⟩, .int .i64 500]) ∧ Hid (Below w.heap.size w w') := by
  have HM : Hid (∀ w', Below w.heap.size w w' → Calls Try.prog 15 #[.agg #[.int .i64 g.start, v1, v2]] w' fun e w'' => e = .returned (.bool false) ∧ Hid (Below w'.heap.size w' w'')) := KM
  subst e1 e2
  clear KM
  go_enter Try.func6, Try.ntmps6
  go_wp2_with (go_at_call 15; refine (HM.out _ (bel1 _ _)).mono ?_; rintro e w2 ⟨rfl, b2⟩; have HB2 : Hid (Below w.heap.size w w2) := (bel1 w _).trans (b2.out.mono (bel1 w _).size))
  go_ret2
  exact ⟨rfl, HB2⟩
set_option maxHeartbeats 8000000 in
set_option maxRecDepth 100000 in
theorem showD_ok (g : Gr) (v1 v2 : Value) (w : World) {F : Nat → Prop} (hg : GrIs w F v1 v2 g) (hM : mayG g = true) (hsm : ∀ s, s ∈ g.names → 1 ≤ s.size ∧ s.size ≤ 32)
    (KM : ∀ w', Below w.heap.size w w' → Calls Try.prog 15 #[.agg #[.int .i64 g.start, v1, v2]] w' fun e w'' => e = .returned (.bool true) ∧ Hid (Below w'.heap.size w' w''))
    (KR : ∀ r, r ∈ g.rules → (conjsT g.names r.conj).length ≤ 30000 ∧ ∀ u w', Below w.heap.size w w' → IsCns w' F u r.conj → Calls Try.prog 16 #[.agg #[.int .i64 g.start, v1, v2], .agg #[.int .i64 r.head, u]] w' fun e w'' => e = .returned (.string (ba (conjsT g.names r.conj))) ∧ Hid (Below w'.heap.size w' w'')) :
    Calls Try.prog 6 #[.agg #[.int .i64 g.start, v1, v2]] w fun e w' => e = .returned (.tuple #[.string (showT g), .int .i64 0]) ∧ Hid (Below w.heap.size w w') := by
  obtain ⟨p1, c1, hv1⟩ : ∃ p c, v1 = .slice p g.names.length c := by obtain ⟨p, c, e, _⟩ := hg.1; exact ⟨_, _, e⟩
  obtain ⟨p2, c2, hv2⟩ : ∃ p c, v2 = .slice p g.rules.length c := by obtain ⟨vs, ⟨p, c, e, _⟩, _⟩ := hg.2; exact ⟨p, c, e⟩
  have hst : 0 ≤ g.start ∧ g.start < (g.names.length : Int) := by
    have h9 := hM
    unfold mayG isNum at h9
    simp only [Bool.and_eq_true, decide_eq_true_eq] at h9
    exact h9.2.1
  obtain ⟨st, hst2⟩ : ∃ st : Nat, g.start = (st : Int) := ⟨g.start.toNat, by omega⟩
  have hstl : st < g.names.length := by omega
  obtain ⟨sn, hsn⟩ : ∃ sn, g.names[st]? = some sn := ⟨_, List.getElem?_eq_getElem hstl⟩
  have hsz := hsm sn (List.mem_of_getElem? hsn)
  have HTL : Hid (tailL g.names (-1) g.rules = defsT g.names g.rules g.names.length) := tail_all hM
  have hN6 : g.rules.length ≤ 256 := by
    have h9 := hM
    unfold mayG mayRules at h9
    simp only [Bool.and_eq_true, decide_eq_true_eq] at h9
    exact h9.2.2.2.2.1
  have HHD : Hid (∀ r, r ∈ g.rules → 0 ≤ r.head ∧ r.head < (g.names.length : Int)) := by
    have h9 := hM
    unfold mayG at h9
    simp only [Bool.and_eq_true] at h9
    exact headsD _ _ _ h9.2.2.1
  have HSL : Hid (showL g = (⟨#[115, 116, 97, 114, 116, 32]⟩ ++ sn ++ ⟨#[59, 10]⟩ : ByteArray).data.toList ++ tailL g.names (-1) g.rules) := by
    show _ = _
    rw [HTL.out, tl_app, tl_app]
    unfold showL
    rw [hst2, Int.toNat_natCast, List.getD_eq_getElem?_getD, hsn]; rfl
  have HG : Hid (GrIs w F v1 v2 g) := hg
  have HM : Hid (∀ w', Below w.heap.size w w' → Calls Try.prog 15 #[.agg #[.int .i64 g.start, v1, v2]] w' fun e w'' => e = .returned (.bool true) ∧ Hid (Below w'.heap.size w' w'')) := KM
  have HR : Hid (∀ r, r ∈ g.rules → (conjsT g.names r.conj).length ≤ 30000 ∧ ∀ u w', Below w.heap.size w w' → IsCns w' F u r.conj → Calls Try.prog 16 #[.agg #[.int .i64 g.start, v1, v2], .agg #[.int .i64 r.head, u]] w' fun e w'' => e = .returned (.string (ba (conjsT g.names r.conj))) ∧ Hid (Below w'.heap.size w' w'')) := KR
  have HSM : Hid (∀ s, s ∈ g.names → 1 ≤ s.size ∧ s.size ≤ 32) := hsm
  have HSN : Hid (g.names[st]? = some sn) := hsn
  rw [hst2] at HM HR ⊢
  obtain ⟨n, hn⟩ : ∃ n, n = g.names.length := ⟨_, rfl⟩
  obtain ⟨N, hN⟩ : ∃ N, N = g.rules.length := ⟨_, rfl⟩
  have HNN : Hid (n = g.names.length ∧ N = g.rules.length) := ⟨hn, hN⟩
  rw [← hn] at hv1 HHD hstl
  rw [← hN] at hv2 hN6
  subst hv1 hv2
  have hN0 : 0 < g.rules.length := by
    have h9 := hM
    unfold mayG mayRules at h9
    simp only [Bool.and_eq_true, decide_eq_true_eq] at h9
    exact h9.2.2.2.1
  obtain ⟨g5, o5, hp5, hg5, -⟩ := texts_at HG.out.1 HSN.out
  obtain ⟨r00, hr00⟩ : ∃ r, g.rules[0]? = some r := ⟨_, List.getElem?_eq_getElem hN0⟩
  obtain ⟨g1, o1, u00, hp2, -, -, -⟩ := HG.out.2.row hr00
  subst hp5 hp2
  have HTX : Hid (∀ x nx, g.names[x]? = some nx → ∀ w', Below w.heap.size w w' → g5 < w'.heap.size ∧ w'.cell? ⟨g5, o5 + x, none⟩ = some (.string nx)) := fun x nx h w' hb => by
    obtain ⟨g', o', e, hg', hc⟩ := texts_at (HG.out.any hb).1 h
    simp only [Option.some.injEq, Addr.mk.injEq, and_true] at e
    obtain ⟨rfl, rfl⟩ := e
    exact ⟨hg', hc⟩
  have HRX : Hid (∀ j r, g.rules[j]? = some r → ∀ w', Below w.heap.size w w' → ∃ u, w'.cell? ⟨g1, o1 + j * 2, none⟩ = some (.int .i64 r.head) ∧ w'.cell? ⟨g1, o1 + j * 2 + 1, none⟩ = some u ∧ IsCns w' F u r.conj) := fun j r h w' hb => by
    obtain ⟨g', o', u', e, h1, h2, h3⟩ := (HG.out.any hb).2.row h
    simp only [Option.some.injEq, Addr.mk.injEq, and_true] at e
    obtain ⟨rfl, rfl⟩ := e
    exact ⟨u', h1, h2, h3⟩
  obtain ⟨X, hX⟩ : ∃ X, X = w.alloc (.cells #[.int .i64 (st : Int), .slice (some ⟨g5, o5, none⟩) n c1, .slice (some ⟨g1, o1, none⟩) N c2] 25) := ⟨_, rfl⟩
  have HBC : Hid (∀ w', Below X.heap.size X w' → w'.cell? ⟨w.heap.size, 0, none⟩ = some (.int .i64 (st : Int)) ∧ w'.cell? ⟨w.heap.size, 1, none⟩ = some (.slice (some ⟨g5, o5, none⟩) n c1) ∧ w'.cell? ⟨w.heap.size, 2, none⟩ = some (.slice (some ⟨g1, o1, none⟩) N c2) ∧ w.heap.size < w'.heap.size) := fun w' hb => by
    have hs : X.heap.size = w.heap.size + 1 := by rw [hX]; simp
    have h1 : X.heap[w.heap.size]? = some (.cells #[.int .i64 (st : Int), .slice (some ⟨g5, o5, none⟩) n c1, .slice (some ⟨g1, o1, none⟩) N c2] 25) := by rw [hX]; exact heap_alloc_new w _
    have h2 := (hb.block _ (by omega)).trans h1
    exact ⟨Lib.cell_of_heap h2 0, Lib.cell_of_heap h2 1, Lib.cell_of_heap h2 2, by have := hb.size; omega⟩
  have HX0 : Hid (Below w.heap.size w X) := by rw [hX]; exact bel1 _ _
  clear hg hM hsm KM KR hst hst2 hsn hn hN HTL hr00 hN0 HG
  go_enter Try.func6, Try.ntmps6
  go_upto_region 1 with fail
  rw [← hX]
  clear hX
  obtain ⟨y0, y1, y2, y3⟩ := HBC.out X (Below.refl _ _)
  go_upto_region 3 with (go_at_call 15; refine (HM.out _ HX0.out).mono ?_; rintro e w2 ⟨rfl, b2⟩)
  clear y0 y1 y2 y3
  obtain ⟨y0, y1, y2, y3⟩ := HBC.out w2 b2.out
  have HB2 : Hid (Below w.heap.size w w2) := HX0.out.trans (b2.out.mono HX0.out.size)
  obtain ⟨hg52, d0⟩ := HTX.out st sn HSN.out w2 HB2.out
  have k1 : ¬ 9223372036854775807 < 6 + sn.size := by omega
  have k2 : ¬ 9223372036854775807 < 6 + sn.size + 2 := by omega
  obtain ⟨T0, hT0⟩ : ∃ T, T = (⟨#[115, 116, 97, 114, 116, 32]⟩ ++ sn ++ ⟨#[59, 10]⟩ : ByteArray) := ⟨_, rfl⟩
  rw [← hT0] at HSL
  have hz0 : T0.size ≤ 100 := by
    rw [hT0]; simp only [ByteArray.size_append]
    have e1 : (⟨#[115, 116, 97, 114, 116, 32]⟩ : ByteArray).size = 6 := rfl
    have e2 : (⟨#[59, 10]⟩ : ByteArray).size = 2 := rfl
    omega
  go_upto_region 4 with fail
  rw [← hT0]
  clear hT0 k1 k2 d0 y0 y1 y2 y3
  go_wp2
  go_loopw [4, 5] (fun s x wr => ∃ (i : Nat) (T : ByteArray), i ≤ N ∧ x = .int .i64 i ∧ s = .string T ∧ Hid (T.data.toList ++ tailL g.names (zzL g.rules i) (g.rules.drop i) = showL g) ∧ T.size ≤ 100 + i * 31000 ∧ Hid (Below X.heap.size X wr)) (fun _ x _ => N - (intOf x).toNat)
  case atStart => exact ⟨0, T0, Nat.zero_le _, rfl, rfl, HSL.out.symm, by omega, b2⟩
  case round =>
    obtain ⟨i, T, hi, rfl, rfl, HT, hTz, HBX⟩ := hrel
    obtain ⟨V, hV⟩ : ∃ V, V = wr := ⟨_, rfl⟩
    subst hV
    obtain ⟨y0, y1, y2, y3⟩ := HBC.out V HBX.out
    have HB : Hid (Below w.heap.size w V) := HX0.out.trans (HBX.out.mono HX0.out.size)
    by_cases hlt : i < N
    · obtain ⟨r, hr⟩ : ∃ r, g.rules[i]? = some r := ⟨_, List.getElem?_eq_getElem (by rw [← HNN.out.2]; exact hlt)⟩
      obtain ⟨u1, a0, a1, hcn⟩ := HRX.out i r hr V HB.out
      have hhd := HHD.out r (List.mem_of_getElem? hr)
      obtain ⟨hrz, hKR⟩ := HR.out r (List.mem_of_getElem? hr)
      have hts := tail_step g.names hr
      have HR9 : Hid (g.rules[i]? = some r) := hr
      obtain ⟨hd, cs⟩ := r
      simp only at a0 a1 hcn hhd hrz hKR hts
      obtain ⟨x, rfl⟩ : ∃ x : Nat, hd = (x : Int) := ⟨hd.toNat, by omega⟩
      have hx : x < n := by omega
      obtain ⟨nx, hnx⟩ : ∃ nx, g.names[x]? = some nx := ⟨_, List.getElem?_eq_getElem (by rw [← HNN.out.1]; exact hx)⟩
      have hnz := HSM.out nx (List.mem_of_getElem? hnx)
      rw [Int.toNat_natCast, List.getD_eq_getElem?_getD, hnx] at hts
      have HNX0 := HTX.out x nx hnx
      obtain ⟨q, cq, hu1, -⟩ := IsCns.lngS hcn
      subst hu1
      obtain ⟨m, hm⟩ : ∃ m, m = cs.length := ⟨_, rfl⟩
      rw [← hm] at a1 hcn
      obtain ⟨Y, hY⟩ : ∃ Y, Y = V.alloc (.cells #[.int .i64 (x : Int), .slice q m cq] 38) := ⟨_, rfl⟩
      have hYb : Below V.heap.size V Y := by rw [hY]; exact bel1 _ _
      have HYX : Hid (Below X.heap.size X Y) := HBX.out.trans (hYb.mono HBX.out.size)
      have HYW : Hid (Below w.heap.size w Y) := HB.out.trans (hYb.mono HB.out.size)
      have s0 : Y.cell? ⟨V.heap.size, 0, none⟩ = some (.int .i64 (x : Int)) := by rw [hY]; exact World.cell?_alloc_at _ _ _ _ rfl
      have s1 : Y.cell? ⟨V.heap.size, 1, none⟩ = some (.slice q m cq) := by rw [hY]; exact World.cell?_alloc_at _ _ _ _ rfl
      have hzY : V.heap.size < Y.heap.size := by rw [hY]; simp
      obtain ⟨R, hR⟩ : ∃ R, R = ba (conjsT g.names cs) := ⟨_, rfl⟩
      have HRL : Hid (R.data.toList = conjsT g.names cs) := by rw [hR]; show (ba _).data.toList = _; simp [ba]
      have hRz : R.size ≤ 30000 := by rw [hR, ba_size]; exact hrz
      have KE : Hid (∀ w', Below Y.heap.size Y w' → Calls Try.prog 16 #[.agg #[.int .i64 (st : Int), .slice (some ⟨g5, o5, none⟩) n c1, .slice (some ⟨g1, o1, none⟩) N c2], .agg #[.int .i64 (x : Int), .slice q m cq]] w' fun e w'' => e = .returned (.string R) ∧ Hid (Below w'.heap.size w' w'')) := fun w' h => by
        rw [hR]; exact hKR _ w' (HYW.out.trans (h.mono HYW.out.size)) ((IsCns.any hcn hYb).any h)
      have HYC : Hid (∀ w', Below Y.heap.size Y w' → w'.cell? ⟨w.heap.size, 0, none⟩ = some (.int .i64 (st : Int)) ∧ w'.cell? ⟨w.heap.size, 1, none⟩ = some (.slice (some ⟨g5, o5, none⟩) n c1) ∧ w'.cell? ⟨w.heap.size, 2, none⟩ = some (.slice (some ⟨g1, o1, none⟩) N c2) ∧ w.heap.size < w'.heap.size ∧ w'.cell? ⟨V.heap.size, 0, none⟩ = some (.int .i64 (x : Int)) ∧ w'.cell? ⟨V.heap.size, 1, none⟩ = some (.slice q m cq)) := fun w' h => by
        obtain ⟨h1, h2, h3, h4⟩ := HBC.out w' (HYX.out.trans (h.mono HYX.out.size))
        exact ⟨h1, h2, h3, h4, (h.cell (p := ⟨_, _, none⟩) hzY).trans s0, (h.cell (p := ⟨_, _, none⟩) hzY).trans s1⟩
      have HHDS : Hid (∀ j r', g.rules[j]? = some r' → ∀ w', Below Y.heap.size Y w' → w'.cell? ⟨g1, o1 + j * 2, none⟩ = some (.int .i64 r'.head)) := fun j r' h w' hb => by
        obtain ⟨_, h1, _⟩ := HRX.out j r' h w' (HYW.out.trans (hb.mono HYW.out.size))
        exact h1
      have HNX : Hid (∀ w', Below Y.heap.size Y w' → w'.cell? ⟨g5, o5 + x, none⟩ = some (.string nx)) := fun w' hb => (HNX0 w' (HYW.out.trans (hb.mono HYW.out.size))).2
      have hTm : T.size ≤ 100 + 256 * 31000 := by have : i * 31000 ≤ 256 * 31000 := Nat.mul_le_mul_right _ (by omega); omega
      have HTS := HT.out
      rw [hts] at HTS
      obtain ⟨nb, hnb⟩ : ∃ nb, nb = V.heap.size := ⟨_, rfl⟩
      rw [← hnb] at HYC
      clear hts hr hhd hrz hKR hcn hnx hYb s0 s1 hzY hR hm HT HNX0
      go_upto_region 8 with fail
      rw [← hY, ← hnb]
      clear hY hnb a0 a1 y0 y1 y2 y3
      by_cases hi0 : i = 0
      · skip
        have a1 : ((i : Int) == 0) = true := by rw [beq_iff_eq]; omega
        have hpr : ¬ (x : Int) = zzL g.rules i := by unfold zzL; rw [if_pos hi0]; omega
        clear hi0
        obtain ⟨T1, hT1⟩ : ∃ T1, T1 = T ++ nx ++ (⟨#[32, 61, 32]⟩ : ByteArray) := ⟨_, rfl⟩
        have HT1 : Hid (T1.data.toList ++ conjsT g.names cs ++ (if (g.rules[i + 1]?.map (·.head)) = some (x : Int) then [] else [59, 10]) ++ tailL g.names (zzL g.rules (i + 1)) (g.rules.drop (i + 1)) = showL g) := by
          show _ = _
          have h9 := HTS
          rw [if_neg hpr] at h9
          rw [← h9, hT1]
          simp [tl_app]
        have hz1 : T1.size ≤ T.size + 40 := by
          rw [hT1]
          have z1 : (⟨#[32, 124, 32]⟩ : ByteArray).size = 3 := rfl
          have z2 : (⟨#[32, 61, 32]⟩ : ByteArray).size = 3 := rfl
          simp only [ByteArray.size_append]; omega
        have q1 : ¬ 9223372036854775807 < T.size + 3 := by omega
        have q2 : ¬ 9223372036854775807 < T.size + nx.size := by omega
        have q3 : ¬ 9223372036854775807 < T.size + nx.size + 3 := by omega
        have q4 : ¬ 9223372036854775807 < T1.size + R.size := by omega
        obtain ⟨v0, v1c, v2c, v3, v4, v5⟩ := HYC.out Y (Below.refl _ _)
        have nxc := HNX.out Y (Below.refl _ _)
        clear HTS hpr
        go_quiet (fail)
        go_upto_region 11 with fail
        rw [← hT1]
        clear hT1 q1 q2 q3
        go_upto_region 12 with (go_at_call 16; refine (KE.out _ (drewN_below Y _)).mono ?_; rintro e w5 ⟨rfl, b50⟩; have b5 : Hid (Below Y.heap.size Y w5) := (drewN_below Y _).trans b50.out; clear b50)
        obtain ⟨T2, hT2⟩ : ∃ T2, T2 = T1 ++ R := ⟨_, rfl⟩
        have HT2 : Hid (T2.data.toList ++ (if (g.rules[i + 1]?.map (·.head)) = some (x : Int) then [] else [59, 10]) ++ tailL g.names (zzL g.rules (i + 1)) (g.rules.drop (i + 1)) = showL g) := by
          show _ = _
          rw [hT2, tl_app, HRL.out]; exact HT1.out
        have hz2 : T2.size ≤ T.size + 40 + 30000 := by rw [hT2, ByteArray.size_append]; omega
        rw [← hT2]
        clear hT2 q4 v0 v1c v2c v3 v4 v5
        obtain ⟨u0, u1, u2, u3, u4, u5⟩ := HYC.out w5 b5.out
        have HB5 : Hid (Below X.heap.size X w5) := HYX.out.trans (b5.out.mono HYX.out.size)
        by_cases hNi : i + 1 = N
        · skip
          have q5 : ¬ 9223372036854775807 < T2.size + 2 := by omega
          have hwi : IntKind.i64.wrap ((i : Int) + 1) = (i : Int) + 1 := by rw [IntKind.wrap_i64]; omega
          have e1 : (((i : Int) + 1) == (N : Int)) = true := by rw [beq_iff_eq]; omega
          have hpo : (g.rules[i + 1]?.map (·.head)) ≠ some (x : Int) := by rw [List.getElem?_eq_none (by rw [← HNN.out.2]; omega)]; simp
          have HF : Hid ((T2 ++ ⟨#[59, 10]⟩).data.toList ++ tailL g.names (zzL g.rules (i + 1)) (g.rules.drop (i + 1)) = showL g) := by
            show _ = _
            have h9 := HT2.out
            rw [if_neg hpo] at h9
            rw [← h9]
            simp [tl_app]
          have hzF : (T2 ++ ⟨#[59, 10]⟩).size ≤ 100 + (i + 1) * 31000 := by
            have : (⟨#[59, 10]⟩ : ByteArray).size = 2 := rfl
            (try rw [ByteArray.size_append]); omega
          clear hNi
          clear hpo
          go_wp2
          go_quiet (fail)
          go_wp2
          go_roundw
          case rel => exact ⟨i + 1, _, by omega, by go_num, rfl, HF, hzF, below_drewN HB5.out _⟩
          case measure => simp [intOf]; omega
        · obtain ⟨r2, hr2⟩ : ∃ r, g.rules[i + 1]? = some r := ⟨_, List.getElem?_eq_getElem (by rw [← HNN.out.2]; omega)⟩
          by_cases hdd : r2.head = (x : Int)
          · skip
            have q5 : ¬ 9223372036854775807 < T2.size + 2 := by omega
            have hwi : IntKind.i64.wrap ((i : Int) + 1) = (i : Int) + 1 := by rw [IntKind.wrap_i64]; omega
            have e1 : (((i : Int) + 1) == (N : Int)) = false := by rw [beq_eq_false_iff_ne]; omega
            have e2 : decide ((i : Int) + 1 = (N : Int)) = false := decide_eq_false (by omega)
            have e3 : (i : Int) + 1 < (N : Int) := by omega
            have e4 := HHDS.out (i + 1) r2 hr2 w5 b5.out
            obtain ⟨hd2, cs2⟩ := r2
            simp only at e4 hdd
            subst hdd
            have hpo : (g.rules[i + 1]?.map (·.head)) = some (x : Int) := by rw [hr2]; rfl
            have e5 : ((x : Int) == (x : Int)) = true := beq_self_eq_true _
            have HF : Hid (T2.data.toList ++ tailL g.names (zzL g.rules (i + 1)) (g.rules.drop (i + 1)) = showL g) := by
              show _ = _
              have h9 := HT2.out
              rw [if_pos hpo] at h9
              rw [← h9]
              simp [tl_app]
            have hzF : T2.size ≤ 100 + (i + 1) * 31000 := by
              have : (⟨#[59, 10]⟩ : ByteArray).size = 2 := rfl
              (try rw [ByteArray.size_append]); omega
            clear hr2
            clear hpo
            go_wp2
            go_quiet (fail)
            go_wp2
            go_roundw
            case rel => exact ⟨i + 1, _, by omega, by go_num, rfl, HF, hzF, below_drewN HB5.out _⟩
            case measure => simp [intOf]; omega
          · skip
            have q5 : ¬ 9223372036854775807 < T2.size + 2 := by omega
            have hwi : IntKind.i64.wrap ((i : Int) + 1) = (i : Int) + 1 := by rw [IntKind.wrap_i64]; omega
            have e1 : (((i : Int) + 1) == (N : Int)) = false := by rw [beq_eq_false_iff_ne]; omega
            have e2 : decide ((i : Int) + 1 = (N : Int)) = false := decide_eq_false (by omega)
            have e3 : (i : Int) + 1 < (N : Int) := by omega
            have e4 := HHDS.out (i + 1) r2 hr2 w5 b5.out
            obtain ⟨hd2, cs2⟩ := r2
            simp only at e4 hdd
            have hpo : (g.rules[i + 1]?.map (·.head)) ≠ some (x : Int) := by rw [hr2]; simpa using hdd
            have e5 : (hd2 == (x : Int)) = false := by rw [beq_eq_false_iff_ne]; exact hdd
            have e6 : ¬ hd2 = (x : Int) := hdd
            have HF : Hid ((T2 ++ ⟨#[59, 10]⟩).data.toList ++ tailL g.names (zzL g.rules (i + 1)) (g.rules.drop (i + 1)) = showL g) := by
              show _ = _
              have h9 := HT2.out
              rw [if_neg hpo] at h9
              rw [← h9]
              simp [tl_app]
            have hzF : (T2 ++ ⟨#[59, 10]⟩).size ≤ 100 + (i + 1) * 31000 := by
              have : (⟨#[59, 10]⟩ : ByteArray).size = 2 := rfl
              (try rw [ByteArray.size_append]); omega
            clear hr2
            clear hpo
            go_wp2
            go_quiet (fail)
            go_wp2
            go_roundw
            case rel => exact ⟨i + 1, _, by omega, by go_num, rfl, HF, hzF, below_drewN HB5.out _⟩
            case measure => simp [intOf]; omega
      · obtain ⟨r0, hr0⟩ : ∃ r, g.rules[i - 1]? = some r := ⟨_, List.getElem?_eq_getElem (by rw [← HNN.out.2]; omega)⟩
        by_cases hdd0 : r0.head = (x : Int)
        · skip
          have a1 : ((i : Int) == 0) = false := by rw [beq_eq_false_iff_ne]; omega
          have a2 : decide ((i : Int) = 0) = false := decide_eq_false (by omega)
          have a3 := HHDS.out (i - 1) r0 hr0 Y (Below.refl _ _)
          have a4 : (((i - 1 : Nat) : Int)) = (i : Int) - 1 := by omega
          have a5 : (0 : Int) ≤ (i : Int) - 1 := by omega
          have a6 : (i : Int) - 1 < (N : Int) := by omega
          have a7 : ((i : Int) - 1).toNat = i - 1 := by omega
          have a8 : IntKind.i64.wrap ((i : Int) - 1) = (i : Int) - 1 := by rw [IntKind.wrap_i64]; omega
          obtain ⟨hd0, cs0⟩ := r0
          simp only at a3 hdd0
          have hzz : zzL g.rules i = hd0 := by unfold zzL; rw [if_neg hi0, List.getD_eq_getElem?_getD, hr0]; rfl
          subst hdd0
          have hpr : (x : Int) = zzL g.rules i := hzz.symm
          have a9 : ((x : Int) == (x : Int)) = true := beq_self_eq_true _
          obtain ⟨T1, hT1⟩ : ∃ T1, T1 = T ++ (⟨#[32, 124, 32]⟩ : ByteArray) := ⟨_, rfl⟩
          have HT1 : Hid (T1.data.toList ++ conjsT g.names cs ++ (if (g.rules[i + 1]?.map (·.head)) = some (x : Int) then [] else [59, 10]) ++ tailL g.names (zzL g.rules (i + 1)) (g.rules.drop (i + 1)) = showL g) := by
            show _ = _
            have h9 := HTS
            rw [if_pos hpr] at h9
            rw [← h9, hT1]
            simp [tl_app]
          have hz1 : T1.size ≤ T.size + 40 := by
            rw [hT1]
            have z1 : (⟨#[32, 124, 32]⟩ : ByteArray).size = 3 := rfl
            have z2 : (⟨#[32, 61, 32]⟩ : ByteArray).size = 3 := rfl
            simp only [ByteArray.size_append]; omega
          have q1 : ¬ 9223372036854775807 < T.size + 3 := by omega
          have q2 : ¬ 9223372036854775807 < T.size + nx.size := by omega
          have q3 : ¬ 9223372036854775807 < T.size + nx.size + 3 := by omega
          have q4 : ¬ 9223372036854775807 < T1.size + R.size := by omega
          obtain ⟨v0, v1c, v2c, v3, v4, v5⟩ := HYC.out Y (Below.refl _ _)
          have nxc := HNX.out Y (Below.refl _ _)
          clear HTS hpr
          clear hr0 hzz
          go_quiet (fail)
          go_upto_region 11 with fail
          rw [← hT1]
          clear hT1 q1 q2 q3
          go_upto_region 12 with (go_at_call 16; refine (KE.out _ (drewN_below Y _)).mono ?_; rintro e w5 ⟨rfl, b50⟩; have b5 : Hid (Below Y.heap.size Y w5) := (drewN_below Y _).trans b50.out; clear b50)
          obtain ⟨T2, hT2⟩ : ∃ T2, T2 = T1 ++ R := ⟨_, rfl⟩
          have HT2 : Hid (T2.data.toList ++ (if (g.rules[i + 1]?.map (·.head)) = some (x : Int) then [] else [59, 10]) ++ tailL g.names (zzL g.rules (i + 1)) (g.rules.drop (i + 1)) = showL g) := by
            show _ = _
            rw [hT2, tl_app, HRL.out]; exact HT1.out
          have hz2 : T2.size ≤ T.size + 40 + 30000 := by rw [hT2, ByteArray.size_append]; omega
          rw [← hT2]
          clear hT2 q4 v0 v1c v2c v3 v4 v5
          obtain ⟨u0, u1, u2, u3, u4, u5⟩ := HYC.out w5 b5.out
          have HB5 : Hid (Below X.heap.size X w5) := HYX.out.trans (b5.out.mono HYX.out.size)
          by_cases hNi : i + 1 = N
          · skip
            have q5 : ¬ 9223372036854775807 < T2.size + 2 := by omega
            have hwi : IntKind.i64.wrap ((i : Int) + 1) = (i : Int) + 1 := by rw [IntKind.wrap_i64]; omega
            have e1 : (((i : Int) + 1) == (N : Int)) = true := by rw [beq_iff_eq]; omega
            have hpo : (g.rules[i + 1]?.map (·.head)) ≠ some (x : Int) := by rw [List.getElem?_eq_none (by rw [← HNN.out.2]; omega)]; simp
            have HF : Hid ((T2 ++ ⟨#[59, 10]⟩).data.toList ++ tailL g.names (zzL g.rules (i + 1)) (g.rules.drop (i + 1)) = showL g) := by
              show _ = _
              have h9 := HT2.out
              rw [if_neg hpo] at h9
              rw [← h9]
              simp [tl_app]
            have hzF : (T2 ++ ⟨#[59, 10]⟩).size ≤ 100 + (i + 1) * 31000 := by
              have : (⟨#[59, 10]⟩ : ByteArray).size = 2 := rfl
              (try rw [ByteArray.size_append]); omega
            clear hNi
            clear hpo
            go_wp2
            go_quiet (fail)
            go_wp2
            go_roundw
            case rel => exact ⟨i + 1, _, by omega, by go_num, rfl, HF, hzF, below_drewN HB5.out _⟩
            case measure => simp [intOf]; omega
          · obtain ⟨r2, hr2⟩ : ∃ r, g.rules[i + 1]? = some r := ⟨_, List.getElem?_eq_getElem (by rw [← HNN.out.2]; omega)⟩
            by_cases hdd : r2.head = (x : Int)
            · skip
              have q5 : ¬ 9223372036854775807 < T2.size + 2 := by omega
              have hwi : IntKind.i64.wrap ((i : Int) + 1) = (i : Int) + 1 := by rw [IntKind.wrap_i64]; omega
              have e1 : (((i : Int) + 1) == (N : Int)) = false := by rw [beq_eq_false_iff_ne]; omega
              have e2 : decide ((i : Int) + 1 = (N : Int)) = false := decide_eq_false (by omega)
              have e3 : (i : Int) + 1 < (N : Int) := by omega
              have e4 := HHDS.out (i + 1) r2 hr2 w5 b5.out
              obtain ⟨hd2, cs2⟩ := r2
              simp only at e4 hdd
              subst hdd
              have hpo : (g.rules[i + 1]?.map (·.head)) = some (x : Int) := by rw [hr2]; rfl
              have e5 : ((x : Int) == (x : Int)) = true := beq_self_eq_true _
              have HF : Hid (T2.data.toList ++ tailL g.names (zzL g.rules (i + 1)) (g.rules.drop (i + 1)) = showL g) := by
                show _ = _
                have h9 := HT2.out
                rw [if_pos hpo] at h9
                rw [← h9]
                simp [tl_app]
              have hzF : T2.size ≤ 100 + (i + 1) * 31000 := by
                have : (⟨#[59, 10]⟩ : ByteArray).size = 2 := rfl
                (try rw [ByteArray.size_append]); omega
              clear hr2
              clear hpo
              go_wp2
              go_quiet (fail)
              go_wp2
              go_roundw
              case rel => exact ⟨i + 1, _, by omega, by go_num, rfl, HF, hzF, below_drewN HB5.out _⟩
              case measure => simp [intOf]; omega
            · skip
              have q5 : ¬ 9223372036854775807 < T2.size + 2 := by omega
              have hwi : IntKind.i64.wrap ((i : Int) + 1) = (i : Int) + 1 := by rw [IntKind.wrap_i64]; omega
              have e1 : (((i : Int) + 1) == (N : Int)) = false := by rw [beq_eq_false_iff_ne]; omega
              have e2 : decide ((i : Int) + 1 = (N : Int)) = false := decide_eq_false (by omega)
              have e3 : (i : Int) + 1 < (N : Int) := by omega
              have e4 := HHDS.out (i + 1) r2 hr2 w5 b5.out
              obtain ⟨hd2, cs2⟩ := r2
              simp only at e4 hdd
              have hpo : (g.rules[i + 1]?.map (·.head)) ≠ some (x : Int) := by rw [hr2]; simpa using hdd
              have e5 : (hd2 == (x : Int)) = false := by rw [beq_eq_false_iff_ne]; exact hdd
              have e6 : ¬ hd2 = (x : Int) := hdd
              have HF : Hid ((T2 ++ ⟨#[59, 10]⟩).data.toList ++ tailL g.names (zzL g.rules (i + 1)) (g.rules.drop (i + 1)) = showL g) := by
                show _ = _
                have h9 := HT2.out
                rw [if_neg hpo] at h9
                rw [← h9]
                simp [tl_app]
              have hzF : (T2 ++ ⟨#[59, 10]⟩).size ≤ 100 + (i + 1) * 31000 := by
                have : (⟨#[59, 10]⟩ : ByteArray).size = 2 := rfl
                (try rw [ByteArray.size_append]); omega
              clear hr2
              clear hpo
              go_wp2
              go_quiet (fail)
              go_wp2
              go_roundw
              case rel => exact ⟨i + 1, _, by omega, by go_num, rfl, HF, hzF, below_drewN HB5.out _⟩
              case measure => simp [intOf]; omega
        · skip
          have a1 : ((i : Int) == 0) = false := by rw [beq_eq_false_iff_ne]; omega
          have a2 : decide ((i : Int) = 0) = false := decide_eq_false (by omega)
          have a3 := HHDS.out (i - 1) r0 hr0 Y (Below.refl _ _)
          have a4 : (((i - 1 : Nat) : Int)) = (i : Int) - 1 := by omega
          have a5 : (0 : Int) ≤ (i : Int) - 1 := by omega
          have a6 : (i : Int) - 1 < (N : Int) := by omega
          have a7 : ((i : Int) - 1).toNat = i - 1 := by omega
          have a8 : IntKind.i64.wrap ((i : Int) - 1) = (i : Int) - 1 := by rw [IntKind.wrap_i64]; omega
          obtain ⟨hd0, cs0⟩ := r0
          simp only at a3 hdd0
          have hzz : zzL g.rules i = hd0 := by unfold zzL; rw [if_neg hi0, List.getD_eq_getElem?_getD, hr0]; rfl
          have hpr : ¬ (x : Int) = zzL g.rules i := by rw [hzz]; exact fun e => hdd0 e.symm
          have a9 : (hd0 == (x : Int)) = false := by rw [beq_eq_false_iff_ne]; exact hdd0
          have a10 : ¬ hd0 = (x : Int) := hdd0
          obtain ⟨T1, hT1⟩ : ∃ T1, T1 = T ++ nx ++ (⟨#[32, 61, 32]⟩ : ByteArray) := ⟨_, rfl⟩
          have HT1 : Hid (T1.data.toList ++ conjsT g.names cs ++ (if (g.rules[i + 1]?.map (·.head)) = some (x : Int) then [] else [59, 10]) ++ tailL g.names (zzL g.rules (i + 1)) (g.rules.drop (i + 1)) = showL g) := by
            show _ = _
            have h9 := HTS
            rw [if_neg hpr] at h9
            rw [← h9, hT1]
            simp [tl_app]
          have hz1 : T1.size ≤ T.size + 40 := by
            rw [hT1]
            have z1 : (⟨#[32, 124, 32]⟩ : ByteArray).size = 3 := rfl
            have z2 : (⟨#[32, 61, 32]⟩ : ByteArray).size = 3 := rfl
            simp only [ByteArray.size_append]; omega
          have q1 : ¬ 9223372036854775807 < T.size + 3 := by omega
          have q2 : ¬ 9223372036854775807 < T.size + nx.size := by omega
          have q3 : ¬ 9223372036854775807 < T.size + nx.size + 3 := by omega
          have q4 : ¬ 9223372036854775807 < T1.size + R.size := by omega
          obtain ⟨v0, v1c, v2c, v3, v4, v5⟩ := HYC.out Y (Below.refl _ _)
          have nxc := HNX.out Y (Below.refl _ _)
          clear HTS hpr
          clear hr0 hzz
          go_quiet (fail)
          go_upto_region 11 with fail
          rw [← hT1]
          clear hT1 q1 q2 q3
          go_upto_region 12 with (go_at_call 16; refine (KE.out _ (drewN_below Y _)).mono ?_; rintro e w5 ⟨rfl, b50⟩; have b5 : Hid (Below Y.heap.size Y w5) := (drewN_below Y _).trans b50.out; clear b50)
          obtain ⟨T2, hT2⟩ : ∃ T2, T2 = T1 ++ R := ⟨_, rfl⟩
          have HT2 : Hid (T2.data.toList ++ (if (g.rules[i + 1]?.map (·.head)) = some (x : Int) then [] else [59, 10]) ++ tailL g.names (zzL g.rules (i + 1)) (g.rules.drop (i + 1)) = showL g) := by
            show _ = _
            rw [hT2, tl_app, HRL.out]; exact HT1.out
          have hz2 : T2.size ≤ T.size + 40 + 30000 := by rw [hT2, ByteArray.size_append]; omega
          rw [← hT2]
          clear hT2 q4 v0 v1c v2c v3 v4 v5
          obtain ⟨u0, u1, u2, u3, u4, u5⟩ := HYC.out w5 b5.out
          have HB5 : Hid (Below X.heap.size X w5) := HYX.out.trans (b5.out.mono HYX.out.size)
          by_cases hNi : i + 1 = N
          · skip
            have q5 : ¬ 9223372036854775807 < T2.size + 2 := by omega
            have hwi : IntKind.i64.wrap ((i : Int) + 1) = (i : Int) + 1 := by rw [IntKind.wrap_i64]; omega
            have e1 : (((i : Int) + 1) == (N : Int)) = true := by rw [beq_iff_eq]; omega
            have hpo : (g.rules[i + 1]?.map (·.head)) ≠ some (x : Int) := by rw [List.getElem?_eq_none (by rw [← HNN.out.2]; omega)]; simp
            have HF : Hid ((T2 ++ ⟨#[59, 10]⟩).data.toList ++ tailL g.names (zzL g.rules (i + 1)) (g.rules.drop (i + 1)) = showL g) := by
              show _ = _
              have h9 := HT2.out
              rw [if_neg hpo] at h9
              rw [← h9]
              simp [tl_app]
            have hzF : (T2 ++ ⟨#[59, 10]⟩).size ≤ 100 + (i + 1) * 31000 := by
              have : (⟨#[59, 10]⟩ : ByteArray).size = 2 := rfl
              (try rw [ByteArray.size_append]); omega
            clear hNi
            clear hpo
            go_wp2
            go_quiet (fail)
            go_wp2
            go_roundw
            case rel => exact ⟨i + 1, _, by omega, by go_num, rfl, HF, hzF, below_drewN HB5.out _⟩
            case measure => simp [intOf]; omega
          · obtain ⟨r2, hr2⟩ : ∃ r, g.rules[i + 1]? = some r := ⟨_, List.getElem?_eq_getElem (by rw [← HNN.out.2]; omega)⟩
            by_cases hdd : r2.head = (x : Int)
            · skip
              have q5 : ¬ 9223372036854775807 < T2.size + 2 := by omega
              have hwi : IntKind.i64.wrap ((i : Int) + 1) = (i : Int) + 1 := by rw [IntKind.wrap_i64]; omega
              have e1 : (((i : Int) + 1) == (N : Int)) = false := by rw [beq_eq_false_iff_ne]; omega
              have e2 : decide ((i : Int) + 1 = (N : Int)) = false := decide_eq_false (by omega)
              have e3 : (i : Int) + 1 < (N : Int) := by omega
              have e4 := HHDS.out (i + 1) r2 hr2 w5 b5.out
              obtain ⟨hd2, cs2⟩ := r2
              simp only at e4 hdd
              subst hdd
              have hpo : (g.rules[i + 1]?.map (·.head)) = some (x : Int) := by rw [hr2]; rfl
              have e5 : ((x : Int) == (x : Int)) = true := beq_self_eq_true _
              have HF : Hid (T2.data.toList ++ tailL g.names (zzL g.rules (i + 1)) (g.rules.drop (i + 1)) = showL g) := by
                show _ = _
                have h9 := HT2.out
                rw [if_pos hpo] at h9
                rw [← h9]
                simp [tl_app]
              have hzF : T2.size ≤ 100 + (i + 1) * 31000 := by
                have : (⟨#[59, 10]⟩ : ByteArray).size = 2 := rfl
                (try rw [ByteArray.size_append]); omega
              clear hr2
              clear hpo
              go_wp2
              go_quiet (fail)
              go_wp2
              go_roundw
              case rel => exact ⟨i + 1, _, by omega, by go_num, rfl, HF, hzF, below_drewN HB5.out _⟩
              case measure => simp [intOf]; omega
            · skip
              have q5 : ¬ 9223372036854775807 < T2.size + 2 := by omega
              have hwi : IntKind.i64.wrap ((i : Int) + 1) = (i : Int) + 1 := by rw [IntKind.wrap_i64]; omega
              have e1 : (((i : Int) + 1) == (N : Int)) = false := by rw [beq_eq_false_iff_ne]; omega
              have e2 : decide ((i : Int) + 1 = (N : Int)) = false := decide_eq_false (by omega)
              have e3 : (i : Int) + 1 < (N : Int) := by omega
              have e4 := HHDS.out (i + 1) r2 hr2 w5 b5.out
              obtain ⟨hd2, cs2⟩ := r2
              simp only at e4 hdd
              have hpo : (g.rules[i + 1]?.map (·.head)) ≠ some (x : Int) := by rw [hr2]; simpa using hdd
              have e5 : (hd2 == (x : Int)) = false := by rw [beq_eq_false_iff_ne]; exact hdd
              have e6 : ¬ hd2 = (x : Int) := hdd
              have HF : Hid ((T2 ++ ⟨#[59, 10]⟩).data.toList ++ tailL g.names (zzL g.rules (i + 1)) (g.rules.drop (i + 1)) = showL g) := by
                show _ = _
                have h9 := HT2.out
                rw [if_neg hpo] at h9
                rw [← h9]
                simp [tl_app]
              have hzF : (T2 ++ ⟨#[59, 10]⟩).size ≤ 100 + (i + 1) * 31000 := by
                have : (⟨#[59, 10]⟩ : ByteArray).size = 2 := rfl
                (try rw [ByteArray.size_append]); omega
              clear hr2
              clear hpo
              go_wp2
              go_quiet (fail)
              go_wp2
              go_roundw
              case rel => exact ⟨i + 1, _, by omega, by go_num, rfl, HF, hzF, below_drewN HB5.out _⟩
              case measure => simp [intOf]; omega
    · obtain rfl : i = N := by omega
      have HE : Hid (T = showT g) := by
        have h9 := HT.out
        rw [HNN.out.2, List.drop_length] at h9
        have h8 : T.data.toList = showL g := by rw [← h9]; show _ = _ ++ []; rw [List.append_nil]
        exact ba_tl _ _ h8
      go_wp2
      go_ret2
      exact ⟨by rw [← HE.out]; rfl, HB⟩
end Go.Proofs.Yteanhhehjlhhbaa
