/- A round of ranks: followRest of the program. -/
import Derived.Test.YtfjejnkjlnkkhaaGreatDoorGo
namespace Go.Proofs.YtfjejnkjlnkkhaaGreatDoor
set_option linter.unusedVariables false
set_option linter.unusedSimpArgs false
open Go.ChangeShapes Go.WideShapes Go.ChangeAt Go.RowKit Go.Shelf
attribute [local go_sem] Oper.semAt_some

/-- followRest's three boxes. -/
structure Bx3 (R nb : Nat) (nm lo up : Int) (y a m : Nat) (w' : World) : Prop where
  b0 : w'.cell? ⟨nb, 0, none⟩ = some (.pointer (some ⟨R, 0, none⟩))
  s0 : w'.cell? ⟨nb + 1, 0, none⟩ = some (.int .i64 nm)
  s1 : w'.cell? ⟨nb + 1, 1, none⟩ = some (.int .i64 lo)
  s2 : w'.cell? ⟨nb + 1, 2, none⟩ = some (.int .i64 up)
  f0 : w'.cell? ⟨nb + 1 + 1, 0, none⟩ = some (.int .i64 ((y : Int) + 1))
  f1 : w'.cell? ⟨nb + 1 + 1, 1, none⟩ = some (.int .i64 (a : Int))
  f2 : w'.cell? ⟨nb + 1 + 1, 2, none⟩ = some (.int .i64 (m : Int))
theorem Bx3.any {R nb : Nat} {nm lo up : Int} {y a m : Nat} {w' w'' : World} (h : Bx3 R nb nm lo up y a m w') (hb : Below w'.heap.size w' w'') : Bx3 R nb nm lo up y a m w'' := by
  have c : ∀ {k o : Nat} {v : Value}, w'.cell? ⟨k, o, none⟩ = some v → w''.cell? ⟨k, o, none⟩ = some v := fun {k o v} hv => (hb.cell (p := ⟨k, o, none⟩) (block_lt_of_cell hv)).trans hv
  exact ⟨c h.b0, c h.s0, c h.s1, c h.s2, c h.f0, c h.f1, c h.f2⟩
theorem Bx3.kq {R rb nb : Nat} {nm lo up : Int} {y a m : Nat} {w' w'' : World} (h : Bx3 R nb nm lo up y a m w') (hk : Kq R rb w' w'') (h1 : ∀ k, nb ≤ k → k < w'.heap.size → k ≠ rb ∧ k ≠ R ∧ ¬ OwnR w' R k) : Bx3 R nb nm lo up y a m w'' := by
  have c : ∀ {k o : Nat} {v : Value}, nb ≤ k → w'.cell? ⟨k, o, none⟩ = some v → w''.cell? ⟨k, o, none⟩ = some v := fun {k o v} hn hv => by
    obtain ⟨g1, g2, g3⟩ := h1 k hn (block_lt_of_cell hv)
    exact hk.cell g1 g2 g3 hv
  exact ⟨c (by omega) h.b0, c (by omega) h.s0, c (by omega) h.s1, c (by omega) h.s2, c (by omega) h.f0, c (by omega) h.f1, c (by omega) h.f2⟩
theorem toW_bit {T : SpM} {y j i : Nat} (h : (toW T y j).testBit i = true) : T y i j = true := by
  unfold toW at h
  rw [bitsN_at, Bool.and_eq_true] at h
  exact h.2
theorem frW_bit {T : SpM} {y i j : Nat} (h : (frW T y i).testBit j = true) : T y i j = true := by
  unfold frW at h
  rw [bitsN_at, Bool.and_eq_true] at h
  exact h.2
set_option maxHeartbeats 4000000 in
set_option maxRecDepth 100000 in
theorem followRestN_any {F : Nat → Prop} {g : Gr} {W : ByteArray} {D : Md} {T : SpM} {X : World} {R t : Nat} {K : Nat → Nat} {fd : List Fct} (w : World) (hs : Ws F g W D T X) (hT : MnOk (btsW W) W.size g.names.length g.rules T) (h : Sx g W D T X R t K fd w) (hG : TabG w) (hrb : 0 < D.rb) (lo up : Int) (x ρ a m : Nat) (hx : x < g.names.length) (hρ : ρ + 1 < allN g) (ham : a ≤ m) (hm : m ≤ W.size)
    (hst : ∀ i, AtM g W T t x i a → AtM g W T (t + 1) ρ i m) :
    Calls Tryz.prog 74 #[.pointer (some ⟨R, 0, none⟩), .agg #[.int .i64 (x : Int), .int .i64 lo, .int .i64 up], .agg #[.int .i64 ((ρ : Int) + 1), .int .i64 (a : Int), .int .i64 (m : Int)]] w fun e w' => e = .returned (.tuple #[]) ∧ Hid (Gives g W D T X R t K (fun K' => ∀ i, AtM g W T t x i a → K' (idx W.size ρ i m) ≠ 0) w w') := by
  obtain ⟨X3, hX3⟩ : ∃ X3, X3 = ((w.alloc (.cells #[.pointer (some ⟨R, 0, none⟩)] 104)).alloc (.cells #[.int .i64 (x : Int), .int .i64 lo, .int .i64 up] 44)).alloc (.cells #[.int .i64 ((ρ : Int) + 1), .int .i64 (a : Int), .int .i64 (m : Int)] 109) := ⟨_, rfl⟩
  have hXb : Below w.heap.size w X3 := by rw [hX3]; exact ((bel1 _ _).alloc (by simp) _).alloc (by simp; omega) _
  have hXs : X3.heap.size = w.heap.size + 3 := by rw [hX3]; simp
  obtain ⟨nb, hnb⟩ : ∃ nb, nb = w.heap.size := ⟨_, rfl⟩
  have hbx : Bx3 R nb (x : Int) lo up ρ a m X3 := by
    refine ⟨?_, ?_, ?_, ?_, ?_, ?_, ?_⟩
    · rw [hnb, hX3, World.cell?_alloc_past _ _ _ (by simp; omega), World.cell?_alloc_past _ _ _ (by simp)]; exact World.cell?_alloc_at _ _ _ _ rfl
    · rw [hnb, hX3, World.cell?_alloc_past _ _ _ (by simp)]; exact World.cell?_alloc_at _ _ _ _ (by simp)
    · rw [hnb, hX3, World.cell?_alloc_past _ _ _ (by simp)]; exact World.cell?_alloc_at _ _ _ _ (by simp)
    · rw [hnb, hX3, World.cell?_alloc_past _ _ _ (by simp)]; exact World.cell?_alloc_at _ _ _ _ (by simp)
    · rw [hnb, hX3]; exact World.cell?_alloc_at _ _ _ _ (by simp)
    · rw [hnb, hX3]; exact World.cell?_alloc_at _ _ _ _ (by simp)
    · rw [hnb, hX3]; exact World.cell?_alloc_at _ _ _ _ (by simp)
  have hX := h.any hXb
  obtain ⟨hW, hHas⟩ := hs.at hX.rs.bu
  have hR1 : R < w.heap.size := block_lt_of_cell h.rs.r0
  have hR0 : 0 < R := by have := h.rs.xr; have := hs.fm.rB; have := hs.wm.lo; omega
  have hXw := h.rs.bu.size
  have hrl : D.rb < X.heap.size := Nat.lt_of_lt_of_le hs.fm.rB hs.wm.lo
  have hNO : ∀ k, w.heap.size ≤ k → ¬ OwnR w R k := fun k hk => h.rs.newer hk
  have r0 := hX.rs.r0
  have k0 := hW.k0
  have t3 := hW.t3
  have hxA : x < allN g := by unfold allN; omega
  have h32 := hs.hm
  have hto := hHas.to x a hxA (by omega)
  obtain ⟨z, hz⟩ : ∃ z, z = toW T x a := ⟨_, rfl⟩
  have hz64 : z < 18446744073709551616 := by rw [hz]; exact toW_lt T x a
  rw [← hz] at hto
  obtain ⟨A, hA⟩ : ∃ A, A = allN g := ⟨_, rfl⟩
  have HA : Hid (A = allN g) := hA
  rw [← hA] at t3 hxA hρ
  have HS : Hid (Ws F g W D T X) := hs
  have HZ : Hid (z = toW T x a) := hz
  have HXX : Hid (Sx g W D T X R t K fd X3) := hX
  have HBX : Hid (Bx3 R nb (x : Int) lo up ρ a m X3) := hbx
  have HSC : Hid (∀ w', Below X3.heap.size X3 w' → w'.cell? ⟨nb, 0, none⟩ = some (.pointer (some ⟨R, 0, none⟩)) ∧ w'.cell? ⟨R, 0, none⟩ = some (.pointer (some ⟨D.kb, 0, none⟩)) ∧ w'.cell? ⟨D.kb, 0, none⟩ = some (.pointer (some ⟨D.tb, 0, none⟩)) ∧ w'.cell? ⟨D.tb, 3, none⟩ = some (.slice (some ⟨D.hb, 0, none⟩) A A) ∧ w'.cell? ⟨nb + 1, 0, none⟩ = some (.int .i64 (x : Int)) ∧ w'.cell? ⟨nb + 1 + 1, 1, none⟩ = some (.int .i64 (a : Int)) ∧ w'.cell? ⟨D.hb, x * 66 + 33 + a, none⟩ = some (.int .u64 (z : Int))) := fun w' hb => by
    have c : ∀ {k o : Nat} {v : Value}, X3.cell? ⟨k, o, none⟩ = some v → w'.cell? ⟨k, o, none⟩ = some v := fun {k o v} hv => (hb.cell (p := ⟨k, o, none⟩) (block_lt_of_cell hv)).trans hv
    exact ⟨c hbx.b0, c r0, c k0, c t3, c hbx.s0, c hbx.f1, c hto⟩
  have s0 := hbx.s0
  have l1 : (x : Int) < (A : Int) := by omega
  have hn1 : ((x : Int) == -1) = false := by rw [beq_eq_false_iff_ne]; omega
  have ha33 : (a : Int) < 33 := by omega
  have HFN : Hid (∀ w5, Below X3.heap.size X3 w5 → w.heap.size ≤ w5.heap.size ∧ X.heap.size ≤ w5.heap.size ∧ D.rb < w5.heap.size ∧ Kq R D.rb w w5 ∧ Sx g W D T X R t K fd w5 ∧ Bx3 R nb (x : Int) lo up ρ a m w5 ∧ TabG w5 ∧ ∀ k, nb ≤ k → k < w5.heap.size → k ≠ D.rb ∧ k ≠ R ∧ ¬ OwnR w5 R k) := fun w5 hb => by
    have hb2 : Below w.heap.size w w5 := hXb.trans (hb.mono (by omega))
    have hz2 := hb2.size
    refine ⟨hz2, by omega, by omega, Kq.of hb2 hR1, hX.any hb, hbx.any hb, (Kg.ofB hb2).tab hG, fun k hk _ => ⟨by omega, by omega, fun ⟨v, e1, e2⟩ => hNO k (by omega) ⟨v, (hb2.cell (p := ⟨R, 2, none⟩) hR1).symm.trans e1, e2⟩⟩⟩
  have HST : Hid (∀ i, AtM g W T t x i a → AtM g W T (t + 1) ρ i m) := hst
  have HT : Hid (MnOk (btsW W) W.size g.names.length g.rules T) := hT
  have HXN : Hid (x < g.names.length) := hx
  have HIX : Hid (idx W.size ρ a m < rkZ g W) := idx_lt (by rw [← hA]; omega) (by omega) hm
  have HRR : Hid (0 < D.rb ∧ 0 < R) := ⟨hrb, hR0⟩
  obtain ⟨bs, hbs⟩ : ∃ bs, bs = X3.heap.size := ⟨_, rfl⟩
  have KAL : Hid (Calls Tryz.prog 96 #[.int .u64 (z : Int)] X3.drew fun e w4 => e = .returned (.func (.func 119) #[] #[.pointer (some ⟨bs, 0, none⟩)]) ∧ Hid (Below X3.heap.size X3 w4 ∧ w4.cell? ⟨bs, 0, none⟩ = some (.int .u64 (z : Int)))) := by
    refine (all_any z X3.drew).mono ?_
    rintro e w4 ⟨rfl, rfl⟩
    rw [hbs]
    exact ⟨rfl, (Below.refl _ _).drew.alloc (Nat.le_refl _) _, World.cell?_alloc_at _ _ _ _ rfl⟩
  clear hbs
  clear hs hT h hG hrb hst hX hW hHas hbx hz hA hXb hXs hR1 hR0 hXw hrl hNO r0 k0 t3 hto h32
  refine (callsIn_wide (n := 4)).1 ?_
  refine callsIn_of_wp_marks Tryz.func74 rfl trivial ?_ rfl
  simp only [Tryz.ntmps74, List.size_toArray, List.length_cons, List.length_nil, Nat.reduceAdd, Nat.reduceSub, Array.replicate_succ, Array.replicate_zero, List.push_toArray, List.append_toArray, List.nil_append, List.cons_append]
  refine wpIn_wide.2 ?_
  go_upto_region 1 with fail
  rw [← hX3, ← hnb]
  clear hX3 hnb
  go_wp2
  go_region_held3 (fun w' => Below X3.heap.size X3 w' ∧ w'.cell? ⟨nb, 0, none⟩ = some (.pointer (some ⟨R, 0, none⟩)) ∧ w'.cell? ⟨R, 0, none⟩ = some (.pointer (some ⟨D.kb, 0, none⟩)) ∧ w'.cell? ⟨D.kb, 0, none⟩ = some (.pointer (some ⟨D.tb, 0, none⟩)) ∧ w'.cell? ⟨D.tb, 3, none⟩ = some (.slice (some ⟨D.hb, 0, none⟩) A A) ∧ w'.cell? ⟨nb + 1, 0, none⟩ = some (.int .i64 (x : Int)) ∧ w'.cell? ⟨nb + 1 + 1, 1, none⟩ = some (.int .i64 (a : Int)) ∧ w'.cell? ⟨D.hb, x * 66 + 33 + a, none⟩ = some (.int .u64 (z : Int)))
    ((first | (refine ⟨b4, HSC.out _ b4⟩; done) | exact ⟨(Below.refl _ _).drew, HSC.out _ (Below.refl _ _).drew⟩))
    ((go_at_call 96; refine KAL.out.mono ?_; rintro e w4 ⟨rfl, h4⟩; have b4 : Below X3.heap.size X3 w4 := h4.out.1))
  have x4 := h4.out.2
  obtain ⟨n1, n2, n3, n4, n5, n6, n7, n8⟩ := HFN.out w4 b4
  have HN4 : Hid (Kq R D.rb w w4) := n4
  have HN6 : Hid (Bx3 R nb (x : Int) lo up ρ a m w4) := n6
  have HN8 : Hid (∀ k, nb ≤ k → k < w4.heap.size → k ≠ D.rb ∧ k ≠ R ∧ ¬ OwnR w4 R k) := n8
  have HN23 : Hid (X.heap.size ≤ w4.heap.size ∧ D.rb < w4.heap.size) := ⟨n2, n3⟩
  have hwρ : IntKind.i64.wrap (ρ : Int) = (ρ : Int) := by have := HS.out.hA; have := HA.out; rw [IntKind.wrap_i64]; omega
  clear b4 h4
  go_wp2
  refine range_tmp (encs := ptE z) (Kp := Kg) rfl (enters_of Tryz.func119 (by kernel_rfl) rfl) (all_stops 3 bs z hz64 (by omega) w4 n7 x4) (fun h k => h.trans k) Kg.refl (fun W' l' o o' _ h9 h8 _ => Kg.put h9 h8) (fun _ => rfl) _ (Gives.own (P := fun (pre : List (Pt z)) K' => ∀ y ∈ pre, AtM g W T t x y.val a → K' (idx W.size ρ y.val m) ≠ 0) n2 n3 (Nat.le_refl _)) ⟨K, fd, n5, Up.refl _, (fun y hy => absurd hy (List.not_mem_nil)), Kq.refl _ _ _⟩ 6 (fun y => .int .i64 (y.val : Int)) ?assign ?body ?done
  case assign =>
    intro l' y W' K hK
    unfold ptE at hK ⊢
    obtain ⟨yk, hyk⟩ := y
    dsimp only at hK ⊢
    simp only [List.zip_toArray, List.zip_cons_cons, List.zip_nil_right, List.foldl_toArray', List.foldl_cons, List.foldl_nil, List.size_toArray, List.length_cons, List.length_nil, List.setIfInBounds_toArray, List.set_cons_zero, List.set_cons_succ] at hK ⊢
    gi_wp2
    exact hK
  case body =>
    rintro l' pre y W' hI hlen
    have HI : Hid _ := hI
    obtain ⟨K1, fd1, h1, h2, h3, h4⟩ := hI
    have hbx := HN6.out.kq h4 HN8.out
    have hyT : T x y.val a = true := toW_bit (by rw [← HZ.out]; exact y.2)
    have hya := (HT.out.spn _ _ _ hyT).1
    have KIG := isGiven_any HS.out h1.rs x y.val a (by rw [← HA.out]; exact hxA) (by omega) (by omega)
    have hv1 : (decide (K1 (idx W.size x y.val a) ≠ 0) && decide (K1 (idx W.size x y.val a) < t + 1)) = true ↔ AtM g W T t x y.val a := by
      unfold AtM; rw [← h1.rk.given hya (by omega)]; simp
    generalize (decide (K1 (idx W.size x y.val a) ≠ 0) && decide (K1 (idx W.size x y.val a) < t + 1)) = v at KIG hv1
    have KIH : Hid (Calls Tryz.prog 97 #[.pointer (some ⟨R, 0, none⟩), .int .i64 (x : Int), .int .i64 (y.val : Int), .int .i64 (a : Int)] W' fun e w' => e = .returned (.bool v) ∧ w' = W') := KIG.mono fun e w' ⟨e1, e2⟩ => ⟨e1, e2.symm⟩
    have b0 := hbx.b0
    have s0 := hbx.s0
    have f0 := hbx.f0
    have f1 := hbx.f1
    have f2 := hbx.f2
    unfold ptE
    dsimp only
    simp only [List.zip_toArray, List.zip_cons_cons, List.zip_nil_right, List.foldl_toArray', List.foldl_cons, List.foldl_nil, List.size_toArray, List.length_cons, List.length_nil, List.setIfInBounds_toArray, List.set_cons_zero, List.set_cons_succ]
    cases v with
    | false =>
      have FIN : Hid _ := turn_no (C := fun k => AtM g W T t x k a) (ix := fun k => idx W.size ρ k m) (x := y) HI.out (fun hc => absurd (hv1.2 hc) (by decide)) w4.heap.size
      clear hbx hyT KIG hv1 h1 h2 h3 h4 HI
      obtain ⟨yk, hyk⟩ := y
      dsimp only at KIH FIN ⊢
      gi_wp2_with (refine ⟨trivial, ?_⟩; gi_at_call 97; refine (CallsIn.inRound l' (callsIn_wide.2 KIH.out)).mono ?_; rintro e w6 ⟨rfl, rfl⟩)
      exact FIN.out
    | true =>
      have KGV : Hid (Calls Tryz.prog 94 #[.pointer (some ⟨R, 0, none⟩), .int .i64 (ρ : Int), .int .i64 (y.val : Int), .int .i64 (m : Int)] W' fun e w'' => e = .returned (.tuple #[]) ∧ Hid (KeepsFrom w4.heap.size W' w'' ∧ Kg W' w'' ∧ Gives g W D T X R t K (fun K' => ∀ y' ∈ pre ++ [y], AtM g W T t x y'.val a → K' (idx W.size ρ y'.val m) ≠ 0) w4 w'')) := by
        refine (giveS_any HS.out h1 ρ y.val m (HST.out y.val (hv1.1 rfl))).mono ?_
        rintro e w'' ⟨rfl, hg⟩
        exact ⟨rfl, turn_yes (C := fun k => AtM g W T t x k a) (ix := fun k => idx W.size ρ k m) (x := y) h1 h2 h3 h4 HRR.out.1 HRR.out.2 HIX.out hg.out w4.heap.size⟩
      clear hbx hyT KIG hv1 h1 h2 h3 h4 HI
      obtain ⟨yk, hyk⟩ := y
      dsimp only at KIH KGV ⊢
      gi_wp2_with (refine ⟨trivial, ?_⟩; first | (gi_at_call 97; refine (CallsIn.inRound l' (callsIn_wide.2 KIH.out)).mono ?_; rintro e w6 ⟨rfl, rfl⟩) | (gi_at_call 94; refine (CallsIn.inRound l' (callsIn_wide.2 KGV.out)).mono ?_; rintro e w7 ⟨rfl, g7⟩))
      exact g7.out
  case done =>
    rintro D2 xs W' hD2 hall hI hK2
    have HI : Hid (Gives g W D T X R t K (fun K' => ∀ y ∈ xs, AtM g W T t x y.val a → K' (idx W.size ρ y.val m) ≠ 0) w4 W') := hI
    have HAL : Hid (∀ y : Pt z, y ∈ xs) := hall
    clear hI hall
    go_wp2
    refine leaves_marks (v := .tuple #[]) (B := w4.heap.size) (fun w9 => results_none rfl _ _ _) _ W' ⟨⟨D2, rfl, hD2, hK2, fun d' hd' => by cases hd'⟩, trivial⟩ ?_
    intro w' g1 g2 g3 g4 g5
    obtain ⟨K', fd', k1, k2, k3, k4⟩ := HI.out.sc HN23.out.1 HN23.out.2 (Nat.le_refl _) ⟨g1, g2, g3, Nat.le_of_eq g4.symm, fun k hk hh => g5 k hh⟩
    refine ⟨rfl, K', fd', k1, k2, fun i hi => ?_, HN4.out.trans k4⟩
    have hTi := AtM.tab HXN.out hi
    have hi1 := HT.out.spn _ _ _ hTi
    have h32 := HS.out.hm
    exact k3 ⟨i, by rw [HZ.out, toW_at T x a (by omega)]; exact hTi⟩ (HAL.out _) hi
set_option maxHeartbeats 4000000 in
set_option maxRecDepth 100000 in
theorem followRestB_any {F : Nat → Prop} {g : Gr} {W : ByteArray} {D : Md} {T : SpM} {X : World} {R t : Nat} {K : Nat → Nat} {fd : List Fct} (w : World) (hs : Ws F g W D T X) (h : Sx g W D T X R t K fd w) (lo up : Int) (ρ a m : Nat) (hρ : ρ + 1 < allN g) (ham : a ≤ m) (hm : m ≤ W.size)
    (hst : ∀ i, i + 1 = a → inR (btsW W) ⟨-1, lo, up⟩ i = true → AtM g W T (t + 1) ρ i m) :
    Calls Tryz.prog 74 #[.pointer (some ⟨R, 0, none⟩), .agg #[.int .i64 (-1), .int .i64 lo, .int .i64 up], .agg #[.int .i64 ((ρ : Int) + 1), .int .i64 (a : Int), .int .i64 (m : Int)]] w fun e w' => e = .returned (.tuple #[]) ∧ Hid (Gives g W D T X R t K (fun K' => ∀ i, i + 1 = a → inR (btsW W) ⟨-1, lo, up⟩ i = true → K' (idx W.size ρ i m) ≠ 0) w w') := by
  obtain ⟨P, hP⟩ : ∃ P : (Nat → Nat) → Prop, P = fun K' => ∀ i, i + 1 = a → inR (btsW W) ⟨-1, lo, up⟩ i = true → K' (idx W.size ρ i m) ≠ 0 := ⟨_, rfl⟩
  rw [← hP]
  have HP : Hid (P = fun K' => ∀ i, i + 1 = a → inR (btsW W) ⟨-1, lo, up⟩ i = true → K' (idx W.size ρ i m) ≠ 0) := hP
  clear hP
  obtain ⟨X3, hX3⟩ : ∃ X3, X3 = ((w.alloc (.cells #[.pointer (some ⟨R, 0, none⟩)] 104)).alloc (.cells #[.int .i64 (-1), .int .i64 lo, .int .i64 up] 44)).alloc (.cells #[.int .i64 ((ρ : Int) + 1), .int .i64 (a : Int), .int .i64 (m : Int)] 109) := ⟨_, rfl⟩
  have hXb : Below w.heap.size w X3 := by rw [hX3]; exact ((bel1 _ _).alloc (by simp) _).alloc (by simp; omega) _
  obtain ⟨nb, hnb⟩ : ∃ nb, nb = w.heap.size := ⟨_, rfl⟩
  have hbx : Bx3 R nb (-1) lo up ρ a m X3 := by
    refine ⟨?_, ?_, ?_, ?_, ?_, ?_, ?_⟩
    · rw [hnb, hX3, World.cell?_alloc_past _ _ _ (by simp; omega), World.cell?_alloc_past _ _ _ (by simp)]; exact World.cell?_alloc_at _ _ _ _ rfl
    · rw [hnb, hX3, World.cell?_alloc_past _ _ _ (by simp)]; exact World.cell?_alloc_at _ _ _ _ (by simp)
    · rw [hnb, hX3, World.cell?_alloc_past _ _ _ (by simp)]; exact World.cell?_alloc_at _ _ _ _ (by simp)
    · rw [hnb, hX3, World.cell?_alloc_past _ _ _ (by simp)]; exact World.cell?_alloc_at _ _ _ _ (by simp)
    · rw [hnb, hX3]; exact World.cell?_alloc_at _ _ _ _ (by simp)
    · rw [hnb, hX3]; exact World.cell?_alloc_at _ _ _ _ (by simp)
    · rw [hnb, hX3]; exact World.cell?_alloc_at _ _ _ _ (by simp)
  have hX := h.any hXb
  have hR1 : R < w.heap.size := block_lt_of_cell h.rs.r0
  have h32 := hs.hm
  have hAA := hs.hA
  have HFN : Hid (∀ w5, Below X3.heap.size X3 w5 → Kq R D.rb w w5 ∧ Sx g W D T X R t K fd w5) := fun w5 hb => ⟨Kq.of (hXb.trans (hb.mono hXb.size)) hR1, hX.any hb⟩
  have HSC : Hid (∀ w', Below X3.heap.size X3 w' → w'.cell? ⟨nb, 0, none⟩ = some (.pointer (some ⟨R, 0, none⟩)) ∧ w'.cell? ⟨R, 0, none⟩ = some (.pointer (some ⟨D.kb, 0, none⟩)) ∧ w'.cell? ⟨D.kb, 4, none⟩ = some (.string W) ∧ w'.cell? ⟨nb + 1, 0, none⟩ = some (.int .i64 (-1)) ∧ w'.cell? ⟨nb + 1, 1, none⟩ = some (.int .i64 lo) ∧ w'.cell? ⟨nb + 1, 2, none⟩ = some (.int .i64 up) ∧ w'.cell? ⟨nb + 1 + 1, 0, none⟩ = some (.int .i64 ((ρ : Int) + 1)) ∧ w'.cell? ⟨nb + 1 + 1, 1, none⟩ = some (.int .i64 (a : Int)) ∧ w'.cell? ⟨nb + 1 + 1, 2, none⟩ = some (.int .i64 (m : Int))) := fun w' hb => by
    have hb2 := hbx.any hb
    have hY := hX.any hb
    exact ⟨hb2.b0, hY.rs.r0, (hs.at hY.rs.bu).1.k4, hb2.s0, hb2.s1, hb2.s2, hb2.f0, hb2.f1, hb2.f2⟩
  have hwρ : IntKind.i64.wrap (ρ : Int) = (ρ : Int) := by rw [IntKind.wrap_i64]; omega
  have HS : Hid (Ws F g W D T X) := hs
  have HST : Hid (∀ i, i + 1 = a → inR (btsW W) ⟨-1, lo, up⟩ i = true → AtM g W T (t + 1) ρ i m) := hst
  obtain ⟨u0, u1, u2, u3, u4, u5, u6, u7, u8⟩ := HSC.out X3 (Below.refl _ _)
  by_cases ha0 : a = 0
  · have FIN : Hid (∀ w5, Below X3.heap.size X3 w5 → Gives g W D T X R t K P w w5) := fun w5 hb => ⟨K, fd, (HFN.out w5 hb).2, Up.refl _, (by rw [HP.out]; exact fun i hi => absurd hi (by omega)), (HFN.out w5 hb).1⟩
    have d1 : decide (0 < a) = false := decide_eq_false (by omega)
    clear hs h hst hX hbx hXb hR1 h32 hAA HFN HSC HST ha0
    go_enter Tryz.func74, Tryz.ntmps74
    go_upto_region 2 with fail
    rw [← hX3, ← hnb]
    clear hX3 hnb
    go_quiet (fail)
    go_wp2
    refine bodyPost_ret (v := .tuple #[]) (results_none rfl _ _ _) rfl ⟨rfl, FIN.out _ (below_drewN (Below.refl _ _) _)⟩
  · obtain ⟨i, rfl⟩ : ∃ i, a = i + 1 := ⟨a - 1, by omega⟩
    clear ha0
    have e9 : ((i + 1 : Nat) : Int) = (i : Int) + 1 := by omega
    have b1 := PlainAid.bt_nonneg W i
    have b2 := PlainAid.bt_le W i
    have hA := PlainAid.get_bt W
    have l2 : i < W.size := by omega
    have l3 : (i : Int) < (W.size : Int) := by omega
    have l4 : decide ((0 : Int) < (i : Int) + 1) = true := decide_eq_true (by omega)
    have hwi : IntKind.i64.wrap (i : Int) = (i : Int) := by rw [IntKind.wrap_i64]; omega
    obtain ⟨bI, hbI⟩ : ∃ bI, bI = inR (btsW W) ⟨-1, lo, up⟩ i := ⟨_, rfl⟩
    have hin : (decide ((-1 : Int) = -1) && (decide (lo ≤ PlainAid.bt W i) && decide (PlainAid.bt W i ≤ up))) = bI := by
      rw [hbI]; unfold inR btsW
      have e : (((PlainAid.bt W i).toNat : Nat) : Int) = PlainAid.bt W i := by omega
      simp only [e]; simp
    have KI : Hid (∀ w', Below X3.heap.size X3 w' → Calls Tryz.prog 98 #[.agg #[.int .i64 (-1), .int .i64 lo, .int .i64 up], .int .u8 (PlainAid.bt W i)] w' fun e w'' => e = .returned (.bool bI) ∧ Below X3.heap.size X3 w'') := fun w' hb => by
      rw [← hin]
      exact (isByte_any (-1) lo up _ b1 b2 w').mono fun e w'' ⟨h1, h2⟩ => ⟨h1, by rw [h2]; exact hb.alloc hb.size _⟩
    have FIN : Hid (bI = false → ∀ w5, Below X3.heap.size X3 w5 → Gives g W D T X R t K P w w5) := fun hf w5 hb => ⟨K, fd, (HFN.out w5 hb).2, Up.refl _, (by
      rw [HP.out]
      intro i' hi hin'
      obtain rfl : i' = i := by omega
      rw [← hbI, hf] at hin'; cases hin'), (HFN.out w5 hb).1⟩
    have KGV : Hid (bI = true → ∀ w5, Below X3.heap.size X3 w5 → Calls Tryz.prog 94 #[.pointer (some ⟨R, 0, none⟩), .int .i64 (ρ : Int), .int .i64 (i : Int), .int .i64 (m : Int)] w5 fun e w'' => e = .returned (.tuple #[]) ∧ Hid (Gives g W D T X R t K P w w'')) := fun hf w5 hb => by
      obtain ⟨k1, k2⟩ := HFN.out w5 hb
      refine (giveS_any HS.out k2 ρ i m (HST.out i rfl (by rw [← hbI]; exact hf))).mono ?_
      rintro e w'' ⟨rfl, hg⟩
      obtain ⟨K', fd', g1, g2, g3, g4⟩ := hg.out
      refine ⟨rfl, K', fd', g1, g2, ?_, k1.trans g4⟩
      rw [HP.out]
      intro i' hi _
      obtain rfl : i' = i := by omega
      exact g3
    rw [e9] at hX3 HSC ⊢
    clear hs h hst hX hbx hXb hR1 h32 hAA HFN HST e9 hbI hin b1 b2 u0 u1 u2 u3 u4 u5 u6 u7 u8
    obtain ⟨u0, u1, u2, u3, u4, u5, u6, u7, u8⟩ := HSC.out X3 (Below.refl _ _)
    go_enter Tryz.func74, Tryz.ntmps74
    go_upto_region 2 with fail
    rw [← hX3, ← hnb]
    clear hX3 hnb
    obtain ⟨ι, fw, n0, hf0, hfw, hcl⟩ := family2M (fun w' => Below X3.heap.size X3 w') X3.drew (Below.refl _ _).drew
    have hne0 : Nonempty ι := ⟨n0⟩
    have z0 := fun n => (HSC.out (fw n) (hfw n)).1
    have z1 := fun n => (HSC.out (fw n) (hfw n)).2.1
    have z2 := fun n => (HSC.out (fw n) (hfw n)).2.2.1
    have z3 := fun n => (HSC.out (fw n) (hfw n)).2.2.2.1
    have z4 := fun n => (HSC.out (fw n) (hfw n)).2.2.2.2.1
    have z5 := fun n => (HSC.out (fw n) (hfw n)).2.2.2.2.2.1
    have z7 := fun n => (HSC.out (fw n) (hfw n)).2.2.2.2.2.2.2.1
    refine region_classM fw (by kernel_rfl) (by kernel_rfl) ⟨n0, hf0⟩ ?_
    clear hf0 u0 u1 u2 u3 u4 u5 u6 u7 u8
    repeat (go_big_quiet_step ((go_at_call 98; (with_reducible refine (KI.out _ (hfw _)).mono ?_; rintro e w' ⟨rfl, hb⟩; exact ⟨rfl, hcl _ hb⟩))))
    refine wpQuiet_nil ?_
    intro w9 hw9
    obtain ⟨mm, rfl⟩ := hw9
    have H9 : Hid (Below X3.heap.size X3 (fw mm)) := hfw mm
    generalize fw mm = w9 at H9
    clear hcl hfw hne0 n0 z0 z1 z2 z3 z4 z5 z7
    clear fw
    cases bI with
    | false =>
      have FIN2 : Hid (Gives g W D T X R t K P w w9) := FIN.out rfl w9 H9.out
      go_wp2
      refine bodyPost_ret (v := .tuple #[]) (results_none rfl _ _ _) rfl ⟨rfl, FIN2⟩
    | true =>
      obtain ⟨u0, u1, u2, u3, u4, u5, u6, u7, u8⟩ := HSC.out w9 H9.out
      have KGW : Hid (Calls Tryz.prog 94 #[.pointer (some ⟨R, 0, none⟩), .int .i64 (ρ : Int), .int .i64 (i : Int), .int .i64 (m : Int)] w9 fun e w'' => e = .returned (.tuple #[]) ∧ Hid (Gives g W D T X R t K P w w'')) := KGV.out rfl w9 H9.out
      go_wp2_with (go_at_call 94; refine KGW.out.mono ?_; rintro e w8 ⟨rfl, g8⟩)
      refine bodyPost_ret (v := .tuple #[]) (results_none rfl _ _ _) rfl ⟨rfl, g8⟩
end Go.Proofs.YtfjejnkjlnkkhaaGreatDoor
