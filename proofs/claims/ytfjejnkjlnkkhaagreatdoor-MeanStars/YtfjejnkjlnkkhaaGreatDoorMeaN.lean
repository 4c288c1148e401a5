/- A round of ranks: followName of the program. -/
import Derived.Test.YtfjejnkjlnkkhaaGreatDoorMeaX
namespace Go.Proofs.YtfjejnkjlnkkhaaGreatDoor
set_option linter.unusedVariables false
set_option linter.unusedSimpArgs false
open Go.ChangeShapes Go.WideShapes Go.ChangeAt Go.RowKit Go.Shelf
attribute [local go_sem] Oper.semAt_some

/-- followName's two boxes. -/
structure Bx2 (R nb : Nat) (x a m : Nat) (w' : World) : Prop where
  b0 : w'.cell? ⟨nb, 0, none⟩ = some (.pointer (some ⟨R, 0, none⟩))
  f0 : w'.cell? ⟨nb + 1, 0, none⟩ = some (.int .i64 (x : Int))
  f1 : w'.cell? ⟨nb + 1, 1, none⟩ = some (.int .i64 (a : Int))
  f2 : w'.cell? ⟨nb + 1, 2, none⟩ = some (.int .i64 (m : Int))
theorem Bx2.any {R nb x a m : Nat} {w' w'' : World} (h : Bx2 R nb x a m w') (hb : Below w'.heap.size w' w'') : Bx2 R nb x a m w'' := by
  have c : ∀ {k o : Nat} {v : Value}, w'.cell? ⟨k, o, none⟩ = some v → w''.cell? ⟨k, o, none⟩ = some v := fun {k o v} hv => (hb.cell (p := ⟨k, o, none⟩) (block_lt_of_cell hv)).trans hv
  exact ⟨c h.b0, c h.f0, c h.f1, c h.f2⟩
theorem Bx2.kq {R rb nb x a m : Nat} {w' w'' : World} (h : Bx2 R nb x a m w') (hk : Kq R rb w' w'') (h1 : ∀ k, nb ≤ k → k < w'.heap.size → k ≠ rb ∧ k ≠ R ∧ ¬ OwnR w' R k) : Bx2 R nb x a m w'' := by
  have c : ∀ {k o : Nat} {v : Value}, nb ≤ k → w'.cell? ⟨k, o, none⟩ = some v → w''.cell? ⟨k, o, none⟩ = some v := fun {k o v} hn hv => by
    obtain ⟨g1, g2, g3⟩ := h1 k hn (block_lt_of_cell hv)
    exact hk.cell g1 g2 g3 hv
  exact ⟨c (by omega) h.b0, c (by omega) h.f0, c (by omega) h.f1, c (by omega) h.f2⟩
set_option maxHeartbeats 8000000 in
set_option maxRecDepth 100000 in
theorem followName_any {F : Nat → Prop} {g : Gr} {W : ByteArray} {D : Md} {T : SpM} {X : World} {R t : Nat} {K : Nat → Nat} {fd : List Fct} (w : World) (hs : Ws F g W D T X) (hT : MnOk (btsW W) W.size g.names.length g.rules T) (h : Sx g W D T X R t K fd w) (hG : TabG w) (hrb : 0 < D.rb) (x a m : Nat) (hx : x < g.names.length) (ham : a ≤ m) (hm : m ≤ W.size)
    (hst : ∀ z, z ∈ ahL g.names.length g.rules x → ∃ ζ : Nat, 1 ≤ ζ ∧ ζ < allN g ∧ z = (ζ : Int) - 1 ∧ ∀ j, AtM g W T t ζ m j → T ζ m j = true ∧ AtM g W T (t + 1) (ζ - 1) a j) :
    Calls Tryz.prog 72 #[.pointer (some ⟨R, 0, none⟩), .agg #[.int .i64 (x : Int), .int .i64 (a : Int), .int .i64 (m : Int)]] w fun e w' => e = .returned (.tuple #[]) ∧ Hid (Gives g W D T X R t K (fun K' => ∀ ζ : Nat, ((ζ : Int) - 1) ∈ ahL g.names.length g.rules x → ∀ j, AtM g W T t ζ m j → K' (idx W.size (ζ - 1) a j) ≠ 0) w w') := by
  obtain ⟨P, hP⟩ : ∃ P : (Nat → Nat) → Prop, P = fun K' => ∀ ζ : Nat, ((ζ : Int) - 1) ∈ ahL g.names.length g.rules x → ∀ j, AtM g W T t ζ m j → K' (idx W.size (ζ - 1) a j) ≠ 0 := ⟨_, rfl⟩
  rw [← hP]
  have HP : Hid (P = fun K' => ∀ ζ : Nat, ((ζ : Int) - 1) ∈ ahL g.names.length g.rules x → ∀ j, AtM g W T t ζ m j → K' (idx W.size (ζ - 1) a j) ≠ 0) := hP
  clear hP
  obtain ⟨X3, hX3⟩ : ∃ X3, X3 = (w.alloc (.cells #[.pointer (some ⟨R, 0, none⟩)] 104)).alloc (.cells #[.int .i64 (x : Int), .int .i64 (a : Int), .int .i64 (m : Int)] 109) := ⟨_, rfl⟩
  have hXb : Below w.heap.size w X3 := by rw [hX3]; exact (bel1 _ _).alloc (by simp) _
  have hXs : X3.heap.size = w.heap.size + 2 := by rw [hX3]; simp
  obtain ⟨nb, hnb⟩ : ∃ nb, nb = w.heap.size := ⟨_, rfl⟩
  have hbx : Bx2 R nb x a m X3 := by
    refine ⟨?_, ?_, ?_, ?_⟩
    · rw [hnb, hX3, World.cell?_alloc_past _ _ _ (by simp)]; exact World.cell?_alloc_at _ _ _ _ rfl
    · rw [hnb, hX3]; exact World.cell?_alloc_at _ _ _ _ (by simp)
    · rw [hnb, hX3]; exact World.cell?_alloc_at _ _ _ _ (by simp)
    · rw [hnb, hX3]; exact World.cell?_alloc_at _ _ _ _ (by simp)
  have hX := h.any hXb
  obtain ⟨hW, hHas⟩ := hs.at hX.rs.bu
  have hR1 : R < w.heap.size := block_lt_of_cell h.rs.r0
  have hR0 : 0 < R := by have := h.rs.xr; have := hs.fm.rB; have := hs.wm.lo; omega
  have hXw := h.rs.bu.size
  have hrl : D.rb < X.heap.size := Nat.lt_of_lt_of_le hs.fm.rB hs.wm.lo
  have hNO : ∀ k, nb ≤ k → k < X3.heap.size → k ≠ D.rb ∧ k ≠ R ∧ ¬ OwnR X3 R k := fun k hk _ => ⟨by omega, by omega, fun ⟨v, e1, e2⟩ => h.rs.newer (k := k) (by omega) ⟨v, (hXb.cell (p := ⟨R, 2, none⟩) hR1).symm.trans e1, e2⟩⟩
  have r0 := hX.rs.r0
  have k8 := hW.k8
  obtain ⟨g8, o8, u8, e8, hF8, hg8, x8, hi8⟩ := hW.ah.row (k := x) hx
  obtain ⟨p9, c9, e9, hm9, hz9⟩ := Reads.num hi8
  subst e9
  rw [e8] at k8
  obtain ⟨l, hl⟩ : ∃ l, l = ahL g.names.length g.rules x := ⟨_, rfl⟩
  rw [← hl] at x8 hm9 hz9 hst
  have HLL : Hid (l = ahL g.names.length g.rules x) := hl
  obtain ⟨n, hn⟩ : ∃ n, n = l.length := ⟨_, rfl⟩
  have HN : Hid (n = l.length) := hn
  rw [← hn] at x8 hm9
  have hn9 : n ≤ 9223372036854775807 := by have h9 := hm9; unfold maxLen at h9; omega
  obtain ⟨N, hNN⟩ : ∃ N, N = g.names.length := ⟨_, rfl⟩
  have HXN : Hid (x < g.names.length) := hx
  have hxN : (x : Int) < (N : Int) := by omega
  rw [← hNN] at k8
  have h32 := hs.hm
  have HSt : Hid (∀ z, z ∈ l → ∃ ζ : Nat, 1 ≤ ζ ∧ ζ < allN g ∧ z = (ζ : Int) - 1 ∧ ∀ j, AtM g W T t ζ m j → T ζ m j = true ∧ AtM g W T (t + 1) (ζ - 1) a j) := hst
  have HS : Hid (Ws F g W D T X) := hs
  have HT : Hid (MnOk (btsW W) W.size g.names.length g.rules T) := hT
  have HG : Hid (TabG X3) := (Kg.ofB hXb).tab hG
  have HK0 : Hid (Kq R D.rb w X3) := Kq.of hXb hR1
  have HSX : Hid (Sx g W D T X R t K fd X3) := hX
  have HBX : Hid (Bx2 R nb x a m X3) := hbx
  have HNO : Hid (∀ k, nb ≤ k → k < X3.heap.size → k ≠ D.rb ∧ k ≠ R ∧ ¬ OwnR X3 R k) := hNO
  have HRR : Hid (0 < D.rb ∧ 0 < R ∧ X.heap.size ≤ X3.heap.size ∧ D.rb < X3.heap.size ∧ nb < X3.heap.size) := ⟨hrb, hR0, by omega, by omega, by omega⟩
  have HZ9 : Hid (∀ w', Bu D.rb X w' → ∀ k z, l[k]? = some z → ∃ gg oo, p9 = some ⟨gg, oo, none⟩ ∧ w'.cell? ⟨gg, oo + k, none⟩ = some (.int .i64 z)) := fun w' hb k z hk => by
    obtain ⟨hW', -⟩ := HS.out.at hb
    obtain ⟨g8', o8', u8', e8', -, -, x8', hi8'⟩ := hW'.ah.row (k := x) hx
    rw [e8] at e8'
    injection e8' with e8'
    injection e8' with e2 e3
    subst e2 e3
    have e4 := hb
    have : u8' = .slice p9 n c9 := by
      have q1 : w'.heap[g8]? = X3.heap[g8]? := by
        have q2 := hX.rs.bu.block g8 (Nat.lt_of_lt_of_le (HS.out.fm.lt g8 hF8) HS.out.wm.lo) (fun e => HS.out.fm.nr (e ▸ hF8))
        have q3 := hb.block g8 (Nat.lt_of_lt_of_le (HS.out.fm.lt g8 hF8) HS.out.wm.lo) (fun e => HS.out.fm.nr (e ▸ hF8))
        exact q3.trans q2.symm
      have q4 := (World.cell?_of_block (a := ⟨g8, o8 + x, none⟩) q1).trans x8
      rw [x8'] at q4
      exact Option.some.inj q4
    subst this
    obtain ⟨p9', c9', e9', -, hz9'⟩ := Reads.num hi8'
    rw [Value.slice.injEq] at e9'
    obtain ⟨e5, -, -⟩ := e9'
    subst e5
    obtain ⟨gg, oo, e6, -, -, e7⟩ := hz9' k z (by rw [← HLL.out]; exact hk)
    exact ⟨gg, oo, e6, e7⟩
  obtain ⟨A, hA⟩ : ∃ A, A = allN g := ⟨_, rfl⟩
  have HA : Hid (A = allN g) := hA
  have HAX : Hid (x < allN g ∧ allN g ≤ 200000) := ⟨by unfold allN; omega, hs.hA⟩
  have b0 := hbx.b0
  have f0 := hbx.f0
  clear hs hT h hG hrb hst hX hW hHas hbx hl hn hNN hi8 hz9 hXb hXs hR1 hR0 hXw hrl hNO hA e8 hx hF8 hg8
  refine (callsIn_wide (n := 4)).1 ?_
  refine callsIn_of_wp_marks Tryz.func72 rfl trivial ?_ rfl
  simp only [Tryz.ntmps72, List.size_toArray, List.length_cons, List.length_nil, Nat.reduceAdd, Nat.reduceSub, Array.replicate_succ, Array.replicate_zero, List.push_toArray, List.append_toArray, List.nil_append, List.cons_append]
  refine wpIn_wide.2 ?_
  go_upto_region 1 with fail
  rw [← hX3, ← hnb]
  clear hX3 hnb
  go_quiet (fail)
  go_wp2
  refine wp_loop (fun a' wr => ∃ (u5 u6 u19 u20 u21 u22 u23 u24 u25 u26 u27 u28 u29 u30 u31 u32 u33 u34 u35 u36 u37 u38 u39 u40 u41 u42 u43 u44 u45 u46 u47 u48 u49 u50 u51 u52 u53 u54 u55 u56 : Value) (ds : List Deferred), (∃ (k : Nat), k ≤ n ∧ u19 = .int .i64 (k : Int) ∧ Hid (Gives g W D T X R t K (fun K' => ∀ (k' ζ' : Nat), k' < k → l[k']? = some ((ζ' : Int) - 1) → ∀ j, AtM g W T t ζ' m j → K' (idx W.size (ζ' - 1) a j) ≠ 0) X3 wr) ∧ Hid (Marks X3.heap.size ds wr)) ∧ a' = { tmps := #[.pointer (some ⟨R, 0, none⟩), .agg #[.int .i64 (x : Int), .int .i64 (a : Int), .int .i64 (m : Int)], .pointer (some ⟨nb, 0, none⟩), .pointer (some ⟨nb + 1, 0, none⟩), undef, u5, u6, .pointer (some ⟨R, 0, none⟩), .pointer (some ⟨R, 0, none⟩), .pointer (some ⟨R, 0, none⟩), .pointer (some ⟨D.kb, 0, none⟩), .pointer (some ⟨D.kb, 0, none⟩), .pointer (some ⟨D.kb, 8, none⟩), .slice (some ⟨g8, o8, none⟩) N D.ca, .pointer (some ⟨nb + 1, 0, none⟩), .int .i64 (x : Int), .pointer (some ⟨g8, o8 + x, none⟩), .slice p9 n c9, .int .i64 (n : Int), u19, u20, u21, u22, u23, u24, u25, u26, u27, u28, u29, u30, u31, u32, u33, u34, u35, u36, u37, u38, u39, u40, u41, u42, u43, u44, u45, u46, u47, u48, u49, u50, u51, u52, u53, u54, u55, u56], defers := ds }) (fun a' _ => n - (intOf (a'.tmps.getD 19 undef)).toNat) ?start ?round
  case start => exact ⟨_, _, _, _, _, _, _, _, _, _, _, _, _, _, _, _, _, _, _, _, _, _, _, _, _, _, _, _, _, _, _, _, _, _, _, _, _, _, _, _, _, ⟨0, Nat.zero_le _, rfl, ⟨K, fd, HSX.out.any (below_drewN (Below.refl _ _) _), Up.refl _, (fun k' ζ' h => absurd h (by omega)), Kq.of (below_drewN (Below.refl _ _) _) (block_lt_of_cell HSX.out.rs.r0)⟩, (show Marks _ [] _ from trivial)⟩, rfl⟩
  case round =>
    intro a' wr hinv
    obtain ⟨u5, hinv⟩ := hinv
    obtain ⟨u6, hinv⟩ := hinv
    obtain ⟨u19, hinv⟩ := hinv
    obtain ⟨u20, hinv⟩ := hinv
    obtain ⟨u21, hinv⟩ := hinv
    obtain ⟨u22, hinv⟩ := hinv
    obtain ⟨u23, hinv⟩ := hinv
    obtain ⟨u24, hinv⟩ := hinv
    obtain ⟨u25, hinv⟩ := hinv
    obtain ⟨u26, hinv⟩ := hinv
    obtain ⟨u27, hinv⟩ := hinv
    obtain ⟨u28, hinv⟩ := hinv
    obtain ⟨u29, hinv⟩ := hinv
    obtain ⟨u30, hinv⟩ := hinv
    obtain ⟨u31, hinv⟩ := hinv
    obtain ⟨u32, hinv⟩ := hinv
    obtain ⟨u33, hinv⟩ := hinv
    obtain ⟨u34, hinv⟩ := hinv
    obtain ⟨u35, hinv⟩ := hinv
    obtain ⟨u36, hinv⟩ := hinv
    obtain ⟨u37, hinv⟩ := hinv
    obtain ⟨u38, hinv⟩ := hinv
    obtain ⟨u39, hinv⟩ := hinv
    obtain ⟨u40, hinv⟩ := hinv
    obtain ⟨u41, hinv⟩ := hinv
    obtain ⟨u42, hinv⟩ := hinv
    obtain ⟨u43, hinv⟩ := hinv
    obtain ⟨u44, hinv⟩ := hinv
    obtain ⟨u45, hinv⟩ := hinv
    obtain ⟨u46, hinv⟩ := hinv
    obtain ⟨u47, hinv⟩ := hinv
    obtain ⟨u48, hinv⟩ := hinv
    obtain ⟨u49, hinv⟩ := hinv
    obtain ⟨u50, hinv⟩ := hinv
    obtain ⟨u51, hinv⟩ := hinv
    obtain ⟨u52, hinv⟩ := hinv
    obtain ⟨u53, hinv⟩ := hinv
    obtain ⟨u54, hinv⟩ := hinv
    obtain ⟨u55, hinv⟩ := hinv
    obtain ⟨u56, hinv⟩ := hinv
    obtain ⟨ds, hinv⟩ := hinv
    obtain ⟨⟨k, hk, rfl, HGV, HM⟩, rfl⟩ := hinv
    clear x8 k8 r0 b0 f0
    by_cases hlt : k < n
    · obtain ⟨z0, hz⟩ : ∃ z, l[k]? = some z := ⟨_, List.getElem?_eq_getElem (by rw [← HN.out]; exact hlt)⟩
      obtain ⟨ζ, hζ1, hζA, rfl, hζs⟩ := HSt.out z0 (List.mem_of_getElem? hz)
      have HLK : Hid (l[k]? = some ((ζ : Int) - 1)) := hz
      have HZS : Hid (∀ j, AtM g W T t ζ m j → T ζ m j = true ∧ AtM g W T (t + 1) (ζ - 1) a j) := hζs
      obtain ⟨K1, fd1, q1, q2, q3, q4⟩ := HGV.out
      obtain ⟨gg, oo, ep9, cz⟩ := HZ9.out wr q1.rs.bu k _ hz
      subst ep9
      obtain ⟨V, hV⟩ : ∃ V, V = wr.alloc (.cells #[.int .i64 ((ζ : Int) - 1)] 3) := ⟨_, rfl⟩
      have hVb : Below wr.heap.size wr V := by rw [hV]; exact bel1 _ _
      have hVs : V.heap.size = wr.heap.size + 1 := by rw [hV]; simp
      obtain ⟨nb2, hnb2⟩ : ∃ nb2, nb2 = wr.heap.size := ⟨_, rfl⟩
      have x2 : V.cell? ⟨nb2, 0, none⟩ = some (.int .i64 ((ζ : Int) - 1)) := by rw [hnb2, hV]; exact World.cell?_alloc_at _ _ _ _ rfl
      obtain ⟨hr1, hr2, hr3, hr4, hr5⟩ := HRR.out
      have hq4s := q4.size
      have hRw : R < wr.heap.size := block_lt_of_cell q1.rs.r0
      have hbV : Bx2 R nb x a m V := (HBX.out.kq q4 HNO.out).any hVb
      have hSV := q1.any hVb
      obtain ⟨hWV, hHV⟩ := HS.out.at hSV.rs.bu
      have hfr := hHV.fr ζ m hζA (by omega)
      obtain ⟨zz, hzz⟩ : ∃ zz, zz = frW T ζ m := ⟨_, rfl⟩
      have hz64 : zz < 18446744073709551616 := by rw [hzz]; exact frW_lt T ζ m
      rw [← hzz] at hfr
      have HZZ : Hid (zz = frW T ζ m) := hzz
      have r0 := hSV.rs.r0
      have k0 := hWV.k0
      have t3 := hWV.t3
      rw [← HA.out] at t3 hζA
      have HSC : Hid (∀ w', Below V.heap.size V w' → w'.cell? ⟨nb, 0, none⟩ = some (.pointer (some ⟨R, 0, none⟩)) ∧ w'.cell? ⟨R, 0, none⟩ = some (.pointer (some ⟨D.kb, 0, none⟩)) ∧ w'.cell? ⟨D.kb, 0, none⟩ = some (.pointer (some ⟨D.tb, 0, none⟩)) ∧ w'.cell? ⟨D.tb, 3, none⟩ = some (.slice (some ⟨D.hb, 0, none⟩) A A) ∧ w'.cell? ⟨nb2, 0, none⟩ = some (.int .i64 ((ζ : Int) - 1)) ∧ w'.cell? ⟨nb + 1, 2, none⟩ = some (.int .i64 (m : Int)) ∧ w'.cell? ⟨D.hb, ζ * 66 + m, none⟩ = some (.int .u64 (zz : Int))) := fun w' hb => by
        have c : ∀ {k o : Nat} {v : Value}, V.cell? ⟨k, o, none⟩ = some v → w'.cell? ⟨k, o, none⟩ = some v := fun {k o v} hv => (hb.cell (p := ⟨k, o, none⟩) (block_lt_of_cell hv)).trans hv
        exact ⟨c hbV.b0, c r0, c k0, c t3, c x2, c hbV.f2, c hfr⟩
      obtain ⟨bs, hbs⟩ : ∃ bs, bs = V.heap.size := ⟨_, rfl⟩
      have KAL : Hid (Calls Tryz.prog 96 #[.int .u64 (zz : Int)] V.drew fun e w4 => e = .returned (.func (.func 119) #[] #[.pointer (some ⟨bs, 0, none⟩)]) ∧ Hid (Below V.heap.size V w4 ∧ w4.cell? ⟨bs, 0, none⟩ = some (.int .u64 (zz : Int)))) := by
        refine (all_any zz V.drew).mono ?_
        rintro e w4 ⟨rfl, rfl⟩
        rw [hbs]
        exact ⟨rfl, (Below.refl _ _).drew.alloc (Nat.le_refl _) _, World.cell?_alloc_at _ _ _ _ rfl⟩
      have HFN : Hid (∀ w4, Below V.heap.size V w4 → X.heap.size ≤ w4.heap.size ∧ D.rb < w4.heap.size ∧ Sx g W D T X R t K1 fd1 w4 ∧ TabG w4 ∧ Below wr.heap.size wr w4 ∧ Kq R D.rb X3 w4 ∧ w4.cell? ⟨nb2, 0, none⟩ = some (.int .i64 ((ζ : Int) - 1)) ∧ nb2 ≠ D.rb ∧ nb2 ≠ R ∧ ¬ OwnR w4 R nb2) := fun w4 hb => by
        have hb2 : Below wr.heap.size wr w4 := hVb.trans (hb.mono (by omega))
        have hz2 := hb2.size
        refine ⟨by omega, by omega, hSV.any hb, (Kg.ofB hb2).tab ((q4.kg HSX.out.rs hr1 hr2).tab HG.out), hb2, q4.trans (Kq.of hb2 hRw), (hb.cell (p := ⟨nb2, 0, none⟩) (block_lt_of_cell x2)).trans x2, by omega, by omega, fun ⟨v, e1, e2⟩ => q1.rs.newer (k := nb2) (by omega) ⟨v, (hb2.cell (p := ⟨R, 2, none⟩) hRw).symm.trans e1, e2⟩⟩
      have hwζ : IntKind.i64.wrap (ζ : Int) = (ζ : Int) := by have := HAX.out.2; have := HA.out; rw [IntKind.wrap_i64]; omega
      have hζI : (ζ : Int) < (A : Int) := by omega
      have hm33 : (m : Int) < 33 := by omega
      have hltI : (k : Int) < (n : Int) := by omega
      have HQ2 : Hid (Up K K1) := q2
      have HQ3 : Hid (∀ (k' ζ' : Nat), k' < k → l[k']? = some ((ζ' : Int) - 1) → ∀ j, AtM g W T t ζ' m j → K1 (idx W.size (ζ' - 1) a j) ≠ 0) := q3
      have HZ1 : Hid (1 ≤ ζ ∧ ζ < allN g) := ⟨hζ1, by rw [← HA.out]; exact hζA⟩
      clear hz hζs q1 q2 q3 q4 hVb hVs hr1 hr2 hr3 hr4 hr5 hq4s hRw hbV hSV hWV hHV hfr hzz r0 k0 t3 hbs x2 hζ1
      go_upto_region 4 with fail
      rw [← hV, ← hnb2]
      clear hV hnb2 cz
      go_region_held3 (fun w' => Below V.heap.size V w' ∧ w'.cell? ⟨nb, 0, none⟩ = some (.pointer (some ⟨R, 0, none⟩)) ∧ w'.cell? ⟨R, 0, none⟩ = some (.pointer (some ⟨D.kb, 0, none⟩)) ∧ w'.cell? ⟨D.kb, 0, none⟩ = some (.pointer (some ⟨D.tb, 0, none⟩)) ∧ w'.cell? ⟨D.tb, 3, none⟩ = some (.slice (some ⟨D.hb, 0, none⟩) A A) ∧ w'.cell? ⟨nb2, 0, none⟩ = some (.int .i64 ((ζ : Int) - 1)) ∧ w'.cell? ⟨nb + 1, 2, none⟩ = some (.int .i64 (m : Int)) ∧ w'.cell? ⟨D.hb, ζ * 66 + m, none⟩ = some (.int .u64 (zz : Int)))
        ((first | (refine ⟨b4, HSC.out _ b4⟩; done) | exact ⟨(Below.refl _ _).drew, HSC.out _ (Below.refl _ _).drew⟩))
        ((go_at_call 96; refine KAL.out.mono ?_; rintro e w4 ⟨rfl, h4⟩; have b4 : Below V.heap.size V w4 := h4.out.1))
      have x4 := h4.out.2
      obtain ⟨n2, n3, n5, n7, n9, n10, n11, n12, n13, n14⟩ := HFN.out w4 b4
      have HN5 : Hid (Sx g W D T X R t K1 fd1 w4) := n5
      have HN9 : Hid (Below wr.heap.size wr w4) := n9
      have HN10 : Hid (Kq R D.rb X3 w4) := n10
      have HN11 : Hid (w4.cell? ⟨nb2, 0, none⟩ = some (.int .i64 ((ζ : Int) - 1)) ∧ nb2 ≠ D.rb ∧ nb2 ≠ R ∧ ¬ OwnR w4 R nb2) := ⟨n11, n12, n13, n14⟩
      clear b4 h4
      go_wp2
      refine range_tmp (encs := ptE zz) (Kp := Kg) rfl (enters_of Tryz.func119 (by kernel_rfl) rfl) (all_stops 3 bs zz hz64 (by omega) w4 n7 x4) (fun h k => h.trans k) Kg.refl (fun W' l' o o' _ h9 h8 _ => Kg.put h9 h8) (fun _ => rfl) _ (Gives.own (P := fun (pre : List (Pt zz)) K' => ∀ y ∈ pre, AtM g W T t ζ m y.val → K' (idx W.size (ζ - 1) a y.val) ≠ 0) n2 n3 (Nat.le_refl _)) ⟨K1, fd1, n5, Up.refl _, (fun y hy => absurd hy (List.not_mem_nil)), Kq.refl _ _ _⟩ 6 (fun y => .int .i64 (y.val : Int)) ?assign ?body ?done
      case assign =>
        intro l' y W' K hK
        unfold ptE at hK ⊢
        obtain ⟨yk, hyk⟩ := y
        dsimp only at hK ⊢
        simp only [List.zip_toArray, List.zip_cons_cons, List.zip_nil_right, List.foldl_toArray', List.foldl_cons, List.foldl_nil, List.size_toArray, List.length_cons, List.length_nil, List.setIfInBounds_toArray, List.set_cons_zero, List.set_cons_succ] at hK ⊢
        gi_wp2
        exact hK
      case body =>
        rintro l' pre y W' hI hlen
        have HI : Hid _ := hI
        obtain ⟨K2, fd2, h1, h2, h3, h4⟩ := hI
        have hbx := HBX.out.kq (HN10.out.trans h4) HNO.out
        have c2 : W'.cell? ⟨nb2, 0, none⟩ = some (.int .i64 ((ζ : Int) - 1)) := h4.cell HN11.out.2.1 HN11.out.2.2.1 HN11.out.2.2.2 HN11.out.1
        have hyT : T ζ m y.val = true := frW_bit (by rw [← HZZ.out]; exact y.2)
        obtain ⟨hy1, hy2⟩ := HT.out.spn _ _ _ hyT
        have KIG := isGiven_any HS.out h1.rs ζ m y.val HZ1.out.2 (by omega) hy2
        have hv1 : (decide (K2 (idx W.size ζ m y.val) ≠ 0) && decide (K2 (idx W.size ζ m y.val) < t + 1)) = true ↔ AtM g W T t ζ m y.val := by
          unfold AtM; rw [← h1.rk.given hy1 hy2]; simp
        generalize (decide (K2 (idx W.size ζ m y.val) ≠ 0) && decide (K2 (idx W.size ζ m y.val) < t + 1)) = v at KIG hv1
        have KIH : Hid (Calls Tryz.prog 97 #[.pointer (some ⟨R, 0, none⟩), .int .i64 (ζ : Int), .int .i64 (m : Int), .int .i64 (y.val : Int)] W' fun e w' => e = .returned (.bool v) ∧ w' = W') := KIG.mono fun e w' ⟨e1, e2⟩ => ⟨e1, e2.symm⟩
        have b0 := hbx.b0
        have f1 := hbx.f1
        have f2 := hbx.f2
        unfold ptE
        dsimp only
        simp only [List.zip_toArray, List.zip_cons_cons, List.zip_nil_right, List.foldl_toArray', List.foldl_cons, List.foldl_nil, List.size_toArray, List.length_cons, List.length_nil, List.setIfInBounds_toArray, List.set_cons_zero, List.set_cons_succ]
        cases v with
        | false =>
          have FIN : Hid (KeepsFrom w4.heap.size W' W' ∧ Kg W' W' ∧ Gives g W D T X R t K1 (fun K' => ∀ y' ∈ pre ++ [y], AtM g W T t ζ m y'.val → K' (idx W.size (ζ - 1) a y'.val) ≠ 0) w4 W') := turn_no (C := fun j => AtM g W T t ζ m j) (ix := fun j => idx W.size (ζ - 1) a j) (x := y) HI.out (fun hc => absurd (hv1.2 hc) (by decide)) w4.heap.size
          clear hbx hyT KIG hv1 h1 h2 h3 h4 HI
          obtain ⟨yk, hyk⟩ := y
          dsimp only at KIH FIN ⊢
          gi_wp2_with (refine ⟨trivial, ?_⟩; gi_at_call 97; refine (CallsIn.inRound l' (callsIn_wide.2 KIH.out)).mono ?_; rintro e w6 ⟨rfl, rfl⟩)
          exact FIN.out
        | true =>
          have KGV : Hid (Calls Tryz.prog 94 #[.pointer (some ⟨R, 0, none⟩), .int .i64 ((ζ : Int) - 1), .int .i64 (a : Int), .int .i64 (y.val : Int)] W' fun e w'' => e = .returned (.tuple #[]) ∧ Hid (KeepsFrom w4.heap.size W' w'' ∧ Kg W' w'' ∧ Gives g W D T X R t K1 (fun K' => ∀ y' ∈ pre ++ [y], AtM g W T t ζ m y'.val → K' (idx W.size (ζ - 1) a y'.val) ≠ 0) w4 w'')) := by
            have hgs := giveS_any HS.out h1 (ζ - 1) a y.val (HZS.out y.val (hv1.1 rfl)).2
            rw [show ((ζ - 1 : Nat) : Int) = (ζ : Int) - 1 by have := HZ1.out.1; omega] at hgs
            refine hgs.mono ?_
            rintro e w'' ⟨rfl, hg⟩
            exact ⟨rfl, turn_yes (C := fun j => AtM g W T t ζ m j) (ix := fun j => idx W.size (ζ - 1) a j) (x := y) h1 h2 h3 h4 HRR.out.1 HRR.out.2.1 (idx_lt (n := W.size) (i := m) (j := m) HZ1.out.2 hm hm) hg.out w4.heap.size⟩
          clear hbx hyT KIG hv1 h1 h2 h3 h4 HI
          obtain ⟨yk, hyk⟩ := y
          dsimp only at KIH KGV ⊢
          gi_wp2_with (refine ⟨trivial, ?_⟩; first | (gi_at_call 97; refine (CallsIn.inRound l' (callsIn_wide.2 KIH.out)).mono ?_; rintro e w6 ⟨rfl, rfl⟩) | (gi_at_call 94; refine (CallsIn.inRound l' (callsIn_wide.2 KGV.out)).mono ?_; rintro e w7 ⟨rfl, g7⟩))
          exact g7.out
      case done =>
        rintro D2 xs W' hD2 hall hI hK2
        obtain ⟨K', fd', k1, k2, k3, k4⟩ := hI
        have hke := k4.keeps HN5.out.rs (idx_lt (n := W.size) (i := m) (j := m) HZ1.out.2 hm hm)
        have hws := HN9.out.size
        have HG2 : Hid (Gives g W D T X R t K (fun K' => ∀ (k' ζ' : Nat), k' < k + 1 → l[k']? = some ((ζ' : Int) - 1) → ∀ j, AtM g W T t ζ' m j → K' (idx W.size (ζ' - 1) a j) ≠ 0) X3 W') := by
          refine ⟨K', fd', k1, HQ2.out.trans k2, fun k' ζ' hk' hl' j hj => ?_, HN10.out.trans k4⟩
          by_cases e : k' = k
          · subst e
            rw [HLK.out] at hl'
            have e2 := Option.some.inj hl'
            obtain rfl : ζ' = ζ := by omega
            have hTj := (HZS.out j hj).1
            have hsp := HT.out.spn _ _ _ hTj
            exact k3 ⟨j, by rw [HZZ.out, frW_at T ζ' m (by omega)]; exact hTj⟩ (hall _) hj
          · exact k2 _ (HQ3.out k' ζ' (by omega) hl' j hj)
        have HM2 : Hid (Marks X3.heap.size ({ target := .collected D2, args := #[] } :: ds) W') := by
          have hxs := HN10.out.size
          refine ⟨⟨D2, rfl, by omega, hK2, fun d' hd' D' e' => ?_⟩, HM.out.keep fun d' hd' D' e' => ?_⟩
          · have := HM.out.lt d' hd' D' e'; omega
          · obtain ⟨-, o, ho, hoc⟩ := HM.out.ge d' hd' D' e'
            have ho4 : w4.heap[D']? = some o := (HN9.out.block D' (Array.getElem?_eq_some_iff.1 ho).1).trans ho
            exact (hke.same D' o ho4 hoc).trans ho.symm
        clear k1 k2 k3 k4 hke hall hK2 hD2 hws n2 n3 n5 n7 n9 n10 n11 n12 n13 n14 x4
        go_wp2
        refine ⟨⟨_, _, _, _, _, _, _, _, _, _, _, _, _, _, _, _, _, _, _, _, _, _, _, _, _, _, _, _, _, _, _, _, _, _, _, _, _, _, _, _, _, ⟨k + 1, by omega, by go_num, HG2, HM2⟩, rfl⟩, ?_⟩
        have hms : n - (k + 1) < n - k := by omega
        simpa [intOf] using hms
    · obtain rfl : k = n := by omega
      clear hlt
      go_wp2
      refine leaves_marks (v := .tuple #[]) (fun w9 => results_none rfl _ _ _) ds wr HM.out ?_
      intro w' g1 g2 g3 g4 g5
      obtain ⟨K', fd', k1, k2, k3, k4⟩ := HGV.out.sc HRR.out.2.2.1 HRR.out.2.2.2.1 (Nat.le_refl _) ⟨g1, g2, g3, Nat.le_of_eq g4.symm, fun k hk hh => g5 k hh⟩
      refine ⟨rfl, K', fd', k1, k2, ?_, HK0.out.trans k4⟩
      rw [HP.out]
      intro ζ hζ j hj
      rw [← HLL.out] at hζ
      obtain ⟨k', hk'⟩ := List.mem_iff_getElem?.1 hζ
      exact k3 k' ζ (by rw [HN.out]; exact (List.getElem?_eq_some_iff.1 hk').1) hk' j hj
end Go.Proofs.YtfjejnkjlnkkhaaGreatDoor
