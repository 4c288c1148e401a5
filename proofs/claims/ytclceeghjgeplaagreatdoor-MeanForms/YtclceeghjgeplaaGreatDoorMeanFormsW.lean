/- MeanForms, walked. -/
import Derived.Test.YtclceeghjgeplaaGreatDoorMaw
namespace Go.Proofs.YtclceeghjgeplaaGreatDoor
set_option linter.unusedVariables false
set_option linter.unusedSimpArgs false
open Go.ChangeShapes Go.WideShapes Go.ChangeAt Go.RowKit Go.Maps

theorem andLF (m : Nat) (hm : m < 4096) (x : Int) : ∃ n : Nat, n ≤ m ∧ bits .and .i64 x (m : Int) = (n : Int) := by
  have h : (BitVec.ofInt 64 x &&& BitVec.ofInt 64 (m : Int)).toNat ≤ m := by
    rw [BitVec.toNat_and]
    refine Nat.le_trans Nat.and_le_right ?_
    rw [BitVec.toNat_ofInt]
    omega
  refine ⟨_, h, ?_⟩
  show IntKind.i64.wrap ((BitVec.ofInt 64 x &&& BitVec.ofInt 64 (m : Int)).toNat : Int) = _
  generalize (BitVec.ofInt 64 x &&& BitVec.ofInt 64 (m : Int)).toNat = n at h
  rw [IntKind.wrap_i64]; omega
/-- A ring of one negation. -/
def rgG : Gr := ⟨0, [⟨#[83]⟩], [⟨0, [⟨true, [⟨0, 0, 0⟩]⟩]⟩]⟩
def rgP (n : Nat) : List Obj :=
  [.cells #[.string ⟨#[83]⟩] 9, .cells #[.int .i64 0, .int .i64 0, .int .i64 0] 44, .cells #[.bool true, .slice (some ⟨n + 1, 0, none⟩) 1 1] 48, .cells #[.int .i64 0, .slice (some ⟨n + 1 + 1, 0, none⟩) 1 1] 53]
theorem rg_gram (X : World) (n : Nat) (hb : ∀ k o, (rgP n)[k]? = some o → X.heap[n + k]? = some o) : GrIs X Any (.slice (some ⟨n, 0, none⟩) 1 1) (.slice (some ⟨n + 1 + 1 + 1, 0, none⟩) 1 1) rgG := by
  have i1 : IsSys X Any (.slice (some ⟨n + 1, 0, none⟩) 1 1) [⟨0, 0, 0⟩] := reads_laid (hb 1 _ rfl) ⟨by decide, by decide⟩ rfl
  have c2 : IsCns X Any (.slice (some ⟨n + 1 + 1, 0, none⟩) 1 1) [⟨true, [⟨0, 0, 0⟩]⟩] := ⟨[_], reads_laid (hb 2 _ rfl) ⟨by decide, by decide⟩ rfl, (CnsIn.nil _ _).snoc (c := ⟨true, [⟨0, 0, 0⟩]⟩) i1⟩
  exact ⟨reads_laid (hb 0 _ rfl) ⟨by decide, by decide⟩ rfl, [_], reads_laid (hb 3 _ rfl) ⟨by decide, by decide⟩ rfl, (RusIn.nil _ _).snoc (c := ⟨0, _⟩) c2⟩
theorem rg_edges : edgesT rgG = [(0, 0, true)] := edgesT_eq (by decide) (fun x => by
  have : allE rgG.rules = [(0, 0, true)] := by decide
  rw [this])
theorem rg_ring : ¬ (mayG rgG = true ∧ (edgesT rgG).find? (badE rgG.names.length (edgesT rgG)) = none ∧ (⟨#[]⟩ : ByteArray).size ≤ 32) := fun h => by
  have h2 := h.2.1
  rw [rg_edges] at h2
  have h3 : ([(0, 0, true)] : List Ed).find? (badE 1 [(0, 0, true)]) ≠ none := by decide +kernel
  exact h3 h2
def ps2W : ByteArray := ⟨#[97, 98]⟩
def ps2L : List (Nat × Nat × Nat) := [(0, 0, 0), (0, 1, 1), (0, 2, 2), (0, 0, 2), (1, 0, 1)]
theorem ps2_stb : stbB (btsW ps2W) 2 2 8 psG.rules ps2L = true := by decide +kernel
theorem ps2_mean {T : SpM} {t : Nat} {K : Nat → Nat} (h : Tk psG ps2W T t K) : nmT psG.names.length T = litM ps2L :=
  stb3_uniq (grOk_of ps_may ps_free).1.st h.hT.stb (stb_lit (N := 2) h.nm (n := 2) (t := 8) ps2_stb)
/-- What New says of Pairs and a text of zeros. -/
def ZF (kk : Nat) (pt : Option Addr) (z : Int) : Prop := (kk ≤ 32 ∧ z = 0 ∧ ∃ tb, pt = some ⟨tb, 0, none⟩) ∨ (32 < kk ∧ z = 1100 ∧ pt = none)
theorem okP_no {g : Gr} {q c p : Int} (h : q < 0 ∨ c < 0 ∨ p < 0) : okP g q c p = false := by
  cases e : okP g q c p with
  | false => rfl
  | true =>
    obtain ⟨q', c', p', r, d, rfl, rfl, rfl, -⟩ := okP_iff.1 e
    omega
theorem ps_okP (q c p : Int) (h : 3 < q ∨ (q = 0 ∧ 1 < c) ∨ (q = 0 ∧ c = 0 ∧ 3 < p)) : okP psG q c p = false := by
  cases e : okP psG q c p with
  | false => rfl
  | true =>
    obtain ⟨q', c', p', r, d, rfl, rfl, rfl, h1, h2, h3⟩ := okP_iff.1 e
    have hq := (List.getElem?_eq_some_iff.1 h1).1
    have hl : psG.rules.length = 4 := rfl
    rcases h with h | ⟨h, h4⟩ | ⟨h, h4, h5⟩
    · omega
    · obtain rfl : q' = 0 := by omega
      have hr : r = ⟨0, [⟨false, [psA, psS, psB]⟩, ⟨true, [psX]⟩]⟩ := (Option.some.inj h1).symm
      have hc := (List.getElem?_eq_some_iff.1 h2).1
      rw [hr] at hc
      have : c' < 2 := hc
      omega
    · obtain rfl : q' = 0 := by omega
      obtain rfl : c' = 0 := by omega
      have hr : r = ⟨0, [⟨false, [psA, psS, psB]⟩, ⟨true, [psX]⟩]⟩ := (Option.some.inj h1).symm
      rw [hr] at h2
      have hd : d = ⟨false, [psA, psS, psB]⟩ := (Option.some.inj h2).symm
      rw [hd] at h3
      have : p' ≤ 3 := h3
      omega
set_option maxHeartbeats 8000000 in
set_option maxRecDepth 100000 in
theorem meanForms_walk (W : World) (hG : TabG W) (a : Int) (ha : (Lit.int .i64 a).wf = true) (x : Int) (hx : (Lit.int .i64 x).wf = true) :
    Calls Tryz.prog 9 #[.int .i64 a, .int .i64 x] W fun e W' => e = .returned (.bool true) ∧ Below W.heap.size W W' := by
  obtain ⟨r, hr, er⟩ := andLF 7 (by decide) a
  have er' : bits .and .i64 a 7 = (r : Int) := er
  obtain ⟨r2, hr2, er2⟩ := andLF 63 (by decide) x
  have er2' : bits .and .i64 x 63 = (r2 : Int) := er2
  obtain ⟨kk, hk⟩ : ∃ kk, kk = 30 + r := ⟨_, rfl⟩
  have hkI : (30 : Int) + (r : Int) = (kk : Int) := by omega
  have hk37 : kk ≤ 37 := by omega
  obtain ⟨d, hd⟩ : ∃ d : Int, d = 1 + (r2 : Int) := ⟨_, rfl⟩
  have hd1 : 1 ≤ d := by omega
  have hd2 : d ≤ 64 := by omega
  have HA : Hid (Calls Tryz.prog 13 #[] W fun e w' => e = .returned (.bool true) ∧ Hid (Below W.heap.size W w')) := awake11_any W hG
  have KP : Hid (∀ w', Calls Tryz.prog 22 #[] w' fun e w'' => ∃ p1 c1 p2 c2, e = .returned (.agg #[.int .i64 0, .slice p1 2 c1, .slice p2 4 c2]) ∧ Hid (GrIs w'' Any (.slice p1 2 c1) (.slice p2 4 c2) psG) ∧ Hid (Below w'.heap.size w' w'')) := pairs_any
  have KZ0 : Hid (∀ (w' : World) (p1 : Option Addr) (c1 : Nat) (p2 : Option Addr) (c2 : Nat), Below W.heap.size W w' → GrIs w' Any (.slice p1 2 c1) (.slice p2 4 c2) psG → Calls Tryz.prog 14 #[.agg #[.int .i64 0, .slice p1 2 c1, .slice p2 4 c2], .string (zsB kk)] w' fun e w'' => ∃ pt z, e = .returned (.tuple #[.pointer pt, .int .i64 z]) ∧ Hid (ZF kk pt z) ∧ Hid (Below w'.heap.size w' w'')) := fun w' p1 c1 p2 c2 hb hg => by
    by_cases h32 : kk ≤ 32
    · exact (new_any psG (zsB kk) _ _ w' hg ps_small ps_short ps_may ps_free (by rw [zsB_size]; exact h32) ((Kg.ofB hb).tab hG)).mono fun e w'' ⟨tb, h1, h2, h3⟩ => ⟨_, _, h1, Or.inl ⟨h32, rfl, tb, rfl⟩, h3⟩
    · exact (new_long 0 (zsB kk) _ _ w' (by rw [zsB_size]; omega)).mono fun e w'' ⟨h1, h2⟩ => ⟨_, _, h1, Or.inr ⟨by omega, rfl, rfl⟩, h2⟩
  have K8 : Hid (∀ (w' : World) (p1 : Option Addr) (c1 : Nat) (p2 : Option Addr) (c2 : Nat), Below W.heap.size W w' → GrIs w' Any (.slice p1 2 c1) (.slice p2 4 c2) psG → Calls Tryz.prog 14 #[.agg #[.int .i64 0, .slice p1 2 c1, .slice p2 4 c2], .string ⟨#[97, 98]⟩] w' fun e w'' => ∃ tb, e = .returned (.tuple #[.pointer (some ⟨tb, 0, none⟩), .int .i64 0]) ∧ Hid (TmIs psG ps2W tb w'') ∧ Hid (Below w'.heap.size w' w'')) := fun w' p1 c1 p2 c2 hb hg => new_any psG ps2W _ _ w' hg ps_small ps_short ps_may ps_free (by decide) ((Kg.ofB hb).tab hG)
  have KR : Hid (∀ w' : World, Calls Tryz.prog 14 #[.agg #[.int .i64 0, .slice (some ⟨w'.heap.size, 0, none⟩) 1 1, .slice (some ⟨w'.heap.size + 1 + 1 + 1, 0, none⟩) 1 1], .string ⟨#[]⟩] (blks w' (rgP w'.heap.size)) fun e w'' => e = .returned (.tuple #[.pointer none, .int .i64 1100]) ∧ Hid (Below w'.heap.size w' w'')) := fun w' => by
    have hbb : Below w'.heap.size w' (blks w' (rgP w'.heap.size)) := blks_below _ _
    refine (new_all rgG ⟨#[]⟩ _ _ _ (rg_gram _ _ fun k o ho => blks_at _ w' k o ho) (fun s hs => ?_) (fun r hr c hc => ?_) rg_ring).mono fun e w'' ⟨h1, h2⟩ => ⟨h1, hbb.trans (h2.out.mono hbb.size)⟩
    · rw [List.mem_singleton.1 hs]; decide
    · rw [List.mem_singleton.1 hr] at hc
      rw [List.mem_singleton.1 hc]
      decide
  have KQ : Hid (∀ (tb : Nat) (wb : World), TmIs psG ps2W tb wb → ∃ (f : Int → Int → Int → Bool), (∀ w' (y i j : Int), Below wb.heap.size wb w' → Calls Tryz.prog 16 #[.pointer (some ⟨tb, 0, none⟩), .int .i64 y, .int .i64 i, .int .i64 j] w' fun e w'' => e = .returned (.bool (f y i j)) ∧ w' = w'') ∧
      (∀ w', Below wb.heap.size wb w' → Calls Tryz.prog 19 #[.pointer (some ⟨tb, 0, none⟩), .int .i64 0, .int .i64 0, .int .i64 (2 + d)] w' fun e w'' => e = .returned (.int .i64 0) ∧ w' = w'') ∧
      (∀ w' (q c p : Int), Below wb.heap.size wb w' → -100 ≤ q → q ≤ 100 → -100 ≤ c → c ≤ 100 → -100 ≤ p → p ≤ 100 → okP psG q c p = false → Calls Tryz.prog 24 #[.pointer (some ⟨tb, 0, none⟩), .agg #[.int .i64 q, .int .i64 c, .int .i64 p], .int .i64 0, .int .i64 0] w' fun e w'' => e = .returned (.bool false) ∧ Hid (Below w'.heap.size w' w'')) ∧
      (∀ w', Below wb.heap.size wb w' → Calls Tryz.prog 25 #[.pointer (some ⟨tb, 0, none⟩), .agg #[.int .i64 0, .int .i64 0, .int .i64 (-d)], .int .i64 0, .int .i64 0] w' fun e w'' => e = .returned (.int .i64 0) ∧ Hid (Below w'.heap.size w' w'')) ∧
      f 0 0 2 = true ∧ f 0 (-d) 2 = false ∧ f 0 0 (2 + d) = false ∧ f 0 2 (2 - d) = false ∧ f (-d) 0 2 = false ∧ f (1 + d) 0 2 = false) := fun tb wb hT => by
    obtain ⟨T, t, K, hb, rb, mb, hT⟩ := hT
    have hk := hT.tk
    have no : ∀ y i j : Int, ¬ (okS ps2W.size i j && okN psG y) = true → decide (0 < rkF psG ps2W (nmT psG.names.length T) t y i j) = false := fun y i j h => by rw [rkF_no h]; rfl
    have h22 : ps2W.size = 2 := rfl
    have hN2 : psG.names.length = 2 := rfl
    have okno : ∀ y i j : Int, (i < 0 ∨ j < i ∨ 2 < j ∨ y < 0 ∨ 2 ≤ y) → ¬ (okS ps2W.size i j && okN psG y) = true := fun y i j h hh => by
      rw [Bool.and_eq_true] at hh
      have h1 := okS_iff.1 hh.1
      have h2 := okN_iff.1 hh.2
      rw [h22] at h1
      rw [hN2] at h2
      omega
    refine ⟨fun y i j => decide (0 < rkF psG ps2W (nmT psG.names.length T) t y i j), fun w' y i j hb' => hasT_any w' (hT.any hb') y i j, fun w' hb' => ?_, fun w' q c p hb' g1 g2 g3 g4 g5 g6 hp => ?_, fun w' hb' => ?_, ?_, no _ _ _ (okno _ _ _ (by omega)), no _ _ _ (okno _ _ _ (by omega)), no _ _ _ (okno _ _ _ (by omega)), no _ _ _ (okno _ _ _ (by omega)), no _ _ _ (okno _ _ _ (by omega))⟩
    · have := rankT_any w' (hT.any hb') 0 0 (2 + d)
      rw [rkF_no (okno 0 0 (2 + d) (by omega))] at this
      exact this
    · have := restT_any w' (hT.any hb') q c p 0 0 ⟨wfI (by dsimp only; omega) (by dsimp only; omega), wfI (by dsimp only; omega) (by dsimp only; omega), wfI (by dsimp only; omega) (by dsimp only; omega)⟩
      rw [rrF_no (by rw [hp, Bool.and_false]; decide)] at this
      exact this
    · have := restRankT_any w' (hT.any hb') 0 0 (-d) 0 0 ⟨wfI (by dsimp only; omega) (by dsimp only; omega), wfI (by dsimp only; omega) (by dsimp only; omega), wfI (by dsimp only; omega) (by dsimp only; omega)⟩
      rw [rrF_no (by rw [okP_no (by omega), Bool.and_false]; decide)] at this
      exact this.mono fun e w'' h9 => h9
    · show decide (0 < rkF psG ps2W (nmT psG.names.length T) t 0 0 2) = true
      have h1 := hk.has (x := 0) (i := 0) (j := 2) (by decide) (by decide) (by decide)
      have h2 : litM ps2L 0 0 2 = true := by decide +kernel
      have e0 : T 0 0 2 = true := by rw [← nmT_at (N := psG.names.length) (T := T) (x := 0) (by decide) 0 2, ps2_mean hk]; exact h2
      rw [e0] at h1
      exact h1.symm
  have HOK : Hid (okP psG (-d) 0 0 = false ∧ okP psG (3 + d) 0 0 = false ∧ okP psG 0 (1 + d) 0 = false ∧ okP psG 0 0 (3 + d) = false) := ⟨okP_no (by omega), ps_okP _ _ _ (by omega), ps_okP _ _ _ (by omega), ps_okP _ _ _ (by omega)⟩
  have mk : ∀ w' : World, (Instr.makeSlice 51 (.int .i64 (kk : Int)) (.int .i64 (kk : Int))).run Tryz.prog w' = .ok (.slice (some ⟨w'.heap.size, 0, none⟩) kk kk) (w'.alloc (bysZ kk)) := make_bys kk (by omega)
  have cv1 : ∀ w' : World, (convert 51 9 (.slice (some ⟨w'.heap.size, 0, none⟩) kk kk)).run Tryz.prog (w'.alloc (bysZ kk)) = .ok (.string (zsB kk)) (w'.alloc (bysZ kk)) := fun w' => conv_zeros (heap_alloc_new w' _)
  have cv3 : ∀ w' : World, (convert 51 9 (.slice (some ⟨w'.heap.size, 0, none⟩) kk kk)).run Tryz.prog (w'.alloc (bysZ kk)).drew = .ok (.string (zsB kk)) (w'.alloc (bysZ kk)).drew := fun w' => conv_zeros (hpDrew (heap_alloc_new w' _))
  clear hG ha hx er er2 hk
  go_enter Tryz.func9, Tryz.ntmps9
  go_upto_region 4 with (go_at_call 13; refine HA.out.mono ?_; rintro e wa ⟨rfl, ba⟩)
  (try rw [hkI])
  have KZ : Hid (∀ (w' : World) (p1 : Option Addr) (c1 : Nat) (p2 : Option Addr) (c2 : Nat), Below wa.heap.size wa w' → GrIs w' Any (.slice p1 2 c1) (.slice p2 4 c2) psG → Calls Tryz.prog 14 #[.agg #[.int .i64 0, .slice p1 2 c1, .slice p2 4 c2], .string (zsB kk)] w' fun e w'' => ∃ pt z, e = .returned (.tuple #[.pointer pt, .int .i64 z]) ∧ Hid (ZF kk pt z) ∧ Hid (Below w'.heap.size w' w'')) := fun w' p1 c1 p2 c2 hb hg => KZ0.out w' p1 c1 p2 c2 (ba.out.trans (hb.mono ba.out.size)) hg
  clear HA KZ0 er' hr hkI
  go_cut [6, 7] from 27 (fun u y wc => ∃ pt z, u = .pointer pt ∧ y = .int .i64 z ∧ Hid (ZF kk pt z) ∧ Hid (Below wa.heap.size wa wc))
  case first =>
    clear K8 KR KQ HOK er2' hr2 hd hd1 hd2
    refine wp_region_noPanic ?_
    refine wp_region_held_drew (S := fun w' => Below wa.heap.size wa w') (by kernel_rfl) ?_ (fun hHeld => ?_)
    · (try dsimp only); exact (Below.refl _ wa).drew
    refine wpAnyH_take (i := 1) (oi := _) (v := ?_) rfl (by kernel_rfl) (by kernel_rfl) (by kernel_rfl) (fun _ _ _ h => h) (Or.inl ⟨by rfl, ?_⟩) (by assumption) ?_
    rotate_left
    · intro w' hSw; (try dsimp only at hSw); go_simp; (try with_reducible rfl)
    simp only [Act.put, List.setIfInBounds_toArray, List.set_cons_zero, List.set_cons_succ]
    refine wpAnyH_ready (rs := [0, 2]) (by kernel_rfl) (by simp) ?_
    refine AllReadyH.cons rfl (fun K hK => ?_) ?_
    · go_simp
      refine (KP.out _).mono ?_
      rintro e w4 ⟨p1, c1, p2, c2, rfl, G1, B1⟩
      have b4 : Below wa.heap.size wa w4 := ((Below.refl _ wa).drew).trans B1.out
      try go_simp
      refine hK.out _ _ ?_ (fun hHeld => ?_)
      · (try dsimp only); (repeat' (first | with_reducible assumption | with_reducible exact Below.refl _ _ | with_reducible apply Below.drew | with_reducible refine Below.alloc ?_ ?_ _ | (have := b4.size; simp; omega) | (simp; omega) | simp))
      clear hK K
      refine wpAnyH_ready (rs := [2]) (by kernel_rfl) (by simp) ?_
      refine AllReadyH.cons rfl (fun K hK => ?_) ?_
      · go_simp
        refine hK.out _ _ ?_ (fun hHeld => ?_)
        · (try dsimp only); (repeat' (first | with_reducible assumption | with_reducible exact Below.refl _ _ | with_reducible apply Below.drew | with_reducible refine Below.alloc ?_ ?_ _ | (have := b4.size; simp; omega) | (simp; omega) | simp))
        clear hK K
        refine wpAnyH_ready (rs := [3]) (by kernel_rfl) (by simp) ?_
        refine AllReadyH.cons rfl (fun K hK => ?_) ?_
        · go_simp
          refine hK.out _ _ ?_ (fun hHeld => ?_)
          · (try dsimp only); (repeat' (first | with_reducible assumption | with_reducible exact Below.refl _ _ | with_reducible apply Below.drew | with_reducible refine Below.alloc ?_ ?_ _ | (have := b4.size; simp; omega) | (simp; omega) | simp))
          clear hK K
          refine wpAnyH_ready (rs := [4]) (by kernel_rfl) (by simp) ?_
          refine AllReadyH.cons rfl (fun K hK => ?_) ?_
          · go_simp
            refine (KZ.out _ _ _ _ _ (b4.alloc b4.size _) (G1.out.any (bel1 _ _))).mono ?_
            rintro e w5 ⟨pt, z, rfl, Z5, B5⟩
            have b5 : Below wa.heap.size wa w5 := (show Below wa.heap.size wa _ from by (repeat' (first | with_reducible assumption | with_reducible exact Below.refl _ _ | with_reducible apply Below.drew | with_reducible refine Below.alloc ?_ ?_ _ | (have := b4.size; simp; omega) | (simp; omega) | simp))).trans (B5.out.mono (by have := b4.size; simp; try omega))
            try go_simp
            refine hK.out _ _ ?_ (fun hHeld => ?_)
            · (try dsimp only); (repeat' (first | with_reducible assumption | with_reducible exact Below.refl _ _ | with_reducible apply Below.drew | with_reducible refine Below.alloc ?_ ?_ _ | (have := b4.size; simp; omega) | (simp; omega) | simp))
            clear hK K
            refine wpAnyH_take (i := 5) (oi := _) (v := ?_) rfl (by kernel_rfl) (by kernel_rfl) (by kernel_rfl) (fun _ _ _ h => h) (Or.inl ⟨by rfl, ?_⟩) (by assumption) ?_
            rotate_left
            · intro w' hSw; (try dsimp only at hSw); go_simp; (try with_reducible rfl)
            simp only [Act.put, List.setIfInBounds_toArray, List.set_cons_zero, List.set_cons_succ]
            refine wpAnyH_take (i := 6) (oi := _) (v := ?_) rfl (by kernel_rfl) (by kernel_rfl) (by kernel_rfl) (fun _ _ _ h => h) (Or.inl ⟨by rfl, ?_⟩) (by assumption) ?_
            rotate_left
            · intro w' hSw; (try dsimp only at hSw); go_simp; (try with_reducible rfl)
            simp only [Act.put, List.setIfInBounds_toArray, List.set_cons_zero, List.set_cons_succ]
            refine wpAnyH_take (i := 7) (oi := _) (v := ?_) rfl (by kernel_rfl) (by kernel_rfl) (by kernel_rfl) (fun _ _ _ h => h) (Or.inl ⟨by rfl, ?_⟩) (by assumption) ?_
            rotate_left
            · intro w' hSw; (try dsimp only at hSw); go_simp; (try with_reducible rfl)
            simp only [Act.put, List.setIfInBounds_toArray, List.set_cons_zero, List.set_cons_succ]
            refine wpAnyH_ready (rs := [8]) (by kernel_rfl) (by simp) ?_
            refine AllReadyH.cons rfl (fun K hK => ?_) ?_
            · go_simp
              refine hK.out _ _ ?_ (fun hHeld => ?_)
              · (try dsimp only); (repeat' (first | with_reducible assumption | with_reducible exact Below.refl _ _ | with_reducible apply Below.drew | with_reducible refine Below.alloc ?_ ?_ _ | (have := b4.size; simp; omega) | (simp; omega) | simp))
              clear hK K
              refine wpAnyH_ready (rs := [9]) (by kernel_rfl) (by simp) ?_
              refine AllReadyH.cons rfl (fun K hK => ?_) ?_
              · go_simp
                refine hK.out _ _ ?_ (fun hHeld => ?_)
                · (try dsimp only); (repeat' (first | with_reducible assumption | with_reducible exact Below.refl _ _ | with_reducible apply Below.drew | with_reducible refine Below.alloc ?_ ?_ _ | (have := b4.size; simp; omega) | (simp; omega) | simp))
                clear hK K
                refine wpAnyH_done (by kernel_rfl) ?_ _
                refine NoPanic.normal ?_
                go_wp2
                go_meet
                case rel => exact ⟨pt, z, rfl, rfl, Z5, b5⟩
              exact AllReadyH.nil
            exact AllReadyH.nil
          exact AllReadyH.nil
        exact AllReadyH.nil
      exact AllReadyH.nil
    refine AllReadyH.cons rfl (fun K hK => ?_) ?_
    · go_simp
      refine hK.out _ _ ?_ (fun hHeld => ?_)
      · (try dsimp only); (repeat' (first | with_reducible assumption | with_reducible exact Below.refl _ _ | with_reducible apply Below.drew | with_reducible refine Below.alloc ?_ ?_ _ | (have := b4.size; simp; omega) | (simp; omega) | simp))
      clear hK K
      refine wpAnyH_ready (rs := [0, 3]) (by kernel_rfl) (by simp) ?_
      refine AllReadyH.cons rfl (fun K hK => ?_) ?_
      · go_simp
        refine (KP.out _).mono ?_
        rintro e w4 ⟨p1, c1, p2, c2, rfl, G1, B1⟩
        have b4 : Below wa.heap.size wa w4 := ((bel1 wa _).drew).trans (B1.out.mono (by simp))
        have cv2 := conv_zeros (n := kk) (hpBel B1.out (hpDrew (hpNew (w := wa) (o := bysZ kk) rfl)))
        try go_simp
        refine hK.out _ _ ?_ (fun hHeld => ?_)
        · (try dsimp only); (repeat' (first | with_reducible assumption | with_reducible exact Below.refl _ _ | with_reducible apply Below.drew | with_reducible refine Below.alloc ?_ ?_ _ | (have := b4.size; simp; omega) | (simp; omega) | simp))
        clear hK K
        refine wpAnyH_ready (rs := [3]) (by kernel_rfl) (by simp) ?_
        refine AllReadyH.cons rfl (fun K hK => ?_) ?_
        · go_simp
          refine hK.out _ _ ?_ (fun hHeld => ?_)
          · (try dsimp only); (repeat' (first | with_reducible assumption | with_reducible exact Below.refl _ _ | with_reducible apply Below.drew | with_reducible refine Below.alloc ?_ ?_ _ | (have := b4.size; simp; omega) | (simp; omega) | simp))
          clear hK K
          refine wpAnyH_ready (rs := [4]) (by kernel_rfl) (by simp) ?_
          refine AllReadyH.cons rfl (fun K hK => ?_) ?_
          · go_simp
            refine (KZ.out _ _ _ _ _ b4 G1.out).mono ?_
            rintro e w5 ⟨pt, z, rfl, Z5, B5⟩
            have b5 : Below wa.heap.size wa w5 := (show Below wa.heap.size wa _ from by (repeat' (first | with_reducible assumption | with_reducible exact Below.refl _ _ | with_reducible apply Below.drew | with_reducible refine Below.alloc ?_ ?_ _ | (have := b4.size; simp; omega) | (simp; omega) | simp))).trans (B5.out.mono (by have := b4.size; simp; try omega))
            try go_simp
            refine hK.out _ _ ?_ (fun hHeld => ?_)
            · (try dsimp only); (repeat' (first | with_reducible assumption | with_reducible exact Below.refl _ _ | with_reducible apply Below.drew | with_reducible refine Below.alloc ?_ ?_ _ | (have := b4.size; simp; omega) | (simp; omega) | simp))
            clear hK K
            refine wpAnyH_take (i := 5) (oi := _) (v := ?_) rfl (by kernel_rfl) (by kernel_rfl) (by kernel_rfl) (fun _ _ _ h => h) (Or.inl ⟨by rfl, ?_⟩) (by assumption) ?_
            rotate_left
            · intro w' hSw; (try dsimp only at hSw); go_simp; (try with_reducible rfl)
            simp only [Act.put, List.setIfInBounds_toArray, List.set_cons_zero, List.set_cons_succ]
            refine wpAnyH_take (i := 6) (oi := _) (v := ?_) rfl (by kernel_rfl) (by kernel_rfl) (by kernel_rfl) (fun _ _ _ h => h) (Or.inl ⟨by rfl, ?_⟩) (by assumption) ?_
            rotate_left
            · intro w' hSw; (try dsimp only at hSw); go_simp; (try with_reducible rfl)
            simp only [Act.put, List.setIfInBounds_toArray, List.set_cons_zero, List.set_cons_succ]
            refine wpAnyH_take (i := 7) (oi := _) (v := ?_) rfl (by kernel_rfl) (by kernel_rfl) (by kernel_rfl) (fun _ _ _ h => h) (Or.inl ⟨by rfl, ?_⟩) (by assumption) ?_
            rotate_left
            · intro w' hSw; (try dsimp only at hSw); go_simp; (try with_reducible rfl)
            simp only [Act.put, List.setIfInBounds_toArray, List.set_cons_zero, List.set_cons_succ]
            refine wpAnyH_ready (rs := [8]) (by kernel_rfl) (by simp) ?_
            refine AllReadyH.cons rfl (fun K hK => ?_) ?_
            · go_simp
              refine hK.out _ _ ?_ (fun hHeld => ?_)
              · (try dsimp only); (repeat' (first | with_reducible assumption | with_reducible exact Below.refl _ _ | with_reducible apply Below.drew | with_reducible refine Below.alloc ?_ ?_ _ | (have := b4.size; simp; omega) | (simp; omega) | simp))
              clear hK K
              refine wpAnyH_ready (rs := [9]) (by kernel_rfl) (by simp) ?_
              refine AllReadyH.cons rfl (fun K hK => ?_) ?_
              · go_simp
                refine hK.out _ _ ?_ (fun hHeld => ?_)
                · (try dsimp only); (repeat' (first | with_reducible assumption | with_reducible exact Below.refl _ _ | with_reducible apply Below.drew | with_reducible refine Below.alloc ?_ ?_ _ | (have := b4.size; simp; omega) | (simp; omega) | simp))
                clear hK K
                refine wpAnyH_done (by kernel_rfl) ?_ _
                refine NoPanic.normal ?_
                go_wp2
                go_meet
                case rel => exact ⟨pt, z, rfl, rfl, Z5, b5⟩
              exact AllReadyH.nil
            exact AllReadyH.nil
          exact AllReadyH.nil
        exact AllReadyH.nil
      refine AllReadyH.cons rfl (fun K hK => ?_) ?_
      · go_simp
        refine hK.out _ _ ?_ (fun hHeld => ?_)
        · (try dsimp only); (repeat' (first | with_reducible assumption | with_reducible exact Below.refl _ _ | with_reducible apply Below.drew | with_reducible refine Below.alloc ?_ ?_ _ | (have := b4.size; simp; omega) | (simp; omega) | simp))
        clear hK K
        refine wpAnyH_ready (rs := [0]) (by kernel_rfl) (by simp) ?_
        refine AllReadyH.cons rfl (fun K hK => ?_) ?_
        · go_simp
          refine (KP.out _).mono ?_
          rintro e w4 ⟨p1, c1, p2, c2, rfl, G1, B1⟩
          have b4 : Below wa.heap.size wa w4 := ((bel1 wa _).drew).trans (B1.out.mono (by simp))
          have cv2 := conv_zeros (n := kk) (hpBel B1.out (hpDrew (hpNew (w := wa) (o := bysZ kk) rfl)))
          try go_simp
          refine hK.out _ _ ?_ (fun hHeld => ?_)
          · (try dsimp only); (repeat' (first | with_reducible assumption | with_reducible exact Below.refl _ _ | with_reducible apply Below.drew | with_reducible refine Below.alloc ?_ ?_ _ | (have := b4.size; simp; omega) | (simp; omega) | simp))
          clear hK K
          refine wpAnyH_ready (rs := [4]) (by kernel_rfl) (by simp) ?_
          refine AllReadyH.cons rfl (fun K hK => ?_) ?_
          · go_simp
            refine (KZ.out _ _ _ _ _ b4 G1.out).mono ?_
            rintro e w5 ⟨pt, z, rfl, Z5, B5⟩
            have b5 : Below wa.heap.size wa w5 := (show Below wa.heap.size wa _ from by (repeat' (first | with_reducible assumption | with_reducible exact Below.refl _ _ | with_reducible apply Below.drew | with_reducible refine Below.alloc ?_ ?_ _ | (have := b4.size; simp; omega) | (simp; omega) | simp))).trans (B5.out.mono (by have := b4.size; simp; try omega))
            try go_simp
            refine hK.out _ _ ?_ (fun hHeld => ?_)
            · (try dsimp only); (repeat' (first | with_reducible assumption | with_reducible exact Below.refl _ _ | with_reducible apply Below.drew | with_reducible refine Below.alloc ?_ ?_ _ | (have := b4.size; simp; omega) | (simp; omega) | simp))
            clear hK K
            refine wpAnyH_take (i := 5) (oi := _) (v := ?_) rfl (by kernel_rfl) (by kernel_rfl) (by kernel_rfl) (fun _ _ _ h => h) (Or.inl ⟨by rfl, ?_⟩) (by assumption) ?_
            rotate_left
            · intro w' hSw; (try dsimp only at hSw); go_simp; (try with_reducible rfl)
            simp only [Act.put, List.setIfInBounds_toArray, List.set_cons_zero, List.set_cons_succ]
            refine wpAnyH_take (i := 6) (oi := _) (v := ?_) rfl (by kernel_rfl) (by kernel_rfl) (by kernel_rfl) (fun _ _ _ h => h) (Or.inl ⟨by rfl, ?_⟩) (by assumption) ?_
            rotate_left
            · intro w' hSw; (try dsimp only at hSw); go_simp; (try with_reducible rfl)
            simp only [Act.put, List.setIfInBounds_toArray, List.set_cons_zero, List.set_cons_succ]
            refine wpAnyH_take (i := 7) (oi := _) (v := ?_) rfl (by kernel_rfl) (by kernel_rfl) (by kernel_rfl) (fun _ _ _ h => h) (Or.inl ⟨by rfl, ?_⟩) (by assumption) ?_
            rotate_left
            · intro w' hSw; (try dsimp only at hSw); go_simp; (try with_reducible rfl)
            simp only [Act.put, List.setIfInBounds_toArray, List.set_cons_zero, List.set_cons_succ]
            refine wpAnyH_ready (rs := [8]) (by kernel_rfl) (by simp) ?_
            refine AllReadyH.cons rfl (fun K hK => ?_) ?_
            · go_simp
              refine hK.out _ _ ?_ (fun hHeld => ?_)
              · (try dsimp only); (repeat' (first | with_reducible assumption | with_reducible exact Below.refl _ _ | with_reducible apply Below.drew | with_reducible refine Below.alloc ?_ ?_ _ | (have := b4.size; simp; omega) | (simp; omega) | simp))
              clear hK K
              refine wpAnyH_ready (rs := [9]) (by kernel_rfl) (by simp) ?_
              refine AllReadyH.cons rfl (fun K hK => ?_) ?_
              · go_simp
                refine hK.out _ _ ?_ (fun hHeld => ?_)
                · (try dsimp only); (repeat' (first | with_reducible assumption | with_reducible exact Below.refl _ _ | with_reducible apply Below.drew | with_reducible refine Below.alloc ?_ ?_ _ | (have := b4.size; simp; omega) | (simp; omega) | simp))
                clear hK K
                refine wpAnyH_done (by kernel_rfl) ?_ _
                refine NoPanic.normal ?_
                go_wp2
                go_meet
                case rel => exact ⟨pt, z, rfl, rfl, Z5, b5⟩
              exact AllReadyH.nil
            exact AllReadyH.nil
          exact AllReadyH.nil
        exact AllReadyH.nil
      exact AllReadyH.nil
    exact AllReadyH.nil
  case rest =>
    obtain ⟨pt, z, rfl, rfl, HZ, HBC⟩ := hcut
    obtain ⟨w3, hw3⟩ : ∃ w3, w3 = wc := ⟨_, rfl⟩
    subst hw3
    clear mk cv1 cv3 KZ
    have KR3 := KR.out w3
    have HB3 : Hid (Below W.heap.size W w3) := ba.out.trans (HBC.out.mono ba.out.size)
    have hzz : ∃ (b32 : Bool), decide ((kk : Int) ≤ 32) = b32 ∧ (z == 0) = b32 ∧ decide (z = 0) = b32 ∧ ((b32 = true ∧ z = 0 ∧ ∃ tb, pt = some ⟨tb, 0, none⟩) ∨ (b32 = false ∧ z = 1100 ∧ pt = none)) := by
      rcases HZ.out with ⟨h1, rfl, h3⟩ | ⟨h1, rfl, rfl⟩
      · exact ⟨true, decide_eq_true (by omega), rfl, rfl, Or.inl ⟨rfl, rfl, h3⟩⟩
      · exact ⟨false, decide_eq_false (by omega), rfl, rfl, Or.inr ⟨rfl, rfl, rfl⟩⟩
    obtain ⟨b32, hq1, hq2, hq3, hq⟩ := hzz
    clear HZ
    rcases hq with ⟨rfl, rfl, tb0, rfl⟩ | ⟨rfl, rfl, rfl⟩
    all_goals
      go_upto_region 9 with (first
        | (go_at_call 22; refine (KP.out _).mono ?_; rintro e w7 ⟨p1, c1, p2, c2, rfl, G7, B7⟩; have HB7 : Hid (Below W.heap.size W w7) := HB5.out.trans (B7.out.mono HB5.out.size))
        | (go_at_call 14; first
          | (have hh := HB7; clear hh; refine (K8.out _ _ _ _ _ HB7.out G7.out).mono ?_; rintro e w8 ⟨ub, rfl, T8, B8⟩)
          | (refine KR3.mono ?_; rintro e w5 ⟨rfl, B5⟩; have HB5 : Hid (Below W.heap.size W w5) := HB3.out.trans (B5.out.mono HB3.out.size)))
        | (go_at_call 15; refine (num_any _ _).mono ?_; rintro e wn ⟨rfl, rfl⟩))
      have HB8 : Hid (Below W.heap.size W w8) := HB7.out.trans (B8.out.mono HB7.out.size)
      obtain ⟨f, q1, q2, q3, q4, f1, f2, f3, f4, f5, f6⟩ := KQ.out ub w8 T8.out
      have Q1 : Hid (∀ w' (y i j : Int), Below w8.heap.size w8 w' → Calls Tryz.prog 16 #[.pointer (some ⟨ub, 0, none⟩), .int .i64 y, .int .i64 i, .int .i64 j] w' fun e w'' => e = .returned (.bool (f y i j)) ∧ w' = w'') := q1
      have Q2 : Hid (∀ w', Below w8.heap.size w8 w' → Calls Tryz.prog 19 #[.pointer (some ⟨ub, 0, none⟩), .int .i64 0, .int .i64 0, .int .i64 (2 + d)] w' fun e w'' => e = .returned (.int .i64 0) ∧ w' = w'') := q2
      have R1 : Hid (∀ w', Below w8.heap.size w8 w' → Calls Tryz.prog 24 #[.pointer (some ⟨ub, 0, none⟩), .agg #[.int .i64 (-d), .int .i64 0, .int .i64 0], .int .i64 0, .int .i64 0] w' fun e w'' => e = .returned (.bool false) ∧ Hid (Below w'.heap.size w' w'')) := fun w' hb => q3 w' _ _ _ hb (by omega) (by omega) (by omega) (by omega) (by omega) (by omega) HOK.out.1
      have R2 : Hid (∀ w', Below w8.heap.size w8 w' → Calls Tryz.prog 24 #[.pointer (some ⟨ub, 0, none⟩), .agg #[.int .i64 (3 + d), .int .i64 0, .int .i64 0], .int .i64 0, .int .i64 0] w' fun e w'' => e = .returned (.bool false) ∧ Hid (Below w'.heap.size w' w'')) := fun w' hb => q3 w' _ _ _ hb (by omega) (by omega) (by omega) (by omega) (by omega) (by omega) HOK.out.2.1
      have R3 : Hid (∀ w', Below w8.heap.size w8 w' → Calls Tryz.prog 24 #[.pointer (some ⟨ub, 0, none⟩), .agg #[.int .i64 0, .int .i64 (1 + d), .int .i64 0], .int .i64 0, .int .i64 0] w' fun e w'' => e = .returned (.bool false) ∧ Hid (Below w'.heap.size w' w'')) := fun w' hb => q3 w' _ _ _ hb (by omega) (by omega) (by omega) (by omega) (by omega) (by omega) HOK.out.2.2.1
      have R4 : Hid (∀ w', Below w8.heap.size w8 w' → Calls Tryz.prog 24 #[.pointer (some ⟨ub, 0, none⟩), .agg #[.int .i64 0, .int .i64 0, .int .i64 (3 + d)], .int .i64 0, .int .i64 0] w' fun e w'' => e = .returned (.bool false) ∧ Hid (Below w'.heap.size w' w'')) := fun w' hb => q3 w' _ _ _ hb (by omega) (by omega) (by omega) (by omega) (by omega) (by omega) HOK.out.2.2.2
      have R5 : Hid (∀ w', Below w8.heap.size w8 w' → Calls Tryz.prog 25 #[.pointer (some ⟨ub, 0, none⟩), .agg #[.int .i64 0, .int .i64 0, .int .i64 (-d)], .int .i64 0, .int .i64 0] w' fun e w'' => e = .returned (.int .i64 0) ∧ Hid (Below w'.heap.size w' w'')) := q4
      clear q1 q2 q3 q4 KQ K8 KR3 KR KP HOK T8 G7 hq1 hq2 hq3
      go_upto_region 10 with fail
      rw [← hd]
      clear hd er2' hr2
      go_wp2_with (first
        | (go_at_call 16; refine (Q1.out _ _ _ _ (Below.refl _ _)).mono ?_; rintro e wn ⟨rfl, rfl⟩)
        | (go_at_call 19; refine (Q2.out _ (Below.refl _ _)).mono ?_; rintro e wn ⟨rfl, rfl⟩)
        | (go_at_call 24; first
          | (have hh := E3; clear hh; refine (R4.out _ E3.out).mono ?_; rintro e v4 ⟨rfl, c4⟩; have E4 : Hid (Below w8.heap.size w8 v4) := E3.out.trans (c4.out.mono E3.out.size))
          | (have hh := E2; clear hh; refine (R3.out _ E2.out).mono ?_; rintro e v3 ⟨rfl, c3⟩; have E3 : Hid (Below w8.heap.size w8 v3) := E2.out.trans (c3.out.mono E2.out.size))
          | (have hh := E1; clear hh; refine (R2.out _ E1.out).mono ?_; rintro e v2 ⟨rfl, c2⟩; have E2 : Hid (Below w8.heap.size w8 v2) := E1.out.trans (c2.out.mono E1.out.size))
          | (refine (R1.out _ (Below.refl _ _)).mono ?_; rintro e v1 ⟨rfl, c1⟩; have E1 : Hid (Below w8.heap.size w8 v1) := c1.out))
        | (go_at_call 25; refine (R5.out _ E4.out).mono ?_; rintro e v5 ⟨rfl, c5⟩; have E5 : Hid (Below w8.heap.size w8 v5) := E4.out.trans (c5.out.mono E4.out.size))
        | (go_at_call 15; refine (num_any _ _).mono ?_; rintro e wn ⟨rfl, rfl⟩))
      have HE : Hid (Below W.heap.size W v5) := HB8.out.trans (E5.out.mono HB8.out.size)
      go_ret
      exact ⟨rfl, HE.out⟩
end Go.Proofs.YtclceeghjgeplaaGreatDoor
