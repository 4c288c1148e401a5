/- New of the program whole; awake of layer 11's statements. -/
import Derived.Test.YtfjejnkjlnkkhaaGreatDoorGq
import Derived.Test.YtfjejnkjlnkkhaaGreatDoorGr
import Derived.Test.YtfjejnkjlnkkhaaGreatDoorMeaBe
import Derived.Laws.BytesString
namespace Go.Proofs.YtfjejnkjlnkkhaaGreatDoor
set_option linter.unusedVariables false
set_option linter.unusedSimpArgs false
open Go.ChangeShapes Go.WideShapes Go.ChangeAt Go.RowKit Go.Maps

theorem new_any (g : Gr) (W : ByteArray) (v1 v2 : Value) (w : World) {F : Nat → Prop} (hg : GrIs w F v1 v2 g) (hl : ∀ s, s ∈ g.names → s.size ≤ maxLen) (hSh : Short g.rules) (hM : mayG g = true) (hc : (edgesT g).find? (badE g.names.length (edgesT g)) = none) (hn : W.size ≤ 32) (hG : TabG w) :
    Calls Tryz.prog 14 #[.agg #[.int .i64 g.start, v1, v2], .string W] w fun e w' => ∃ tb, e = .returned (.tuple #[.pointer (some ⟨tb, 0, none⟩), .int .i64 0]) ∧ Hid (TmIs g W tb w') ∧ Hid (Below w.heap.size w w') :=
  new_ok g W v1 v2 w hg hl hSh hM hc hn hG fun w' hb => begin_any g W v1 v2 w' (hg.any hb) hl hSh hM (grOk_of hM hc).1 hn
/-- What New says, whatever the grammar and the text are. -/
theorem new_all (g : Gr) (W : ByteArray) (v1 v2 : Value) (w : World) {F : Nat → Prop} (hg : GrIs w F v1 v2 g) (hl : ∀ s, s ∈ g.names → s.size ≤ maxLen) (hSh : Short g.rules) (hM : ¬ (mayG g = true ∧ (edgesT g).find? (badE g.names.length (edgesT g)) = none ∧ W.size ≤ 32)) :
    Calls Tryz.prog 14 #[.agg #[.int .i64 g.start, v1, v2], .string W] w fun e w' => e = .returned (.tuple #[.pointer none, .int .i64 1100]) ∧ Hid (Below w.heap.size w w') := by
  by_cases hn : W.size ≤ 32
  · refine new_no g W v1 v2 w hg hl hSh hn ?_
    cases hm : mayG g with
    | false => exact Or.inl rfl
    | true =>
      refine Or.inr ⟨rfl, ?_⟩
      cases hf : (edgesT g).find? (badE g.names.length (edgesT g)) with
      | none => exact absurd ⟨hm, hf, hn⟩ hM
      | some t => exact ⟨t, rfl⟩
  · exact new_long g.start W v1 v2 w (by omega)
theorem Tryz.infoU8 : (Tryz.prog.info? 5).map (fun i => (i.zero, i.size, i.bytes)) = some (some (.int .u8 0), 1, 1) := by kernel_rfl
def bysZ (n : Nat) : Obj := .cells (madeCells #[.int .u8 0] n) 5
theorem make_bys (n : Nat) (hn : n ≤ 200000) (w : World) : (Instr.makeSlice 51 (.int .i64 (n : Int)) (.int .i64 (n : Int))).run Tryz.prog w = .ok (.slice (some ⟨w.heap.size, 0, none⟩) n n) (w.alloc (bysZ n)) := by
  obtain ⟨i, hi, hz, hs, hb⟩ := info_partsP Tryz.infoU8
  have h := run_make (P := Tryz.prog) w 51 5 i _ Tryz.underlying51 hi hz .i64 .i64 (n : Int) (n : Int) (by omega) (Int.le_refl _) (by rw [hb]; omega) (by omega)
  simp only [Int.toNat_natCast, hs, Nat.mul_one] at h
  exact h
/-- A text of n bytes 0. -/
def zsB (n : Nat) : ByteArray := (List.replicate n (0 : Int)).foldl (fun r n => r.push (UInt8.ofNat n.toNat)) ByteArray.empty
theorem zsB_size (n : Nat) : (zsB n).size = n := by
  unfold zsB
  rw [strOf_foldl]
  simp [ByteArray.size]
theorem conv_zeros {n : Nat} {w : World} {b : Nat} (h : w.heap[b]? = some (bysZ n)) : (convert 51 9 (.slice (some ⟨b, 0, none⟩) n n)).run Tryz.prog w = .ok (.string (zsB n)) w := by
  rw [run_convert_bytes_string w 51 9 5 _ _ _ Tryz.underlying51 Tryz.underlying5 Tryz.underlying9]
  have hl := run_loadCells_list (P := Tryz.prog) w ⟨b, 0, none⟩ ((List.replicate n (0 : Int)).map (Value.int .u8)) (fun j u hj => by
    have hjn : j < n := by have := (List.getElem?_eq_some_iff.1 hj).1; simpa using this
    have hu : u = .int .u8 0 := by
      rw [List.getElem?_map, List.getElem?_replicate, if_pos hjn] at hj
      injection hj with hj; exact hj.symm
    have h2 := Lib.cell_of_heap h j
    rw [made_at _ _ _ hjn] at h2
    rw [hu, show (⟨b, 0, none⟩ : Addr).add j = ⟨b, j, none⟩ by simp [Addr.add]; exact fun h9 => h9.symm]
    exact h2)
  simp only [List.length_map, List.length_replicate] at hl
  exact run_bytesToString w _ n n _ hl
section
variable {T : SpM} {t : Nat} {K : Nat → Nat}
theorem ps_has (h : Tk psG psW T t K) (x i j : Nat) (hx : x < 2) (hi : i ≤ j) (hj : j ≤ 4) : decide (0 < rkF psG psW (nmT psG.names.length T) t (x : Int) (i : Int) (j : Int)) = litM psL x i j := by
  rw [← h.has (x := x) hx hi hj, ← nmT_at (N := psG.names.length) (T := T) hx i j, ps_mean h]
theorem ps_rnk (h : Tk psG psW T t K) (x i j v : Nat) (hx : x < 2) (hi : i ≤ j) (hj : j ≤ 4) (hm : litM psL x i j = true) (hv : v ≠ 0) (h1 : (rkS (btsW psW) psG.rules (litM psL) v).1 x i j = true) (h2 : (rkS (btsW psW) psG.rules (litM psL) (v - 1)).1 x i j = false) : rkF psG psW (nmT psG.names.length T) t (x : Int) (i : Int) (j : Int) = (v : Int) := by
  have hf := h.full.nm x i j hx hi hj
  rw [ps_mean h] at hf ⊢
  rw [hm] at hf
  unfold rkF
  rw [if_pos (by rw [Bool.and_eq_true]; exact ⟨okS_iff.2 ⟨by omega, by omega, by show (j : Int) ≤ ((4 : Nat) : Int); omega⟩, okN_iff.2 ⟨by omega, by show (x : Int) < ((2 : Nat) : Int); omega⟩⟩)]
  have := rnkN_lit (t := t) (v := v) (x := x) (i := i) (j := j) hf hv h1 h2
  simp only [Int.toNat_natCast]
  rw [this]
theorem ps_rnk0 (h : Tk psG psW T t K) (x i j : Nat) (hx : x < 2) (hi : i ≤ j) (hj : j ≤ 4) (hm : litM psL x i j = false) : rkF psG psW (nmT psG.names.length T) t (x : Int) (i : Int) (j : Int) = 0 := by
  have h1 := ps_has h x i j hx hi hj
  rw [hm] at h1
  have h2 := of_decide_eq_false h1
  have h3 : 0 ≤ rkF psG psW (nmT psG.names.length T) t (x : Int) (i : Int) (j : Int) := by unfold rkF; split <;> omega
  omega
theorem ps_rest (h : Tk psG psW T t K) : decide (0 < rrF psG psW (nmT psG.names.length T) t 2 0 1 2 2) = true := by
  have h1 := h.rest (q := 2) (c := 0) (p := 1) (i := 2) (j := 2) (r := ⟨1, [⟨false, [psA]⟩]⟩) (d := ⟨false, [psA]⟩) rfl rfl (by decide) (by decide) (by decide)
  have h2 := h.hT.rs 2 0 1 2 2 ⟨1, [⟨false, [psA]⟩]⟩ ⟨false, [psA]⟩ rfl rfl (by decide) (by decide) (by decide)
  unfold rsT at h2
  rw [h2] at h1
  exact h1.symm
theorem ps_rrnk (h : Tk psG psW T t K) : rrF psG psW (nmT psG.names.length T) t 2 0 0 0 1 = 2 := by
  have hf := h.full.rs 2 0 ⟨1, [⟨false, [psA]⟩]⟩ ⟨false, [psA]⟩ 0 0 1 rfl rfl (by decide) (by decide) (by decide)
  rw [ps_mean h] at hf ⊢
  have e : restB (btsW psW) (litM psL) (([psA] : List Sy).drop 0) 0 1 = true := by decide +kernel
  rw [e] at hf
  unfold rrF
  rw [if_pos (by decide +kernel)]
  have := rnkR_lit (t := t) (v := 2) (q := 2) (c := 0) (p := 0) (i := 0) (j := 1) hf (by decide) (by decide +kernel) (by decide +kernel)
  show ((rnkR (btsW psW) psG.rules (litM psL) t 2 0 0 0 1 : Nat) : Int) = 2
  rw [this]
  rfl
end
theorem ps_small : ∀ s, s ∈ psG.names → s.size ≤ maxLen := by
  intro s hs
  have : s = ⟨#[83]⟩ ∨ s = ⟨#[88]⟩ := by simpa [psG] using hs
  rcases this with rfl | rfl <;> decide
theorem ps_short : Short psG.rules := fun r hr c hc => by
  have := (mayG_plIn ps_may).2 r hr
  have := this.2 c hc
  omega
set_option maxHeartbeats 8000000 in
set_option maxRecDepth 100000 in
theorem awake11_any (w : World) (hG : TabG w) : Calls Tryz.prog 13 #[] w fun e w' => e = .returned (.bool true) ∧ Hid (Below w.heap.size w w') := by
  have K1 : Hid (∀ (w' : World) (p1 : Option Addr) (c1 : Nat) (p2 : Option Addr) (c2 : Nat), Below w.heap.size w w' → GrIs w' Any (.slice p1 2 c1) (.slice p2 4 c2) psG → Calls Tryz.prog 14 #[.agg #[.int .i64 0, .slice p1 2 c1, .slice p2 4 c2], .string ⟨#[97, 97, 98, 98]⟩] w' fun e w'' => ∃ tb, e = .returned (.tuple #[.pointer (some ⟨tb, 0, none⟩), .int .i64 0]) ∧ Hid (TmIs psG psW tb w'') ∧ Hid (Below w'.heap.size w' w'')) := fun w' p1 c1 p2 c2 hb hg => new_any psG psW _ _ w' hg ps_small ps_short ps_may ps_free (by decide) ((Kg.ofB hb).tab hG)
  have K2 : Hid (∀ (w' : World) (v1 v2 : Value), Calls Tryz.prog 14 #[.agg #[.int .i64 0, v1, v2], .string (zsB 33)] w' fun e w'' => e = .returned (.tuple #[.pointer none, .int .i64 1100]) ∧ Hid (Below w'.heap.size w' w'')) := fun w' v1 v2 => new_long 0 (zsB 33) v1 v2 w' (by rw [zsB_size]; decide)
  have KP : Hid (∀ w', Calls Tryz.prog 22 #[] w' fun e w'' => ∃ p1 c1 p2 c2, e = .returned (.agg #[.int .i64 0, .slice p1 2 c1, .slice p2 4 c2]) ∧ Hid (GrIs w'' Any (.slice p1 2 c1) (.slice p2 4 c2) psG) ∧ Hid (Below w'.heap.size w' w'')) := pairs_any
  have KQ : Hid (∀ (tb : Nat) (wb : World), TmIs psG psW tb wb → ∃ (f : Int → Int → Int → Bool) (r : Int → Int → Int → Int), (∀ w' (x i j : Int), Below wb.heap.size wb w' → Calls Tryz.prog 16 #[.pointer (some ⟨tb, 0, none⟩), .int .i64 x, .int .i64 i, .int .i64 j] w' fun e w'' => e = .returned (.bool (f x i j)) ∧ w' = w'') ∧
      (∀ w' (x i j : Int), Below wb.heap.size wb w' → Calls Tryz.prog 19 #[.pointer (some ⟨tb, 0, none⟩), .int .i64 x, .int .i64 i, .int .i64 j] w' fun e w'' => e = .returned (.int .i64 (r x i j)) ∧ w' = w'') ∧
      (∀ w', Below wb.heap.size wb w' → Calls Tryz.prog 24 #[.pointer (some ⟨tb, 0, none⟩), .agg #[.int .i64 2, .int .i64 0, .int .i64 1], .int .i64 2, .int .i64 2] w' fun e w'' => e = .returned (.bool true) ∧ Hid (Below w'.heap.size w' w'')) ∧
      (∀ w', Below wb.heap.size wb w' → Calls Tryz.prog 25 #[.pointer (some ⟨tb, 0, none⟩), .agg #[.int .i64 2, .int .i64 0, .int .i64 0], .int .i64 0, .int .i64 1] w' fun e w'' => e = .returned (.int .i64 2) ∧ Hid (Below w'.heap.size w' w'')) ∧
      f 0 0 4 = true ∧ f 0 1 3 = true ∧ f 0 0 3 = false ∧ f 1 0 2 = true ∧ f 1 0 3 = false ∧ f 0 2 2 = true ∧ f 9 0 0 = false ∧ r 0 2 2 = 2 ∧ r 1 0 1 = 3 ∧ r 1 0 3 = 0) := fun tb wb hT => by
    obtain ⟨T, t, K, hb, rb, mb, hT⟩ := hT
    have hk := hT.tk
    refine ⟨fun x i j => decide (0 < rkF psG psW (nmT psG.names.length T) t x i j), fun x i j => rkF psG psW (nmT psG.names.length T) t x i j, fun w' x i j hb' => hasT_any w' (hT.any hb') x i j, fun w' x i j hb' => rankT_any w' (hT.any hb') x i j, fun w' hb' => ?_, fun w' hb' => ?_, (ps_has hk 0 0 4 (by decide) (by decide) (by decide)).trans (by decide +kernel), (ps_has hk 0 1 3 (by decide) (by decide) (by decide)).trans (by decide +kernel), (ps_has hk 0 0 3 (by decide) (by decide) (by decide)).trans (by decide +kernel), (ps_has hk 1 0 2 (by decide) (by decide) (by decide)).trans (by decide +kernel), (ps_has hk 1 0 3 (by decide) (by decide) (by decide)).trans (by decide +kernel), (ps_has hk 0 2 2 (by decide) (by decide) (by decide)).trans (by decide +kernel), ?_, ps_rnk hk 0 2 2 2 (by decide) (by decide) (by decide) (by decide +kernel) (by decide) (by decide +kernel) (by decide +kernel), ps_rnk hk 1 0 1 3 (by decide) (by decide) (by decide) (by decide +kernel) (by decide) (by decide +kernel) (by decide +kernel), ps_rnk0 hk 1 0 3 (by decide) (by decide) (by decide) (by decide +kernel)⟩
    · have := restT_any w' (hT.any hb') 2 0 1 2 2 ⟨wfI (by decide) (by decide), wfI (by decide) (by decide), wfI (by decide) (by decide)⟩
      rw [ps_rest hk] at this
      exact this
    · have := restRankT_any w' (hT.any hb') 2 0 0 0 1 ⟨wfI (by decide) (by decide), wfI (by decide) (by decide), wfI (by decide) (by decide)⟩
      rw [ps_rrnk hk] at this
      exact this.mono fun e w'' h9 => h9
    · show decide (0 < rkF psG psW _ t 9 0 0) = false
      rw [rkF_no (by decide +kernel)]
      rfl
  have mk : ∀ w' : World, (Instr.makeSlice 51 (.int .i64 33) (.int .i64 33)).run Tryz.prog w' = .ok (.slice (some ⟨w'.heap.size, 0, none⟩) 33 33) (w'.alloc (bysZ 33)) := make_bys 33 (by decide)
  have cv1 : ∀ w' : World, (convert 51 9 (.slice (some ⟨w'.heap.size, 0, none⟩) 33 33)).run Tryz.prog (w'.alloc (bysZ 33)) = .ok (.string (zsB 33)) (w'.alloc (bysZ 33)) := fun w' => conv_zeros (heap_alloc_new w' _)
  have cv3 : ∀ w' : World, (convert 51 9 (.slice (some ⟨w'.heap.size, 0, none⟩) 33 33)).run Tryz.prog (w'.alloc (bysZ 33)).drew = .ok (.string (zsB 33)) (w'.alloc (bysZ 33)).drew := fun w' => conv_zeros (hpDrew (heap_alloc_new w' _))
  clear hG
  go_enter Tryz.func13, Tryz.ntmps13
  go_upto_region 2 with (first
    | (go_at_call 22; refine (KP.out _).mono ?_; rintro e w1 ⟨p1, c1, p2, c2, rfl, G1, B1⟩)
    | (go_at_call 14; refine (K1.out _ _ _ _ _ B1.out G1.out).mono ?_; rintro e w2 ⟨tb, rfl, T2, B2⟩))
  have HB2 : Hid (Below w.heap.size w w2) := B1.out.trans (B2.out.mono B1.out.size)
  obtain ⟨f, r, q1, q2, q3, q4, h1, h2, h3, h4, h5, h6, h7, h8, h9, h10⟩ := KQ.out tb w2 T2.out
  have Q1 : Hid (∀ w' (x i j : Int), Below w2.heap.size w2 w' → Calls Tryz.prog 16 #[.pointer (some ⟨tb, 0, none⟩), .int .i64 x, .int .i64 i, .int .i64 j] w' fun e w'' => e = .returned (.bool (f x i j)) ∧ w' = w'') := q1
  have Q2 : Hid (∀ w' (x i j : Int), Below w2.heap.size w2 w' → Calls Tryz.prog 19 #[.pointer (some ⟨tb, 0, none⟩), .int .i64 x, .int .i64 i, .int .i64 j] w' fun e w'' => e = .returned (.int .i64 (r x i j)) ∧ w' = w'') := q2
  have Q3 : Hid (∀ w', Below w2.heap.size w2 w' → Calls Tryz.prog 24 #[.pointer (some ⟨tb, 0, none⟩), .agg #[.int .i64 2, .int .i64 0, .int .i64 1], .int .i64 2, .int .i64 2] w' fun e w'' => e = .returned (.bool true) ∧ Hid (Below w'.heap.size w' w'')) := q3
  have Q4 : Hid (∀ w', Below w2.heap.size w2 w' → Calls Tryz.prog 25 #[.pointer (some ⟨tb, 0, none⟩), .agg #[.int .i64 2, .int .i64 0, .int .i64 0], .int .i64 0, .int .i64 1] w' fun e w'' => e = .returned (.int .i64 2) ∧ Hid (Below w'.heap.size w' w'')) := q4
  clear q1 q2 q3 q4 KQ K1 T2 B1 B2 G1
  go_cut [3, 4] from 17 (fun x y wc => y = .int .i64 1100 ∧ Hid (Below w2.heap.size w2 wc))
  case first =>
    clear Q1 Q2 Q3 Q4 h1 h2 h3 h4 h5 h6 h7 h8 h9 h10 HB2
    refine wp_region_noPanic ?_
    refine wp_region_held_drew (S := fun w' => Below w2.heap.size w2 w') (by kernel_rfl) ?_ (fun hHeld => ?_)
    · (try dsimp only); exact (Below.refl _ w2).drew
    refine wpAnyH_ready (rs := [0, 1]) (by kernel_rfl) (by simp) ?_
    refine AllReadyH.cons rfl (fun K hK => ?_) ?_
    · go_simp
      refine (KP.out _).mono ?_
      rintro e w4 ⟨p1, c1, p2, c2, rfl, G1, B1⟩
      have b4 : Below w2.heap.size w2 w4 := ((Below.refl _ w2).drew).trans B1.out
      try go_simp
      refine hK.out _ _ ?_ (fun hHeld => ?_)
      · (try dsimp only); (repeat' (first | with_reducible assumption | with_reducible exact Below.refl _ _ | with_reducible apply Below.drew | with_reducible refine Below.alloc ?_ ?_ _ | (have := b4.size; simp; omega) | (simp; omega) | simp))
      clear hK K
      refine wpAnyH_ready (rs := [1]) (by kernel_rfl) (by simp) ?_
      refine AllReadyH.cons rfl (fun K hK => ?_) ?_
      · go_simp
        refine hK.out _ _ ?_ (fun hHeld => ?_)
        · (try dsimp only); (repeat' (first | with_reducible assumption | with_reducible exact Below.refl _ _ | with_reducible apply Below.drew | with_reducible refine Below.alloc ?_ ?_ _ | (have := b4.size; simp; omega) | (simp; omega) | simp))
        clear hK K
        refine wpAnyH_ready (rs := [2]) (by kernel_rfl) (by simp) ?_
        refine AllReadyH.cons rfl (fun K hK => ?_) ?_
        · go_simp
          refine hK.out _ _ ?_ (fun hHeld => ?_)
          · (try dsimp only); (repeat' (first | with_reducible assumption | with_reducible exact Below.refl _ _ | with_reducible apply Below.drew | with_reducible refine Below.alloc ?_ ?_ _ | (have := b4.size; simp; omega) | (simp; omega) | simp))
          clear hK K
          refine wpAnyH_ready (rs := [3]) (by kernel_rfl) (by simp) ?_
          refine AllReadyH.cons rfl (fun K hK => ?_) ?_
          · go_simp
            refine (K2.out _ _ _).mono ?_
            rintro e w5 ⟨rfl, B5⟩
            have b5 : Below w2.heap.size w2 w5 := (show Below w2.heap.size w2 _ from by (repeat' (first | with_reducible assumption | with_reducible exact Below.refl _ _ | with_reducible apply Below.drew | with_reducible refine Below.alloc ?_ ?_ _ | (have := b4.size; simp; omega) | (simp; omega) | simp))).trans (B5.out.mono (by have := b4.size; simp; try omega))
            try go_simp
            refine hK.out _ _ ?_ (fun hHeld => ?_)
            · (try dsimp only); (repeat' (first | with_reducible assumption | with_reducible exact Below.refl _ _ | with_reducible apply Below.drew | with_reducible refine Below.alloc ?_ ?_ _ | (have := b4.size; simp; omega) | (simp; omega) | simp))
            clear hK K
            refine wpAnyH_take (i := 4) (oi := _) (v := ?_) rfl (by kernel_rfl) (by kernel_rfl) (by kernel_rfl) (fun _ _ _ h => h) (Or.inl ⟨by rfl, ?_⟩) (by assumption) ?_
            rotate_left
            · intro w' hSw; (try dsimp only at hSw); go_simp; (try with_reducible rfl)
            simp only [Act.put, List.setIfInBounds_toArray, List.set_cons_zero, List.set_cons_succ]
            refine wpAnyH_take (i := 5) (oi := _) (v := ?_) rfl (by kernel_rfl) (by kernel_rfl) (by kernel_rfl) (fun _ _ _ h => h) (Or.inl ⟨by rfl, ?_⟩) (by assumption) ?_
            rotate_left
            · intro w' hSw; (try dsimp only at hSw); go_simp; (try with_reducible rfl)
            simp only [Act.put, List.setIfInBounds_toArray, List.set_cons_zero, List.set_cons_succ]
            refine wpAnyH_take (i := 6) (oi := _) (v := ?_) rfl (by kernel_rfl) (by kernel_rfl) (by kernel_rfl) (fun _ _ _ h => h) (Or.inl ⟨by rfl, ?_⟩) (by assumption) ?_
            rotate_left
            · intro w' hSw; (try dsimp only at hSw); go_simp; (try with_reducible rfl)
            simp only [Act.put, List.setIfInBounds_toArray, List.set_cons_zero, List.set_cons_succ]
            refine wpAnyH_ready (rs := [7]) (by kernel_rfl) (by simp) ?_
            refine AllReadyH.cons rfl (fun K hK => ?_) ?_
            · go_simp
              refine hK.out _ _ ?_ (fun hHeld => ?_)
              · (try dsimp only); (repeat' (first | with_reducible assumption | with_reducible exact Below.refl _ _ | with_reducible apply Below.drew | with_reducible refine Below.alloc ?_ ?_ _ | (have := b4.size; simp; omega) | (simp; omega) | simp))
              clear hK K
              refine wpAnyH_ready (rs := [8]) (by kernel_rfl) (by simp) ?_
              refine AllReadyH.cons rfl (fun K hK => ?_) ?_
              · go_simp
                refine hK.out _ _ ?_ (fun hHeld => ?_)
                · (try dsimp only); (repeat' (first | with_reducible assumption | with_reducible exact Below.refl _ _ | with_reducible apply Below.drew | with_reducible refine Below.alloc ?_ ?_ _ | (have := b4.size; simp; omega) | (simp; omega) | simp))
                clear hK K
                refine wpAnyH_done (by kernel_rfl) ?_ _
                refine NoPanic.normal ?_
                go_wp2
                go_meet
                case rel => exact ⟨rfl, b5⟩
              exact AllReadyH.nil
            exact AllReadyH.nil
          exact AllReadyH.nil
        exact AllReadyH.nil
      exact AllReadyH.nil
    refine AllReadyH.cons rfl (fun K hK => ?_) ?_
    · go_simp
      refine hK.out _ _ ?_ (fun hHeld => ?_)
      · (try dsimp only); (repeat' (first | with_reducible assumption | with_reducible exact Below.refl _ _ | with_reducible apply Below.drew | with_reducible refine Below.alloc ?_ ?_ _ | (have := b4.size; simp; omega) | (simp; omega) | simp))
      clear hK K
      refine wpAnyH_ready (rs := [0, 2]) (by kernel_rfl) (by simp) ?_
      refine AllReadyH.cons rfl (fun K hK => ?_) ?_
      · go_simp
        refine (KP.out _).mono ?_
        rintro e w4 ⟨p1, c1, p2, c2, rfl, G1, B1⟩
        have b4 : Below w2.heap.size w2 w4 := ((bel1 w2 _).drew).trans (B1.out.mono (by simp))
        have cv2 := conv_zeros (n := 33) (hpBel B1.out (hpDrew (hpNew (w := w2) (o := bysZ 33) rfl)))
        try go_simp
        refine hK.out _ _ ?_ (fun hHeld => ?_)
        · (try dsimp only); (repeat' (first | with_reducible assumption | with_reducible exact Below.refl _ _ | with_reducible apply Below.drew | with_reducible refine Below.alloc ?_ ?_ _ | (have := b4.size; simp; omega) | (simp; omega) | simp))
        clear hK K
        refine wpAnyH_ready (rs := [2]) (by kernel_rfl) (by simp) ?_
        refine AllReadyH.cons rfl (fun K hK => ?_) ?_
        · go_simp
          refine hK.out _ _ ?_ (fun hHeld => ?_)
          · (try dsimp only); (repeat' (first | with_reducible assumption | with_reducible exact Below.refl _ _ | with_reducible apply Below.drew | with_reducible refine Below.alloc ?_ ?_ _ | (have := b4.size; simp; omega) | (simp; omega) | simp))
          clear hK K
          refine wpAnyH_ready (rs := [3]) (by kernel_rfl) (by simp) ?_
          refine AllReadyH.cons rfl (fun K hK => ?_) ?_
          · go_simp
            refine (K2.out _ _ _).mono ?_
            rintro e w5 ⟨rfl, B5⟩
            have b5 : Below w2.heap.size w2 w5 := (show Below w2.heap.size w2 _ from by (repeat' (first | with_reducible assumption | with_reducible exact Below.refl _ _ | with_reducible apply Below.drew | with_reducible refine Below.alloc ?_ ?_ _ | (have := b4.size; simp; omega) | (simp; omega) | simp))).trans (B5.out.mono (by have := b4.size; simp; try omega))
            try go_simp
            refine hK.out _ _ ?_ (fun hHeld => ?_)
            · (try dsimp only); (repeat' (first | with_reducible assumption | with_reducible exact Below.refl _ _ | with_reducible apply Below.drew | with_reducible refine Below.alloc ?_ ?_ _ | (have := b4.size; simp; omega) | (simp; omega) | simp))
            clear hK K
            refine wpAnyH_take (i := 4) (oi := _) (v := ?_) rfl (by kernel_rfl) (by kernel_rfl) (by kernel_rfl) (fun _ _ _ h => h) (Or.inl ⟨by rfl, ?_⟩) (by assumption) ?_
            rotate_left
            · intro w' hSw; (try dsimp only at hSw); go_simp; (try with_reducible rfl)
            simp only [Act.put, List.setIfInBounds_toArray, List.set_cons_zero, List.set_cons_succ]
            refine wpAnyH_take (i := 5) (oi := _) (v := ?_) rfl (by kernel_rfl) (by kernel_rfl) (by kernel_rfl) (fun _ _ _ h => h) (Or.inl ⟨by rfl, ?_⟩) (by assumption) ?_
            rotate_left
            · intro w' hSw; (try dsimp only at hSw); go_simp; (try with_reducible rfl)
            simp only [Act.put, List.setIfInBounds_toArray, List.set_cons_zero, List.set_cons_succ]
            refine wpAnyH_take (i := 6) (oi := _) (v := ?_) rfl (by kernel_rfl) (by kernel_rfl) (by kernel_rfl) (fun _ _ _ h => h) (Or.inl ⟨by rfl, ?_⟩) (by assumption) ?_
            rotate_left
            · intro w' hSw; (try dsimp only at hSw); go_simp; (try with_reducible rfl)
            simp only [Act.put, List.setIfInBounds_toArray, List.set_cons_zero, List.set_cons_succ]
            refine wpAnyH_ready (rs := [7]) (by kernel_rfl) (by simp) ?_
            refine AllReadyH.cons rfl (fun K hK => ?_) ?_
            · go_simp
              refine hK.out _ _ ?_ (fun hHeld => ?_)
              · (try dsimp only); (repeat' (first | with_reducible assumption | with_reducible exact Below.refl _ _ | with_reducible apply Below.drew | with_reducible refine Below.alloc ?_ ?_ _ | (have := b4.size; simp; omega) | (simp; omega) | simp))
              clear hK K
              refine wpAnyH_ready (rs := [8]) (by kernel_rfl) (by simp) ?_
              refine AllReadyH.cons rfl (fun K hK => ?_) ?_
              · go_simp
                refine hK.out _ _ ?_ (fun hHeld => ?_)
                · (try dsimp only); (repeat' (first | with_reducible assumption | with_reducible exact Below.refl _ _ | with_reducible apply Below.drew | with_reducible refine Below.alloc ?_ ?_ _ | (have := b4.size; simp; omega) | (simp; omega) | simp))
                clear hK K
                refine wpAnyH_done (by kernel_rfl) ?_ _
                refine NoPanic.normal ?_
                go_wp2
                go_meet
                case rel => exact ⟨rfl, b5⟩
              exact AllReadyH.nil
            exact AllReadyH.nil
          exact AllReadyH.nil
        exact AllReadyH.nil
      refine AllReadyH.cons rfl (fun K hK => ?_) ?_
      · go_simp
        refine hK.out _ _ ?_ (fun hHeld => ?_)
        · (try dsimp only); (repeat' (first | with_reducible assumption | with_reducible exact Below.refl _ _ | with_reducible apply Below.drew | with_reducible refine Below.alloc ?_ ?_ _ | (have := b4.size; simp; omega) | (simp; omega) | simp))
        clear hK K
        refine wpAnyH_ready (rs := [0]) (by kernel_rfl) (by simp) ?_
        refine AllReadyH.cons rfl (fun K hK => ?_) ?_
        · go_simp
          refine (KP.out _).mono ?_
          rintro e w4 ⟨p1, c1, p2, c2, rfl, G1, B1⟩
          have b4 : Below w2.heap.size w2 w4 := ((bel1 w2 _).drew).trans (B1.out.mono (by simp))
          have cv2 := conv_zeros (n := 33) (hpBel B1.out (hpDrew (hpNew (w := w2) (o := bysZ 33) rfl)))
          try go_simp
          refine hK.out _ _ ?_ (fun hHeld => ?_)
          · (try dsimp only); (repeat' (first | with_reducible assumption | with_reducible exact Below.refl _ _ | with_reducible apply Below.drew | with_reducible refine Below.alloc ?_ ?_ _ | (have := b4.size; simp; omega) | (simp; omega) | simp))
          clear hK K
          refine wpAnyH_ready (rs := [3]) (by kernel_rfl) (by simp) ?_
          refine AllReadyH.cons rfl (fun K hK => ?_) ?_
          · go_simp
            refine (K2.out _ _ _).mono ?_
            rintro e w5 ⟨rfl, B5⟩
            have b5 : Below w2.heap.size w2 w5 := (show Below w2.heap.size w2 _ from by (repeat' (first | with_reducible assumption | with_reducible exact Below.refl _ _ | with_reducible apply Below.drew | with_reducible refine Below.alloc ?_ ?_ _ | (have := b4.size; simp; omega) | (simp; omega) | simp))).trans (B5.out.mono (by have := b4.size; simp; try omega))
            try go_simp
            refine hK.out _ _ ?_ (fun hHeld => ?_)
            · (try dsimp only); (repeat' (first | with_reducible assumption | with_reducible exact Below.refl _ _ | with_reducible apply Below.drew | with_reducible refine Below.alloc ?_ ?_ _ | (have := b4.size; simp; omega) | (simp; omega) | simp))
            clear hK K
            refine wpAnyH_take (i := 4) (oi := _) (v := ?_) rfl (by kernel_rfl) (by kernel_rfl) (by kernel_rfl) (fun _ _ _ h => h) (Or.inl ⟨by rfl, ?_⟩) (by assumption) ?_
            rotate_left
            · intro w' hSw; (try dsimp only at hSw); go_simp; (try with_reducible rfl)
            simp only [Act.put, List.setIfInBounds_toArray, List.set_cons_zero, List.set_cons_succ]
            refine wpAnyH_take (i := 5) (oi := _) (v := ?_) rfl (by kernel_rfl) (by kernel_rfl) (by kernel_rfl) (fun _ _ _ h => h) (Or.inl ⟨by rfl, ?_⟩) (by assumption) ?_
            rotate_left
            · intro w' hSw; (try dsimp only at hSw); go_simp; (try with_reducible rfl)
            simp only [Act.put, List.setIfInBounds_toArray, List.set_cons_zero, List.set_cons_succ]
            refine wpAnyH_take (i := 6) (oi := _) (v := ?_) rfl (by kernel_rfl) (by kernel_rfl) (by kernel_rfl) (fun _ _ _ h => h) (Or.inl ⟨by rfl, ?_⟩) (by assumption) ?_
            rotate_left
            · intro w' hSw; (try dsimp only at hSw); go_simp; (try with_reducible rfl)
            simp only [Act.put, List.setIfInBounds_toArray, List.set_cons_zero, List.set_cons_succ]
            refine wpAnyH_ready (rs := [7]) (by kernel_rfl) (by simp) ?_
            refine AllReadyH.cons rfl (fun K hK => ?_) ?_
            · go_simp
              refine hK.out _ _ ?_ (fun hHeld => ?_)
              · (try dsimp only); (repeat' (first | with_reducible assumption | with_reducible exact Below.refl _ _ | with_reducible apply Below.drew | with_reducible refine Below.alloc ?_ ?_ _ | (have := b4.size; simp; omega) | (simp; omega) | simp))
              clear hK K
              refine wpAnyH_ready (rs := [8]) (by kernel_rfl) (by simp) ?_
              refine AllReadyH.cons rfl (fun K hK => ?_) ?_
              · go_simp
                refine hK.out _ _ ?_ (fun hHeld => ?_)
                · (try dsimp only); (repeat' (first | with_reducible assumption | with_reducible exact Below.refl _ _ | with_reducible apply Below.drew | with_reducible refine Below.alloc ?_ ?_ _ | (have := b4.size; simp; omega) | (simp; omega) | simp))
                clear hK K
                refine wpAnyH_done (by kernel_rfl) ?_ _
                refine NoPanic.normal ?_
                go_wp2
                go_meet
                case rel => exact ⟨rfl, b5⟩
              exact AllReadyH.nil
            exact AllReadyH.nil
          exact AllReadyH.nil
        exact AllReadyH.nil
      exact AllReadyH.nil
    exact AllReadyH.nil
  case rest =>
    obtain ⟨rfl, HB3⟩ := hcut
    obtain ⟨w3, hw3⟩ : ∃ w3, w3 = wc := ⟨_, rfl⟩
    subst hw3
    clear mk cv1 cv3 K2 KP
    have HF : Hid (∀ w', Below w3.heap.size w3 w' → Below w.heap.size w w') := fun w' hb => HB2.out.trans ((HB3.out.trans (hb.mono HB3.out.size)).mono HB2.out.size)
    go_wp2_with (first
      | (go_at_call 16; first | (have hh := B7; clear hh; refine (Q1.out _ _ _ _ B7.out).mono ?_; rintro e wn ⟨rfl, rfl⟩) | (refine (Q1.out _ _ _ _ HB3.out).mono ?_; rintro e wn ⟨rfl, rfl⟩))
      | (go_at_call 19; refine (Q2.out _ _ _ _ HB3.out).mono ?_; rintro e wn ⟨rfl, rfl⟩)
      | (go_at_call 24; refine (Q3.out _ HB3.out).mono ?_; rintro e w6 ⟨rfl, B6⟩; have B6' : Hid (Below w2.heap.size w2 w6) := HB3.out.trans (B6.out.mono HB3.out.size))
      | (go_at_call 25; refine (Q4.out _ B6'.out).mono ?_; rintro e w7 ⟨rfl, B7'⟩; have B7 : Hid (Below w2.heap.size w2 w7) := B6'.out.trans (B7'.out.mono B6'.out.size))
      | (go_at_call 15; refine (num_any _ _).mono ?_; rintro e wn ⟨rfl, rfl⟩))
    have HE : Hid (Below w.heap.size w w7) := HB2.out.trans (B7.out.mono HB2.out.size)
    go_ret
    exact ⟨rfl, HE⟩
end Go.Proofs.YtfjejnkjlnkkhaaGreatDoor
