/- Reading numbers off a text: take of each width. -/
import Derived.Test.YtgeajdfajfdjcaaPkV
import Derived.Test.YtgeajdfajfdjcaaPkG
import Derived.Deep.RegionHeld3
import Derived.Deep.CutRange
import Derived.BigQuiet
import Derived.Deep.QuietTactic
namespace Go.Proofs.Ytgeajdfajfdjcaa
set_option linter.unusedVariables false
set_option linter.unusedSimpArgs false
open Go.ChangeShapes Go.WideShapes Go.ChangeAt Go.RowKit

theorem Hid.intro' {p : Prop} (h : p) : Hid p := h
/-- The reader at block rb stands before the bytes l. -/
def RdAt (w : World) (rb : Nat) (l : List UInt8) : Prop := w.heap[rb]? = some (.cells #[.string ⟨l.toArray⟩] 71)
abbrev adr (p : Nat × Nat) : Addr := ⟨p.1, p.2, none⟩
def ptV (ads : List (Nat × Nat)) : List Value := ads.map fun p => .pointer (some (adr p))
def setAll : World → List (Nat × Nat) → List Int → World
  | w, a :: ads, v :: vs => setAll (w.setCell (adr a) (.int .i64 v)) ads vs
  | w, _, _ => w
theorem setAll_snoc : ∀ (ads : List (Nat × Nat)) (vs : List Int) (w : World) (a : Nat × Nat) (v : Int), ads.length = vs.length → setAll w (ads ++ [a]) (vs ++ [v]) = (setAll w ads vs).setCell (adr a) (.int .i64 v)
  | [], [], w, a, v, _ => rfl
  | [], _ :: _, _, _, _, h => by simp at h
  | _ :: _, [], _, _, _, h => by simp at h
  | b :: ads, x :: vs, w, a, v, h => setAll_snoc ads vs (w.setCell (adr b) (.int .i64 x)) a v (by simpa using h)
theorem setAll_size : ∀ (ads : List (Nat × Nat)) (vs : List Int) (w : World), (setAll w ads vs).heap.size = w.heap.size
  | [], vs, w => by cases vs <;> rfl
  | _ :: _, [], w => rfl
  | b :: ads, x :: vs, w => by
    show (setAll (w.setCell (adr b) (.int .i64 x)) ads vs).heap.size = _
    rw [setAll_size ads vs]; simp [World.setCell]
theorem setAll_io : ∀ (ads : List (Nat × Nat)) (vs : List Int) (w : World), (setAll w ads vs).os = w.os ∧ (setAll w ads vs).tape = w.tape ∧ (setAll w ads vs).output = w.output
  | [], vs, w => by cases vs <;> exact ⟨rfl, rfl, rfl⟩
  | _ :: _, [], w => ⟨rfl, rfl, rfl⟩
  | b :: ads, x :: vs, w => setAll_io ads vs (w.setCell (adr b) (.int .i64 x))
theorem setAll_blk : ∀ (ads : List (Nat × Nat)) (vs : List Int) (w : World) (i : Nat), (∀ a ∈ ads, a.1 ≠ i) → (setAll w ads vs).heap[i]? = w.heap[i]?
  | [], vs, w, i, h => by cases vs <;> rfl
  | _ :: _, [], w, i, h => rfl
  | b :: ads, x :: vs, w, i, h => by
    show (setAll (w.setCell (adr b) (.int .i64 x)) ads vs).heap[i]? = _
    rw [setAll_blk ads vs _ i (fun a ha => h a (List.mem_cons_of_mem _ ha))]
    exact Go.Deep.blk_setCell_other w (adr b) _ i (Ne.symm (h b (List.mem_cons_self ..)))
/-- A cell that may be written. -/
def Tgt (w : World) (rb : Nat) (a : Nat × Nat) : Prop := a.1 ≠ rb ∧ ∃ arr t, w.heap[a.1]? = some (.cells arr t) ∧ a.2 < arr.size
theorem heap_setCell_is {w : World} {b k : Nat} {arr : Array Value} {t : TypeId} (h : w.heap[b]? = some (.cells arr t)) (x : Value) : (w.setCell ⟨b, k, none⟩ x).heap[b]? = some (.cells (arr.setIfInBounds k x) t) := by
  simp [World.setCell, Array.getElem?_modify, h]
theorem Tgt.set {w : World} {rb : Nat} {a : Nat × Nat} (h : Tgt w rb a) (b : Nat × Nat) (x : Value) : Tgt (w.setCell (adr b) x) rb a := by
  obtain ⟨h1, arr, t, h2, h3⟩ := h
  by_cases e : a.1 = b.1
  · refine ⟨h1, arr.setIfInBounds b.2 x, t, ?_, by simp; exact h3⟩
    have := heap_setCell_is (k := b.2) h2 x
    rw [e] at this ⊢; exact this
  · exact ⟨h1, arr, t, (Go.Deep.blk_setCell_other w (adr b) x a.1 e).trans h2, h3⟩
theorem Tgt.setAll : ∀ (ads : List (Nat × Nat)) (vs : List Int) {w : World} {rb : Nat} {a : Nat × Nat}, Tgt w rb a → Tgt (setAll w ads vs) rb a
  | [], vs, w, rb, a, h => by cases vs <;> exact h
  | _ :: _, [], w, rb, a, h => h
  | b :: ads, x :: vs, w, rb, a, h => Tgt.setAll ads vs (h.set b (.int .i64 x))
theorem Tgt.below {w w' : World} {rb : Nat} {a : Nat × Nat} (h : Tgt w rb a) {n : Nat} (hb : Below n w w') (hn : a.1 < n) : Tgt w' rb a := by
  obtain ⟨h1, arr, t, h2, h3⟩ := h
  exact ⟨h1, arr, t, (hb.block _ hn).trans h2, h3⟩
theorem Tgt.lt {w : World} {rb : Nat} {a : Nat × Nat} (h : Tgt w rb a) : a.1 < w.heap.size := by
  obtain ⟨h1, arr, t, h2, h3⟩ := h
  exact heap_lt h2
theorem RdAt.set {w : World} {rb : Nat} {l : List UInt8} (h : RdAt w rb l) (r : List UInt8) : RdAt (w.setCell ⟨rb, 0, none⟩ (.string ⟨r.toArray⟩)) rb r := by
  unfold RdAt at *
  rw [heap_setCell_is h]; rfl
/-- All stays but the reader and what it writes to. -/
structure Oth (w : World) (rb : Nat) (ads : List (Nat × Nat)) (w' : World) : Prop where
  os : w'.os = w.os
  tape : w'.tape = w.tape
  output : w'.output = w.output
  size : w.heap.size ≤ w'.heap.size
  block : ∀ i, i < w.heap.size → i ≠ rb → (∀ a ∈ ads, a.1 ≠ i) → w'.heap[i]? = w.heap[i]?
theorem Oth.of {W w' : World} {rb : Nat} {ads : List (Nat × Nat)} (k : Nat) (vs : List Int) (x : Value) (h : Below W.heap.size ((setAll W (ads.take k) vs).setCell ⟨rb, 0, none⟩ x) w') : Oth W rb ads w' := by
  have hio := setAll_io (ads.take k) vs W
  refine ⟨h.os.trans hio.1, h.tape.trans hio.2.1, h.output.trans hio.2.2, ?_, fun i hi hr ha => ?_⟩
  · have := h.size
    have e : ((setAll W (ads.take k) vs).setCell ⟨rb, 0, none⟩ x).heap.size = W.heap.size := by simp [World.setCell, setAll_size]
    omega
  · rw [h.block i hi, Go.Deep.blk_setCell_other _ ⟨rb, 0, none⟩ x i hr]
    exact setAll_blk _ _ _ _ (fun a h => ha a (List.mem_of_mem_take h))
/-- What a taking leaves. -/
def TakeEnd (k : Nat) (W : World) (rb : Nat) (l : List UInt8) (ads : List (Nat × Nat)) (e : Ending) (w' : World) : Prop := ∃ ok, e = .returned (.bool ok) ∧ Hid (Oth W rb ads w') ∧ Hid (match manyR (numR k) ads.length l with
  | some (vs, l') => ok = true ∧ vs.length = ads.length ∧ Below W.heap.size ((setAll W ads vs).setCell ⟨rb, 0, none⟩ (.string ⟨l'.toArray⟩)) w'
  | none => ok = false)
theorem below_step {n : Nat} {S Z : World} {rb : Nat} {a : Nat × Nat} {l r r' : List UInt8} {v : Int} (hS : RdAt S rb l) (hab : a.1 ≠ rb) (h : Below n (S.setCell ⟨rb, 0, none⟩ (.string ⟨r.toArray⟩)) Z) (hrb : rb < n) :
    Below n ((S.setCell (adr a) (.int .i64 v)).setCell ⟨rb, 0, none⟩ (.string ⟨r'.toArray⟩)) ((Z.setCell (adr a) (.int .i64 v)).setCell ⟨rb, 0, none⟩ (.string ⟨r'.toArray⟩)) := by
  have hs : (S.setCell ⟨rb, 0, none⟩ (.string ⟨r.toArray⟩)).heap.size = S.heap.size := by simp [World.setCell]
  have hZ : RdAt Z rb r := (h.block rb hrb).trans (hS.set r)
  refine ⟨h.os, h.tape, h.output, ?_, fun i hi => ?_⟩
  · have := h.size
    simp [World.setCell] at *; omega
  · by_cases e : i = rb
    · subst e
      have h1 : RdAt (S.setCell (adr a) (.int .i64 v)) i l := (Go.Deep.blk_setCell_other S (adr a) _ i (Ne.symm hab)).trans hS
      have h2 : RdAt (Z.setCell (adr a) (.int .i64 v)) i r := (Go.Deep.blk_setCell_other Z (adr a) _ i (Ne.symm hab)).trans hZ
      exact (h2.set r').trans (h1.set r').symm
    · rw [Go.Deep.blk_setCell_other _ ⟨rb, 0, none⟩ _ i e, Go.Deep.blk_setCell_other _ ⟨rb, 0, none⟩ _ i e]
      have h3 : Z.heap[i]? = S.heap[i]? := (h.block i hi).trans (Go.Deep.blk_setCell_other _ ⟨rb, 0, none⟩ _ i e)
      by_cases e2 : i = a.1
      · subst e2
        simp only [World.setCell, Array.getElem?_modify, h3]
      · rw [Go.Deep.blk_setCell_other _ (adr a) _ i e2, Go.Deep.blk_setCell_other _ (adr a) _ i e2, h3]
theorem start_step {W : World} {rb : Nat} {l : List UInt8} (h : RdAt W rb l) : W.heap[rb]? = (W.setCell ⟨rb, 0, none⟩ (.string ⟨l.toArray⟩)).heap[rb]? := h.trans (h.set l).symm
set_option maxHeartbeats 8000000 in
set_option maxRecDepth 100000 in
theorem take_u8 (W : World) (rb : Nat) (l : List UInt8) (ads : List (Nat × Nat)) (v : Value) {G : Nat → Prop} (hr : RdAt W rb l) (hv : Reads W G v ads.length (ptV ads)) (ha : ∀ a ∈ ads, Tgt W rb a) (hG : ∀ g, G g → g ≠ rb ∧ ∀ a ∈ ads, a.1 ≠ g) (hl : l.length ≤ 1048576) :
    Calls Try.prog 51 #[.pointer (some ⟨rb, 0, none⟩), v] W fun e w' => TakeEnd 1 W rb l ads e w' := by
  obtain ⟨p, c, rfl⟩ := hv.slcP
  have HR : Hid (RdAt W rb l) := hr
  have HV : Hid (Reads W G (.slice p ads.length c) ads.length (ptV ads)) := hv
  have HT : Hid (∀ a ∈ ads, Tgt W rb a) := ha
  have HG : Hid (∀ g, G g → g ≠ rb ∧ ∀ a ∈ ads, a.1 ≠ g) := hG
  have hrb : rb < W.heap.size := heap_lt hr
  have hnm : (ads.length : Int) ≤ 9223372036854775807 := by
    obtain ⟨_, _, _, h, _⟩ := hv
    have := h.1
    unfold maxLen at this; omega
  clear hr hv ha hG
  go_enter Try.func51, Try.ntmps51
  go_wp2
  go_loopw [12] (fun x wr => ∃ (i : Nat) (vs : List Int) (r : List UInt8), i ≤ ads.length ∧ x = .int .i64 i ∧ Hid (vs.length = i ∧ manyR (numR 1) ads.length l = fromR (numR 1) vs (ads.length - i) r ∧ r.length ≤ l.length ∧ Below W.heap.size ((setAll W (ads.take i) vs).setCell ⟨rb, 0, none⟩ (.string ⟨r.toArray⟩)) wr)) (fun x _ => ads.length - (intOf x).toNat)
  case atStart =>
    refine ⟨0, [], l, by omega, rfl, rfl, by rw [fromR_nil]; rfl, Nat.le_refl _, ?_⟩
    show Below W.heap.size ((setAll W [] []).setCell ⟨rb, 0, none⟩ (.string ⟨l.toArray⟩)) W
    refine ⟨rfl, rfl, rfl, by simp [World.setCell, setAll], fun i hi => ?_⟩
    by_cases e : i = rb
    · subst e; exact start_step HR.out
    · exact (Go.Deep.blk_setCell_other W ⟨rb, 0, none⟩ _ i e).symm
  case round =>
    obtain ⟨i, vs, r, hi, rfl, HI⟩ := hrel
    by_cases hlt : i < ads.length
    · obtain ⟨a, ha⟩ : ∃ a, ads[i]? = some a := ⟨_, List.getElem?_eq_getElem hlt⟩
      have hlI : (i : Int) < (ads.length : Int) := by omega
      have HAT : Hid (ads[i]? = some a) := ha
      have hmem : a ∈ ads := List.mem_of_getElem? ha
      have HTA : Hid (Tgt wr rb a) := by
        have h1 := HT.out a hmem
        have h2 : Tgt ((setAll W (ads.take i) vs).setCell ⟨rb, 0, none⟩ (.string ⟨r.toArray⟩)) rb a := (Tgt.setAll (ads.take i) vs h1).set (rb, 0) _
        exact h2.below HI.out.2.2.2 h1.lt
      have HRD : Hid (RdAt wr rb r) := by
        have h1 : RdAt (setAll W (ads.take i) vs) rb l := (setAll_blk _ _ _ _ (fun b hb => (HT.out b (List.mem_of_mem_take hb)).1)).trans HR.out
        exact (HI.out.2.2.2.block rb hrb).trans (h1.set r)
      obtain ⟨g, o, hp, q0⟩ : ∃ g o, p = some ⟨g, o, none⟩ ∧ wr.cell? ⟨g, o + i, none⟩ = some (.pointer (some (adr a))) := by
        obtain ⟨p2, c2, e2, _, hc⟩ := HV.out
        injection e2 with e3
        obtain ⟨g, o, e4, hg, hgl, hx, _⟩ := hc (by omega)
        refine ⟨g, o, e3.trans e4, ?_⟩
        have h1 := hx i (.pointer (some (adr a))) (by unfold ptV; rw [List.getElem?_map, ha]; rfl)
        have h2 := HG.out g hg
        have h3 : wr.heap[g]? = W.heap[g]? := by
          rw [HI.out.2.2.2.block g hgl, Go.Deep.blk_setCell_other _ ⟨rb, 0, none⟩ _ g h2.1]
          exact setAll_blk _ _ _ _ (fun b hb => h2.2 b (List.mem_of_mem_take hb))
        exact (World.cell?_of_block (a := ⟨g, o + i, none⟩) h3).trans h1
      subst hp
      clear ha hmem
      have c00 : wr.cell? ⟨rb, 0, none⟩ = some (.string ⟨r.toArray⟩) := Lib.cell_of_heap HRD.out 0
      obtain ⟨s, hs⟩ : ∃ s : ByteArray, s = ⟨r.toArray⟩ := ⟨_, rfl⟩
      rw [← hs] at c00
      have hsz : s.size = r.length := by rw [hs]; simp [ByteArray.size]
      have HS : Hid (s = ⟨r.toArray⟩) := hs
      have hszI : ((s.size : Nat) : Int) = (r.length : Int) := by omega
      have hr20 : r.length ≤ 1048576 := by have := HI.out.2.2.1; omega
      clear hs
      by_cases hlong : 1 ≤ r.length
      · have hlongI : ¬ (r.length : Int) < 1 := by omega
        have hlong2 : (1 : Int) ≤ (r.length : Int) := by omega
        go_wp2
        go_quiet ((go_at_call 58; refine Calls.quiet_of_same (width_u8 _)))
        go_wp2
        go_upto_region 7 with fail
        obtain ⟨V, hV⟩ : ∃ V, V = wr.drewN nq := ⟨_, rfl⟩
        have VB : Hid (Below wr.heap.size wr V) := by rw [hV]; exact ⟨rfl, rfl, rfl, Nat.le_refl _, fun _ _ => rfl⟩
        rw [← hV]
        have c1 : V.drew.cell? ⟨rb, 0, none⟩ = some (.string s) := by rw [hV]; exact c00
        clear hV
        obtain ⟨V2, cp, hcv, hVB, hVC⟩ := take_conv (V := V.drew) HS.out hlong
        have c2 : V2.cell? ⟨rb, 0, none⟩ = some (.string s) := (hVB.out.cell (p := ⟨rb, 0, none⟩) (cell_lt c1)).trans c1
        have hvb : ∀ j, j ≤ 1 → valB (r.take j) < 256 ^ j ∧ 0 ≤ valB (r.take j) := fun j hj => by
          have := valB_range (r.take j)
          rw [List.length_take, Nat.min_eq_left (by omega)] at this
          exact ⟨this.2, this.1⟩
        have HVB2 : Hid (Below wr.heap.size wr V2 ∧ ∀ j, j ≤ 1 → valB (r.take j) < 256 ^ j ∧ 0 ≤ valB (r.take j)) := ⟨VB.out.drew.trans (hVB.out.mono VB.out.size), hvb⟩
        clear hvb
        go_cut [29, 30, 31] from 23 to 31 (fun x y z wc => x = .slice (some ⟨V.heap.size, 0, none⟩) 1 cp ∧ y = .int .i64 1 ∧ z = .int .i64 0 ∧ Hid (wc = V2))
        case first =>
          refine wp_region_noPanic ?_
          refine wp_region_held_drew (S := fun w' => w'.cell? ⟨rb, 0, none⟩ = some (.string s)) (by kernel_rfl) ?_ (fun hHeld => ?_)
          · (try dsimp only); exact c1
          refine take_d (i := 0) (oi := _) (v := ?_) (d := some 23) rfl (by kernel_rfl) (by kernel_rfl) (by kernel_rfl) (fun _ _ _ h => h) (Or.inl ⟨by kernel_rfl, ?_⟩) hHeld rfl ?_
          rotate_left
          · intro w' hSw; (try dsimp only at hSw); go_simp; (try with_reducible rfl)
          simp only [Act.put, List.setIfInBounds_toArray, List.append, List.set_cons_zero, List.set_cons_succ]
          refine take_d (i := 1) (oi := _) (v := ?_) (d := some 24) rfl (by kernel_rfl) (by kernel_rfl) (by kernel_rfl) (fun _ _ _ h => h) (Or.inl ⟨by kernel_rfl, ?_⟩) hHeld rfl ?_
          rotate_left
          · intro w' hSw; (try dsimp only at hSw); go_simp; (try with_reducible rfl)
          simp only [Act.put, List.setIfInBounds_toArray, List.append, List.set_cons_zero, List.set_cons_succ]
          refine take_d (i := 2) (oi := _) (v := ?_) (d := some 25) rfl (by kernel_rfl) (by kernel_rfl) (by kernel_rfl) (fun _ _ _ h => h) (Or.inl ⟨by kernel_rfl, ?_⟩) hHeld rfl ?_
          rotate_left
          · intro w' hSw; (try dsimp only at hSw); go_simp; (try with_reducible rfl)
          simp only [Act.put, List.setIfInBounds_toArray, List.append, List.set_cons_zero, List.set_cons_succ]
          refine take_d (i := 3) (oi := _) (v := ?_) (d := some 26) rfl (by kernel_rfl) (by kernel_rfl) (by kernel_rfl) (fun _ _ _ h => h) (Or.inl ⟨by kernel_rfl, ?_⟩) hHeld rfl ?_
          rotate_left
          · intro w' hSw; (try dsimp only at hSw); go_simp; (try with_reducible rfl)
          simp only [Act.put, List.setIfInBounds_toArray, List.append, List.set_cons_zero, List.set_cons_succ]
          refine take_d (i := 8) (oi := _) (v := ?_) (d := some 31) rfl (by kernel_rfl) (by kernel_rfl) (by kernel_rfl) (fun _ _ _ h => h) (Or.inl ⟨by kernel_rfl, ?_⟩) hHeld rfl ?_
          rotate_left
          · intro w' hSw; (try dsimp only at hSw); go_simp; (try with_reducible rfl)
          simp only [Act.put, List.setIfInBounds_toArray, List.append, List.set_cons_zero, List.set_cons_succ]
          refine wpAnyH_ready (rs := [4]) (by kernel_rfl) (by simp) ?_
          refine AllReadyH.cons rfl (fun K hK => ?_) ?_
          · (go_simp; refine (width_u8 _).mono ?_; rintro e wz ⟨e0, rfl⟩; subst e0)
            refine hK.out _ _ ?_ (fun hHeld => ?_)
            · (try dsimp only); exact hHeld
            clear hK K
            (try simp only [Act.put, List.setIfInBounds_toArray, List.append, List.set_cons_zero, List.set_cons_succ])
            refine take_d (i := 5) (oi := _) (v := ?_) (d := some 28) rfl (by kernel_rfl) (by kernel_rfl) (by kernel_rfl) (fun _ _ _ h => h) (Or.inl ⟨by kernel_rfl, ?_⟩) hHeld rfl ?_
            rotate_left
            · intro w' hSw; (try dsimp only at hSw); go_simp; (try with_reducible rfl)
            simp only [Act.put, List.setIfInBounds_toArray, List.append, List.set_cons_zero, List.set_cons_succ]
            refine wpAnyH_ready (rs := [6]) (by kernel_rfl) (by simp) ?_
            refine AllReadyH.cons rfl (fun K hK => ?_) ?_
            · go_simp
              refine hK.out _ _ ?_ (fun hHeld => ?_)
              · (try dsimp only); exact c2
              clear hK K
              (try simp only [Act.put, List.setIfInBounds_toArray, List.append, List.set_cons_zero, List.set_cons_succ])
              refine take_d (i := 7) (oi := _) (v := ?_) (d := some 30) rfl (by kernel_rfl) (by kernel_rfl) (by kernel_rfl) (fun _ _ _ h => h) (Or.inl ⟨by kernel_rfl, ?_⟩) hHeld rfl ?_
              rotate_left
              · intro w' hSw; (try dsimp only at hSw); go_simp; (try with_reducible rfl)
              simp only [Act.put, List.setIfInBounds_toArray, List.append, List.set_cons_zero, List.set_cons_succ]
              refine wpAnyH_done (by kernel_rfl) ?_ _
              refine NoPanic.normal ?_
              go_wp2
              go_meet
              case rel => exact ⟨rfl, rfl, rfl, Hid.intro' rfl⟩
            exact AllReadyH.nil
          exact AllReadyH.nil
        case rest =>
          obtain ⟨rfl, rfl, rfl, hwc⟩ := hcut
          have hwc : wc = V2 := hwc.out
          subst hwc
          clear hcv c1 c2
          obtain ⟨vb, hvb⟩ : ∃ vb, vb = V.heap.size := ⟨_, rfl⟩
          have HVC : Hid (∀ j, j < 1 → ∃ b : UInt8, r[j]? = some b ∧ wc.cell? ⟨vb, j, none⟩ = some (.int .u8 (b.toNat : Int))) := by rw [hvb]; exact hVC.out
          rw [← hvb]
          clear hVC hvb hVB VB
          go_wp2
          go_loopw [31, 7] (fun y val wq => ∃ j : Nat, j ≤ 1 ∧ y = .int .i64 j ∧ val = .int .i64 (valB (r.take j)) ∧ Hid (wq = wc)) (fun y _ _ => 1 - (intOf y).toNat)
          case atStart => exact ⟨0, by omega, rfl, rfl, rfl⟩
          case round =>
            obtain ⟨j, hj, rfl, rfl, hwq⟩ := hrel
            have hwq := hwq.out
            subst hwq
            by_cases hjl : j < 1
            · obtain ⟨b, hb, d0⟩ := HVC.out j hjl
              have HB : Hid (r[j]? = some b) := hb
              have hbt : b.toNat < 256 := b.toNat_lt
              obtain ⟨m1, m2⟩ := HVB2.out.2 j hj
              have m3 : valB (r.take j) < 16777216 := by
                obtain rfl : j = 0 := by omega
                all_goals (simp only [Int.reducePow] at m1; omega)
              obtain ⟨vj, hvj⟩ : ∃ vj, vj = valB (r.take j) := ⟨_, rfl⟩
              have HVJ : Hid (vj = valB (r.take j)) := hvj
              rw [← hvj] at m2 m3 ⊢
              clear hb m1 hvj
              have hjI : (j : Int) < 1 := by omega
              have hor : bits .or .i64 (vj * 256) ((b.toNat : Nat) : Int) = vj * 256 + ((b.toNat : Nat) : Int) := by
                obtain ⟨vn, rfl⟩ : ∃ vn : Nat, vj = (vn : Int) := ⟨vj.toNat, by omega⟩
                exact or_shift vn b (by omega)
              go_wp2
              go_roundw
              case rel =>
                refine ⟨j + 1, by omega, by go_num, ?_, by first | exact rfl | exact (trivial : True)⟩
                rw [List.take_add_one, HB.out]
                simp only [Option.toList_some, valB_snoc, ← HVJ.out]
              case measure => simp [intOf]; omega
            · obtain rfl : j = 1 := by omega
              have HRV : Hid (numR 1 r = some (valB (r.take 1), r.drop 1)) := by
                show numR 1 r = _
                unfold numR; rw [if_neg (by omega)]
              obtain ⟨vv, hvv⟩ : ∃ vv, vv = valB (r.take 1) := ⟨_, rfl⟩
              rw [← hvv]
              have HVV : Hid (vv = valB (r.take 1)) := hvv
              clear hvv HVC
              have HTQ : Hid (Tgt wr rb a) := HTA.out.below HVB2.out.1 HTA.out.lt
              have hab : a.1 ≠ rb := HTA.out.1
              obtain ⟨arr, ta, ha1, ha2⟩ := HTQ.out.2
              obtain ⟨x9, x0⟩ : ∃ x, wr.cell? (adr a) = some x := ⟨arr[a.2], by
                have := Lib.cell_of_heap ha1 a.2
                rw [this]; simp [ha2]⟩
              have z0 : wr.frozen? (adr a) = false := Lib.frozen_of_heap ha1 a.2
              have hrq : RdAt wr rb r := (HVB2.out.1.block rb (heap_lt HRD.out)).trans HRD.out
              have HRQ : Hid (RdAt (wr.setCell (adr a) (.int .i64 vv)) rb r) := (Go.Deep.blk_setCell_other wr (adr a) _ rb (Ne.symm hab)).trans hrq
              have y0 : (wr.setCell (adr a) (.int .i64 vv)).cell? ⟨rb, 0, none⟩ = some (.string s) := by
                rw [HS.out]; exact Lib.cell_of_heap HRQ.out 0
              have y1 : (wr.setCell (adr a) (.int .i64 vv)).frozen? ⟨rb, 0, none⟩ = false := Lib.frozen_of_heap HRQ.out 0
              clear ha1 ha2 hrq
              have HEX : Hid (s.extract 1 r.length = ⟨(r.drop 1).toArray⟩) := by
                show s.extract 1 r.length = _
                rw [HS.out]; exact ext_back r 1
              go_upto_region 13 with fail
              obtain ⟨Y0, hY0⟩ : ∃ Y, Y = wr.setCell (adr a) (.int .i64 vv) := ⟨_, rfl⟩
              rw [← hY0] at y0 y1 HRQ ⊢
              have HY0 : Hid (Y0 = wr.setCell (adr a) (.int .i64 vv)) := hY0
              clear hY0 x0 z0
              have HREL : Hid (∀ Z, Below Y0.heap.size (Y0.setCell ⟨rb, 0, none⟩ (.string ⟨(r.drop 1).toArray⟩)) Z → ((vs ++ [vv]).length = i + 1 ∧ manyR (numR 1) ads.length l = fromR (numR 1) (vs ++ [vv]) (ads.length - (i + 1)) (r.drop 1) ∧ (r.drop 1).length ≤ l.length ∧ Below W.heap.size ((setAll W (ads.take (i + 1)) (vs ++ [vv])).setCell ⟨rb, 0, none⟩ (.string ⟨(r.drop 1).toArray⟩)) Z)) := fun Z hZ => by
                refine ⟨by simp [HI.out.1], ?_, by have := HI.out.2.2.1; simp; omega, ?_⟩
                · rw [HI.out.2.1, show ads.length - i = (ads.length - (i + 1)) + 1 by omega, fromR_yes HRV.out, HVV.out]
                · rw [List.take_add_one, HAT.out]
                  simp only [Option.toList_some]
                  rw [setAll_snoc _ _ _ _ _ (by rw [List.length_take, HI.out.1]; omega)]
                  have hS : RdAt (setAll W (ads.take i) vs) rb l := (setAll_blk _ _ _ _ (fun b hb => (HT.out b (List.mem_of_mem_take hb)).1)).trans HR.out
                  have hsz1 := HI.out.2.2.2.size
                  have hsz2 : ((setAll W (ads.take i) vs).setCell ⟨rb, 0, none⟩ (.string ⟨r.toArray⟩)).heap.size = W.heap.size := by simp [World.setCell, setAll_size]
                  have h1 : Below W.heap.size ((setAll W (ads.take i) vs).setCell ⟨rb, 0, none⟩ (.string ⟨r.toArray⟩)) wr := HI.out.2.2.2.trans (HVB2.out.1.mono (by omega))
                  have h2 := below_step (v := vv) (r' := r.drop 1) hS hab h1 hrb
                  rw [← HY0.out] at h2
                  have hsz3 := HVB2.out.1.size
                  have hsz4 : Y0.heap.size = wr.heap.size := by rw [HY0.out]; simp [World.setCell]
                  exact h2.trans (hZ.mono (by omega))
              refine wp_region_noPanic ?_
              refine wp_region_held_drew (S := fun _ => True) (by kernel_rfl) trivial (fun hHeld => ?_)
              refine take_d (i := 0) (oi := _) (v := ?_) (d := some 44) rfl (by kernel_rfl) (by kernel_rfl) (by kernel_rfl) (fun _ _ _ h => h) (Or.inl ⟨by kernel_rfl, ?_⟩) hHeld rfl ?_
              rotate_left
              · intro w' hSw; (try dsimp only at hSw); go_simp; (try with_reducible rfl)
              simp only [Act.put, List.setIfInBounds_toArray, List.append, List.set_cons_zero, List.set_cons_succ]
              refine take_d (i := 1) (oi := _) (v := ?_) (d := some 45) rfl (by kernel_rfl) (by kernel_rfl) (by kernel_rfl) (fun _ _ _ h => h) (Or.inl ⟨by kernel_rfl, ?_⟩) hHeld rfl ?_
              rotate_left
              · intro w' hSw; (try dsimp only at hSw); go_simp; (try with_reducible rfl)
              simp only [Act.put, List.setIfInBounds_toArray, List.append, List.set_cons_zero, List.set_cons_succ]
              refine take_d (i := 2) (oi := _) (v := ?_) (d := some 46) rfl (by kernel_rfl) (by kernel_rfl) (by kernel_rfl) (fun _ _ _ h => h) (Or.inl ⟨by kernel_rfl, ?_⟩) hHeld rfl ?_
              rotate_left
              · intro w' hSw; (try dsimp only at hSw); go_simp; (try with_reducible rfl)
              simp only [Act.put, List.setIfInBounds_toArray, List.append, List.set_cons_zero, List.set_cons_succ]
              refine take_d (i := 3) (oi := _) (v := ?_) (d := some 47) rfl (by kernel_rfl) (by kernel_rfl) (by kernel_rfl) (fun _ _ _ h => h) (Or.inl ⟨by kernel_rfl, ?_⟩) hHeld rfl ?_
              rotate_left
              · intro w' hSw; (try dsimp only at hSw); go_simp; (try with_reducible rfl)
              simp only [Act.put, List.setIfInBounds_toArray, List.append, List.set_cons_zero, List.set_cons_succ]
              refine wpAnyH_ready (rs := [4, 5]) (by kernel_rfl) (by simp) ?_
              refine AllReadyH.cons rfl (fun K hK => ?_) ?_
              · go_simp
                refine hK.out _ _ ?_ (fun hHeld => ?_)
                · (try dsimp only); (first | done | trivial)
                clear hK K
                (try simp only [Act.put, List.setIfInBounds_toArray, List.append, List.set_cons_zero, List.set_cons_succ])
                refine wpAnyH_ready (rs := [5]) (by kernel_rfl) (by simp) ?_
                refine AllReadyH.cons rfl (fun K hK => ?_) ?_
                · (go_simp; refine (width_u8 _).mono ?_; rintro e wz ⟨e0, rfl⟩; subst e0)
                  refine hK.out _ _ ?_ (fun hHeld => ?_)
                  · (try dsimp only); (first | done | trivial)
                  clear hK K
                  (try simp only [Act.put, List.setIfInBounds_toArray, List.append, List.set_cons_zero, List.set_cons_succ])
                  refine take_d (i := 6) (oi := _) (v := ?_) (d := some 50) rfl (by kernel_rfl) (by kernel_rfl) (by kernel_rfl) (fun _ _ _ h => h) (Or.inl ⟨by kernel_rfl, ?_⟩) hHeld rfl ?_
                  rotate_left
                  · intro w' hSw; (try dsimp only at hSw); go_simp; (try with_reducible rfl)
                  simp only [Act.put, List.setIfInBounds_toArray, List.append, List.set_cons_zero, List.set_cons_succ]
                  refine take_d (i := 7) (oi := _) (v := ?_) (d := some 51) rfl (by kernel_rfl) (by kernel_rfl) (by kernel_rfl) (fun _ _ _ h => h) (Or.inl ⟨by kernel_rfl, ?_⟩) hHeld rfl ?_
                  rotate_left
                  · intro w' hSw; (try dsimp only at hSw); go_simp; (try with_reducible rfl)
                  simp only [Act.put, List.setIfInBounds_toArray, List.append, List.set_cons_zero, List.set_cons_succ]
                  refine take_d (i := 8) (oi := _) (v := ?_) (d := some 52) rfl (by kernel_rfl) (by kernel_rfl) (by kernel_rfl) (fun _ _ _ h => h) (Or.inl ⟨by kernel_rfl, ?_⟩) hHeld rfl ?_
                  rotate_left
                  · intro w' hSw; (try dsimp only at hSw); go_simp; (try with_reducible rfl)
                  simp only [Act.put, List.setIfInBounds_toArray, List.append, List.set_cons_zero, List.set_cons_succ]
                  refine wpAnyH_ready (rs := [9]) (by kernel_rfl) (by simp) ?_
                  refine AllReadyH.cons rfl (fun K hK => ?_) ?_
                  · go_simp
                    refine hK.out _ _ ?_ (fun hHeld => ?_)
                    · (try dsimp only); (first | done | trivial)
                    clear hK K
                    (try simp only [Act.put, List.setIfInBounds_toArray, List.append, List.set_cons_zero, List.set_cons_succ])
                    refine wpAnyH_done (by kernel_rfl) ?_ _
                    refine NoPanic.normal ?_
                    go_wp2
                    go_roundw
                    case rel => exact ⟨i + 1, vs ++ [vv], r.drop 1, by omega, by go_num, HREL.out _ (by rw [HEX.out]; exact (Below.refl _ _).drew)⟩
                    case measure => simp [intOf]; omega
                  exact AllReadyH.nil
                exact AllReadyH.nil
              refine AllReadyH.cons rfl (fun K hK => ?_) ?_
              · (go_simp; refine (width_u8 _).mono ?_; rintro e wz ⟨e0, rfl⟩; subst e0)
                refine hK.out _ _ ?_ (fun hHeld => ?_)
                · (try dsimp only); (first | done | trivial)
                clear hK K
                (try simp only [Act.put, List.setIfInBounds_toArray, List.append, List.set_cons_zero, List.set_cons_succ])
                refine wpAnyH_ready (rs := [4]) (by kernel_rfl) (by simp) ?_
                refine AllReadyH.cons rfl (fun K hK => ?_) ?_
                · go_simp
                  refine hK.out _ _ ?_ (fun hHeld => ?_)
                  · (try dsimp only); (first | done | trivial)
                  clear hK K
                  (try simp only [Act.put, List.setIfInBounds_toArray, List.append, List.set_cons_zero, List.set_cons_succ])
                  refine take_d (i := 6) (oi := _) (v := ?_) (d := some 50) rfl (by kernel_rfl) (by kernel_rfl) (by kernel_rfl) (fun _ _ _ h => h) (Or.inl ⟨by kernel_rfl, ?_⟩) hHeld rfl ?_
                  rotate_left
                  · intro w' hSw; (try dsimp only at hSw); go_simp; (try with_reducible rfl)
                  simp only [Act.put, List.setIfInBounds_toArray, List.append, List.set_cons_zero, List.set_cons_succ]
                  refine take_d (i := 7) (oi := _) (v := ?_) (d := some 51) rfl (by kernel_rfl) (by kernel_rfl) (by kernel_rfl) (fun _ _ _ h => h) (Or.inl ⟨by kernel_rfl, ?_⟩) hHeld rfl ?_
                  rotate_left
                  · intro w' hSw; (try dsimp only at hSw); go_simp; (try with_reducible rfl)
                  simp only [Act.put, List.setIfInBounds_toArray, List.append, List.set_cons_zero, List.set_cons_succ]
                  refine take_d (i := 8) (oi := _) (v := ?_) (d := some 52) rfl (by kernel_rfl) (by kernel_rfl) (by kernel_rfl) (fun _ _ _ h => h) (Or.inl ⟨by kernel_rfl, ?_⟩) hHeld rfl ?_
                  rotate_left
                  · intro w' hSw; (try dsimp only at hSw); go_simp; (try with_reducible rfl)
                  simp only [Act.put, List.setIfInBounds_toArray, List.append, List.set_cons_zero, List.set_cons_succ]
                  refine wpAnyH_ready (rs := [9]) (by kernel_rfl) (by simp) ?_
                  refine AllReadyH.cons rfl (fun K hK => ?_) ?_
                  · go_simp
                    refine hK.out _ _ ?_ (fun hHeld => ?_)
                    · (try dsimp only); (first | done | trivial)
                    clear hK K
                    (try simp only [Act.put, List.setIfInBounds_toArray, List.append, List.set_cons_zero, List.set_cons_succ])
                    refine wpAnyH_done (by kernel_rfl) ?_ _
                    refine NoPanic.normal ?_
                    go_wp2
                    go_roundw
                    case rel => exact ⟨i + 1, vs ++ [vv], r.drop 1, by omega, by go_num, HREL.out _ (by rw [HEX.out]; exact (Below.refl _ _).drew)⟩
                    case measure => simp [intOf]; omega
                  exact AllReadyH.nil
                exact AllReadyH.nil
              exact AllReadyH.nil
      · have hlongI : (r.length : Int) < 1 := by omega
        go_wp2
        go_quiet ((go_at_call 58; refine Calls.quiet_of_same (width_u8 _)))
        go_wp2
        go_ret
        have hno : manyR (numR 1) ads.length l = none := by
          rw [HI.out.2.1, show ads.length - i = (ads.length - (i + 1)) + 1 by omega]
          exact fromR_no (by unfold numR; rw [if_pos (by omega)])
        have hb : Below W.heap.size ((setAll W (ads.take i) vs).setCell ⟨rb, 0, none⟩ (.string ⟨r.toArray⟩)) (wr.drewN nq) := ⟨HI.out.2.2.2.os, HI.out.2.2.2.tape, HI.out.2.2.2.output, HI.out.2.2.2.size, HI.out.2.2.2.block⟩
        refine ⟨false, rfl, Oth.of i vs _ hb, ?_⟩
        show (match manyR (numR 1) ads.length l with | some (vs, l') => _ | none => _)
        rw [hno]
    · obtain rfl : i = ads.length := by omega
      go_wp2
      go_ret
      have hyes : manyR (numR 1) ads.length l = some (vs, r) := by
        rw [HI.out.2.1, Nat.sub_self, fromR_zero]
      refine ⟨true, rfl, Oth.of ads.length vs _ HI.out.2.2.2, ?_⟩
      show (match manyR (numR 1) ads.length l with | some (vs, l') => _ | none => _)
      rw [hyes]
      have := HI.out.2.2.2
      rw [List.take_length] at this
      exact ⟨rfl, HI.out.1, this⟩
set_option maxHeartbeats 8000000 in
set_option maxRecDepth 100000 in
theorem take_u16 (W : World) (rb : Nat) (l : List UInt8) (ads : List (Nat × Nat)) (v : Value) {G : Nat → Prop} (hr : RdAt W rb l) (hv : Reads W G v ads.length (ptV ads)) (ha : ∀ a ∈ ads, Tgt W rb a) (hG : ∀ g, G g → g ≠ rb ∧ ∀ a ∈ ads, a.1 ≠ g) (hl : l.length ≤ 1048576) :
    Calls Try.prog 52 #[.pointer (some ⟨rb, 0, none⟩), v] W fun e w' => TakeEnd 2 W rb l ads e w' := by
  obtain ⟨p, c, rfl⟩ := hv.slcP
  have HR : Hid (RdAt W rb l) := hr
  have HV : Hid (Reads W G (.slice p ads.length c) ads.length (ptV ads)) := hv
  have HT : Hid (∀ a ∈ ads, Tgt W rb a) := ha
  have HG : Hid (∀ g, G g → g ≠ rb ∧ ∀ a ∈ ads, a.1 ≠ g) := hG
  have hrb : rb < W.heap.size := heap_lt hr
  have hnm : (ads.length : Int) ≤ 9223372036854775807 := by
    obtain ⟨_, _, _, h, _⟩ := hv
    have := h.1
    unfold maxLen at this; omega
  clear hr hv ha hG
  go_enter Try.func52, Try.ntmps52
  go_wp2
  go_loopw [12] (fun x wr => ∃ (i : Nat) (vs : List Int) (r : List UInt8), i ≤ ads.length ∧ x = .int .i64 i ∧ Hid (vs.length = i ∧ manyR (numR 2) ads.length l = fromR (numR 2) vs (ads.length - i) r ∧ r.length ≤ l.length ∧ Below W.heap.size ((setAll W (ads.take i) vs).setCell ⟨rb, 0, none⟩ (.string ⟨r.toArray⟩)) wr)) (fun x _ => ads.length - (intOf x).toNat)
  case atStart =>
    refine ⟨0, [], l, by omega, rfl, rfl, by rw [fromR_nil]; rfl, Nat.le_refl _, ?_⟩
    show Below W.heap.size ((setAll W [] []).setCell ⟨rb, 0, none⟩ (.string ⟨l.toArray⟩)) W
    refine ⟨rfl, rfl, rfl, by simp [World.setCell, setAll], fun i hi => ?_⟩
    by_cases e : i = rb
    · subst e; exact start_step HR.out
    · exact (Go.Deep.blk_setCell_other W ⟨rb, 0, none⟩ _ i e).symm
  case round =>
    obtain ⟨i, vs, r, hi, rfl, HI⟩ := hrel
    by_cases hlt : i < ads.length
    · obtain ⟨a, ha⟩ : ∃ a, ads[i]? = some a := ⟨_, List.getElem?_eq_getElem hlt⟩
      have hlI : (i : Int) < (ads.length : Int) := by omega
      have HAT : Hid (ads[i]? = some a) := ha
      have hmem : a ∈ ads := List.mem_of_getElem? ha
      have HTA : Hid (Tgt wr rb a) := by
        have h1 := HT.out a hmem
        have h2 : Tgt ((setAll W (ads.take i) vs).setCell ⟨rb, 0, none⟩ (.string ⟨r.toArray⟩)) rb a := (Tgt.setAll (ads.take i) vs h1).set (rb, 0) _
        exact h2.below HI.out.2.2.2 h1.lt
      have HRD : Hid (RdAt wr rb r) := by
        have h1 : RdAt (setAll W (ads.take i) vs) rb l := (setAll_blk _ _ _ _ (fun b hb => (HT.out b (List.mem_of_mem_take hb)).1)).trans HR.out
        exact (HI.out.2.2.2.block rb hrb).trans (h1.set r)
      obtain ⟨g, o, hp, q0⟩ : ∃ g o, p = some ⟨g, o, none⟩ ∧ wr.cell? ⟨g, o + i, none⟩ = some (.pointer (some (adr a))) := by
        obtain ⟨p2, c2, e2, _, hc⟩ := HV.out
        injection e2 with e3
        obtain ⟨g, o, e4, hg, hgl, hx, _⟩ := hc (by omega)
        refine ⟨g, o, e3.trans e4, ?_⟩
        have h1 := hx i (.pointer (some (adr a))) (by unfold ptV; rw [List.getElem?_map, ha]; rfl)
        have h2 := HG.out g hg
        have h3 : wr.heap[g]? = W.heap[g]? := by
          rw [HI.out.2.2.2.block g hgl, Go.Deep.blk_setCell_other _ ⟨rb, 0, none⟩ _ g h2.1]
          exact setAll_blk _ _ _ _ (fun b hb => h2.2 b (List.mem_of_mem_take hb))
        exact (World.cell?_of_block (a := ⟨g, o + i, none⟩) h3).trans h1
      subst hp
      clear ha hmem
      have c00 : wr.cell? ⟨rb, 0, none⟩ = some (.string ⟨r.toArray⟩) := Lib.cell_of_heap HRD.out 0
      obtain ⟨s, hs⟩ : ∃ s : ByteArray, s = ⟨r.toArray⟩ := ⟨_, rfl⟩
      rw [← hs] at c00
      have hsz : s.size = r.length := by rw [hs]; simp [ByteArray.size]
      have HS : Hid (s = ⟨r.toArray⟩) := hs
      have hszI : ((s.size : Nat) : Int) = (r.length : Int) := by omega
      have hr20 : r.length ≤ 1048576 := by have := HI.out.2.2.1; omega
      clear hs
      by_cases hlong : 2 ≤ r.length
      · have hlongI : ¬ (r.length : Int) < 2 := by omega
        have hlong2 : (2 : Int) ≤ (r.length : Int) := by omega
        go_wp2
        go_quiet ((go_at_call 59; refine Calls.quiet_of_same (width_u16 _)))
        go_wp2
        go_upto_region 7 with fail
        obtain ⟨V, hV⟩ : ∃ V, V = wr.drewN nq := ⟨_, rfl⟩
        have VB : Hid (Below wr.heap.size wr V) := by rw [hV]; exact ⟨rfl, rfl, rfl, Nat.le_refl _, fun _ _ => rfl⟩
        rw [← hV]
        have c1 : V.drew.cell? ⟨rb, 0, none⟩ = some (.string s) := by rw [hV]; exact c00
        clear hV
        obtain ⟨V2, cp, hcv, hVB, hVC⟩ := take_conv (V := V.drew) HS.out hlong
        have c2 : V2.cell? ⟨rb, 0, none⟩ = some (.string s) := (hVB.out.cell (p := ⟨rb, 0, none⟩) (cell_lt c1)).trans c1
        have hvb : ∀ j, j ≤ 2 → valB (r.take j) < 256 ^ j ∧ 0 ≤ valB (r.take j) := fun j hj => by
          have := valB_range (r.take j)
          rw [List.length_take, Nat.min_eq_left (by omega)] at this
          exact ⟨this.2, this.1⟩
        have HVB2 : Hid (Below wr.heap.size wr V2 ∧ ∀ j, j ≤ 2 → valB (r.take j) < 256 ^ j ∧ 0 ≤ valB (r.take j)) := ⟨VB.out.drew.trans (hVB.out.mono VB.out.size), hvb⟩
        clear hvb
        go_cut [29, 30, 31] from 23 to 31 (fun x y z wc => x = .slice (some ⟨V.heap.size, 0, none⟩) 2 cp ∧ y = .int .i64 2 ∧ z = .int .i64 0 ∧ Hid (wc = V2))
        case first =>
          refine wp_region_noPanic ?_
          refine wp_region_held_drew (S := fun w' => w'.cell? ⟨rb, 0, none⟩ = some (.string s)) (by kernel_rfl) ?_ (fun hHeld => ?_)
          · (try dsimp only); exact c1
          refine take_d (i := 0) (oi := _) (v := ?_) (d := some 23) rfl (by kernel_rfl) (by kernel_rfl) (by kernel_rfl) (fun _ _ _ h => h) (Or.inl ⟨by kernel_rfl, ?_⟩) hHeld rfl ?_
          rotate_left
          · intro w' hSw; (try dsimp only at hSw); go_simp; (try with_reducible rfl)
          simp only [Act.put, List.setIfInBounds_toArray, List.append, List.set_cons_zero, List.set_cons_succ]
          refine take_d (i := 1) (oi := _) (v := ?_) (d := some 24) rfl (by kernel_rfl) (by kernel_rfl) (by kernel_rfl) (fun _ _ _ h => h) (Or.inl ⟨by kernel_rfl, ?_⟩) hHeld rfl ?_
          rotate_left
          · intro w' hSw; (try dsimp only at hSw); go_simp; (try with_reducible rfl)
          simp only [Act.put, List.setIfInBounds_toArray, List.append, List.set_cons_zero, List.set_cons_succ]
          refine take_d (i := 2) (oi := _) (v := ?_) (d := some 25) rfl (by kernel_rfl) (by kernel_rfl) (by kernel_rfl) (fun _ _ _ h => h) (Or.inl ⟨by kernel_rfl, ?_⟩) hHeld rfl ?_
          rotate_left
          · intro w' hSw; (try dsimp only at hSw); go_simp; (try with_reducible rfl)
          simp only [Act.put, List.setIfInBounds_toArray, List.append, List.set_cons_zero, List.set_cons_succ]
          refine take_d (i := 3) (oi := _) (v := ?_) (d := some 26) rfl (by kernel_rfl) (by kernel_rfl) (by kernel_rfl) (fun _ _ _ h => h) (Or.inl ⟨by kernel_rfl, ?_⟩) hHeld rfl ?_
          rotate_left
          · intro w' hSw; (try dsimp only at hSw); go_simp; (try with_reducible rfl)
          simp only [Act.put, List.setIfInBounds_toArray, List.append, List.set_cons_zero, List.set_cons_succ]
          refine take_d (i := 8) (oi := _) (v := ?_) (d := some 31) rfl (by kernel_rfl) (by kernel_rfl) (by kernel_rfl) (fun _ _ _ h => h) (Or.inl ⟨by kernel_rfl, ?_⟩) hHeld rfl ?_
          rotate_left
          · intro w' hSw; (try dsimp only at hSw); go_simp; (try with_reducible rfl)
          simp only [Act.put, List.setIfInBounds_toArray, List.append, List.set_cons_zero, List.set_cons_succ]
          refine wpAnyH_ready (rs := [4]) (by kernel_rfl) (by simp) ?_
          refine AllReadyH.cons rfl (fun K hK => ?_) ?_
          · (go_simp; refine (width_u16 _).mono ?_; rintro e wz ⟨e0, rfl⟩; subst e0)
            refine hK.out _ _ ?_ (fun hHeld => ?_)
            · (try dsimp only); exact hHeld
            clear hK K
            (try simp only [Act.put, List.setIfInBounds_toArray, List.append, List.set_cons_zero, List.set_cons_succ])
            refine take_d (i := 5) (oi := _) (v := ?_) (d := some 28) rfl (by kernel_rfl) (by kernel_rfl) (by kernel_rfl) (fun _ _ _ h => h) (Or.inl ⟨by kernel_rfl, ?_⟩) hHeld rfl ?_
            rotate_left
            · intro w' hSw; (try dsimp only at hSw); go_simp; (try with_reducible rfl)
            simp only [Act.put, List.setIfInBounds_toArray, List.append, List.set_cons_zero, List.set_cons_succ]
            refine wpAnyH_ready (rs := [6]) (by kernel_rfl) (by simp) ?_
            refine AllReadyH.cons rfl (fun K hK => ?_) ?_
            · go_simp
              refine hK.out _ _ ?_ (fun hHeld => ?_)
              · (try dsimp only); exact c2
              clear hK K
              (try simp only [Act.put, List.setIfInBounds_toArray, List.append, List.set_cons_zero, List.set_cons_succ])
              refine take_d (i := 7) (oi := _) (v := ?_) (d := some 30) rfl (by kernel_rfl) (by kernel_rfl) (by kernel_rfl) (fun _ _ _ h => h) (Or.inl ⟨by kernel_rfl, ?_⟩) hHeld rfl ?_
              rotate_left
              · intro w' hSw; (try dsimp only at hSw); go_simp; (try with_reducible rfl)
              simp only [Act.put, List.setIfInBounds_toArray, List.append, List.set_cons_zero, List.set_cons_succ]
              refine wpAnyH_done (by kernel_rfl) ?_ _
              refine NoPanic.normal ?_
              go_wp2
              go_meet
              case rel => exact ⟨rfl, rfl, rfl, Hid.intro' rfl⟩
            exact AllReadyH.nil
          exact AllReadyH.nil
        case rest =>
          obtain ⟨rfl, rfl, rfl, hwc⟩ := hcut
          have hwc : wc = V2 := hwc.out
          subst hwc
          clear hcv c1 c2
          obtain ⟨vb, hvb⟩ : ∃ vb, vb = V.heap.size := ⟨_, rfl⟩
          have HVC : Hid (∀ j, j < 2 → ∃ b : UInt8, r[j]? = some b ∧ wc.cell? ⟨vb, j, none⟩ = some (.int .u8 (b.toNat : Int))) := by rw [hvb]; exact hVC.out
          rw [← hvb]
          clear hVC hvb hVB VB
          go_wp2
          go_loopw [31, 7] (fun y val wq => ∃ j : Nat, j ≤ 2 ∧ y = .int .i64 j ∧ val = .int .i64 (valB (r.take j)) ∧ Hid (wq = wc)) (fun y _ _ => 2 - (intOf y).toNat)
          case atStart => exact ⟨0, by omega, rfl, rfl, rfl⟩
          case round =>
            obtain ⟨j, hj, rfl, rfl, hwq⟩ := hrel
            have hwq := hwq.out
            subst hwq
            by_cases hjl : j < 2
            · obtain ⟨b, hb, d0⟩ := HVC.out j hjl
              have HB : Hid (r[j]? = some b) := hb
              have hbt : b.toNat < 256 := b.toNat_lt
              obtain ⟨m1, m2⟩ := HVB2.out.2 j hj
              have m3 : valB (r.take j) < 16777216 := by
                obtain rfl | rfl : j = 0 ∨ j = 1 := by omega
                all_goals (simp only [Int.reducePow] at m1; omega)
              obtain ⟨vj, hvj⟩ : ∃ vj, vj = valB (r.take j) := ⟨_, rfl⟩
              have HVJ : Hid (vj = valB (r.take j)) := hvj
              rw [← hvj] at m2 m3 ⊢
              clear hb m1 hvj
              have hjI : (j : Int) < 2 := by omega
              have hor : bits .or .i64 (vj * 256) ((b.toNat : Nat) : Int) = vj * 256 + ((b.toNat : Nat) : Int) := by
                obtain ⟨vn, rfl⟩ : ∃ vn : Nat, vj = (vn : Int) := ⟨vj.toNat, by omega⟩
                exact or_shift vn b (by omega)
              go_wp2
              go_roundw
              case rel =>
                refine ⟨j + 1, by omega, by go_num, ?_, by first | exact rfl | exact (trivial : True)⟩
                rw [List.take_add_one, HB.out]
                simp only [Option.toList_some, valB_snoc, ← HVJ.out]
              case measure => simp [intOf]; omega
            · obtain rfl : j = 2 := by omega
              have HRV : Hid (numR 2 r = some (valB (r.take 2), r.drop 2)) := by
                show numR 2 r = _
                unfold numR; rw [if_neg (by omega)]
              obtain ⟨vv, hvv⟩ : ∃ vv, vv = valB (r.take 2) := ⟨_, rfl⟩
              rw [← hvv]
              have HVV : Hid (vv = valB (r.take 2)) := hvv
              clear hvv HVC
              have HTQ : Hid (Tgt wr rb a) := HTA.out.below HVB2.out.1 HTA.out.lt
              have hab : a.1 ≠ rb := HTA.out.1
              obtain ⟨arr, ta, ha1, ha2⟩ := HTQ.out.2
              obtain ⟨x9, x0⟩ : ∃ x, wr.cell? (adr a) = some x := ⟨arr[a.2], by
                have := Lib.cell_of_heap ha1 a.2
                rw [this]; simp [ha2]⟩
              have z0 : wr.frozen? (adr a) = false := Lib.frozen_of_heap ha1 a.2
              have hrq : RdAt wr rb r := (HVB2.out.1.block rb (heap_lt HRD.out)).trans HRD.out
              have HRQ : Hid (RdAt (wr.setCell (adr a) (.int .i64 vv)) rb r) := (Go.Deep.blk_setCell_other wr (adr a) _ rb (Ne.symm hab)).trans hrq
              have y0 : (wr.setCell (adr a) (.int .i64 vv)).cell? ⟨rb, 0, none⟩ = some (.string s) := by
                rw [HS.out]; exact Lib.cell_of_heap HRQ.out 0
              have y1 : (wr.setCell (adr a) (.int .i64 vv)).frozen? ⟨rb, 0, none⟩ = false := Lib.frozen_of_heap HRQ.out 0
              clear ha1 ha2 hrq
              have HEX : Hid (s.extract 2 r.length = ⟨(r.drop 2).toArray⟩) := by
                show s.extract 2 r.length = _
                rw [HS.out]; exact ext_back r 2
              go_upto_region 13 with fail
              obtain ⟨Y0, hY0⟩ : ∃ Y, Y = wr.setCell (adr a) (.int .i64 vv) := ⟨_, rfl⟩
              rw [← hY0] at y0 y1 HRQ ⊢
              have HY0 : Hid (Y0 = wr.setCell (adr a) (.int .i64 vv)) := hY0
              clear hY0 x0 z0
              have HREL : Hid (∀ Z, Below Y0.heap.size (Y0.setCell ⟨rb, 0, none⟩ (.string ⟨(r.drop 2).toArray⟩)) Z → ((vs ++ [vv]).length = i + 1 ∧ manyR (numR 2) ads.length l = fromR (numR 2) (vs ++ [vv]) (ads.length - (i + 1)) (r.drop 2) ∧ (r.drop 2).length ≤ l.length ∧ Below W.heap.size ((setAll W (ads.take (i + 1)) (vs ++ [vv])).setCell ⟨rb, 0, none⟩ (.string ⟨(r.drop 2).toArray⟩)) Z)) := fun Z hZ => by
                refine ⟨by simp [HI.out.1], ?_, by have := HI.out.2.2.1; simp; omega, ?_⟩
                · rw [HI.out.2.1, show ads.length - i = (ads.length - (i + 1)) + 1 by omega, fromR_yes HRV.out, HVV.out]
                · rw [List.take_add_one, HAT.out]
                  simp only [Option.toList_some]
                  rw [setAll_snoc _ _ _ _ _ (by rw [List.length_take, HI.out.1]; omega)]
                  have hS : RdAt (setAll W (ads.take i) vs) rb l := (setAll_blk _ _ _ _ (fun b hb => (HT.out b (List.mem_of_mem_take hb)).1)).trans HR.out
                  have hsz1 := HI.out.2.2.2.size
                  have hsz2 : ((setAll W (ads.take i) vs).setCell ⟨rb, 0, none⟩ (.string ⟨r.toArray⟩)).heap.size = W.heap.size := by simp [World.setCell, setAll_size]
                  have h1 : Below W.heap.size ((setAll W (ads.take i) vs).setCell ⟨rb, 0, none⟩ (.string ⟨r.toArray⟩)) wr := HI.out.2.2.2.trans (HVB2.out.1.mono (by omega))
                  have h2 := below_step (v := vv) (r' := r.drop 2) hS hab h1 hrb
                  rw [← HY0.out] at h2
                  have hsz3 := HVB2.out.1.size
                  have hsz4 : Y0.heap.size = wr.heap.size := by rw [HY0.out]; simp [World.setCell]
                  exact h2.trans (hZ.mono (by omega))
              refine wp_region_noPanic ?_
              refine wp_region_held_drew (S := fun _ => True) (by kernel_rfl) trivial (fun hHeld => ?_)
              refine take_d (i := 0) (oi := _) (v := ?_) (d := some 44) rfl (by kernel_rfl) (by kernel_rfl) (by kernel_rfl) (fun _ _ _ h => h) (Or.inl ⟨by kernel_rfl, ?_⟩) hHeld rfl ?_
              rotate_left
              · intro w' hSw; (try dsimp only at hSw); go_simp; (try with_reducible rfl)
              simp only [Act.put, List.setIfInBounds_toArray, List.append, List.set_cons_zero, List.set_cons_succ]
              refine take_d (i := 1) (oi := _) (v := ?_) (d := some 45) rfl (by kernel_rfl) (by kernel_rfl) (by kernel_rfl) (fun _ _ _ h => h) (Or.inl ⟨by kernel_rfl, ?_⟩) hHeld rfl ?_
              rotate_left
              · intro w' hSw; (try dsimp only at hSw); go_simp; (try with_reducible rfl)
              simp only [Act.put, List.setIfInBounds_toArray, List.append, List.set_cons_zero, List.set_cons_succ]
              refine take_d (i := 2) (oi := _) (v := ?_) (d := some 46) rfl (by kernel_rfl) (by kernel_rfl) (by kernel_rfl) (fun _ _ _ h => h) (Or.inl ⟨by kernel_rfl, ?_⟩) hHeld rfl ?_
              rotate_left
              · intro w' hSw; (try dsimp only at hSw); go_simp; (try with_reducible rfl)
              simp only [Act.put, List.setIfInBounds_toArray, List.append, List.set_cons_zero, List.set_cons_succ]
              refine take_d (i := 3) (oi := _) (v := ?_) (d := some 47) rfl (by kernel_rfl) (by kernel_rfl) (by kernel_rfl) (fun _ _ _ h => h) (Or.inl ⟨by kernel_rfl, ?_⟩) hHeld rfl ?_
              rotate_left
              · intro w' hSw; (try dsimp only at hSw); go_simp; (try with_reducible rfl)
              simp only [Act.put, List.setIfInBounds_toArray, List.append, List.set_cons_zero, List.set_cons_succ]
              refine wpAnyH_ready (rs := [4, 5]) (by kernel_rfl) (by simp) ?_
              refine AllReadyH.cons rfl (fun K hK => ?_) ?_
              · go_simp
                refine hK.out _ _ ?_ (fun hHeld => ?_)
                · (try dsimp only); (first | done | trivial)
                clear hK K
                (try simp only [Act.put, List.setIfInBounds_toArray, List.append, List.set_cons_zero, List.set_cons_succ])
                refine wpAnyH_ready (rs := [5]) (by kernel_rfl) (by simp) ?_
                refine AllReadyH.cons rfl (fun K hK => ?_) ?_
                · (go_simp; refine (width_u16 _).mono ?_; rintro e wz ⟨e0, rfl⟩; subst e0)
                  refine hK.out _ _ ?_ (fun hHeld => ?_)
                  · (try dsimp only); (first | done | trivial)
                  clear hK K
                  (try simp only [Act.put, List.setIfInBounds_toArray, List.append, List.set_cons_zero, List.set_cons_succ])
                  refine take_d (i := 6) (oi := _) (v := ?_) (d := some 50) rfl (by kernel_rfl) (by kernel_rfl) (by kernel_rfl) (fun _ _ _ h => h) (Or.inl ⟨by kernel_rfl, ?_⟩) hHeld rfl ?_
                  rotate_left
                  · intro w' hSw; (try dsimp only at hSw); go_simp; (try with_reducible rfl)
                  simp only [Act.put, List.setIfInBounds_toArray, List.append, List.set_cons_zero, List.set_cons_succ]
                  refine take_d (i := 7) (oi := _) (v := ?_) (d := some 51) rfl (by kernel_rfl) (by kernel_rfl) (by kernel_rfl) (fun _ _ _ h => h) (Or.inl ⟨by kernel_rfl, ?_⟩) hHeld rfl ?_
                  rotate_left
                  · intro w' hSw; (try dsimp only at hSw); go_simp; (try with_reducible rfl)
                  simp only [Act.put, List.setIfInBounds_toArray, List.append, List.set_cons_zero, List.set_cons_succ]
                  refine take_d (i := 8) (oi := _) (v := ?_) (d := some 52) rfl (by kernel_rfl) (by kernel_rfl) (by kernel_rfl) (fun _ _ _ h => h) (Or.inl ⟨by kernel_rfl, ?_⟩) hHeld rfl ?_
                  rotate_left
                  · intro w' hSw; (try dsimp only at hSw); go_simp; (try with_reducible rfl)
                  simp only [Act.put, List.setIfInBounds_toArray, List.append, List.set_cons_zero, List.set_cons_succ]
                  refine wpAnyH_ready (rs := [9]) (by kernel_rfl) (by simp) ?_
                  refine AllReadyH.cons rfl (fun K hK => ?_) ?_
                  · go_simp
                    refine hK.out _ _ ?_ (fun hHeld => ?_)
                    · (try dsimp only); (first | done | trivial)
                    clear hK K
                    (try simp only [Act.put, List.setIfInBounds_toArray, List.append, List.set_cons_zero, List.set_cons_succ])
                    refine wpAnyH_done (by kernel_rfl) ?_ _
                    refine NoPanic.normal ?_
                    go_wp2
                    go_roundw
                    case rel => exact ⟨i + 1, vs ++ [vv], r.drop 2, by omega, by go_num, HREL.out _ (by rw [HEX.out]; exact (Below.refl _ _).drew)⟩
                    case measure => simp [intOf]; omega
                  exact AllReadyH.nil
                exact AllReadyH.nil
              refine AllReadyH.cons rfl (fun K hK => ?_) ?_
              · (go_simp; refine (width_u16 _).mono ?_; rintro e wz ⟨e0, rfl⟩; subst e0)
                refine hK.out _ _ ?_ (fun hHeld => ?_)
                · (try dsimp only); (first | done | trivial)
                clear hK K
                (try simp only [Act.put, List.setIfInBounds_toArray, List.append, List.set_cons_zero, List.set_cons_succ])
                refine wpAnyH_ready (rs := [4]) (by kernel_rfl) (by simp) ?_
                refine AllReadyH.cons rfl (fun K hK => ?_) ?_
                · go_simp
                  refine hK.out _ _ ?_ (fun hHeld => ?_)
                  · (try dsimp only); (first | done | trivial)
                  clear hK K
                  (try simp only [Act.put, List.setIfInBounds_toArray, List.append, List.set_cons_zero, List.set_cons_succ])
                  refine take_d (i := 6) (oi := _) (v := ?_) (d := some 50) rfl (by kernel_rfl) (by kernel_rfl) (by kernel_rfl) (fun _ _ _ h => h) (Or.inl ⟨by kernel_rfl, ?_⟩) hHeld rfl ?_
                  rotate_left
                  · intro w' hSw; (try dsimp only at hSw); go_simp; (try with_reducible rfl)
                  simp only [Act.put, List.setIfInBounds_toArray, List.append, List.set_cons_zero, List.set_cons_succ]
                  refine take_d (i := 7) (oi := _) (v := ?_) (d := some 51) rfl (by kernel_rfl) (by kernel_rfl) (by kernel_rfl) (fun _ _ _ h => h) (Or.inl ⟨by kernel_rfl, ?_⟩) hHeld rfl ?_
                  rotate_left
                  · intro w' hSw; (try dsimp only at hSw); go_simp; (try with_reducible rfl)
                  simp only [Act.put, List.setIfInBounds_toArray, List.append, List.set_cons_zero, List.set_cons_succ]
                  refine take_d (i := 8) (oi := _) (v := ?_) (d := some 52) rfl (by kernel_rfl) (by kernel_rfl) (by kernel_rfl) (fun _ _ _ h => h) (Or.inl ⟨by kernel_rfl, ?_⟩) hHeld rfl ?_
                  rotate_left
                  · intro w' hSw; (try dsimp only at hSw); go_simp; (try with_reducible rfl)
                  simp only [Act.put, List.setIfInBounds_toArray, List.append, List.set_cons_zero, List.set_cons_succ]
                  refine wpAnyH_ready (rs := [9]) (by kernel_rfl) (by simp) ?_
                  refine AllReadyH.cons rfl (fun K hK => ?_) ?_
                  · go_simp
                    refine hK.out _ _ ?_ (fun hHeld => ?_)
                    · (try dsimp only); (first | done | trivial)
                    clear hK K
                    (try simp only [Act.put, List.setIfInBounds_toArray, List.append, List.set_cons_zero, List.set_cons_succ])
                    refine wpAnyH_done (by kernel_rfl) ?_ _
                    refine NoPanic.normal ?_
                    go_wp2
                    go_roundw
                    case rel => exact ⟨i + 1, vs ++ [vv], r.drop 2, by omega, by go_num, HREL.out _ (by rw [HEX.out]; exact (Below.refl _ _).drew)⟩
                    case measure => simp [intOf]; omega
                  exact AllReadyH.nil
                exact AllReadyH.nil
              exact AllReadyH.nil
      · have hlongI : (r.length : Int) < 2 := by omega
        go_wp2
        go_quiet ((go_at_call 59; refine Calls.quiet_of_same (width_u16 _)))
        go_wp2
        go_ret
        have hno : manyR (numR 2) ads.length l = none := by
          rw [HI.out.2.1, show ads.length - i = (ads.length - (i + 1)) + 1 by omega]
          exact fromR_no (by unfold numR; rw [if_pos (by omega)])
        have hb : Below W.heap.size ((setAll W (ads.take i) vs).setCell ⟨rb, 0, none⟩ (.string ⟨r.toArray⟩)) (wr.drewN nq) := ⟨HI.out.2.2.2.os, HI.out.2.2.2.tape, HI.out.2.2.2.output, HI.out.2.2.2.size, HI.out.2.2.2.block⟩
        refine ⟨false, rfl, Oth.of i vs _ hb, ?_⟩
        show (match manyR (numR 2) ads.length l with | some (vs, l') => _ | none => _)
        rw [hno]
    · obtain rfl : i = ads.length := by omega
      go_wp2
      go_ret
      have hyes : manyR (numR 2) ads.length l = some (vs, r) := by
        rw [HI.out.2.1, Nat.sub_self, fromR_zero]
      refine ⟨true, rfl, Oth.of ads.length vs _ HI.out.2.2.2, ?_⟩
      show (match manyR (numR 2) ads.length l with | some (vs, l') => _ | none => _)
      rw [hyes]
      have := HI.out.2.2.2
      rw [List.take_length] at this
      exact ⟨rfl, HI.out.1, this⟩
set_option maxHeartbeats 8000000 in
set_option maxRecDepth 100000 in
theorem take_u32 (W : World) (rb : Nat) (l : List UInt8) (ads : List (Nat × Nat)) (v : Value) {G : Nat → Prop} (hr : RdAt W rb l) (hv : Reads W G v ads.length (ptV ads)) (ha : ∀ a ∈ ads, Tgt W rb a) (hG : ∀ g, G g → g ≠ rb ∧ ∀ a ∈ ads, a.1 ≠ g) (hl : l.length ≤ 1048576) :
    Calls Try.prog 38 #[.pointer (some ⟨rb, 0, none⟩), v] W fun e w' => TakeEnd 4 W rb l ads e w' := by
  obtain ⟨p, c, rfl⟩ := hv.slcP
  have HR : Hid (RdAt W rb l) := hr
  have HV : Hid (Reads W G (.slice p ads.length c) ads.length (ptV ads)) := hv
  have HT : Hid (∀ a ∈ ads, Tgt W rb a) := ha
  have HG : Hid (∀ g, G g → g ≠ rb ∧ ∀ a ∈ ads, a.1 ≠ g) := hG
  have hrb : rb < W.heap.size := heap_lt hr
  have hnm : (ads.length : Int) ≤ 9223372036854775807 := by
    obtain ⟨_, _, _, h, _⟩ := hv
    have := h.1
    unfold maxLen at this; omega
  clear hr hv ha hG
  go_enter Try.func38, Try.ntmps38
  go_wp2
  go_loopw [12] (fun x wr => ∃ (i : Nat) (vs : List Int) (r : List UInt8), i ≤ ads.length ∧ x = .int .i64 i ∧ Hid (vs.length = i ∧ manyR (numR 4) ads.length l = fromR (numR 4) vs (ads.length - i) r ∧ r.length ≤ l.length ∧ Below W.heap.size ((setAll W (ads.take i) vs).setCell ⟨rb, 0, none⟩ (.string ⟨r.toArray⟩)) wr)) (fun x _ => ads.length - (intOf x).toNat)
  case atStart =>
    refine ⟨0, [], l, by omega, rfl, rfl, by rw [fromR_nil]; rfl, Nat.le_refl _, ?_⟩
    show Below W.heap.size ((setAll W [] []).setCell ⟨rb, 0, none⟩ (.string ⟨l.toArray⟩)) W
    refine ⟨rfl, rfl, rfl, by simp [World.setCell, setAll], fun i hi => ?_⟩
    by_cases e : i = rb
    · subst e; exact start_step HR.out
    · exact (Go.Deep.blk_setCell_other W ⟨rb, 0, none⟩ _ i e).symm
  case round =>
    obtain ⟨i, vs, r, hi, rfl, HI⟩ := hrel
    by_cases hlt : i < ads.length
    · obtain ⟨a, ha⟩ : ∃ a, ads[i]? = some a := ⟨_, List.getElem?_eq_getElem hlt⟩
      have hlI : (i : Int) < (ads.length : Int) := by omega
      have HAT : Hid (ads[i]? = some a) := ha
      have hmem : a ∈ ads := List.mem_of_getElem? ha
      have HTA : Hid (Tgt wr rb a) := by
        have h1 := HT.out a hmem
        have h2 : Tgt ((setAll W (ads.take i) vs).setCell ⟨rb, 0, none⟩ (.string ⟨r.toArray⟩)) rb a := (Tgt.setAll (ads.take i) vs h1).set (rb, 0) _
        exact h2.below HI.out.2.2.2 h1.lt
      have HRD : Hid (RdAt wr rb r) := by
        have h1 : RdAt (setAll W (ads.take i) vs) rb l := (setAll_blk _ _ _ _ (fun b hb => (HT.out b (List.mem_of_mem_take hb)).1)).trans HR.out
        exact (HI.out.2.2.2.block rb hrb).trans (h1.set r)
      obtain ⟨g, o, hp, q0⟩ : ∃ g o, p = some ⟨g, o, none⟩ ∧ wr.cell? ⟨g, o + i, none⟩ = some (.pointer (some (adr a))) := by
        obtain ⟨p2, c2, e2, _, hc⟩ := HV.out
        injection e2 with e3
        obtain ⟨g, o, e4, hg, hgl, hx, _⟩ := hc (by omega)
        refine ⟨g, o, e3.trans e4, ?_⟩
        have h1 := hx i (.pointer (some (adr a))) (by unfold ptV; rw [List.getElem?_map, ha]; rfl)
        have h2 := HG.out g hg
        have h3 : wr.heap[g]? = W.heap[g]? := by
          rw [HI.out.2.2.2.block g hgl, Go.Deep.blk_setCell_other _ ⟨rb, 0, none⟩ _ g h2.1]
          exact setAll_blk _ _ _ _ (fun b hb => h2.2 b (List.mem_of_mem_take hb))
        exact (World.cell?_of_block (a := ⟨g, o + i, none⟩) h3).trans h1
      subst hp
      clear ha hmem
      have c00 : wr.cell? ⟨rb, 0, none⟩ = some (.string ⟨r.toArray⟩) := Lib.cell_of_heap HRD.out 0
      obtain ⟨s, hs⟩ : ∃ s : ByteArray, s = ⟨r.toArray⟩ := ⟨_, rfl⟩
      rw [← hs] at c00
      have hsz : s.size = r.length := by rw [hs]; simp [ByteArray.size]
      have HS : Hid (s = ⟨r.toArray⟩) := hs
      have hszI : ((s.size : Nat) : Int) = (r.length : Int) := by omega
      have hr20 : r.length ≤ 1048576 := by have := HI.out.2.2.1; omega
      clear hs
      by_cases hlong : 4 ≤ r.length
      · have hlongI : ¬ (r.length : Int) < 4 := by omega
        have hlong2 : (4 : Int) ≤ (r.length : Int) := by omega
        go_wp2
        go_quiet ((go_at_call 43; refine Calls.quiet_of_same (width_u32 _)))
        go_wp2
        go_upto_region 7 with fail
        obtain ⟨V, hV⟩ : ∃ V, V = wr.drewN nq := ⟨_, rfl⟩
        have VB : Hid (Below wr.heap.size wr V) := by rw [hV]; exact ⟨rfl, rfl, rfl, Nat.le_refl _, fun _ _ => rfl⟩
        rw [← hV]
        have c1 : V.drew.cell? ⟨rb, 0, none⟩ = some (.string s) := by rw [hV]; exact c00
        clear hV
        obtain ⟨V2, cp, hcv, hVB, hVC⟩ := take_conv (V := V.drew) HS.out hlong
        have c2 : V2.cell? ⟨rb, 0, none⟩ = some (.string s) := (hVB.out.cell (p := ⟨rb, 0, none⟩) (cell_lt c1)).trans c1
        have hvb : ∀ j, j ≤ 4 → valB (r.take j) < 256 ^ j ∧ 0 ≤ valB (r.take j) := fun j hj => by
          have := valB_range (r.take j)
          rw [List.length_take, Nat.min_eq_left (by omega)] at this
          exact ⟨this.2, this.1⟩
        have HVB2 : Hid (Below wr.heap.size wr V2 ∧ ∀ j, j ≤ 4 → valB (r.take j) < 256 ^ j ∧ 0 ≤ valB (r.take j)) := ⟨VB.out.drew.trans (hVB.out.mono VB.out.size), hvb⟩
        clear hvb
        go_cut [29, 30, 31] from 23 to 31 (fun x y z wc => x = .slice (some ⟨V.heap.size, 0, none⟩) 4 cp ∧ y = .int .i64 4 ∧ z = .int .i64 0 ∧ Hid (wc = V2))
        case first =>
          refine wp_region_noPanic ?_
          refine wp_region_held_drew (S := fun w' => w'.cell? ⟨rb, 0, none⟩ = some (.string s)) (by kernel_rfl) ?_ (fun hHeld => ?_)
          · (try dsimp only); exact c1
          refine take_d (i := 0) (oi := _) (v := ?_) (d := some 23) rfl (by kernel_rfl) (by kernel_rfl) (by kernel_rfl) (fun _ _ _ h => h) (Or.inl ⟨by kernel_rfl, ?_⟩) hHeld rfl ?_
          rotate_left
          · intro w' hSw; (try dsimp only at hSw); go_simp; (try with_reducible rfl)
          simp only [Act.put, List.setIfInBounds_toArray, List.append, List.set_cons_zero, List.set_cons_succ]
          refine take_d (i := 1) (oi := _) (v := ?_) (d := some 24) rfl (by kernel_rfl) (by kernel_rfl) (by kernel_rfl) (fun _ _ _ h => h) (Or.inl ⟨by kernel_rfl, ?_⟩) hHeld rfl ?_
          rotate_left
          · intro w' hSw; (try dsimp only at hSw); go_simp; (try with_reducible rfl)
          simp only [Act.put, List.setIfInBounds_toArray, List.append, List.set_cons_zero, List.set_cons_succ]
          refine take_d (i := 2) (oi := _) (v := ?_) (d := some 25) rfl (by kernel_rfl) (by kernel_rfl) (by kernel_rfl) (fun _ _ _ h => h) (Or.inl ⟨by kernel_rfl, ?_⟩) hHeld rfl ?_
          rotate_left
          · intro w' hSw; (try dsimp only at hSw); go_simp; (try with_reducible rfl)
          simp only [Act.put, List.setIfInBounds_toArray, List.append, List.set_cons_zero, List.set_cons_succ]
          refine take_d (i := 3) (oi := _) (v := ?_) (d := some 26) rfl (by kernel_rfl) (by kernel_rfl) (by kernel_rfl) (fun _ _ _ h => h) (Or.inl ⟨by kernel_rfl, ?_⟩) hHeld rfl ?_
          rotate_left
          · intro w' hSw; (try dsimp only at hSw); go_simp; (try with_reducible rfl)
          simp only [Act.put, List.setIfInBounds_toArray, List.append, List.set_cons_zero, List.set_cons_succ]
          refine take_d (i := 8) (oi := _) (v := ?_) (d := some 31) rfl (by kernel_rfl) (by kernel_rfl) (by kernel_rfl) (fun _ _ _ h => h) (Or.inl ⟨by kernel_rfl, ?_⟩) hHeld rfl ?_
          rotate_left
          · intro w' hSw; (try dsimp only at hSw); go_simp; (try with_reducible rfl)
          simp only [Act.put, List.setIfInBounds_toArray, List.append, List.set_cons_zero, List.set_cons_succ]
          refine wpAnyH_ready (rs := [4]) (by kernel_rfl) (by simp) ?_
          refine AllReadyH.cons rfl (fun K hK => ?_) ?_
          · (go_simp; refine (width_u32 _).mono ?_; rintro e wz ⟨e0, rfl⟩; subst e0)
            refine hK.out _ _ ?_ (fun hHeld => ?_)
            · (try dsimp only); exact hHeld
            clear hK K
            (try simp only [Act.put, List.setIfInBounds_toArray, List.append, List.set_cons_zero, List.set_cons_succ])
            refine take_d (i := 5) (oi := _) (v := ?_) (d := some 28) rfl (by kernel_rfl) (by kernel_rfl) (by kernel_rfl) (fun _ _ _ h => h) (Or.inl ⟨by kernel_rfl, ?_⟩) hHeld rfl ?_
            rotate_left
            · intro w' hSw; (try dsimp only at hSw); go_simp; (try with_reducible rfl)
            simp only [Act.put, List.setIfInBounds_toArray, List.append, List.set_cons_zero, List.set_cons_succ]
            refine wpAnyH_ready (rs := [6]) (by kernel_rfl) (by simp) ?_
            refine AllReadyH.cons rfl (fun K hK => ?_) ?_
            · go_simp
              refine hK.out _ _ ?_ (fun hHeld => ?_)
              · (try dsimp only); exact c2
              clear hK K
              (try simp only [Act.put, List.setIfInBounds_toArray, List.append, List.set_cons_zero, List.set_cons_succ])
              refine take_d (i := 7) (oi := _) (v := ?_) (d := some 30) rfl (by kernel_rfl) (by kernel_rfl) (by kernel_rfl) (fun _ _ _ h => h) (Or.inl ⟨by kernel_rfl, ?_⟩) hHeld rfl ?_
              rotate_left
              · intro w' hSw; (try dsimp only at hSw); go_simp; (try with_reducible rfl)
              simp only [Act.put, List.setIfInBounds_toArray, List.append, List.set_cons_zero, List.set_cons_succ]
              refine wpAnyH_done (by kernel_rfl) ?_ _
              refine NoPanic.normal ?_
              go_wp2
              go_meet
              case rel => exact ⟨rfl, rfl, rfl, Hid.intro' rfl⟩
            exact AllReadyH.nil
          exact AllReadyH.nil
        case rest =>
          obtain ⟨rfl, rfl, rfl, hwc⟩ := hcut
          have hwc : wc = V2 := hwc.out
          subst hwc
          clear hcv c1 c2
          obtain ⟨vb, hvb⟩ : ∃ vb, vb = V.heap.size := ⟨_, rfl⟩
          have HVC : Hid (∀ j, j < 4 → ∃ b : UInt8, r[j]? = some b ∧ wc.cell? ⟨vb, j, none⟩ = some (.int .u8 (b.toNat : Int))) := by rw [hvb]; exact hVC.out
          rw [← hvb]
          clear hVC hvb hVB VB
          go_wp2
          go_loopw [31, 7] (fun y val wq => ∃ j : Nat, j ≤ 4 ∧ y = .int .i64 j ∧ val = .int .i64 (valB (r.take j)) ∧ Hid (wq = wc)) (fun y _ _ => 4 - (intOf y).toNat)
          case atStart => exact ⟨0, by omega, rfl, rfl, rfl⟩
          case round =>
            obtain ⟨j, hj, rfl, rfl, hwq⟩ := hrel
            have hwq := hwq.out
            subst hwq
            by_cases hjl : j < 4
            · obtain ⟨b, hb, d0⟩ := HVC.out j hjl
              have HB : Hid (r[j]? = some b) := hb
              have hbt : b.toNat < 256 := b.toNat_lt
              obtain ⟨m1, m2⟩ := HVB2.out.2 j hj
              have m3 : valB (r.take j) < 16777216 := by
                obtain rfl | rfl | rfl | rfl : j = 0 ∨ j = 1 ∨ j = 2 ∨ j = 3 := by omega
                all_goals (simp only [Int.reducePow] at m1; omega)
              obtain ⟨vj, hvj⟩ : ∃ vj, vj = valB (r.take j) := ⟨_, rfl⟩
              have HVJ : Hid (vj = valB (r.take j)) := hvj
              rw [← hvj] at m2 m3 ⊢
              clear hb m1 hvj
              have hjI : (j : Int) < 4 := by omega
              have hor : bits .or .i64 (vj * 256) ((b.toNat : Nat) : Int) = vj * 256 + ((b.toNat : Nat) : Int) := by
                obtain ⟨vn, rfl⟩ : ∃ vn : Nat, vj = (vn : Int) := ⟨vj.toNat, by omega⟩
                exact or_shift vn b (by omega)
              go_wp2
              go_roundw
              case rel =>
                refine ⟨j + 1, by omega, by go_num, ?_, by first | exact rfl | exact (trivial : True)⟩
                rw [List.take_add_one, HB.out]
                simp only [Option.toList_some, valB_snoc, ← HVJ.out]
              case measure => simp [intOf]; omega
            · obtain rfl : j = 4 := by omega
              have HRV : Hid (numR 4 r = some (valB (r.take 4), r.drop 4)) := by
                show numR 4 r = _
                unfold numR; rw [if_neg (by omega)]
              obtain ⟨vv, hvv⟩ : ∃ vv, vv = valB (r.take 4) := ⟨_, rfl⟩
              rw [← hvv]
              have HVV : Hid (vv = valB (r.take 4)) := hvv
              clear hvv HVC
              have HTQ : Hid (Tgt wr rb a) := HTA.out.below HVB2.out.1 HTA.out.lt
              have hab : a.1 ≠ rb := HTA.out.1
              obtain ⟨arr, ta, ha1, ha2⟩ := HTQ.out.2
              obtain ⟨x9, x0⟩ : ∃ x, wr.cell? (adr a) = some x := ⟨arr[a.2], by
                have := Lib.cell_of_heap ha1 a.2
                rw [this]; simp [ha2]⟩
              have z0 : wr.frozen? (adr a) = false := Lib.frozen_of_heap ha1 a.2
              have hrq : RdAt wr rb r := (HVB2.out.1.block rb (heap_lt HRD.out)).trans HRD.out
              have HRQ : Hid (RdAt (wr.setCell (adr a) (.int .i64 vv)) rb r) := (Go.Deep.blk_setCell_other wr (adr a) _ rb (Ne.symm hab)).trans hrq
              have y0 : (wr.setCell (adr a) (.int .i64 vv)).cell? ⟨rb, 0, none⟩ = some (.string s) := by
                rw [HS.out]; exact Lib.cell_of_heap HRQ.out 0
              have y1 : (wr.setCell (adr a) (.int .i64 vv)).frozen? ⟨rb, 0, none⟩ = false := Lib.frozen_of_heap HRQ.out 0
              clear ha1 ha2 hrq
              have HEX : Hid (s.extract 4 r.length = ⟨(r.drop 4).toArray⟩) := by
                show s.extract 4 r.length = _
                rw [HS.out]; exact ext_back r 4
              go_upto_region 13 with fail
              obtain ⟨Y0, hY0⟩ : ∃ Y, Y = wr.setCell (adr a) (.int .i64 vv) := ⟨_, rfl⟩
              rw [← hY0] at y0 y1 HRQ ⊢
              have HY0 : Hid (Y0 = wr.setCell (adr a) (.int .i64 vv)) := hY0
              clear hY0 x0 z0
              have HREL : Hid (∀ Z, Below Y0.heap.size (Y0.setCell ⟨rb, 0, none⟩ (.string ⟨(r.drop 4).toArray⟩)) Z → ((vs ++ [vv]).length = i + 1 ∧ manyR (numR 4) ads.length l = fromR (numR 4) (vs ++ [vv]) (ads.length - (i + 1)) (r.drop 4) ∧ (r.drop 4).length ≤ l.length ∧ Below W.heap.size ((setAll W (ads.take (i + 1)) (vs ++ [vv])).setCell ⟨rb, 0, none⟩ (.string ⟨(r.drop 4).toArray⟩)) Z)) := fun Z hZ => by
                refine ⟨by simp [HI.out.1], ?_, by have := HI.out.2.2.1; simp; omega, ?_⟩
                · rw [HI.out.2.1, show ads.length - i = (ads.length - (i + 1)) + 1 by omega, fromR_yes HRV.out, HVV.out]
                · rw [List.take_add_one, HAT.out]
                  simp only [Option.toList_some]
                  rw [setAll_snoc _ _ _ _ _ (by rw [List.length_take, HI.out.1]; omega)]
                  have hS : RdAt (setAll W (ads.take i) vs) rb l := (setAll_blk _ _ _ _ (fun b hb => (HT.out b (List.mem_of_mem_take hb)).1)).trans HR.out
                  have hsz1 := HI.out.2.2.2.size
                  have hsz2 : ((setAll W (ads.take i) vs).setCell ⟨rb, 0, none⟩ (.string ⟨r.toArray⟩)).heap.size = W.heap.size := by simp [World.setCell, setAll_size]
                  have h1 : Below W.heap.size ((setAll W (ads.take i) vs).setCell ⟨rb, 0, none⟩ (.string ⟨r.toArray⟩)) wr := HI.out.2.2.2.trans (HVB2.out.1.mono (by omega))
                  have h2 := below_step (v := vv) (r' := r.drop 4) hS hab h1 hrb
                  rw [← HY0.out] at h2
                  have hsz3 := HVB2.out.1.size
                  have hsz4 : Y0.heap.size = wr.heap.size := by rw [HY0.out]; simp [World.setCell]
                  exact h2.trans (hZ.mono (by omega))
              refine wp_region_noPanic ?_
              refine wp_region_held_drew (S := fun _ => True) (by kernel_rfl) trivial (fun hHeld => ?_)
              refine take_d (i := 0) (oi := _) (v := ?_) (d := some 44) rfl (by kernel_rfl) (by kernel_rfl) (by kernel_rfl) (fun _ _ _ h => h) (Or.inl ⟨by kernel_rfl, ?_⟩) hHeld rfl ?_
              rotate_left
              · intro w' hSw; (try dsimp only at hSw); go_simp; (try with_reducible rfl)
              simp only [Act.put, List.setIfInBounds_toArray, List.append, List.set_cons_zero, List.set_cons_succ]
              refine take_d (i := 1) (oi := _) (v := ?_) (d := some 45) rfl (by kernel_rfl) (by kernel_rfl) (by kernel_rfl) (fun _ _ _ h => h) (Or.inl ⟨by kernel_rfl, ?_⟩) hHeld rfl ?_
              rotate_left
              · intro w' hSw; (try dsimp only at hSw); go_simp; (try with_reducible rfl)
              simp only [Act.put, List.setIfInBounds_toArray, List.append, List.set_cons_zero, List.set_cons_succ]
              refine take_d (i := 2) (oi := _) (v := ?_) (d := some 46) rfl (by kernel_rfl) (by kernel_rfl) (by kernel_rfl) (fun _ _ _ h => h) (Or.inl ⟨by kernel_rfl, ?_⟩) hHeld rfl ?_
              rotate_left
              · intro w' hSw; (try dsimp only at hSw); go_simp; (try with_reducible rfl)
              simp only [Act.put, List.setIfInBounds_toArray, List.append, List.set_cons_zero, List.set_cons_succ]
              refine take_d (i := 3) (oi := _) (v := ?_) (d := some 47) rfl (by kernel_rfl) (by kernel_rfl) (by kernel_rfl) (fun _ _ _ h => h) (Or.inl ⟨by kernel_rfl, ?_⟩) hHeld rfl ?_
              rotate_left
              · intro w' hSw; (try dsimp only at hSw); go_simp; (try with_reducible rfl)
              simp only [Act.put, List.setIfInBounds_toArray, List.append, List.set_cons_zero, List.set_cons_succ]
              refine wpAnyH_ready (rs := [4, 5]) (by kernel_rfl) (by simp) ?_
              refine AllReadyH.cons rfl (fun K hK => ?_) ?_
              · go_simp
                refine hK.out _ _ ?_ (fun hHeld => ?_)
                · (try dsimp only); (first | done | trivial)
                clear hK K
                (try simp only [Act.put, List.setIfInBounds_toArray, List.append, List.set_cons_zero, List.set_cons_succ])
                refine wpAnyH_ready (rs := [5]) (by kernel_rfl) (by simp) ?_
                refine AllReadyH.cons rfl (fun K hK => ?_) ?_
                · (go_simp; refine (width_u32 _).mono ?_; rintro e wz ⟨e0, rfl⟩; subst e0)
                  refine hK.out _ _ ?_ (fun hHeld => ?_)
                  · (try dsimp only); (first | done | trivial)
                  clear hK K
                  (try simp only [Act.put, List.setIfInBounds_toArray, List.append, List.set_cons_zero, List.set_cons_succ])
                  refine take_d (i := 6) (oi := _) (v := ?_) (d := some 50) rfl (by kernel_rfl) (by kernel_rfl) (by kernel_rfl) (fun _ _ _ h => h) (Or.inl ⟨by kernel_rfl, ?_⟩) hHeld rfl ?_
                  rotate_left
                  · intro w' hSw; (try dsimp only at hSw); go_simp; (try with_reducible rfl)
                  simp only [Act.put, List.setIfInBounds_toArray, List.append, List.set_cons_zero, List.set_cons_succ]
                  refine take_d (i := 7) (oi := _) (v := ?_) (d := some 51) rfl (by kernel_rfl) (by kernel_rfl) (by kernel_rfl) (fun _ _ _ h => h) (Or.inl ⟨by kernel_rfl, ?_⟩) hHeld rfl ?_
                  rotate_left
                  · intro w' hSw; (try dsimp only at hSw); go_simp; (try with_reducible rfl)
                  simp only [Act.put, List.setIfInBounds_toArray, List.append, List.set_cons_zero, List.set_cons_succ]
                  refine take_d (i := 8) (oi := _) (v := ?_) (d := some 52) rfl (by kernel_rfl) (by kernel_rfl) (by kernel_rfl) (fun _ _ _ h => h) (Or.inl ⟨by kernel_rfl, ?_⟩) hHeld rfl ?_
                  rotate_left
                  · intro w' hSw; (try dsimp only at hSw); go_simp; (try with_reducible rfl)
                  simp only [Act.put, List.setIfInBounds_toArray, List.append, List.set_cons_zero, List.set_cons_succ]
                  refine wpAnyH_ready (rs := [9]) (by kernel_rfl) (by simp) ?_
                  refine AllReadyH.cons rfl (fun K hK => ?_) ?_
                  · go_simp
                    refine hK.out _ _ ?_ (fun hHeld => ?_)
                    · (try dsimp only); (first | done | trivial)
                    clear hK K
                    (try simp only [Act.put, List.setIfInBounds_toArray, List.append, List.set_cons_zero, List.set_cons_succ])
                    refine wpAnyH_done (by kernel_rfl) ?_ _
                    refine NoPanic.normal ?_
                    go_wp2
                    go_roundw
                    case rel => exact ⟨i + 1, vs ++ [vv], r.drop 4, by omega, by go_num, HREL.out _ (by rw [HEX.out]; exact (Below.refl _ _).drew)⟩
                    case measure => simp [intOf]; omega
                  exact AllReadyH.nil
                exact AllReadyH.nil
              refine AllReadyH.cons rfl (fun K hK => ?_) ?_
              · (go_simp; refine (width_u32 _).mono ?_; rintro e wz ⟨e0, rfl⟩; subst e0)
                refine hK.out _ _ ?_ (fun hHeld => ?_)
                · (try dsimp only); (first | done | trivial)
                clear hK K
                (try simp only [Act.put, List.setIfInBounds_toArray, List.append, List.set_cons_zero, List.set_cons_succ])
                refine wpAnyH_ready (rs := [4]) (by kernel_rfl) (by simp) ?_
                refine AllReadyH.cons rfl (fun K hK => ?_) ?_
                · go_simp
                  refine hK.out _ _ ?_ (fun hHeld => ?_)
                  · (try dsimp only); (first | done | trivial)
                  clear hK K
                  (try simp only [Act.put, List.setIfInBounds_toArray, List.append, List.set_cons_zero, List.set_cons_succ])
                  refine take_d (i := 6) (oi := _) (v := ?_) (d := some 50) rfl (by kernel_rfl) (by kernel_rfl) (by kernel_rfl) (fun _ _ _ h => h) (Or.inl ⟨by kernel_rfl, ?_⟩) hHeld rfl ?_
                  rotate_left
                  · intro w' hSw; (try dsimp only at hSw); go_simp; (try with_reducible rfl)
                  simp only [Act.put, List.setIfInBounds_toArray, List.append, List.set_cons_zero, List.set_cons_succ]
                  refine take_d (i := 7) (oi := _) (v := ?_) (d := some 51) rfl (by kernel_rfl) (by kernel_rfl) (by kernel_rfl) (fun _ _ _ h => h) (Or.inl ⟨by kernel_rfl, ?_⟩) hHeld rfl ?_
                  rotate_left
                  · intro w' hSw; (try dsimp only at hSw); go_simp; (try with_reducible rfl)
                  simp only [Act.put, List.setIfInBounds_toArray, List.append, List.set_cons_zero, List.set_cons_succ]
                  refine take_d (i := 8) (oi := _) (v := ?_) (d := some 52) rfl (by kernel_rfl) (by kernel_rfl) (by kernel_rfl) (fun _ _ _ h => h) (Or.inl ⟨by kernel_rfl, ?_⟩) hHeld rfl ?_
                  rotate_left
                  · intro w' hSw; (try dsimp only at hSw); go_simp; (try with_reducible rfl)
                  simp only [Act.put, List.setIfInBounds_toArray, List.append, List.set_cons_zero, List.set_cons_succ]
                  refine wpAnyH_ready (rs := [9]) (by kernel_rfl) (by simp) ?_
                  refine AllReadyH.cons rfl (fun K hK => ?_) ?_
                  · go_simp
                    refine hK.out _ _ ?_ (fun hHeld => ?_)
                    · (try dsimp only); (first | done | trivial)
                    clear hK K
                    (try simp only [Act.put, List.setIfInBounds_toArray, List.append, List.set_cons_zero, List.set_cons_succ])
                    refine wpAnyH_done (by kernel_rfl) ?_ _
                    refine NoPanic.normal ?_
                    go_wp2
                    go_roundw
                    case rel => exact ⟨i + 1, vs ++ [vv], r.drop 4, by omega, by go_num, HREL.out _ (by rw [HEX.out]; exact (Below.refl _ _).drew)⟩
                    case measure => simp [intOf]; omega
                  exact AllReadyH.nil
                exact AllReadyH.nil
              exact AllReadyH.nil
      · have hlongI : (r.length : Int) < 4 := by omega
        go_wp2
        go_quiet ((go_at_call 43; refine Calls.quiet_of_same (width_u32 _)))
        go_wp2
        go_ret
        have hno : manyR (numR 4) ads.length l = none := by
          rw [HI.out.2.1, show ads.length - i = (ads.length - (i + 1)) + 1 by omega]
          exact fromR_no (by unfold numR; rw [if_pos (by omega)])
        have hb : Below W.heap.size ((setAll W (ads.take i) vs).setCell ⟨rb, 0, none⟩ (.string ⟨r.toArray⟩)) (wr.drewN nq) := ⟨HI.out.2.2.2.os, HI.out.2.2.2.tape, HI.out.2.2.2.output, HI.out.2.2.2.size, HI.out.2.2.2.block⟩
        refine ⟨false, rfl, Oth.of i vs _ hb, ?_⟩
        show (match manyR (numR 4) ads.length l with | some (vs, l') => _ | none => _)
        rw [hno]
    · obtain rfl : i = ads.length := by omega
      go_wp2
      go_ret
      have hyes : manyR (numR 4) ads.length l = some (vs, r) := by
        rw [HI.out.2.1, Nat.sub_self, fromR_zero]
      refine ⟨true, rfl, Oth.of ads.length vs _ HI.out.2.2.2, ?_⟩
      show (match manyR (numR 4) ads.length l with | some (vs, l') => _ | none => _)
      rw [hyes]
      have := HI.out.2.2.2
      rw [List.take_length] at this
      exact ⟨rfl, HI.out.1, this⟩
end Go.Proofs.Ytgeajdfajfdjcaa
