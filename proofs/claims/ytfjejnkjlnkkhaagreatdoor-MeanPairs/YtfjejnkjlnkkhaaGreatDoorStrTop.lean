import Derived.Test.YtfjejnkjlnkkhaaGreatDoorHangR
import Derived.Test.YtfjejnkjlnkkhaaGreatDoorGb
import Derived.Laws.MakeOwn
import Derived.Deep.LoopGhost
import Derived.Deep.RegionHeld3
import Derived.Laws.CopyOwn
import Derived.Laws.Bits64b
import Derived.Deep.RegionLaw
import Derived.Deep.CutRange
import Derived.ArgAppend
import Derived.Deep.QuietTactic
import Derived.Laws.ResultCell
/- step, raise, levels of strata, against their plain functions. -/
namespace Go.Proofs.YtfjejnkjlnkkhaaGreatDoor
set_option linter.unusedVariables false
open Go.ChangeShapes Go.WideShapes Go.ChangeAt Go.RowKit

def intsA (l : List Int) : Array Value := (intsV l).toArray
theorem intsV_at {l : List Int} {k : Nat} {z : Int} (h : l[k]? = some z) : (intsV l)[k]? = some (.int .i64 z) := by unfold intsV; rw [List.getElem?_map, h]; rfl
/-- Block b is the row l of numbers. -/
def ZAt (w : World) (b : Nat) (l : List Int) : Prop := w.heap[b]? = some (.cells (intsA l) 3)
section
variable {w w' : World} {b : Nat} {l : List Int}
theorem ZAt.lt (h : ZAt w b l) : b < w.heap.size := heap_lt h
theorem ZAt.cell (h : ZAt w b l) {k : Nat} {z : Int} (hk : l[k]? = some z) : w.cell? ⟨b, k, none⟩ = some (.int .i64 z) := by
  rw [cell_of_row _ _ k _ _ (0, 0) h]
  unfold intsA
  rw [List.getElem?_toArray]; exact intsV_at hk
theorem ZAt.frozen (h : ZAt w b l) (k : Nat) : w.frozen? ⟨b, k, none⟩ = false := by simp [World.frozen?, show w.heap[b]? = _ from h]
theorem ZAt.keep (h : ZAt w b l) (hb : Below w.heap.size w w') : ZAt w' b l := (hb.block b h.lt).trans h
theorem ZAt.blk (h : ZAt w b l) (hb : w'.heap[b]? = w.heap[b]?) : ZAt w' b l := hb.trans h
theorem ZAt.put (h : ZAt w b l) (k : Nat) (z : Int) : ZAt (w.setCell ⟨b, k, none⟩ (.int .i64 z)) b (l.set k z) := by
  unfold ZAt at *
  simp only [World.setCell, Array.getElem?_modify, if_pos, h, Option.map_some]
  unfold intsA intsV
  rw [List.map_set]
  simp
theorem ZAt.new (w : World) (l : List Int) : ZAt (w.alloc (.cells (intsA l) 3)) w.heap.size l := heap_alloc_new w _
theorem ZAt.ints (h : ZAt w b l) {F : Nat → Prop} (hF : F b) {n : Nat} (hn : n = l.length) (hm : n ≤ maxLen) : IsInts w F (.slice (some ⟨b, 0, none⟩) n n) l := by
  subst hn
  refine ⟨_, _, rfl, ⟨hm, Nat.le_refl _⟩, fun _ => ⟨b, 0, rfl, hF, h.lt, fun j c hj => ?_, fun j _ => h.frozen _⟩⟩
  rw [Nat.zero_add, cell_of_row _ _ j _ _ (0, 0) h]
  unfold intsA
  rw [List.getElem?_toArray]; exact hj
end
theorem levL_length (n : Nat) (f : Nat → Nat) : (levL n f).length = n := by simp [levL]
theorem levL_at {n : Nat} (f : Nat → Nat) {i : Nat} (hi : i < n) : (levL n f)[i]? = some ((f i : Nat) : Int) := by simp [levL, hi]
theorem levL_put {n : Nat} (f : Nat → Nat) {i : Nat} (hi : i < n) (v : Nat) : (levL n f).set i (v : Int) = levL n (putN f i v) := by
  apply List.ext_getElem?
  intro j
  by_cases hj : j < n
  · rw [levL_at _ hj, List.getElem?_set]
    by_cases e : i = j
    · subst e; rw [if_pos rfl, if_pos (by rw [levL_length]; exact hi)]; simp [putN]
    · rw [if_neg e, levL_at _ hj]; simp [putN, Ne.symm e]
  · rw [List.getElem?_eq_none (by rw [List.length_set, levL_length]; omega), List.getElem?_eq_none (by rw [levL_length]; omega)]
theorem made_ints (n : Nat) : madeCells #[.int .i64 0] n = intsA (levL n fun _ => 0) := by
  apply Array.ext_getElem?
  intro i
  by_cases hi : i < n
  · have h1 : (intsA (levL n fun _ => 0))[i]? = some (.int .i64 0) := by
      unfold intsA
      rw [List.getElem?_toArray]; exact intsV_at (levL_at _ hi)
    rw [h1]
    simp [madeCells, hi, Nat.mod_one]
  · rw [Array.getElem?_eq_none (by rw [size_madeCells]; omega), Array.getElem?_eq_none (by simp [intsA, intsV, levL]; omega)]
theorem make_ints (n : Nat) (hn : n ≤ 64) (w : World) : (Instr.makeSlice 62 (.int .i64 (n : Int)) (.int .i64 (n : Int))).run Tryz.prog w = .ok (.slice (some ⟨w.heap.size, 0, none⟩) n n) (w.alloc (.cells (intsA (levL n fun _ => 0)) 3)) := by
  obtain ⟨i, hi, hz, hs, hb⟩ := info_parts Tryz.infoInt
  have h := run_make (P := Tryz.prog) w 62 3 i _ Tryz.underlying62 hi hz .i64 .i64 (n : Int) (n : Int) (by omega) (Int.le_refl _) (by rw [hb]; omega) (by omega)
  simp only [Int.toNat_natCast, hs, Nat.mul_one] at h
  rw [← made_ints]
  exact h
theorem step8_any (x0 x1 : Int) (x2 : Bool) (w : World) : Calls Tryz.prog 91 #[.agg #[.int .i64 x0, .int .i64 x1, .bool x2]] w fun e w' => e = .returned (.int .i64 ((stp (x0, x1, x2) : Nat) : Int)) ∧ Hid (Below w.heap.size w w') := by
  cases x2 with
  | false =>
    go_enter Tryz.func91, Tryz.ntmps91
    go_wp2
    go_ret
    exact ⟨rfl, bel1 _ _⟩
  | true =>
    go_enter Tryz.func91, Tryz.ntmps91
    go_wp2
    go_ret
    exact ⟨rfl, bel1 _ _⟩
theorem take_rai {l : List Ed} {k : Nat} {t : Ed} (ht : l[k]? = some t) (f : Nat → Nat) : rai f (l.take (k + 1)) = raiE (rai f (l.take k)) t := by
  rw [List.take_add_one, ht]; exact rai_snoc _ _ _
theorem take_chg {l : List Ed} {k : Nat} {t : Ed} (ht : l[k]? = some t) (f : Nat → Nat) : chg f (l.take (k + 1)) = (chg f (l.take k) || decide (rai f (l.take k) t.1.toNat < rai f (l.take k) t.2.1.toNat + stp t)) := by
  rw [List.take_add_one, ht]; exact chg_snoc _ _ _
theorem rai_app : ∀ (l m : List Ed) (f : Nat → Nat), rai f (l ++ m) = rai (rai f l) m
  | [], m, f => rfl
  | e :: l, m, f => rai_app l m _
theorem rai_take (l : List Ed) (k : Nat) (f : Nat → Nat) (i : Nat) : rai f (l.take k) i ≤ rai f l i := by
  have h : rai f l = rai (rai f (l.take k)) (l.drop k) := by rw [← rai_app, List.take_append_drop]
  rw [h]; exact rai_le _ _ _
theorem bel_set {W w' : World} {b k : Nat} {v : Value} (h : Below W.heap.size W w') (hb : W.heap.size ≤ b) : Below W.heap.size W (w'.setCell ⟨b, k, none⟩ v) := h.setCell (p := ⟨b, k, none⟩) hb v
set_option maxHeartbeats 4000000 in
set_option maxRecDepth 100000 in
theorem raise_any (b n : Nat) (f : Nat → Nat) (v : Value) (l : List Ed) (w0 w : World) {F : Nat → Prop} (ha : IsEds w0 F v l) (hb : Below w0.heap.size w0 w) (hB : w0.heap.size ≤ b) (hl : edsB (n : Int) l = true) (hz : ZAt w b (levL n f)) (hu : ∀ i, rai f l i ≤ 1000) :
    Calls Tryz.prog 60 #[.slice (some ⟨b, 0, none⟩) n n, v] w fun e w' => e = .returned (.bool (chg f l)) ∧ Hid (ZAt w' b (levL n (rai f l))) ∧ Hid (Below w0.heap.size w0 w') := by
  obtain ⟨p, cp, rfl⟩ := ha.slc
  have hm9 : l.length ≤ 9223372036854775807 := by have := ha.len; unfold maxLen at this; omega
  have HA : Hid (IsEds w0 F (.slice p l.length cp) l) := ha
  have HL : Hid (edsB (n : Int) l = true) := hl
  have HZ : Hid (ZAt w b (levL n f)) := hz
  have HB : Hid (Below w0.heap.size w0 w) := hb
  have HU : Hid (∀ i, rai f l i ≤ 1000) := hu
  clear ha hb hl hz hu
  go_enter Tryz.func60, Tryz.ntmps60
  go_wp2
  go_loopw [5, 11] (fun c x wr => ∃ k : Nat, k ≤ l.length ∧ x = .int .i64 k ∧ c = .bool (chg f (l.take k)) ∧ Hid (ZAt wr b (levL n (rai f (l.take k)))) ∧ Hid (Below w0.heap.size w0 wr)) (fun _ x _ => l.length - (intOf x).toNat)
  case atStart => exact ⟨0, Nat.zero_le _, rfl, rfl, HZ, HB⟩
  case round =>
    obtain ⟨k, hk, rfl, rfl, HZk, HBk⟩ := hrel
    by_cases hlt : k < l.length
    · obtain ⟨t, ht⟩ : ∃ t, l[k]? = some t := ⟨_, List.getElem?_eq_getElem hlt⟩
      obtain ⟨g1, o1, hp, hg1, a0, a1, a2⟩ := (HA.out.any HBk.out).at ht
      subst hp
      have htm := List.mem_of_getElem? ht
      have hed := edB_lt (List.all_eq_true.1 HL.out t htm)
      have e1 := take_rai ht f
      have e2 := take_chg ht f
      obtain ⟨F0, hF0⟩ : ∃ F0, F0 = rai f (l.take k) := ⟨_, rfl⟩
      have hub : ∀ i, F0 i ≤ 1000 := fun i => by rw [hF0]; exact Nat.le_trans (rai_take l k f i) (HU.out i)
      rw [← hF0] at e1 e2 HZk
      obtain ⟨t0, t1, t2⟩ := t
      simp only at a0 a1 a2 hed e2
      obtain ⟨x, rfl⟩ : ∃ x : Nat, t0 = (x : Int) := ⟨t0.toNat, by omega⟩
      obtain ⟨y, rfl⟩ : ∃ y : Nat, t1 = (y : Int) := ⟨t1.toNat, by omega⟩
      have hx : x < n := by omega
      have hy : y < n := by omega
      rw [Int.toNat_natCast, Int.toNat_natCast] at e2
      obtain ⟨V, hV⟩ : ∃ V, V = wr.alloc (.cells #[.int .i64 (x : Int), .int .i64 (y : Int), .bool t2] 93) := ⟨_, rfl⟩
      have hVb : Below wr.heap.size wr V := by rw [hV]; exact bel1 _ _
      have q0 : V.cell? ⟨wr.heap.size, 0, none⟩ = some (.int .i64 (x : Int)) := by rw [hV]; exact World.cell?_alloc_at _ _ _ _ rfl
      have q1 : V.cell? ⟨wr.heap.size, 1, none⟩ = some (.int .i64 (y : Int)) := by rw [hV]; exact World.cell?_alloc_at _ _ _ _ rfl
      have q2 : V.cell? ⟨wr.heap.size, 2, none⟩ = some (.bool t2) := by rw [hV]; exact World.cell?_alloc_at _ _ _ _ rfl
      have zV := HZk.out.keep hVb
      have c1 := zV.cell (levL_at F0 hy)
      have hs : wr.heap.size < V.heap.size := by rw [hV]; simp
      have hbV := zV.lt
      obtain ⟨s, hs9⟩ : ∃ s, s = stp ((x : Int), (y : Int), t2) := ⟨_, rfl⟩
      have hs1 : s ≤ 1 := by rw [hs9]; unfold stp; split <;> omega
      have KS : Hid (∀ w2, Below V.heap.size V w2 → Calls Tryz.prog 91 #[.agg #[.int .i64 (x : Int), .int .i64 (y : Int), .bool t2]] w2 fun e w' => e = .returned (.int .i64 (s : Int)) ∧ Hid (Below w2.heap.size w2 w')) := fun w2 _ => by rw [hs9]; exact step8_any _ _ _ _
      have HS : Hid (∀ w', Below V.heap.size V w' → Below V.heap.size V w' ∧ w'.cell? ⟨wr.heap.size, 0, none⟩ = some (.int .i64 (x : Int)) ∧ w'.cell? ⟨wr.heap.size, 1, none⟩ = some (.int .i64 (y : Int)) ∧ w'.cell? ⟨wr.heap.size, 2, none⟩ = some (.bool t2) ∧ w'.cell? ⟨b, y, none⟩ = some (.int .i64 ((F0 y : Nat) : Int))) := fun w' h =>
        ⟨h, (h.cell (p := ⟨_, _, none⟩) hs).trans q0, (h.cell (p := ⟨_, _, none⟩) hs).trans q1, (h.cell (p := ⟨_, _, none⟩) hs).trans q2, (h.cell (p := ⟨_, _, none⟩) hbV).trans c1⟩
      have HZV : Hid (ZAt V b (levL n F0)) := zV
      have HBV : Hid (Below w0.heap.size w0 V) := HBk.out.trans (hVb.mono HBk.out.size)
      have HE1 : Hid (rai f (l.take (k + 1)) = raiE F0 ((x : Int), (y : Int), t2)) := e1
      have HE2 : Hid (chg f (l.take (k + 1)) = (chg f (l.take k) || decide (F0 x < F0 y + s))) := by rw [hs9]; exact e2
      have HSS : Hid (s = stp ((x : Int), (y : Int), t2)) := hs9
      have hux := hub x
      have huy := hub y
      obtain ⟨fx, hfx⟩ : ∃ fx, fx = F0 x := ⟨_, rfl⟩
      obtain ⟨fy, hfy⟩ : ∃ fy, fy = F0 y := ⟨_, rfl⟩
      have HFX : Hid (fx = F0 x ∧ fy = F0 y) := ⟨hfx, hfy⟩
      obtain ⟨ck, hck⟩ : ∃ ck, ck = chg f (l.take k) := ⟨_, rfl⟩
      have HCK : Hid (ck = chg f (l.take k)) := hck
      rw [← hfx] at hux
      rw [← hfy] at huy HS
      rw [← hck]
      obtain ⟨nb, hnb⟩ : ∃ nb, nb = wr.heap.size := ⟨_, rfl⟩
      rw [← hnb] at HS
      clear ht htm hed e1 e2 hF0 hub c1 q0 q1 q2 hs hs9 hfx hfy hck zV hbV hVb
      go_wp2
      rw [← hV, ← hnb]
      clear hV hnb
      go_region_held3 (fun w' => Below V.heap.size V w' ∧ w'.cell? ⟨nb, 0, none⟩ = some (.int .i64 (x : Int)) ∧ w'.cell? ⟨nb, 1, none⟩ = some (.int .i64 (y : Int)) ∧ w'.cell? ⟨nb, 2, none⟩ = some (.bool t2) ∧ w'.cell? ⟨b, y, none⟩ = some (.int .i64 (fy : Int)))
        ((refine HS.out _ ?_; (repeat' (first | with_reducible assumption | with_reducible exact Below.refl _ _ | with_reducible apply Below.drew))))
        ((go_at_call 91; refine (KS.out _ (by repeat' (first | exact Below.refl _ _ | apply Below.drew))).mono ?_; rintro e w3 ⟨rfl, b3⟩; have b4 : Below V.heap.size V w3 := Below.trans (b := V.drew) (Below.refl _ _).drew b3.out))
      obtain ⟨-, r0, -, -, -⟩ := HS.out _ b4
      have HZ3 : Hid (ZAt w3 b (levL n F0)) := HZV.out.keep b4
      have cx := HZ3.out.cell (levL_at F0 hx)
      rw [← HFX.out.1] at cx
      have fz := HZ3.out.frozen x
      have HB3 : Hid (Below w0.heap.size w0 w3) := HBV.out.trans (b4.mono HBV.out.size)
      by_cases hup : fx < fy + s
      · have hup2 : (fx : Int) < (fy : Int) + (s : Int) := by omega
        have HR : Hid (levL n (rai f (l.take (k + 1))) = (levL n F0).set x ((fy : Int) + (s : Int))) := by
          show _ = _
          rw [HE1.out, show ((fy : Int) + (s : Int)) = ((fy + s : Nat) : Int) by omega, levL_put _ hx]
          congr 1
          unfold raiE
          rw [← HSS.out]
          simp only [Int.toNat_natCast]
          rw [← HFX.out.1, ← HFX.out.2, if_pos hup]
        have HC : Hid (chg f (l.take (k + 1)) = true) := by show _ = _; rw [HE2.out, ← HFX.out.1, ← HFX.out.2, decide_eq_true hup, Bool.or_true]
        clear hup
        go_wp2
        go_roundw
        case rel => exact ⟨k + 1, by omega, by go_num, by rw [HC.out], by rw [HR.out]; exact HZ3.out.put _ _, bel_set HB3.out hB⟩
        case measure => simp [intOf]; omega
      · have hup2 : ¬ (fx : Int) < (fy : Int) + (s : Int) := by omega
        have HR : Hid (rai f (l.take (k + 1)) = F0) := by
          show _ = _
          rw [HE1.out]
          unfold raiE
          rw [← HSS.out]
          simp only [Int.toNat_natCast]
          rw [← HFX.out.1, ← HFX.out.2, if_neg hup]
        have HC : Hid (chg f (l.take (k + 1)) = ck) := by show _ = _; rw [HE2.out, ← HFX.out.1, ← HFX.out.2, decide_eq_false hup, Bool.or_false, HCK.out]
        clear hup
        go_wp2
        go_roundw
        case rel => exact ⟨k + 1, by omega, by go_num, by rw [HC.out], by rw [HR.out]; exact HZ3, HB3⟩
        case measure => simp [intOf]; omega
    · obtain rfl : k = l.length := by omega
      rw [List.take_length] at HZk ⊢
      go_wp2
      go_ret
      exact ⟨rfl, HZk, HBk⟩
set_option maxHeartbeats 4000000 in
set_option maxRecDepth 100000 in
theorem levels_any (n : Nat) (v : Value) (l : List Ed) (w : World) {F : Nat → Prop} (ha : IsEds w F v l) (hm : mayE (n : Int) l = true) (hc : Clean l) :
    Calls Tryz.prog 41 #[.int .i64 (n : Int), v] w fun e w' => ∃ u, e = .returned u ∧ Hid (IsInts w' (fun i => w.heap.size ≤ i) u (levL n (levT n l))) ∧ Hid (Below w.heap.size w w') := by
  obtain ⟨h0, h1, hl⟩ := mayE_all hm
  have hn : n ≤ 64 := by omega
  have KR : Hid (∀ r w', Below w.heap.size w w' → ZAt w' w.heap.size (levL n (itL l r)) → Calls Tryz.prog 60 #[.slice (some ⟨w.heap.size, 0, none⟩) n n, v] w' fun e w'' => e = .returned (.bool (chg (itL l r) l)) ∧ Hid (ZAt w'' w.heap.size (levL n (itL l (r + 1)))) ∧ Hid (Below w.heap.size w w'')) := fun r w' hb hz =>
    raise_any w.heap.size n (itL l r) v l w w' ha hb (Nat.le_refl _) hl hz fun i => by
      show itL l (r + 1) i ≤ 1000
      by_cases hi : i < n
      · have := it_lt hl hc (r + 1) hi; omega
      · rw [it_out hl _ i (by omega)]; omega
  have HD : Hid (∀ r, chg (itL l r) l = false → itL l r = levT n l ∧ itL l (r + 1) = levT n l) := fun r h => by
    have := it_done hl hc h
    exact ⟨this, by show rai (itL l r) l = _; rw [rai_fix l _ ((chg_no _ _).1 h), this]⟩
  have HG : Hid (∀ r, chg (itL l r) l = true → r < n) := fun r h => it_goes hl hc h
  have hmk := make_ints n hn w
  obtain ⟨p, cp, rfl⟩ := ha.slc
  clear ha hm hc h0 h1 hl
  go_enter Tryz.func41, Tryz.ntmps41
  go_wp2
  go_loopg [10] n (fun g x wr => ∃ r, r + g = n ∧ Hid (ZAt wr w.heap.size (levL n (itL l r))) ∧ Hid (Below w.heap.size w wr))
  case atStart => exact ⟨0, by omega, ZAt.new w _, bel1 _ _⟩
  case round =>
    obtain ⟨r, hr, HZ, HB⟩ := hrel
    have KC := KR.out r wr HB.out HZ.out
    cases hch : chg (itL l r) l with
    | true =>
      have hlt := HG.out r hch
      rw [hch] at KC
      clear hch
      go_wp2_with (go_at_call 60; refine KC.mono ?_; rintro e w1 ⟨rfl, HZ1, HB1⟩)
      go_roundg (gk - 1)
      case measure => omega
      case rel => exact ⟨r + 1, by omega, HZ1, HB1⟩
    | false =>
      have HF := HD.out r hch
      have HF2 : Hid (itL l (r + 1) = levT n l) := HF.2
      rw [hch] at KC
      clear hch HF
      go_wp2_with (go_at_call 60; refine KC.mono ?_; rintro e w1 ⟨rfl, HZ1, HB1⟩)
      rw [HF2.out] at HZ1
      have HI : Hid (IsInts w1 (fun i => w.heap.size ≤ i) (.slice (some ⟨w.heap.size, 0, none⟩) n n) (levL n (levT n l))) := HZ1.out.ints (Nat.le_refl _) (levL_length _ _).symm (by unfold maxLen; omega)
      go_wp2
      go_ret
      exact ⟨_, rfl, HI, HB1⟩
end Go.Proofs.YtfjejnkjlnkkhaaGreatDoor
/- bits.Mul of 1 and a small number; slices.Repeat of one -1. -/
namespace Go.Proofs.YtfjejnkjlnkkhaaGreatDoor
set_option linter.unusedVariables false
open Go.ChangeShapes Go.WideShapes Go.ChangeAt Go.RowKit

theorem mask_small (a : Nat) (ha : a ≤ 64) : bits .and .u64 (a : Int) 4294967295 = (a : Int) := by
  have h := bits_and_u64_nat a 4294967295 (by omega) (by omega)
  have e : a &&& 4294967295 = a % 4294967296 := Nat.and_two_pow_sub_one_eq_mod a 32
  rw [e, Nat.mod_eq_of_lt (by omega)] at h
  exact h
theorem mask_one : bits .and .u64 1 4294967295 = 1 := mask_small 1 (by omega)
theorem mask_zero : bits .and .u64 0 4294967295 = 0 := mask_small 0 (by omega)
set_option maxHeartbeats 1000000 in
theorem mul64_any (n : Nat) (hn : n ≤ 64) (w : World) : Calls Tryz.prog 129 #[.int .u64 1, .int .u64 (n : Int)] w fun e w' => e = .returned (.tuple #[.int .u64 0, .int .u64 (n : Int)]) ∧ w = w' := by
  have h1 := mask_small n hn
  have h2 := mask_one
  have h3 := mask_zero
  have h4 : (n : Int) / 4294967296 = 0 := by omega
  have h5 : IntKind.u64.wrap (n : Int) = (n : Int) := by rw [IntKind.wrap_u64]; omega
  go_enter Tryz.func129, Tryz.ntmps129
  go_wp2
  go_ret2
  exact ⟨rfl, rfl⟩
set_option maxHeartbeats 1000000 in
theorem mul_any (n : Nat) (hn : n ≤ 64) (w : World) : Calls Tryz.prog 116 #[.int .u64 1, .int .u64 (n : Int)] w fun e w' => e = .returned (.tuple #[.int .u64 0, .int .u64 (n : Int)]) ∧ w = w' := by
  go_enter Tryz.func116, Tryz.ntmps116
  go_wp2_with (go_at_call 129; refine (mul64_any n hn _).mono ?_; rintro e w1 ⟨rfl, rfl⟩)
  go_ret2
  exact ⟨rfl, rfl⟩
/-- A row that is being filled with -1. -/
def fill (n m : Nat) : List Int := List.replicate m (-1) ++ List.replicate (n - m) 0
theorem fill_all (n : Nat) : fill n n = farL n fun _ => -1 := by
  unfold fill farL
  rw [Nat.sub_self, List.replicate_zero, List.append_nil]
  apply List.ext_getElem?
  intro i
  by_cases hi : i < n
  · simp [hi]
  · rw [List.getElem?_eq_none (by simp; omega), List.getElem?_eq_none (by simp; omega)]
theorem fill_at {n m i : Nat} (h : i < m) : (fill n m)[i]? = some (-1) := by
  unfold fill
  rw [List.getElem?_append_left (by simpa using h)]
  simp [h]
theorem fill_splice {n m c : Nat} (h : m + c ≤ n) : splice (intsV (fill n m)) m (List.replicate c (.int .i64 (-1))) = intsV (fill n (m + c)) := by
  unfold splice intsV fill
  simp only [List.map_append, List.map_replicate, List.length_replicate]
  rw [List.take_left' (by simp), List.drop_append, List.drop_replicate, List.drop_replicate]
  simp only [List.length_replicate]
  rw [show m - (m + c) = 0 by omega, show n - m - (m + c - m) = n - (m + c) by omega, List.replicate_zero, List.nil_append, ← List.append_assoc, List.replicate_append_replicate]
theorem levL_fill (n : Nat) : levL n (fun _ => 0) = fill n 0 := by
  unfold levL fill
  apply List.ext_getElem?
  intro i
  by_cases hi : i < n
  · simp [hi]
  · rw [List.getElem?_eq_none (by simp; omega), List.getElem?_eq_none (by simp; omega)]
theorem Tryz.sizeInt : (Tryz.prog.info? 3).map (·.size) = some 1 := by kernel_rfl
theorem copy_fill {v : World} {b n m c dLen dCap sLen sCap : Nat} {ad : Addr} (hz : ZAt v b (fill n m)) (hm : m ≤ n) (hc : m + c ≤ n) (hn : c = Nat.min sLen dLen) (hs : ∀ j, j < c → v.cell? (ad.add j) = some (.int .i64 (-1))) :
    ∃ w2, (Builtin.copy_ #[62, 62] 3 #[.slice (some ⟨b, m, none⟩) dLen dCap, .slice (some ad) sLen sCap]).run Tryz.prog v = .ok (.int .i64 (c : Int)) w2 ∧ ZAt w2 b (fill n (m + c)) ∧ Below b v w2 := by
  have h := run_copy_row (P := Tryz.prog) v 62 62 3 3 b m dLen dCap ad sLen sCap (intsA (fill n m)) 3 (List.replicate c (.int .i64 (-1))) Tryz.underlying62 Tryz.sizeInt hz (by simpa using hn) (fun j u hj => by
    have hjl := (List.getElem?_eq_some_iff.1 hj).1
    have e : u = .int .i64 (-1) := List.eq_of_mem_replicate (List.mem_of_getElem? hj)
    rw [e]; exact hs j (by simpa using hjl)) (by simp [intsA, intsV, fill]; omega) (fun u hu => by rw [List.eq_of_mem_replicate hu]; rfl)
  have e : goInt ((List.replicate c (Value.int .i64 (-1))).length : Nat) = .int .i64 (c : Int) := by simp [goInt]
  rw [e] at h
  refine ⟨_, h, ?_, below_setRow (Below.refl _ _) (Nat.le_refl _) _⟩
  · have h2 := setRow_heap v b _ ((intsA (fill n m)).toList.take m ++ List.replicate c (Value.int .i64 (-1)) ++ (intsA (fill n m)).toList.drop (m + (List.replicate c (Value.int .i64 (-1))).length)).toArray _ _ hz
    have h3 := fill_splice hc
    unfold splice at h3
    unfold ZAt
    refine h2.trans ?_
    unfold intsA
    rw [← h3, List.append_assoc]
set_option maxHeartbeats 4000000 in
set_option maxRecDepth 100000 in
theorem repeat_any (n a : Nat) (w : World) (h0 : 0 < n) (hn : n ≤ 64) (hc : w.cell? ⟨a, 0, none⟩ = some (.int .i64 (-1))) (ha : a < w.heap.size) :
    Calls Tryz.prog 88 #[.slice (some ⟨a, 0, none⟩) 1 1, .int .i64 (n : Int)] w fun e w' => e = .returned (.slice (some ⟨w.heap.size, 0, none⟩) n n) ∧ Hid (ZAt w' w.heap.size (farL n fun _ => -1)) ∧ Hid (Below w.heap.size w w') := by
  have hmk := make_ints n hn w
  rw [levL_fill] at hmk
  have n0 : ¬ (n : Int) < 0 := by omega
  have n1 : ¬ (n : Int) > 9223372036854775807 := by omega
  have KM := mul_any n hn w
  have hw1 : IntKind.u64.wrap (n : Int) = (n : Int) := by rw [IntKind.wrap_u64]; omega
  obtain ⟨W1, hW1⟩ : ∃ W1, W1 = w.alloc (.cells (intsA (fill n 0)) 3) := ⟨_, rfl⟩
  have hb1 : Below w.heap.size w W1 := by rw [hW1]; exact bel1 _ _
  have hz1 : ZAt W1 w.heap.size (fill n 0) := by rw [hW1]; exact ZAt.new w _
  obtain ⟨w2, hr2, hz2, hb2⟩ := copy_fill (dLen := n) (dCap := n) (sLen := 1) (sCap := 1) (c := 1) (ad := ⟨a, 0, none⟩) hz1 (Nat.zero_le _) (by omega) (by simp [Nat.min_def]; omega) (fun j hj => by
    obtain rfl : j = 0 := by omega
    exact (hb1.cell (p := ⟨a, 0, none⟩) ha).trans hc)
  rw [← hW1] at hmk
  have HZ2 : Hid (ZAt w2 w.heap.size (fill n 1)) := by rw [Nat.zero_add] at hz2; exact hz2
  have HB2 : Hid (Below w.heap.size w w2) := hb1.trans hb2
  obtain ⟨B, hB⟩ : ∃ B, B = w.heap.size := ⟨_, rfl⟩
  rw [← hB] at hmk hr2 HZ2 HB2 ⊢
  clear hc ha hW1 hb1 hz1 hz2 hb2 hB
  go_enter Tryz.func88, Tryz.ntmps88
  go_wp2_with (go_at_call 116; refine KM.mono ?_; rintro e w1 ⟨rfl, rfl⟩)
  go_loopw [8] (fun x wr => ∃ m : Nat, 1 ≤ m ∧ m ≤ n ∧ x = .int .i64 m ∧ Hid (ZAt wr B (fill n m)) ∧ Hid (Below B w wr)) (fun x _ => n - (intOf x).toNat)
  case atStart => exact ⟨1, Nat.le_refl _, h0, rfl, HZ2, HB2⟩
  case round =>
    obtain ⟨m, hm1, hm, rfl, HZ, HB⟩ := hrel
    by_cases hlt : m < n
    · obtain ⟨c, hc⟩ : ∃ c, c = Nat.min m (n - m) := ⟨_, rfl⟩
      have hcm : c ≤ m := by rw [hc]; exact Nat.min_le_left _ _
      have hcn : m + c ≤ n := by have : c ≤ n - m := by rw [hc]; exact Nat.min_le_right _ _
                                 omega
      have hc0 : 0 < c := by rw [hc]; simp [Nat.min_def]; split <;> omega
      obtain ⟨w3, hr3, hz3, hb3⟩ := copy_fill (v := wr.drew) (dLen := n - m) (dCap := n - m) (sLen := m) (sCap := n) (c := c) (ad := ⟨B, 0, none⟩) HZ.out (by omega) hcn hc (fun j hj => by
        rw [Addr.add_lit, Nat.zero_add]
        exact HZ.out.cell (fill_at (by omega)))
      have HZ3 : Hid (ZAt w3 B (fill n (m + c))) := hz3
      have HB3 : Hid (Below B w w3) := HB.out.drew.trans hb3
      have hne : ¬ n = m := by omega
      have hle : m ≤ n := by omega
      clear hc hz3 hb3
      go_wp2
      go_region
      all_goals
        go_wp2
        go_roundw
        case rel => exact ⟨m + c, by omega, hcn, by go_num, HZ3, HB3⟩
        case measure => simp [intOf]; omega
    · obtain rfl : m = n := by omega
      rw [fill_all] at HZ
      go_wp2
      go_ret
      exact ⟨rfl, HZ, HB⟩
end Go.Proofs.YtfjejnkjlnkkhaaGreatDoor
/- distances of strata: a walk by breadth, with a row that waits. -/
namespace Go.Proofs.YtfjejnkjlnkkhaaGreatDoor
set_option linter.unusedVariables false
open Go.ChangeShapes Go.WideShapes Go.ChangeAt Go.RowKit

/-- An append that is known. -/
theorem wpList_run_append {P : Program} {w : World} {ops : Array Oper} {rest : List Oper} {o : Oper} {a : Act} {Q : Exit → Act → World → Prop} (hgd : o.guard = none) (s x : Operand) (t : TypeId)
    (ho : o.op = .call { callee := .builtin .append, args := #[s, x], argTypes := #[t, t] }) (v u : Value) (hs : a.eval s = v) (hx : a.eval x = u) {v' : Value} {w' : World} (hr : (Builtin.append_ #[t, t] o.type #[v, u]).run P w = .ok v' w') (h : wpList P ops Q rest (a.put o.dst v') w') :
    wpList P ops Q (o :: rest) a w := wpList_plain hgd fun K hK => by
  unfold Oper.wp execOp
  simp only [ho, resolve, invoke, builtin, Sem.run_bind, Sem.run_pure, Result.andThen_ok, List.map_toArray, List.map_cons, List.map_nil, hs, hx, hr]
  exact hK _ _ h
def natsV (q : List Nat) : List Value := q.map fun i => Value.int .i64 ((i : Nat) : Int)
theorem natsV_length (q : List Nat) : (natsV q).length = q.length := by simp [natsV]
/-- A row that waits: it may start at any place of its block, which lies above B. -/
def QAt (w : World) (B : Nat) (v : Value) (q : List Nat) : Prop :=
  ∃ g o cap arr, v = .slice (some ⟨g, o, none⟩) q.length cap ∧ B ≤ g ∧ w.heap[g]? = some (.cells arr 3 (0, 0)) ∧ o + cap ≤ arr.size ∧ q.length ≤ cap ∧ cap ≤ maxLen ∧ ∀ j c, (natsV q)[j]? = some c → arr[o + j]? = some c
theorem QAt.keep {w w' : World} {B : Nat} {v : Value} {q : List Nat} (h : QAt w B v q) (hb : ∀ g, B ≤ g → g < w.heap.size → w'.heap[g]? = w.heap[g]?) : QAt w' B v q := by
  obtain ⟨g, o, cap, arr, h1, h2, h3, h4⟩ := h
  exact ⟨g, o, cap, arr, h1, h2, (hb g h2 (heap_lt h3)).trans h3, h4⟩
theorem QAt.any {w w' : World} {B : Nat} {v : Value} {q : List Nat} (h : QAt w B v q) (hb : Below w.heap.size w w') : QAt w' B v q := h.keep fun g _ hg => hb.block g hg
theorem QAt.slc {w : World} {B : Nat} {v : Value} {q : List Nat} (h : QAt w B v q) : ∃ g o cap, v = .slice (some ⟨g, o, none⟩) q.length cap ∧ q.length ≤ cap ∧ cap ≤ maxLen := by
  obtain ⟨g, o, cap, arr, h1, h2, h3, h4, h5, h6, _⟩ := h
  exact ⟨g, o, cap, h1, h5, h6⟩
theorem QAt.new (w : World) {B : Nat} (hB : B ≤ w.heap.size) (a : Nat) : QAt (w.alloc (.cells #[.int .i64 (a : Int)] 3)) B (.slice (some ⟨w.heap.size, 0, none⟩) 1 1) [a] := by
  refine ⟨_, 0, 1, _, rfl, hB, heap_alloc_new w _, by simp, Nat.le_refl _, by unfold maxLen; omega, fun j c hj => ?_⟩
  rw [Nat.zero_add]
  simpa [natsV] using hj
theorem QAt.head {w : World} {B g o n cap a : Nat} {q : List Nat} (h : QAt w B (.slice (some ⟨g, o, none⟩) n cap) (a :: q)) : w.cell? ⟨g, o, none⟩ = some (.int .i64 (a : Int)) ∧ g < w.heap.size := by
  obtain ⟨g', o', cap', arr, h1, h2, h3, h4, h5, h6, h7⟩ := h
  simp only [Value.slice.injEq, Option.some.injEq, Addr.mk.injEq] at h1
  obtain ⟨⟨rfl, rfl, _⟩, _, _⟩ := h1
  refine ⟨?_, heap_lt h3⟩
  rw [cell_of_row _ _ o _ _ (0, 0) h3]
  exact h7 0 _ rfl
theorem QAt.pop {w : World} {B g o n cap a : Nat} {q : List Nat} (h : QAt w B (.slice (some ⟨g, o, none⟩) n cap) (a :: q)) : QAt w B (.slice (if cap = 1 then some ⟨g, o, none⟩ else some ⟨g, o + 1, none⟩) q.length (cap - 1)) q := by
  obtain ⟨g', o', cap', arr, h1, h2, h3, h4, h5, h6, h7⟩ := h
  simp only [Value.slice.injEq, Option.some.injEq, Addr.mk.injEq] at h1
  obtain ⟨⟨rfl, rfl, _⟩, _, rfl⟩ := h1
  simp only [List.length_cons] at h5
  by_cases hc : cap = 1
  · subst hc
    have : q = [] := List.eq_nil_of_length_eq_zero (by omega)
    subst this
    rw [if_pos rfl]
    exact ⟨g, o, 0, arr, rfl, h2, h3, by omega, Nat.le_refl _, Nat.zero_le _, fun j c hj => by simp [natsV] at hj⟩
  · rw [if_neg hc]
    refine ⟨g, o + 1, cap - 1, arr, rfl, h2, h3, by omega, by omega, by omega, fun j c hj => ?_⟩
    have := h7 (j + 1) c (by simpa [natsV] using hj)
    rw [← this]; congr 1; omega
theorem QAt.append {w : World} {B : Nat} {v : Value} {q : List Nat} (h : QAt w B v q) (hB : B ≤ w.heap.size) {h0 z : Nat} (hz : w.cell? ⟨h0, 0, none⟩ = some (.int .i64 (z : Int))) (hl : q.length ≤ 100000) :
    ∃ v' w', (Builtin.append_ #[62, 62] 62 #[v, .slice (some ⟨h0, 0, none⟩) 1 1]).run Tryz.prog w = .ok v' w' ∧ QAt w' B v' (q ++ [z]) ∧ Below B w w' := by
  obtain ⟨g, o, cap, arr, rfl, h2, h3, h4, h5, h6, h7⟩ := h
  obtain ⟨i, hi, hzz, hs, hb⟩ := info_parts Tryz.infoInt
  have hnews : ∀ j u, ([.int .i64 (z : Int)] : List Value)[j]? = some u → w.cell? ((⟨h0, 0, none⟩ : Addr).add j) = some u := fun j u hj => by
    match j, hj with
    | 0, hj =>
      simp at hj
      subst hj
      exact hz
  have hone : ∀ u ∈ ([.int .i64 (z : Int)] : List Value), u.oneCell' = true := fun u hu => by simp at hu; subst hu; rfl
  have hcell : ∀ j, w.cell? ⟨g, j, none⟩ = arr[j]? := fun j => cell_of_row _ _ j _ _ (0, 0) h3
  by_cases hroom : q.length + 1 ≤ cap
  · have hr := run_append_room_cells (P := Tryz.prog) w 62 62 3 i Tryz.underlying62 hi g o q.length cap ⟨h0, 0, none⟩ 1 1 [.int .i64 (z : Int)] (by rw [hs]; rfl) hnews hone hroom (fun j hj => by
      obtain rfl : j = 0 := by simpa using hj
      rw [hs, hcell]; simp; omega) (fun j hj => by simp [World.frozen?, h3])
    refine ⟨_, _, hr, ?_, ?_⟩
    · refine ⟨g, o, cap, arr.setIfInBounds (o + q.length) (.int .i64 (z : Int)), by simp, h2, ?_, by simpa using h4, by simpa using hroom, h6, fun j c hj => ?_⟩
      · rw [hs]
        simp only [World.setCells, World.setCell, Array.getElem?_modify, if_pos, h3, Option.map_some, Nat.mul_one]
        rfl
      · rw [Array.getElem?_setIfInBounds]
        by_cases e : j < q.length
        · rw [if_neg (by omega)]
          exact h7 j c (by unfold natsV at hj ⊢; rw [List.map_append, List.getElem?_append_left (by simpa using e)] at hj; exact hj)
        · have hjl := (List.getElem?_eq_some_iff.1 hj).1
          rw [natsV_length] at hjl
          simp at hjl
          obtain rfl : j = q.length := by omega
          rw [if_pos rfl, if_pos (by omega), ← hj]
          simp [natsV]
    · exact ⟨rfl, rfl, rfl, by simp [World.setCells, World.setCell], fun k hk => by
        rw [World.setCells, World.setCells]
        exact Go.Deep.blk_setCell_other _ _ _ _ (by show k ≠ g; omega)⟩
  · obtain ⟨v', w', hr, ho, hg⟩ := run_append_arg_grows (P := Tryz.prog) w 62 62 3 i _ 1 8 Tryz.underlying62 hi hzz hs hb rfl (by omega) ⟨g, o, none⟩ q.length cap (natsV q) (by rw [natsV_length]; omega) (fun j u hj => by
      rw [Addr.add_lit, hcell]; exact h7 j u hj) ⟨h0, 0, none⟩ 1 1 [.int .i64 (z : Int)] rfl hnews (by omega) (by unfold maxLen; omega) (by omega)
    refine ⟨v', w', hr, ?_, ⟨hg.os, hg.tape, hg.output, hg.size, fun k hk => hg.block k (by omega) (by simp)⟩⟩
    obtain ⟨hlen, ⟨_, e0⟩ | ⟨g2, cap2, cur, e1, e2, e3, e4, e5, e6, e7⟩⟩ := ho
    · omega
    · refine ⟨g2, 0, cap2, cur, by rw [e1]; simp, by omega, e3, by rw [e6]; omega, by simpa using e4, e5, fun j c hj => ?_⟩
      rw [Nat.zero_add]
      have hjl := (List.getElem?_eq_some_iff.1 hj).1
      rw [natsV_length] at hjl
      simp at hjl
      have h9 : (cur.toList.take ((q.length + 1) * 1))[j]? = some c := by rw [e7, ← hj]; simp [natsV]
      rw [List.getElem?_take, if_pos (by omega)] at h9
      simpa using h9
theorem low_start {n g : Nat} (hg : g < n) (i : Nat) : putZ (fun _ => -1) g 0 i + (unset n (putZ (fun _ => -1) g 0) : Int) < n := by
  have h1 := unset_put (n := n) (f := fun _ => -1) (v := g) (z := 0) hg rfl (by omega)
  have h2 : unset n (fun _ => -1) ≤ n := cnt_le _ n
  by_cases e : i = g
  · rw [e, putZ_same]; omega
  · rw [putZ_other _ _ e]; omega
theorem low_push {n v a : Nat} {f : Nat → Int} (h : ∀ i, f i + (unset n f : Int) < n) (hv : v < n) (hf : f v = -1) (ha : 0 ≤ f a) (i : Nat) : putZ f v (f a + 1) i + (unset n (putZ f v (f a + 1)) : Int) < n := by
  have h1 := unset_put (n := n) (f := f) (v := v) (z := f a + 1) hv hf (by omega)
  by_cases e : i = v
  · have := h a
    rw [e, putZ_same]; omega
  · have := h i
    rw [putZ_other _ _ e]; omega
/-- What the walk holds. -/
structure FarSt (n : Nat) (l : List Ed) (b : Nat) (w0 : World) (v : Value) (f : Nat → Int) (q : List Nat) (wr : World) : Prop where
  low : ∀ i, f i + (unset n f : Int) < n
  row : QAt wr (b + 1) v q
  far : ZAt wr b (farL n f)
  bl : Below w0.heap.size w0 wr
set_option maxHeartbeats 4000000 in
set_option maxRecDepth 100000 in
theorem distances_any (n g : Nat) (v : Value) (l : List Ed) (w : World) {F : Nat → Prop} (ha : IsEds w F v l) (hm : mayE (n : Int) l = true) (hg : g < n) :
    Calls Tryz.prog 58 #[.int .i64 (n : Int), v, .int .i64 (g : Int)] w fun e w' => ∃ u f, e = .returned u ∧ Hid (FarIs l g f) ∧ Hid (IsInts w' (fun i => w.heap.size ≤ i) u (farL n f)) ∧ Hid (Below w.heap.size w w') := by
  obtain ⟨h0, h1, hl⟩ := mayE_all hm
  have hn : n ≤ 64 := by omega
  obtain ⟨W1, hW1⟩ : ∃ W1, W1 = w.alloc (.cells #[.int .i64 (-1)] 3) := ⟨_, rfl⟩
  have KR := repeat_any n w.heap.size W1 (by omega) hn (by rw [hW1]; exact World.cell?_alloc_at _ _ _ _ rfl) (by rw [hW1]; simp)
  have hb1 : Below w.heap.size w W1 := by rw [hW1]; exact bel1 _ _
  have hB : w.heap.size ≤ W1.heap.size := hb1.size
  obtain ⟨b, hb⟩ : ∃ b, b = W1.heap.size := ⟨_, rfl⟩
  rw [← hb] at KR hB
  obtain ⟨p, cp, rfl⟩ := ha.slc
  have hm9 : l.length ≤ 9223372036854775807 := by have := ha.len; unfold maxLen at this; omega
  have HA : Hid (IsEds w F (.slice p l.length cp) l) := ha
  have HL : Hid (edsB (n : Int) l = true) := hl
  have HB1 : Hid (Below w.heap.size w W1) := hb1
  have HBB : Hid (b = W1.heap.size) := hb
  clear ha hm h0 h1 hl hb hb1
  go_enter Tryz.func58, Tryz.ntmps58
  go_upto_region 2 with (go_at_call 88; rw [← hW1]; refine KR.mono ?_; rintro e w2 ⟨rfl, HZ2, HB2⟩)
  have fz := HZ2.out.frozen g
  have hbw : b < w2.heap.size := HZ2.out.lt
  have hcg := HZ2.out.cell (farL_at (n := n) (fun _ => -1) hg)
  have HS0 : Hid (Bfs n l g (putZ (fun _ => -1) g 0) [g]) := Bfs.begin l hg
  obtain ⟨W3, hW3⟩ : ∃ W3, W3 = (w2.setCell ⟨b, g, none⟩ (.int .i64 0)).alloc (.cells #[.int .i64 (g : Int)] 3) := ⟨_, rfl⟩
  have HS1 : Hid (FarSt n l b w (.slice (some ⟨w2.heap.size, 0, none⟩) 1 1) (putZ (fun _ => -1) g 0) [g] W3) := by
    have z1 := HZ2.out.put g 0
    rw [farL_put _ hg] at z1
    refine ⟨low_start hg, ?_, ?_, ?_⟩
    · have := QAt.new (w2.setCell ⟨b, g, none⟩ (.int .i64 0)) (B := b + 1) (by rw [Go.Deep.nblk_setCell]; omega) g
      rw [Go.Deep.nblk_setCell] at this
      rw [hW3]; exact this
    · rw [hW3]; exact z1.keep (bel1 _ _)
    · rw [hW3]
      refine bel_alloc (bel_set ?_ hB)
      exact HB1.out.trans (HB2.out.mono hB)
  go_wp2
  rw [← hW3]
  clear hcg hW3 HZ2 HB2 hbw fz
  obtain ⟨sz, hsz⟩ : ∃ sz, sz = w2.heap.size := ⟨_, rfl⟩
  rw [← hsz] at HS1 ⊢
  clear hsz
  go_loopg [8] (2 * n) (fun gk x wr => ∃ f q, Hid (Bfs n l g f q) ∧ Hid (FarSt n l b w x f q wr) ∧ Hid (2 * unset n f + q.length ≤ gk ∧ gk ≤ 128))
  case atStart =>
    refine ⟨_, _, HS0, HS1, ?_⟩
    have := HS1.out.low g
    rw [putZ_same] at this
    show _ ∧ _
    simp only [List.length_cons, List.length_nil]
    omega
  case round =>
    obtain ⟨f, q, HF, HS, HM⟩ := hrel
    cases q with
    | nil =>
      obtain ⟨gq, oq, cq, rfl, -, -⟩ := HS.out.row.slc
      have HI : Hid (IsInts wr (fun i => w.heap.size ≤ i) (.slice (some ⟨b, 0, none⟩) n n) (farL n f)) := HS.out.far.ints hB (farL_length _ _).symm (by unfold maxLen; omega)
      have HE : Hid (Below w.heap.size w wr) := HS.out.bl
      go_wp2
      go_ret
      exact ⟨_, _, rfl, HF.out.far, HI, HE⟩
    | cons a q =>
      obtain ⟨gq, oq, cq, rfl, hq1, hq2⟩ := HS.out.row.slc
      obtain ⟨hd, hgq⟩ := HS.out.row.head
      have HP : Hid (QAt wr (b + 1) (.slice (if cq = 1 then some ⟨gq, oq, none⟩ else some ⟨gq, oq + 1, none⟩) q.length (cq - 1)) q) := HS.out.row.pop
      simp only [List.length_cons] at hq1
      have hmx : cq ≤ 9223372036854775807 := by unfold maxLen at hq2; omega
      go_upto_region 7 with fail
      obtain ⟨pv, hpv⟩ : ∃ pv, pv = (if cq = 1 then some ⟨gq, oq, none⟩ else some ⟨gq, oq + 1, none⟩ : Option Addr) := ⟨_, rfl⟩
      rw [← hpv] at HP ⊢
      have HMid : Hid (Mid n l g a 0 f q) := HF.out.pop
      have HFS : Hid (FarSt n l b w (.slice pv q.length (cq - 1)) f q wr) := ⟨HS.out.low, HP.out, HS.out.far, HS.out.bl⟩
      have HM0 : Hid (2 * unset n f + q.length + 1 ≤ gk ∧ gk ≤ 128) := by have := HM.out; simp only [List.length_cons] at this; show _ ∧ _; omega
      have han : a < n := HMid.out.me.2
      clear hpv HP HS HF HM hd hgq
      go_wp2
      go_loopw [8, 30] (fun x i wr => ∃ (k : Nat) (f : Nat → Int) (q : List Nat), k ≤ l.length ∧ i = .int .i64 k ∧ Hid (Mid n l g a k f q) ∧ Hid (FarSt n l b w x f q wr) ∧ Hid (2 * unset n f + q.length + 1 ≤ gk ∧ gk ≤ 128)) (fun _ i _ => l.length - (intOf i).toNat)
      case atStart => exact ⟨0, f, q, Nat.zero_le _, rfl, HMid, HFS, HM0⟩
      case round =>
        clear HMid HFS HM0
        obtain ⟨k, f, q, hk, rfl, HMid, HFS, HM0⟩ := hrel
        obtain ⟨gq, oq, cq, rfl, hq1, hq2⟩ := HFS.out.row.slc
        by_cases hlt : k < l.length
        · obtain ⟨t, ht⟩ : ∃ t, l[k]? = some t := ⟨_, List.getElem?_eq_getElem hlt⟩
          obtain ⟨g1, o1, hp, hg1, a0, a1, a2⟩ := (HA.out.any HFS.out.bl).at ht
          subst hp
          have htm := List.mem_of_getElem? ht
          have hed := edB_lt (List.all_eq_true.1 HL.out t htm)
          obtain ⟨t0, t1, t2⟩ := t
          simp only at a0 a1 a2 hed
          obtain ⟨x, rfl⟩ : ∃ x : Nat, t0 = (x : Int) := ⟨t0.toNat, by omega⟩
          obtain ⟨y, rfl⟩ : ∃ y : Nat, t1 = (y : Int) := ⟨t1.toNat, by omega⟩
          have hx : x < n := by omega
          have HT : Hid (l[k]? = some ((x : Int), (y : Int), t2)) := ht
          obtain ⟨V, hV⟩ : ∃ V, V = wr.alloc (.cells #[.int .i64 (x : Int), .int .i64 (y : Int), .bool t2] 93) := ⟨_, rfl⟩
          have hVb : Below wr.heap.size wr V := by rw [hV]; exact bel1 _ _
          have q0 : V.cell? ⟨wr.heap.size, 0, none⟩ = some (.int .i64 (x : Int)) := by rw [hV]; exact World.cell?_alloc_at _ _ _ _ rfl
          have q1 : V.cell? ⟨wr.heap.size, 1, none⟩ = some (.int .i64 (y : Int)) := by rw [hV]; exact World.cell?_alloc_at _ _ _ _ rfl
          have zV := HFS.out.far.keep hVb
          have cx := zV.cell (farL_at f hx)
          have ca := zV.cell (farL_at f han)
          have fzx := zV.frozen x
          have hbn : b < wr.heap.size := HFS.out.far.lt
          have HV : Hid (FarSt n l b w (.slice (some ⟨gq, oq, none⟩) q.length cq) f q V) := ⟨HFS.out.low, HFS.out.row.any hVb, zV, HFS.out.bl.trans (hVb.mono HFS.out.bl.size)⟩
          have hsV : V.heap.size = wr.heap.size + 1 := by rw [hV]; simp
          obtain ⟨nb, hnb⟩ : ∃ nb, nb = wr.heap.size := ⟨_, rfl⟩
          have HNB : Hid (V.heap.size = nb + 1) := by rw [hnb]; exact hsV
          rw [← hnb] at q0 q1 hbn
          have cxw := HFS.out.far.cell (farL_at f hx)
          have caw := HFS.out.far.cell (farL_at f han)
          have hbw : b < wr.heap.size := HFS.out.far.lt
          clear ht htm hed hVb zV hsV
          by_cases c1 : y = a
          · subst c1
            by_cases c2 : f x = -1
            · rw [c2] at cx cxw
              have hza := HMid.out.me.1
              have hzb := HV.out.low y
              obtain ⟨za, hz⟩ : ∃ za, za = f y := ⟨_, rfl⟩
              rw [← hz] at ca caw hza hzb
              have hzc : za ≤ 100 := by omega
              obtain ⟨U, hU⟩ : ∃ U, U = (V.setCell ⟨b, x, none⟩ (.int .i64 (za + 1))).drew := ⟨_, rfl⟩
              have hne : (⟨nb, 0, none⟩ : Addr).block ≠ b := by show nb ≠ b; omega
              have r0 : U.cell? ⟨nb, 0, none⟩ = some (.int .i64 (x : Int)) := by
                rw [hU]; exact (World.cell?_of_block (w := V) (w' := V.setCell ⟨b, x, none⟩ (.int .i64 (za + 1))) (a := ⟨nb, 0, none⟩) (Go.Deep.blk_setCell_other _ _ _ _ hne)).trans q0
              have hsU : U.heap.size = nb + 1 := by rw [hU]; exact (Go.Deep.nblk_setCell V _ _).trans HNB.out
              obtain ⟨X, hX⟩ : ∃ X, X = U.alloc (.cells #[.int .i64 (x : Int)] 3) := ⟨_, rfl⟩
              have hzX : ZAt U b (farL n (putZ f x (za + 1))) := by
                have := ZAt.put (w := V) HV.out.far x (za + 1)
                rw [farL_put _ hx] at this
                rw [hU]; exact this
              have hqU : QAt U (b + 1) (.slice (some ⟨gq, oq, none⟩) q.length cq) q := by
                rw [hU]
                exact QAt.keep (w := V) HV.out.row fun j hj _ => Go.Deep.blk_setCell_other _ _ _ _ (by show j ≠ b; omega)
              have hbU : Below w.heap.size w U := by rw [hU]; exact (bel_set HV.out.bl hB).drew
              have hXb : Below U.heap.size U X := by rw [hX]; exact bel1 _ _
              have hqX : QAt X (b + 1) (.slice (some ⟨gq, oq, none⟩) q.length cq) q := hqU.any hXb
              have hlq : q.length ≤ 100000 := by have := HM0.out; omega
              obtain ⟨v', w', hr, hq', hb'⟩ := hqX.append (by have := hXb.size; omega) (h0 := nb + 1) (z := x) (by rw [hX, ← hsU]; exact World.cell?_alloc_at _ _ _ _ rfl) hlq
              have HF' : Hid (FarSt n l b w v' (putZ f x (za + 1)) (q ++ [x]) w') := by
                refine ⟨?_, hq', ?_, ?_⟩
                · rw [hz] at hza ⊢; exact low_push HV.out.low hx c2 hza
                · exact (hzX.keep hXb).blk (hb'.block b (Nat.lt_succ_self _))
                · exact (hbU.trans (hXb.mono hbU.size)).trans (hb'.mono (by omega))
              have HM' : Hid (Mid n l g y (k + 1) (putZ f x (za + 1)) (q ++ [x])) := by
                have := HMid.out.push HL.out HT.out rfl (by simpa using c2)
                rw [hz]
                rw [Int.toNat_natCast] at this
                exact this
              have HG' : Hid (2 * unset n (putZ f x (za + 1)) + (q ++ [x]).length + 1 ≤ gk ∧ gk ≤ 128) := by
                have h1 := unset_put (n := n) (f := f) (v := x) (z := za + 1) hx c2 (by omega)
                have h2 := HM0.out
                show _ ∧ _
                simp only [List.length_append, List.length_cons, List.length_nil]; omega
              obtain ⟨g2, o2, c3, hv', -, -⟩ := hq'.slc
              obtain ⟨m2, hm2⟩ : ∃ m2, m2 = (q ++ [x]).length := ⟨_, rfl⟩
              rw [← hm2] at hv'
              subst hv'
              rw [hX] at hr
              clear hX hqX hXb hq' hb' hqU hzX hbU hz hm2
              go_wp2
              rw [← hV, ← hnb]
              clear hV hnb
              go_region
              all_goals
                rw [← hU]
                clear hU
                go_wp2_with (at_builtin; refine wpList_run_append rfl _ _ 62 rfl _ _ rfl rfl hr ?_)
                go_roundw
                case rel => (repeat apply Exists.intro); exact ⟨⟨k + 1, _, _, by omega, by go_num, HM', HF', HG'⟩, rfl⟩
                case measure => simp [intOf]; omega
            · have HM' : Hid (Mid n l g y (k + 1) f q) := HMid.out.pass HT.out (Or.inr (by simpa using c2))
              obtain ⟨zx, hz⟩ : ∃ zx, zx = f x := ⟨_, rfl⟩
              rw [← hz] at cx cxw c2
              have c3 : (zx == -1) = false := by simpa using c2
              clear hz
              go_wp2
              rw [← hV]
              go_roundw
              case rel => exact ⟨k + 1, _, _, by omega, by go_num, HM', HV, HM0⟩
              case measure => simp [intOf]; omega
          · have HM' : Hid (Mid n l g a (k + 1) f q) := HMid.out.pass HT.out (Or.inl (by simpa using c1))
            have c3 : ((y : Int) == (a : Int)) = false := by simp; omega
            clear cx ca cxw caw
            go_wp2
            rw [← hV]
            go_roundw
            case rel => exact ⟨k + 1, _, _, by omega, by go_num, HM', HV, HM0⟩
            case measure => simp [intOf]; omega
        · obtain rfl : k = l.length := by omega
          have HB' : Hid (Bfs n l g f q) := HMid.out.fin
          go_wp2
          go_roundg (gk - 1)
          case measure => have := HM0.out; omega
          case rel => exact ⟨f, q, HB', HFS, by have := HM0.out; show _ ∧ _; omega⟩
end Go.Proofs.YtfjejnkjlnkkhaaGreatDoor
/- nearer, with its closure and slices.IndexFunc; cycle of strata. -/
namespace Go.Proofs.YtfjejnkjlnkkhaaGreatDoor
set_option linter.unusedVariables false
open Go.ChangeShapes Go.WideShapes Go.ChangeAt Go.RowKit

theorem bel_drewN {B k : Nat} {W w' : World} (h : Below B W w') : Below B W (w'.drewN k) := ⟨h.os, h.tape, h.output, h.size, h.block⟩
set_option maxHeartbeats 2000000 in
theorem near1_any (n a x y : Nat) (f : Nat → Int) (t2 : Bool) (u : Value) (w : World) {F : Nat → Prop} (pa pf : Nat) (ha : a < n) (hx : x < n) (hy : y < n) (hn : n ≤ 64) (hf : ∀ i, -1 ≤ f i ∧ f i ≤ 1000) (iu : IsInts w F u (farL n f)) (ca : w.cell? ⟨pa, 0, none⟩ = some (.int .i64 (a : Int))) (cf : w.cell? ⟨pf, 0, none⟩ = some u) (la : pa < w.heap.size) (lf : pf < w.heap.size) :
    Calls Tryz.prog 90 #[.agg #[.int .i64 (x : Int), .int .i64 (y : Int), .bool t2], .pointer (some ⟨pa, 0, none⟩), .pointer (some ⟨pf, 0, none⟩)] w fun e w' => e = .returned (.bool (decide (x = a) && decide (f y = f a - 1))) ∧ Hid (Below w.heap.size w w') := by
  obtain ⟨p, c, hu⟩ := iu.slc
  rw [farL_length] at hu
  subst hu
  obtain ⟨g1, o1, hp, hg1, cy⟩ := iu.at (farL_at f hy)
  obtain ⟨g2, o2, hp2, hg2, cx⟩ := iu.at (farL_at f ha)
  subst hp
  simp only [Option.some.injEq, Addr.mk.injEq, and_true] at hp2
  obtain ⟨rfl, rfl⟩ := hp2
  have h1 := hf y
  have h2 := hf a
  obtain ⟨zy, hzy⟩ : ∃ z, z = f y := ⟨_, rfl⟩
  obtain ⟨za, hza⟩ : ∃ z, z = f a := ⟨_, rfl⟩
  rw [← hzy] at cy h1 ⊢
  rw [← hza] at cx h2 ⊢
  clear iu hf hzy hza
  by_cases c1 : x = a
  · subst c1
    have e0 : decide (x = x) = true := by simp
    rw [e0, Bool.true_and]
    by_cases c2 : zy = za - 1
    · have c3 : (zy == za - 1) = true := by simpa using c2
      have e1 : decide (zy = za - 1) = true := by simpa using c2
      rw [e1]
      clear c2 e1
      go_enter Tryz.func90, Tryz.ntmps90
      go_wp2
      go_quiet (fail)
      go_wp2
      go_ret
      exact ⟨rfl, bel_drewN (bel1 w _)⟩
    · have c3 : (zy == za - 1) = false := by simpa using c2
      have e1 : decide (zy = za - 1) = false := by simpa using c2
      rw [e1]
      clear c2 e1
      go_enter Tryz.func90, Tryz.ntmps90
      go_wp2
      go_quiet (fail)
      go_wp2
      go_ret
      exact ⟨rfl, bel_drewN (bel1 w _)⟩
  · have c3 : ((x : Int) == (a : Int)) = false := by simp; omega
    have e1 : decide (x = a) = false := by simpa using c1
    rw [e1, Bool.false_and]
    clear e1
    go_enter Tryz.func90, Tryz.ntmps90
    go_wp2
    go_quiet (fail)
    go_wp2
    go_ret
    exact ⟨rfl, bel_drewN (bel1 w _)⟩
theorem find_at {l : List Ed} {p : Ed → Bool} {k : Nat} {t : Ed} (h : ∀ j e, j < k → l[j]? = some e → p e = false) (ht : l[k]? = some t) (hp : p t = true) : l.find? p = some t := by
  rw [List.find?_eq_some_iff_append]
  refine ⟨hp, l.take k, l.drop (k + 1), ?_, fun a ha => ?_⟩
  · have h1 := (List.take_append_drop k l).symm
    rw [List.drop_eq_getElem?_toList_append (l := l) (i := k), ht] at h1
    exact h1
  · obtain ⟨j, hj⟩ := List.mem_iff_getElem?.1 ha
    rw [List.getElem?_take] at hj
    split at hj
    · rename_i hjk
      simp [h j a hjk hj]
    · cases hj
set_option maxHeartbeats 4000000 in
set_option maxRecDepth 100000 in
theorem index_any (n a : Nat) (f : Nat → Int) (u v : Value) (l : List Ed) (w : World) {F G : Nat → Prop} (pa pf : Nat) (iv : IsEds w G v l) (hl : edsB (n : Int) l = true) (ha : a < n) (hn : n ≤ 64) (hf : ∀ i, -1 ≤ f i ∧ f i ≤ 1000) (iu : IsInts w F u (farL n f)) (ca : w.cell? ⟨pa, 0, none⟩ = some (.int .i64 (a : Int))) (cf : w.cell? ⟨pf, 0, none⟩ = some u) (la : pa < w.heap.size) (lf : pf < w.heap.size) (hex : ∃ e, l.find? (nextE l f a) = some e) :
    Calls Tryz.prog 89 #[v, .func (.func 90) #[] #[.pointer (some ⟨pa, 0, none⟩), .pointer (some ⟨pf, 0, none⟩)]] w fun e w' => ∃ (k : Nat) (t : Ed), e = .returned (.int .i64 (k : Int)) ∧ l[k]? = some t ∧ l.find? (nextE l f a) = some t ∧ Hid (Below w.heap.size w w') := by
  have KN : Hid (∀ w', Below w.heap.size w w' → ∀ x y t2, x < n → y < n → Calls Tryz.prog 90 #[.agg #[.int .i64 (x : Int), .int .i64 (y : Int), .bool t2], .pointer (some ⟨pa, 0, none⟩), .pointer (some ⟨pf, 0, none⟩)] w' fun e w'' => e = .returned (.bool (decide (x = a) && decide (f y = f a - 1))) ∧ Hid (Below w'.heap.size w' w'')) := fun w' hb x y t2 hx hy =>
    near1_any n a x y f t2 u w' pa pf ha hx hy hn hf (iu.any hb) ((hb.cell (p := ⟨_, _, none⟩) la).trans ca) ((hb.cell (p := ⟨_, _, none⟩) lf).trans cf) (Nat.lt_of_lt_of_le la hb.size) (Nat.lt_of_lt_of_le lf hb.size)
  obtain ⟨p, cp, rfl⟩ := iv.slc
  have hm9 : l.length ≤ 9223372036854775807 := by have := iv.len; unfold maxLen at this; omega
  have HV : Hid (IsEds w G (.slice p l.length cp) l) := iv
  have HL : Hid (edsB (n : Int) l = true) := hl
  have HX : Hid (∃ e, l.find? (nextE l f a) = some e) := hex
  clear iv hl iu ca cf hex
  go_enter Tryz.func89, Tryz.ntmps89
  go_wp2
  go_loopw [8] (fun i wr => ∃ k : Nat, k ≤ l.length ∧ i = .int .i64 k ∧ Hid (Below w.heap.size w wr) ∧ Hid (∀ j e, j < k → l[j]? = some e → nextE l f a e = false)) (fun i _ => l.length - (intOf i).toNat)
  case atStart => exact ⟨0, Nat.zero_le _, rfl, Below.refl _ _, fun j e hj => by omega⟩
  case round =>
    obtain ⟨k, hk, rfl, HB, HN⟩ := hrel
    by_cases hlt : k < l.length
    · obtain ⟨t, ht⟩ : ∃ t, l[k]? = some t := ⟨_, List.getElem?_eq_getElem hlt⟩
      obtain ⟨g1, o1, hp, hg1, a0, a1, a2⟩ := (HV.out.any HB.out).at ht
      subst hp
      have hed := edB_lt (List.all_eq_true.1 HL.out t (List.mem_of_getElem? ht))
      obtain ⟨t0, t1, t2⟩ := t
      simp only at a0 a1 a2 hed
      obtain ⟨x, rfl⟩ : ∃ x : Nat, t0 = (x : Int) := ⟨t0.toNat, by omega⟩
      obtain ⟨y, rfl⟩ : ∃ y : Nat, t1 = (y : Int) := ⟨t1.toNat, by omega⟩
      have KC := KN.out wr HB.out x y t2 (by omega) (by omega)
      have HT : Hid (l[k]? = some ((x : Int), (y : Int), t2)) := ht
      have HE : Hid (nextE l f a ((x : Int), (y : Int), t2) = (decide (x = a) && decide (f y = f a - 1))) := by show _ = _; unfold nextE; simp only [Int.toNat_natCast]
      clear ht hed
      cases hc : (decide (x = a) && decide (f y = f a - 1)) with
      | true =>
        have HF : Hid (l.find? (nextE l f a) = some ((x : Int), (y : Int), t2)) := find_at HN.out HT.out (by rw [HE.out, hc])
        rw [hc] at KC
        clear hc
        go_wp2_with (go_at_call 90; refine KC.mono ?_; rintro e w1 ⟨rfl, b1⟩)
        go_ret
        exact ⟨k, _, rfl, HT.out, HF.out, HB.out.trans (b1.out.mono HB.out.size)⟩
      | false =>
        have HN2 : Hid (∀ j e, j < k + 1 → l[j]? = some e → nextE l f a e = false) := fun j e hj he => by
          by_cases x : j = k
          · subst x
            rw [HT.out] at he
            cases he
            rw [HE.out, hc]
          · exact HN.out j e (by omega) he
        rw [hc] at KC
        clear hc
        go_wp2_with (go_at_call 90; refine KC.mono ?_; rintro e w1 ⟨rfl, b1⟩)
        go_roundw
        case rel => exact ⟨k + 1, by omega, by go_num, HB.out.trans (b1.out.mono HB.out.size), HN2⟩
        case measure => simp [intOf]; omega
    · obtain rfl : k = l.length := by omega
      exfalso
      obtain ⟨e, he⟩ := HX.out
      have h1 := List.find?_some he
      obtain ⟨j, hj⟩ := List.mem_iff_getElem?.1 (List.mem_of_find?_eq_some he)
      rw [HN.out j e (List.getElem?_eq_some_iff.1 hj).1 hj] at h1
      cases h1
set_option maxHeartbeats 4000000 in
set_option maxRecDepth 100000 in
theorem nearer_any (n a : Nat) (f : Nat → Int) (u v : Value) (l : List Ed) (w : World) {F G : Nat → Prop} (iv : IsEds w G v l) (hl : edsB (n : Int) l = true) (ha : a < n) (hn : n ≤ 64) (hf : ∀ i, -1 ≤ f i ∧ f i ≤ 1000) (iu : IsInts w F u (farL n f)) (hex : ∃ e, l.find? (nextE l f a) = some e) :
    Calls Tryz.prog 59 #[v, u, .int .i64 (a : Int)] w fun e w' => e = .returned (.int .i64 ((nxt l f a : Nat) : Int)) ∧ Hid (Below w.heap.size w w') := by
  obtain ⟨W1, hW1⟩ : ∃ W1, W1 = (w.alloc (.cells #[u] 62)).alloc (.cells #[.int .i64 (a : Int)] 3) := ⟨_, rfl⟩
  have hb1 : Below w.heap.size w W1 := by rw [hW1]; exact bel_alloc (bel1 _ _)
  have KI := index_any n a f u v l W1 (w.heap.size + 1) w.heap.size (iv.any hb1) hl ha hn hf (iu.any hb1)
    (by rw [hW1, show (w.heap.size + 1) = (w.alloc (.cells #[u] 62)).heap.size by simp]
        exact World.cell?_alloc_at _ _ _ _ rfl)
    (by rw [hW1]
        refine ((bel1 (w.alloc (.cells #[u] 62)) _).cell (p := ⟨w.heap.size, 0, none⟩) (by simp)).trans ?_
        exact World.cell?_alloc_at _ _ _ _ rfl)
    (by rw [hW1]; simp) (by rw [hW1]; simp; omega) hex
  obtain ⟨p, cp, rfl⟩ := iv.slc
  obtain ⟨p2, cp2, hu⟩ := iu.slc
  have hm9 : l.length ≤ 9223372036854775807 := by have := iv.len; unfold maxLen at this; omega
  have HV : Hid (IsEds w G (.slice p l.length cp) l) := iv
  have HB1 : Hid (Below w.heap.size w W1) := hb1
  have HL : Hid (edsB (n : Int) l = true) := hl
  subst hu
  clear iv iu hl hex hb1
  go_enter Tryz.func59, Tryz.ntmps59
  go_upto_region 2 with (go_at_call 89; rw [← hW1]; refine KI.mono ?_; rintro e w2 ⟨k, t, rfl, ht, hfi, HB2⟩)
  have HB3 : Hid (Below w.heap.size w w2) := HB1.out.trans (HB2.out.mono HB1.out.size)
  obtain ⟨g1, o1, hp, hg1, a0, a1, a2⟩ := (HV.out.any HB3.out).at ht
  subst hp
  have hlt : k < l.length := (List.getElem?_eq_some_iff.1 ht).1
  have hed := edB_lt (List.all_eq_true.1 HL.out t (List.mem_of_getElem? ht))
  have HN : Hid (t.2.1 = ((nxt l f a : Nat) : Int)) := by
    show _ = _
    unfold nxt
    rw [hfi]
    simp
    omega
  clear ht hfi hed a0 a2
  go_wp2
  go_ret
  exact ⟨ret_int HN.out, HB3⟩
theorem natsV_ints (q : List Nat) : natsV q = intsV (q.map fun i => ((i : Nat) : Int)) := by simp [natsV, intsV]
set_option maxHeartbeats 4000000 in
set_option maxRecDepth 100000 in
theorem cycle_any (n x y : Nat) (t2 : Bool) (v : Value) (l : List Ed) (w : World) {F : Nat → Prop} (ha : IsEds w F v l) (hm : mayE (n : Int) l = true) (hx : x < n) (hy : y < n) (hw : Way l y x) :
    Calls Tryz.prog 40 #[.int .i64 (n : Int), v, .agg #[.int .i64 (x : Int), .int .i64 (y : Int), .bool t2]] w fun e w' => ∃ u f, e = .returned u ∧ Hid (FarIs l x f) ∧ Hid (IsInts w' (fun i => w.heap.size ≤ i) u (cycT l f ((x : Int), (y : Int), t2))) ∧ Hid (Below w.heap.size w w') := by
  obtain ⟨h0, h1, hl⟩ := mayE_all hm
  have hn : n ≤ 64 := by omega
  obtain ⟨W1, hW1⟩ : ∃ W1, W1 = w.alloc (.cells #[.int .i64 (x : Int), .int .i64 (y : Int), .bool t2] 93) := ⟨_, rfl⟩
  have hb1 : Below w.heap.size w W1 := by rw [hW1]; exact bel1 _ _
  have KD := distances_any n x v l W1 (ha.any hb1) hm hx
  have q0 : W1.cell? ⟨w.heap.size, 0, none⟩ = some (.int .i64 (x : Int)) := by rw [hW1]; exact World.cell?_alloc_at _ _ _ _ rfl
  have q1 : W1.cell? ⟨w.heap.size, 1, none⟩ = some (.int .i64 (y : Int)) := by rw [hW1]; exact World.cell?_alloc_at _ _ _ _ rfl
  have hz1 : w.heap.size < W1.heap.size := by rw [hW1]; simp
  have HA : Hid (IsEds w F v l) := ha
  obtain ⟨p, cp, rfl⟩ := ha.slc
  have HL : Hid (edsB (n : Int) l = true) := hl
  have HB1 : Hid (Below w.heap.size w W1) := hb1
  have HQ : Hid (∀ w', Below W1.heap.size W1 w' → w'.cell? ⟨w.heap.size, 0, none⟩ = some (.int .i64 (x : Int)) ∧ w'.cell? ⟨w.heap.size, 1, none⟩ = some (.int .i64 (y : Int))) := fun w' hb => ⟨(hb.cell (p := ⟨_, _, none⟩) hz1).trans q0, (hb.cell (p := ⟨_, _, none⟩) hz1).trans q1⟩
  have HW : Hid (Way l y x) := hw
  have hz2 : Hid (w.heap.size < W1.heap.size) := hz1
  obtain ⟨nb, hnb⟩ : ∃ nb, nb = w.heap.size := ⟨_, rfl⟩
  obtain ⟨i0, hi0, hzz, hzs, hzb⟩ := info_parts Tryz.infoInt
  clear ha hm h0 h1 hl hb1 q0 q1 hz1 hw
  go_enter Tryz.func40, Tryz.ntmps40
  go_upto_region 2 with (go_at_call 58; rw [← hW1]; refine KD.mono ?_; rintro e w2 ⟨u, f, rfl, HF, HI, HB2⟩)
  obtain ⟨c0, c1⟩ := HQ.out w2 HB2.out
  obtain ⟨p7, c7, hu⟩ := HI.out.slc
  rw [farL_length] at hu
  subst hu
  obtain ⟨d0, hd0⟩ : ∃ d : Nat, f y = (d : Int) := by
    obtain ⟨k, hk⟩ := HW.out
    rcases HF.out y with ⟨_, h⟩ | ⟨d, h, _⟩
    · exact absurd hk (h k)
    · exact ⟨d, h⟩
  have hfb : ∀ i, -1 ≤ f i ∧ f i ≤ 1000 := fun i => by
    have h1 := far_le HL.out hx HF.out i
    rcases HF.out i with ⟨h, _⟩ | ⟨d, h, _⟩ <;> omega
  have hdn : d0 ≤ 64 := by have := far_le HL.out hx HF.out y; omega
  have HFB : Hid (∀ i, -1 ≤ f i ∧ f i ≤ 1000) := hfb
  have HD0 : Hid (f y = (d0 : Int)) := hd0
  have hlt2 : w.heap.size < w2.heap.size := Nat.lt_of_lt_of_le hz2.out HB2.out.size
  have HB3 : Hid (Below w.heap.size w w2) := HB1.out.trans (HB2.out.mono HB1.out.size)
  have HO0 : Hid ((w2.alloc (.cells #[.int .i64 (x : Int)] 3)).ownsRow w2.heap.size 3 1 (.slice (some ⟨w2.heap.size, 0, none⟩) 1 1) 1 (natsV [x])) :=
    ⟨rfl, .inr ⟨w2.heap.size, 1, _, rfl, Nat.le_refl _, heap_alloc_new w2 _, Nat.le_refl _, by unfold maxLen; omega, rfl, rfl⟩⟩
  have HQ2 : Hid (∀ w', Below w2.heap.size w2 w' → w'.cell? ⟨w.heap.size, 0, none⟩ = some (.int .i64 (x : Int))) := fun w' hb => (HQ.out w' (HB2.out.trans (hb.mono HB2.out.size))).1
  have KN : Hid (∀ a w', a < n → Below w2.heap.size w2 w' → (∃ e, l.find? (nextE l f a) = some e) → Calls Tryz.prog 59 #[.slice p l.length cp, .slice p7 n c7, .int .i64 (a : Int)] w' fun e w'' => e = .returned (.int .i64 ((nxt l f a : Nat) : Int)) ∧ Hid (Below w'.heap.size w' w'')) := fun a w' han hb hex =>
    nearer_any n a f _ _ l w' (HA.out.any (HB3.out.trans (hb.mono HB3.out.size))) HL.out han hn HFB.out (HI.out.any hb) hex
  clear hd0 hfb hnb hW1
  go_wp2
  go_loopg [8, 9] d0 (fun gk o z wr => ∃ (a : Nat) (acc : List Nat), z = .int .i64 (a : Int) ∧ a < n ∧ gk ≤ d0 ∧ Hid (f a = (gk : Int)) ∧ Hid (acc ++ wayT l f gk a = x :: wayT l f d0 y) ∧ Hid (wr.ownsRow w2.heap.size 3 1 o acc.length (natsV acc)) ∧ Hid (Below w2.heap.size w2 wr))
  case atStart => exact ⟨y, [x], rfl, hy, Nat.le_refl _, HD0, rfl, HO0, bel1 _ _⟩
  case round =>
    obtain ⟨a, acc, rfl, han, hgk, HFA, HW2, HO, HBw⟩ := hrel
    have c2 := HQ2.out wr HBw.out
    have hal : acc.length + gk = 1 + d0 := by
      have := congrArg List.length HW2.out
      simp only [List.length_append, List.length_cons, wayT_length] at this
      omega
    obtain ⟨p8, c8, ho⟩ := row_slice HO.out
    subst ho
    clear c0 c1
    cases gk with
    | zero =>
      have hax : a = x := HF.out.zero HFA.out
      subst hax
      have HI2 : Hid (IsInts wr (fun i => w.heap.size ≤ i) (.slice p8 acc.length c8) (cycT l f ((a : Int), (y : Int), t2))) := by
        have h1 := Reads.of (F := fun i => w.heap.size ≤ i) HO.out (fun b hb => by have := (HO.out.lt b hb).1; have := HB3.out.size; show _ ≤ _; omega)
        have h2 : acc = a :: wayT l f d0 y := by have := HW2.out; simpa [wayT] using this
        show Reads _ _ _ _ _
        unfold cycT
        simp only [Int.toNat_natCast]
        rw [HD0.out, Int.toNat_natCast, ← natsV_ints, ← h2]
        simpa using h1
      have HE : Hid (Below w.heap.size w wr) := HB3.out.trans (HBw.out.mono HB3.out.size)
      clear hal
      go_wp2
      go_ret
      exact ⟨_, f, rfl, HF, HI2, HE⟩
    | succ m =>
      have hax : ¬ a = x := fun e => by
        have h1 := HF.out.goal
        have h2 := HFA.out
        rw [e, h1] at h2; omega
      have c3 : ((a : Int) == (x : Int)) = false := by simp; omega
      obtain ⟨e9, hfi, he9, h9a, h9b, h9c⟩ := HF.out.next HFA.out
      have HEX : Hid (∃ e, l.find? (nextE l f a) = some e) := ⟨e9, hfi⟩
      have HNX : Hid (f (nxt l f a) = (m : Int) ∧ nxt l f a < n) := ⟨by rw [h9c]; exact h9b, by rw [h9c]; exact (eds_lt HL.out he9).2⟩
      have HW3 : Hid ((acc ++ [a]) ++ wayT l f m (nxt l f a) = x :: wayT l f d0 y) := by show _ = _; rw [← HW2.out, List.append_assoc]; rfl
      have HSV : Hid (natsV (acc ++ [a]) = natsV acc ++ [.int .i64 (a : Int)]) := by show _ = _; simp [natsV]
      have MX : acc.length + 1 ≤ maxLen := by unfold maxLen; omega
      have BY : (acc.length + 1) * 8 ≤ 140737488355328 := by omega
      have BS : w2.heap.size ≤ wr.heap.size := HBw.out.size
      clear hfi he9 h9a h9b h9c hal hax
      go_wp2_with (at_builtin; refine wpList_append_own _ rfl _ _ 62 rfl w2.heap.size 3 i0 (.int .i64 0) 1 8 Tryz.underlying62 hi0 hzz hzs hzb rfl (by decide) _ _ _ rfl (HO.out.alloc _) ⟨wr.heap.size, 0, none⟩ 1 1 [.int .i64 (a : Int)] rfl rfl (news1 wr _ _) ?c2 MX BY ?c5 ?_)
      case c2 => intro u hu; simp at hu; subst hu; rfl
      case c5 => simp; omega
      intro v' w3 hown' hgrow _
      have HO3 : Hid (w3.ownsRow w2.heap.size 3 1 v' (acc.length + 1) (natsV (acc ++ [a]))) := by show World.ownsRow _ _ _ _ _ _ _; rw [HSV.out]; exact hown'
      have HB3w : Hid (Below w2.heap.size w2 w3) := (HBw.out.alloc HBw.out.size _).grown hgrow (by simp; omega) (fun g hg => (HO.out.lt g hg).1)
      obtain ⟨p9, c9, hv9⟩ := row_slice hown'
      subst hv9
      clear hown' hgrow
      have KC := KN.out a w3 han HB3w.out HEX.out
      go_wp2_with (go_at_call 59; refine KC.mono ?_; rintro e w4 ⟨rfl, b4⟩)
      have HO4 : Hid (w4.ownsRow w2.heap.size 3 1 (.slice p9 (acc.length + 1) c9) (acc ++ [a]).length (natsV (acc ++ [a]))) := by
        show World.ownsRow _ _ _ _ _ _ _
        rw [List.length_append]
        exact row_keep HO3.out b4.out
      go_roundg m
      case measure => omega
      case rel => exact ⟨nxt l f a, acc ++ [a], rfl, HNX.out.2, by omega, HNX.out.1, HW3, HO4, HB3w.out.trans (b4.out.mono HB3w.out.size)⟩
end Go.Proofs.YtfjejnkjlnkkhaaGreatDoor
/- firstInCycle and Strata of the program, against their plain functions. -/
namespace Go.Proofs.YtfjejnkjlnkkhaaGreatDoor
set_option linter.unusedVariables false
open Go.ChangeShapes Go.WideShapes Go.ChangeAt Go.RowKit

def firstR : Option Ed → Value
  | none => .tuple #[.agg #[.int .i64 0, .int .i64 0, .bool false], .bool false]
  | some t => .tuple #[.agg #[.int .i64 t.1, .int .i64 t.2.1, .bool t.2.2], .bool true]
set_option maxHeartbeats 4000000 in
set_option maxRecDepth 100000 in
theorem firstIn_any (n : Nat) (v : Value) (l : List Ed) (w : World) {F : Nat → Prop} (ha : IsEds w F v l) (hm : mayE (n : Int) l = true) (R : Option Ed) (hR : l.find? (badE n l) = R) :
    Calls Tryz.prog 39 #[.int .i64 (n : Int), v] w fun e w' => e = .returned (firstR R) ∧ Hid (Below w.heap.size w w') := by
  obtain ⟨h0, h1, hl⟩ := mayE_all hm
  have hn : n ≤ 64 := by omega
  obtain ⟨W1, hW1⟩ : ∃ W1, W1 = w.alloc (.cells #[.int .i64 0, .int .i64 0, .bool false] 93) := ⟨_, rfl⟩
  have hb1 : Below w.heap.size w W1 := by rw [hW1]; exact bel1 _ _
  have KC := comps_ok n v l W1 (ha.any hb1) hm
  have q1 : W1.heap[w.heap.size]? = some (.cells #[.int .i64 0, .int .i64 0, .bool false] 93) := by rw [hW1]; exact heap_alloc_new _ _
  have hz1 : w.heap.size < W1.heap.size := by rw [hW1]; simp
  have HQ : Hid (∀ w', Below W1.heap.size W1 w' → w.heap.size < w'.heap.size ∧ (w'.cell? ⟨w.heap.size, 0, none⟩ = some (.int .i64 0) ∧ w'.cell? ⟨w.heap.size, 1, none⟩ = some (.int .i64 0) ∧ w'.cell? ⟨w.heap.size, 2, none⟩ = some (.bool false)) ∧ w'.frozen? ⟨w.heap.size, 0, none⟩ = false ∧ w'.frozen? ⟨w.heap.size, 1, none⟩ = false ∧ w'.frozen? ⟨w.heap.size, 2, none⟩ = false) := fun w' hb => by
    have h9 := (hb.block _ hz1).trans q1
    have h8 := Lib.cell_of_heap h9
    have h7 : ∀ j, w'.frozen? ⟨w.heap.size, j, none⟩ = false := fun j => by simp [World.frozen?, h9]
    exact ⟨Nat.lt_of_lt_of_le hz1 hb.size, ⟨h8 0, h8 1, h8 2⟩, h7 0, h7 1, h7 2⟩
  obtain ⟨p, cp, rfl⟩ := ha.slc
  have hm9 : l.length ≤ 9223372036854775807 := by have := ha.len; unfold maxLen at this; omega
  have HA : Hid (IsEds w F (.slice p l.length cp) l) := ha
  have HL : Hid (edsB (n : Int) l = true) := hl
  have HB1 : Hid (Below w.heap.size w W1) := hb1
  have HR : Hid (l.find? (badE n l) = R) := hR
  clear ha hm h0 h1 hl hb1 q1 hz1 hR
  go_enter Tryz.func39, Tryz.ntmps39
  go_upto_region 2 with (go_at_call 57; rw [← hW1]; refine KC.mono ?_; rintro e w2 ⟨u, rfl, HI, HB2⟩)
  obtain ⟨p7, c7, hu⟩ := HI.out.slc
  rw [compsT_length] at hu
  subst hu
  have HB3 : Hid (Below w.heap.size w w2) := HB1.out.trans (HB2.out.mono HB1.out.size)
  clear hW1 KC
  go_wp2
  go_loopw [18] (fun i wr => ∃ k : Nat, k ≤ l.length ∧ i = .int .i64 k ∧ Hid (Below w2.heap.size w2 wr) ∧ Hid (∀ j e, j < k → l[j]? = some e → badE n l e = false)) (fun i _ => l.length - (intOf i).toNat)
  case atStart => exact ⟨0, Nat.zero_le _, rfl, Below.refl _ _, fun j e hj => by omega⟩
  case round =>
    obtain ⟨k, hk, rfl, HBr, HN⟩ := hrel
    have HB4 : Hid (Below W1.heap.size W1 wr) := HB2.out.trans (HBr.out.mono HB2.out.size)
    have HB5 : Hid (Below w.heap.size w wr) := HB3.out.trans (HBr.out.mono HB3.out.size)
    by_cases hlt : k < l.length
    · obtain ⟨t, ht⟩ : ∃ t, l[k]? = some t := ⟨_, List.getElem?_eq_getElem hlt⟩
      obtain ⟨g1, o1, hp, hg1, a0, a1, a2⟩ := (HA.out.any HB5.out).at ht
      subst hp
      have hed := edB_lt (List.all_eq_true.1 HL.out t (List.mem_of_getElem? ht))
      obtain ⟨t0, t1, t2⟩ := t
      simp only at a0 a1 a2 hed
      obtain ⟨x, rfl⟩ : ∃ x : Nat, t0 = (x : Int) := ⟨t0.toNat, by omega⟩
      obtain ⟨y, rfl⟩ : ∃ y : Nat, t1 = (y : Int) := ⟨t1.toNat, by omega⟩
      have hx : x < n := by omega
      have hy : y < n := by omega
      obtain ⟨g2, o2, hp2, hg2, cx⟩ := (HI.out.any HBr.out).at (compsT_at l hx)
      obtain ⟨g3, o3, hp3, hg3, cy⟩ := (HI.out.any HBr.out).at (compsT_at l hy)
      subst hp2
      simp only [Option.some.injEq, Addr.mk.injEq, and_true] at hp3
      obtain ⟨rfl, rfl⟩ := hp3
      have HE : Hid (badE n l ((x : Int), (y : Int), t2) = (t2 && decide (comp n l x = comp n l y))) := by show _ = _; unfold badE; simp only [Int.toNat_natCast]
      have HT : Hid (l[k]? = some ((x : Int), (y : Int), t2)) := ht
      obtain ⟨u, hu⟩ : ∃ u, u = comp n l x := ⟨_, rfl⟩
      obtain ⟨z, hz⟩ : ∃ z, z = comp n l y := ⟨_, rfl⟩
      rw [← hu] at cx HE
      rw [← hz] at cy HE
      have HNX : Hid (badE n l ((x : Int), (y : Int), t2) = false → ∀ j e, j < k + 1 → l[j]? = some e → badE n l e = false) := fun h j e hj he => by
        by_cases x : j = k
        · subst x
          rw [HT.out] at he
          cases he
          exact h
        · exact HN.out j e (by omega) he
      clear ht hed hu hz
      cases t2 with
      | false =>
        have HN2 := HNX.out HE.out
        have HN3 : Hid (∀ j e, j < k + 1 → l[j]? = some e → badE n l e = false) := HN2
        clear HN2
        go_wp2
        go_quiet (fail)
        go_wp2
        go_roundw
        case rel => exact ⟨k + 1, by omega, by go_num, bel_drewN (bel_alloc HBr.out), HN3⟩
        case measure => simp [intOf]; omega
      | true =>
        by_cases huz : u = z
        · subst huz
          have HF : Hid (R = some ((x : Int), (y : Int), true)) := by
            show _ = _
            rw [← HR.out]; exact find_at HN.out HT.out (by rw [HE.out]; simp)
          obtain ⟨b0, ⟨d0, d1, d2⟩, f0, f1, f2⟩ := HQ.out wr HB4.out
          have HB6 : Hid (Below w.heap.size w (wr.alloc (.cells #[.int .i64 (x : Int), .int .i64 (y : Int), .bool true] 93))) := bel_alloc HB5.out
          go_wp2
          go_quiet (fail)
          go_wp2
          (try simp only [Exit.inBlock, Exit.then])
          refine bodyPost_ret (v := .tuple #[.agg #[.int .i64 (x : Int), .int .i64 (y : Int), .bool true], .bool true]) ?_ rfl ⟨by rw [HF.out]; rfl, bel_set (bel_set (bel_set (bel_drewN HB6.out) (Nat.le_refl _)) (Nat.le_refl _)) (Nat.le_refl _)⟩
          rw [results_cell_tmp rfl]
          go_simp
        · have HN2 := HNX.out (by rw [HE.out]; simp [huz])
          have HN3 : Hid (∀ j e, j < k + 1 → l[j]? = some e → badE n l e = false) := HN2
          have huz2 : ((u : Int) == (z : Int)) = false := by simp; omega
          clear HN2
          go_wp2
          go_quiet (fail)
          go_wp2
          go_roundw
          case rel => exact ⟨k + 1, by omega, by go_num, bel_drewN (bel_alloc HBr.out), HN3⟩
          case measure => simp [intOf]; omega
    · obtain rfl : k = l.length := by omega
      have HF : Hid (R = none) := by
        show _ = _
        rw [← HR.out, List.find?_eq_none]
        intro e he
        obtain ⟨j, hj⟩ := List.mem_iff_getElem?.1 he
        simp [HN.out j e (List.getElem?_eq_some_iff.1 hj).1 hj]
      obtain ⟨b0, ⟨d0, d1, d2⟩, f0, f1, f2⟩ := HQ.out wr HB4.out
      go_wp2
      (try simp only [Exit.inBlock, Exit.then])
      refine bodyPost_ret (v := .tuple #[.agg #[.int .i64 0, .int .i64 0, .bool false], .bool false]) ?_ rfl ⟨by rw [HF.out]; rfl, bel_set (bel_set (bel_set HB5.out (Nat.le_refl _)) (Nat.le_refl _)) (Nat.le_refl _)⟩
      rw [results_cell_tmp rfl]
      go_simp
theorem mayE_edges {g : Gr} (h : mayG g = true) : mayE (g.names.length : Int) (edgesT g) = true := by
  have h1 := mayG_names h
  unfold mayE edsB
  simp only [Bool.and_eq_true, decide_eq_true_eq, List.all_eq_true]
  refine ⟨⟨by omega, by omega⟩, fun e he => ?_⟩
  rw [mem_edgesT, mem_allE] at he
  obtain ⟨r, hr, he⟩ := he
  rw [mem_cnsE] at he
  obtain ⟨c, hc, he⟩ := he
  rw [mem_seqE] at he
  obtain ⟨e1, e2, s, hs, e3, e4⟩ := he
  have h2 := mayG_head h r hr
  have h3 := mayG_sym h r hr c hc s hs
  unfold edB endB
  simp only [Bool.and_eq_true, decide_eq_true_eq]
  rw [e1, ← e4]
  omega
set_option maxHeartbeats 4000000 in
set_option maxRecDepth 100000 in
theorem strata_no (g : Gr) (v1 v2 : Value) (w : World) {F : Nat → Prop} (hg : GrIs w F v1 v2 g) (hn : ∀ s, s ∈ g.names → s.size ≤ maxLen) (hS : Short g.rules) (hM : mayG g = false) :
    Calls Tryz.prog 27 #[.agg #[.int .i64 g.start, v1, v2]] w fun e w' => e = .returned (.tuple #[.slice none 0 0, .slice none 0 0, .int .i64 800]) ∧ Hid (Below w.heap.size w w') := by
  have K1 : ∀ o, Calls Tryz.prog 38 #[.agg #[.int .i64 g.start, v1, v2]] (w.alloc o) fun e w' => e = .returned (.tuple #[.slice none 0 0, .int .i64 600]) ∧ Hid (Below (w.alloc o).heap.size (w.alloc o) w') := fun o => edges_no g v1 v2 (w.alloc o) (hg.any (bel1 w o)) hn hS hM
  obtain ⟨p1, c1, l1, hv1⟩ : ∃ p n c, v1 = .slice p n c := by obtain ⟨p, c, e, _⟩ := hg.1; exact ⟨_, _, _, e⟩
  obtain ⟨p2, c2, hv2⟩ := hg.2.slc
  subst hv1 hv2
  clear hg hn hS hM
  go_enter Tryz.func27, Tryz.ntmps27
  go_wp2_with (go_at_call 38; refine (K1 _).mono ?_; rintro e w1 ⟨rfl, b1⟩)
  go_ret3
  exact ⟨rfl, (bel1 _ _).trans (b1.out.mono (bel1 w _).size)⟩
set_option maxHeartbeats 4000000 in
set_option maxRecDepth 100000 in
theorem strata_ok (g : Gr) (v1 v2 : Value) (w : World) {F : Nat → Prop} (hg : GrIs w F v1 v2 g) (hn : ∀ s, s ∈ g.names → s.size ≤ maxLen) (hS : Short g.rules) (hM : mayG g = true) (hc : (edgesT g).find? (badE g.names.length (edgesT g)) = none) :
    Calls Tryz.prog 27 #[.agg #[.int .i64 g.start, v1, v2]] w fun e w' => ∃ u, e = .returned (.tuple #[u, .slice none 0 0, .int .i64 0]) ∧ Hid (IsInts w' (fun i => w.heap.size ≤ i) u (levL g.names.length (levT g.names.length (edgesT g)))) ∧ Hid (Below w.heap.size w w') := by
  obtain ⟨W1, hW1⟩ : ∃ W1, W1 = w.alloc (.cells #[.int .i64 g.start, v1, v2] 25) := ⟨_, rfl⟩
  have hb1 : Below w.heap.size w W1 := by rw [hW1]; exact bel1 _ _
  have K1 := edges_ok g v1 v2 W1 (hg.any hb1) hn hS hM
  have hm := mayE_edges hM
  obtain ⟨p1, l1, hv1⟩ : ∃ p c, v1 = .slice p g.names.length c := by obtain ⟨p, c, e, _⟩ := hg.1; exact ⟨_, _, e⟩
  obtain ⟨p2, c2, hv2⟩ := hg.2.slc
  obtain ⟨L, hL⟩ : ∃ L, L = edgesT g := ⟨_, rfl⟩
  obtain ⟨n, hn9⟩ : ∃ n, n = g.names.length := ⟨_, rfl⟩
  have hn64 : n ≤ 64 := by rw [hn9]; exact mayG_names hM
  rw [← hL] at K1 hm hc ⊢
  rw [← hn9] at hm hc hv1 ⊢
  have q1 : W1.cell? ⟨w.heap.size, 1, none⟩ = some v1 := by rw [hW1]; exact World.cell?_alloc_at _ _ _ _ rfl
  have hz1 : w.heap.size < W1.heap.size := by rw [hW1]; simp
  have HB1 : Hid (Below w.heap.size w W1) := hb1
  have HM : Hid (mayE (n : Int) L = true) := hm
  have HC : Hid (L.find? (badE n L) = none) := hc
  have HCl : Hid (Clean L) := clean_of (mayE_all hm).2.2 hc
  subst hv1 hv2
  clear hg hn hS hM hb1 hm hc hL hn9
  go_enter Tryz.func27, Tryz.ntmps27
  go_upto_region 2 with (go_at_call 38; rw [← hW1]; refine K1.mono ?_; rintro e w2 ⟨v, rfl, IE, b2⟩)
  obtain ⟨p3, c3, hv⟩ := IE.out.slc
  subst hv
  have q2 : w2.cell? ⟨w.heap.size, 1, none⟩ = some (.slice p1 n l1) := (b2.out.cell (p := ⟨_, _, none⟩) hz1).trans q1
  have hz2 : w.heap.size < w2.heap.size := Nat.lt_of_lt_of_le hz1 b2.out.size
  have HB2 : Hid (Below w.heap.size w w2) := HB1.out.trans (b2.out.mono HB1.out.size)
  have K2 := firstIn_any n (.slice p3 L.length c3) L w2 IE.out HM.out none HC.out
  have K3 : Hid (∀ w', Below w2.heap.size w2 w' → Calls Tryz.prog 41 #[.int .i64 (n : Int), .slice p3 L.length c3] w' fun e w'' => ∃ u, e = .returned u ∧ Hid (IsInts w'' (fun i => w'.heap.size ≤ i) u (levL n (levT n L))) ∧ Hid (Below w'.heap.size w' w'')) := fun w' hb => levels_any n _ L w' (IE.out.any hb) HM.out HCl.out
  unfold firstR at K2
  clear hW1 K1 q1 hz1
  go_wp2_with (first
    | (go_at_call 39; refine K2.mono ?_; rintro e w3 ⟨rfl, b3⟩)
    | (go_at_call 41; refine (K3.out _ (bel_alloc b3.out)).mono ?_; rintro e w4 ⟨u, rfl, IU, b4⟩))
  obtain ⟨p5, c5, hu⟩ := IU.out.slc
  rw [levL_length] at hu
  subst hu
  have HB4 : Hid (Below w.heap.size w w4) := HB2.out.trans (((bel_alloc b3.out).trans (b4.out.mono (bel_alloc b3.out).size)).mono HB2.out.size)
  have HI : Hid (IsInts w4 (fun i => w.heap.size ≤ i) (.slice p5 n c5) (levL n (levT n L))) := by
    refine Reads.low IU.out fun b hb _ => ?_
    have h1 := (bel_alloc (o := .cells #[.int .i64 0, .int .i64 0, .bool false] 93) b3.out).size
    have h2 := HB2.out.size
    exact Nat.le_trans (Nat.le_trans h2 h1) hb
  go_ret3
  exact ⟨_, rfl, HI, HB4⟩
set_option maxHeartbeats 4000000 in
set_option maxRecDepth 100000 in
theorem strata_cyc (g : Gr) (v1 v2 : Value) (w : World) {F : Nat → Prop} (hg : GrIs w F v1 v2 g) (hn : ∀ s, s ∈ g.names → s.size ≤ maxLen) (hS : Short g.rules) (hM : mayG g = true) (t : Ed) (hc : (edgesT g).find? (badE g.names.length (edgesT g)) = some t) :
    Calls Tryz.prog 27 #[.agg #[.int .i64 g.start, v1, v2]] w fun e w' => ∃ u f, e = .returned (.tuple #[.slice none 0 0, u, .int .i64 801]) ∧ Hid (FarIs (edgesT g) t.1.toNat f) ∧ Hid (IsInts w' (fun i => w.heap.size ≤ i) u (cycT (edgesT g) f t)) ∧ Hid (Below w.heap.size w w') := by
  obtain ⟨W1, hW1⟩ : ∃ W1, W1 = w.alloc (.cells #[.int .i64 g.start, v1, v2] 25) := ⟨_, rfl⟩
  have hb1 : Below w.heap.size w W1 := by rw [hW1]; exact bel1 _ _
  have K1 := edges_ok g v1 v2 W1 (hg.any hb1) hn hS hM
  have hm := mayE_edges hM
  obtain ⟨p1, l1, hv1⟩ : ∃ p c, v1 = .slice p g.names.length c := by obtain ⟨p, c, e, _⟩ := hg.1; exact ⟨_, _, e⟩
  obtain ⟨p2, c2, hv2⟩ := hg.2.slc
  obtain ⟨L, hL⟩ : ∃ L, L = edgesT g := ⟨_, rfl⟩
  obtain ⟨n, hn9⟩ : ∃ n, n = g.names.length := ⟨_, rfl⟩
  have hn64 : n ≤ 64 := by rw [hn9]; exact mayG_names hM
  rw [← hL] at K1 hm hc ⊢
  rw [← hn9] at hm hc hv1
  have hbad := List.find?_some hc
  have htm := List.mem_of_find?_eq_some hc
  have hed := edB_lt (List.all_eq_true.1 (mayE_all hm).2.2 t htm)
  have hw := ((bad_iff (mayE_all hm).2.2 htm).1 hbad).2
  obtain ⟨t0, t1, t2⟩ := t
  simp only at hed hw
  obtain ⟨x, rfl⟩ : ∃ x : Nat, t0 = (x : Int) := ⟨t0.toNat, by omega⟩
  obtain ⟨y, rfl⟩ : ∃ y : Nat, t1 = (y : Int) := ⟨t1.toNat, by omega⟩
  have hx : x < n := by omega
  have hy : y < n := by omega
  rw [Int.toNat_natCast, Int.toNat_natCast] at hw
  show Calls _ _ _ _ fun e w' => ∃ u f, e = .returned (.tuple #[.slice none 0 0, u, .int .i64 801]) ∧ Hid (FarIs L x f) ∧ Hid (IsInts w' (fun i => w.heap.size ≤ i) u (cycT L f ((x : Int), (y : Int), t2))) ∧ Hid (Below w.heap.size w w')
  have q1 : W1.cell? ⟨w.heap.size, 1, none⟩ = some v1 := by rw [hW1]; exact World.cell?_alloc_at _ _ _ _ rfl
  have hz1 : w.heap.size < W1.heap.size := by rw [hW1]; simp
  have HB1 : Hid (Below w.heap.size w W1) := hb1
  have HM : Hid (mayE (n : Int) L = true) := hm
  have HC : Hid (L.find? (badE n L) = some ((x : Int), (y : Int), t2)) := hc
  have HW : Hid (Way L y x) := hw
  subst hv1 hv2
  clear hg hn hS hM hb1 hm hc hL hn9 hbad htm hed hw
  go_enter Tryz.func27, Tryz.ntmps27
  go_upto_region 2 with (go_at_call 38; rw [← hW1]; refine K1.mono ?_; rintro e w2 ⟨v, rfl, IE, b2⟩)
  obtain ⟨p3, c3, hv⟩ := IE.out.slc
  subst hv
  have q2 : w2.cell? ⟨w.heap.size, 1, none⟩ = some (.slice p1 n l1) := (b2.out.cell (p := ⟨_, _, none⟩) hz1).trans q1
  have hz2 : w.heap.size < w2.heap.size := Nat.lt_of_lt_of_le hz1 b2.out.size
  have HB2 : Hid (Below w.heap.size w w2) := HB1.out.trans (b2.out.mono HB1.out.size)
  have K2 := firstIn_any n (.slice p3 L.length c3) L w2 IE.out HM.out _ HC.out
  have K3 : Hid (∀ w', Below w2.heap.size w2 w' → Calls Tryz.prog 40 #[.int .i64 (n : Int), .slice p3 L.length c3, .agg #[.int .i64 (x : Int), .int .i64 (y : Int), .bool t2]] w' fun e w'' => ∃ u f, e = .returned u ∧ Hid (FarIs L x f) ∧ Hid (IsInts w'' (fun i => w'.heap.size ≤ i) u (cycT L f ((x : Int), (y : Int), t2))) ∧ Hid (Below w'.heap.size w' w'')) := fun w' hb => cycle_any n x y t2 _ L w' (IE.out.any hb) HM.out hx hy HW.out
  unfold firstR at K2
  clear hW1 K1 q1 hz1
  go_wp2_with (first
    | (go_at_call 39; refine K2.mono ?_; rintro e w3 ⟨rfl, b3⟩)
    | (go_at_call 40; refine (K3.out _ (bel_alloc b3.out)).mono ?_; rintro e w4 ⟨u, f, rfl, HF, IU, b4⟩))
  obtain ⟨p5, c5, hu⟩ := IU.out.slc
  have HB4 : Hid (Below w.heap.size w w4) := HB2.out.trans (((bel_alloc b3.out).trans (b4.out.mono (bel_alloc b3.out).size)).mono HB2.out.size)
  have HI : Hid (IsInts w4 (fun i => w.heap.size ≤ i) u (cycT L f ((x : Int), (y : Int), t2))) := by
    refine Reads.low IU.out fun b hb _ => ?_
    have h1 := (bel_alloc (o := .cells #[.int .i64 (x : Int), .int .i64 (y : Int), .bool t2] 93) b3.out).size
    have h2 := HB2.out.size
    exact Nat.le_trans (Nat.le_trans h2 h1) hb
  subst hu
  go_ret3
  exact ⟨_, f, rfl, HF, HI, HB4⟩
end Go.Proofs.YtfjejnkjlnkkhaaGreatDoor
/- awake of layer 8. -/
namespace Go.Proofs.YtfjejnkjlnkkhaaGreatDoor
set_option linter.unusedVariables false
open Go.ChangeShapes Go.WideShapes Go.ChangeAt Go.RowKit

end Go.Proofs.YtfjejnkjlnkkhaaGreatDoor
