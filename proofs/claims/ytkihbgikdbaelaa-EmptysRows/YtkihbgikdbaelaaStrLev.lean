import Derived.Test.YtkihbgikdbaelaaHangW
import Derived.Test.YtkihbgikdbaelaaStrT
import Derived.Laws.MakeOwn
import Derived.Deep.LoopGhost
import Derived.Deep.RegionHeld3
import Derived.Laws.CopyOwn
import Derived.Laws.Bits64b
import Derived.Deep.RegionLaw
import Derived.Deep.CutRange
/- step, raise, levels of strata, against their plain functions. -/
namespace Go.Proofs.Ytkihbgikdbaelaa
set_option linter.unusedVariables false
open Go.ChangeShapes Go.WideShapes Go.ChangeAt Go.RowKit

def intsA (l : List Int) : Array Value := (intsV l).toArray
theorem intsV_at {l : List Int} {k : Nat} {z : Int} (h : l[k]? = some z) : (intsV l)[k]? = some (.int .i64 z) := by unfold intsV; rw [List.getElem?_map, h]; rfl
theorem intsV_length (l : List Int) : (intsV l).length = l.length := by simp [intsV]
/-- Block b is the row l of numbers. -/
def ZAt (w : World) (b : Nat) (l : List Int) : Prop := w.heap[b]? = some (.cells (intsA l) 3)
section
variable {w w' : World} {b : Nat} {l : List Int}
theorem ZAt.lt (h : ZAt w b l) : b < w.heap.size := heap_lt h
theorem ZAt.cell (h : ZAt w b l) {k : Nat} {z : Int} (hk : l[k]? = some z) : w.cell? ⟨b, k, none⟩ = some (.int .i64 z) := by
  rw [cell_of_row _ _ k _ _ (0, 0) h]
  unfold intsA
  rw [List.getElem?_toArray]; exact intsV_at hk
theorem ZAt.frozen (h : ZAt w b l) (k : Nat) : w.frozen? ⟨b, k, none⟩ = false := by simp [World.frozen?, show w.heap[b]? = _ from h]
theorem ZAt.keep (h : ZAt w b l) (hb : Below w.heap.size w w') : ZAt w' b l := (hb.block b h.lt).trans h
theorem ZAt.blk (h : ZAt w b l) (hb : w'.heap[b]? = w.heap[b]?) : ZAt w' b l := hb.trans h
theorem ZAt.put (h : ZAt w b l) (k : Nat) (z : Int) : ZAt (w.setCell ⟨b, k, none⟩ (.int .i64 z)) b (l.set k z) := by
  unfold ZAt at *
  simp only [World.setCell, Array.getElem?_modify, if_pos, h, Option.map_some]
  unfold intsA intsV
  rw [List.map_set]
  simp
theorem ZAt.new (w : World) (l : List Int) : ZAt (w.alloc (.cells (intsA l) 3)) w.heap.size l := heap_alloc_new w _
theorem ZAt.ints (h : ZAt w b l) {F : Nat → Prop} (hF : F b) {n : Nat} (hn : n = l.length) (hm : n ≤ maxLen) : IsInts w F (.slice (some ⟨b, 0, none⟩) n n) l := by
  subst hn
  refine ⟨_, _, rfl, ⟨hm, Nat.le_refl _⟩, fun _ => ⟨b, 0, rfl, hF, h.lt, fun j c hj => ?_, fun j _ => h.frozen _⟩⟩
  rw [Nat.zero_add, cell_of_row _ _ j _ _ (0, 0) h]
  unfold intsA
  rw [List.getElem?_toArray]; exact hj
end
theorem levL_length (n : Nat) (f : Nat → Nat) : (levL n f).length = n := by simp [levL]
theorem levL_at {n : Nat} (f : Nat → Nat) {i : Nat} (hi : i < n) : (levL n f)[i]? = some ((f i : Nat) : Int) := by simp [levL, hi]
theorem levL_put {n : Nat} (f : Nat → Nat) {i : Nat} (hi : i < n) (v : Nat) : (levL n f).set i (v : Int) = levL n (putN f i v) := by
  apply List.ext_getElem?
  intro j
  by_cases hj : j < n
  · rw [levL_at _ hj, List.getElem?_set]
    by_cases e : i = j
    · subst e; rw [if_pos rfl, if_pos (by rw [levL_length]; exact hi)]; simp [putN]
    · rw [if_neg e, levL_at _ hj]; simp [putN, Ne.symm e]
  · rw [List.getElem?_eq_none (by rw [List.length_set, levL_length]; omega), List.getElem?_eq_none (by rw [levL_length]; omega)]
theorem made_ints (n : Nat) : madeCells #[.int .i64 0] n = intsA (levL n fun _ => 0) := by
  apply Array.ext_getElem?
  intro i
  by_cases hi : i < n
  · have h1 : (intsA (levL n fun _ => 0))[i]? = some (.int .i64 0) := by
      unfold intsA
      rw [List.getElem?_toArray]; exact intsV_at (levL_at _ hi)
    rw [h1]
    simp [madeCells, hi, Nat.mod_one]
  · rw [Array.getElem?_eq_none (by rw [size_madeCells]; omega), Array.getElem?_eq_none (by simp [intsA, intsV, levL]; omega)]
theorem make_ints (n : Nat) (hn : n ≤ 64) (w : World) : (Instr.makeSlice 45 (.int .i64 (n : Int)) (.int .i64 (n : Int))).run Try.prog w = .ok (.slice (some ⟨w.heap.size, 0, none⟩) n n) (w.alloc (.cells (intsA (levL n fun _ => 0)) 3)) := by
  obtain ⟨i, hi, hz, hs, hb⟩ := info_parts Try.infoInt
  have h := run_make (P := Try.prog) w 45 3 i _ Try.underlying45 hi hz .i64 .i64 (n : Int) (n : Int) (by omega) (Int.le_refl _) (by rw [hb]; omega) (by omega)
  simp only [Int.toNat_natCast, hs, Nat.mul_one] at h
  rw [← made_ints]
  exact h
theorem step8_any (x0 x1 : Int) (x2 : Bool) (w : World) : Calls Try.prog 54 #[.agg #[.int .i64 x0, .int .i64 x1, .bool x2]] w fun e w' => e = .returned (.int .i64 ((stp (x0, x1, x2) : Nat) : Int)) ∧ Hid (Below w.heap.size w w') := by
  cases x2 with
  | false =>
    go_enter Try.func54, Try.ntmps54
    go_wp2
    go_ret
    exact ⟨rfl, bel1 _ _⟩
  | true =>
    go_enter Try.func54, Try.ntmps54
    go_wp2
    go_ret
    exact ⟨rfl, bel1 _ _⟩
theorem take_rai {l : List Ed} {k : Nat} {t : Ed} (ht : l[k]? = some t) (f : Nat → Nat) : rai f (l.take (k + 1)) = raiE (rai f (l.take k)) t := by
  rw [List.take_add_one, ht]; exact rai_snoc _ _ _
theorem take_chg {l : List Ed} {k : Nat} {t : Ed} (ht : l[k]? = some t) (f : Nat → Nat) : chg f (l.take (k + 1)) = (chg f (l.take k) || decide (rai f (l.take k) t.1.toNat < rai f (l.take k) t.2.1.toNat + stp t)) := by
  rw [List.take_add_one, ht]; exact chg_snoc _ _ _
theorem rai_app : ∀ (l m : List Ed) (f : Nat → Nat), rai f (l ++ m) = rai (rai f l) m
  | [], m, f => rfl
  | e :: l, m, f => rai_app l m _
theorem rai_take (l : List Ed) (k : Nat) (f : Nat → Nat) (i : Nat) : rai f (l.take k) i ≤ rai f l i := by
  have h : rai f l = rai (rai f (l.take k)) (l.drop k) := by rw [← rai_app, List.take_append_drop]
  rw [h]; exact rai_le _ _ _
theorem bel_set {W w' : World} {b k : Nat} {v : Value} (h : Below W.heap.size W w') (hb : W.heap.size ≤ b) : Below W.heap.size W (w'.setCell ⟨b, k, none⟩ v) := h.setCell (p := ⟨b, k, none⟩) hb v
set_option maxHeartbeats 4000000 in
set_option maxRecDepth 100000 in
theorem raise_any (b n : Nat) (f : Nat → Nat) (v : Value) (l : List Ed) (w0 w : World) {F : Nat → Prop} (ha : IsEds w0 F v l) (hb : Below w0.heap.size w0 w) (hB : w0.heap.size ≤ b) (hl : edsB (n : Int) l = true) (hz : ZAt w b (levL n f)) (hu : ∀ i, rai f l i ≤ 1000) :
    Calls Try.prog 36 #[.slice (some ⟨b, 0, none⟩) n n, v] w fun e w' => e = .returned (.bool (chg f l)) ∧ Hid (ZAt w' b (levL n (rai f l))) ∧ Hid (Below w0.heap.size w0 w') := by
  obtain ⟨p, cp, rfl⟩ := ha.slc
  have hm9 : l.length ≤ 9223372036854775807 := by have := ha.len; unfold maxLen at this; omega
  have HA : Hid (IsEds w0 F (.slice p l.length cp) l) := ha
  have HL : Hid (edsB (n : Int) l = true) := hl
  have HZ : Hid (ZAt w b (levL n f)) := hz
  have HB : Hid (Below w0.heap.size w0 w) := hb
  have HU : Hid (∀ i, rai f l i ≤ 1000) := hu
  clear ha hb hl hz hu
  go_enter Try.func36, Try.ntmps36
  go_wp2
  go_loopw [5, 11] (fun c x wr => ∃ k : Nat, k ≤ l.length ∧ x = .int .i64 k ∧ c = .bool (chg f (l.take k)) ∧ Hid (ZAt wr b (levL n (rai f (l.take k)))) ∧ Hid (Below w0.heap.size w0 wr)) (fun _ x _ => l.length - (intOf x).toNat)
  case atStart => exact ⟨0, Nat.zero_le _, rfl, rfl, HZ, HB⟩
  case round =>
    obtain ⟨k, hk, rfl, rfl, HZk, HBk⟩ := hrel
    by_cases hlt : k < l.length
    · obtain ⟨t, ht⟩ : ∃ t, l[k]? = some t := ⟨_, List.getElem?_eq_getElem hlt⟩
      obtain ⟨g1, o1, hp, hg1, a0, a1, a2⟩ := (HA.out.any HBk.out).at ht
      subst hp
      have htm := List.mem_of_getElem? ht
      have hed := edB_lt (List.all_eq_true.1 HL.out t htm)
      have e1 := take_rai ht f
      have e2 := take_chg ht f
      obtain ⟨F0, hF0⟩ : ∃ F0, F0 = rai f (l.take k) := ⟨_, rfl⟩
      have hub : ∀ i, F0 i ≤ 1000 := fun i => by rw [hF0]; exact Nat.le_trans (rai_take l k f i) (HU.out i)
      rw [← hF0] at e1 e2 HZk
      obtain ⟨t0, t1, t2⟩ := t
      simp only at a0 a1 a2 hed e2
      obtain ⟨x, rfl⟩ : ∃ x : Nat, t0 = (x : Int) := ⟨t0.toNat, by omega⟩
      obtain ⟨y, rfl⟩ : ∃ y : Nat, t1 = (y : Int) := ⟨t1.toNat, by omega⟩
      have hx : x < n := by omega
      have hy : y < n := by omega
      rw [Int.toNat_natCast, Int.toNat_natCast] at e2
      obtain ⟨V, hV⟩ : ∃ V, V = wr.alloc (.cells #[.int .i64 (x : Int), .int .i64 (y : Int), .bool t2] 63) := ⟨_, rfl⟩
      have hVb : Below wr.heap.size wr V := by rw [hV]; exact bel1 _ _
      have q0 : V.cell? ⟨wr.heap.size, 0, none⟩ = some (.int .i64 (x : Int)) := by rw [hV]; exact World.cell?_alloc_at _ _ _ _ rfl
      have q1 : V.cell? ⟨wr.heap.size, 1, none⟩ = some (.int .i64 (y : Int)) := by rw [hV]; exact World.cell?_alloc_at _ _ _ _ rfl
      have q2 : V.cell? ⟨wr.heap.size, 2, none⟩ = some (.bool t2) := by rw [hV]; exact World.cell?_alloc_at _ _ _ _ rfl
      have zV := HZk.out.keep hVb
      have c1 := zV.cell (levL_at F0 hy)
      have hs : wr.heap.size < V.heap.size := by rw [hV]; simp
      have hbV := zV.lt
      obtain ⟨s, hs9⟩ : ∃ s, s = stp ((x : Int), (y : Int), t2) := ⟨_, rfl⟩
      have hs1 : s ≤ 1 := by rw [hs9]; unfold stp; split <;> omega
      have KS : Hid (∀ w2, Below V.heap.size V w2 → Calls Try.prog 54 #[.agg #[.int .i64 (x : Int), .int .i64 (y : Int), .bool t2]] w2 fun e w' => e = .returned (.int .i64 (s : Int)) ∧ Hid (Below w2.heap.size w2 w')) := fun w2 _ => by rw [hs9]; exact step8_any _ _ _ _
      have HS : Hid (∀ w', Below V.heap.size V w' → Below V.heap.size V w' ∧ w'.cell? ⟨wr.heap.size, 0, none⟩ = some (.int .i64 (x : Int)) ∧ w'.cell? ⟨wr.heap.size, 1, none⟩ = some (.int .i64 (y : Int)) ∧ w'.cell? ⟨wr.heap.size, 2, none⟩ = some (.bool t2) ∧ w'.cell? ⟨b, y, none⟩ = some (.int .i64 ((F0 y : Nat) : Int))) := fun w' h =>
        ⟨h, (h.cell (p := ⟨_, _, none⟩) hs).trans q0, (h.cell (p := ⟨_, _, none⟩) hs).trans q1, (h.cell (p := ⟨_, _, none⟩) hs).trans q2, (h.cell (p := ⟨_, _, none⟩) hbV).trans c1⟩
      have HZV : Hid (ZAt V b (levL n F0)) := zV
      have HBV : Hid (Below w0.heap.size w0 V) := HBk.out.trans (hVb.mono HBk.out.size)
      have HE1 : Hid (rai f (l.take (k + 1)) = raiE F0 ((x : Int), (y : Int), t2)) := e1
      have HE2 : Hid (chg f (l.take (k + 1)) = (chg f (l.take k) || decide (F0 x < F0 y + s))) := by rw [hs9]; exact e2
      have HSS : Hid (s = stp ((x : Int), (y : Int), t2)) := hs9
      have hux := hub x
      have huy := hub y
      obtain ⟨fx, hfx⟩ : ∃ fx, fx = F0 x := ⟨_, rfl⟩
      obtain ⟨fy, hfy⟩ : ∃ fy, fy = F0 y := ⟨_, rfl⟩
      have HFX : Hid (fx = F0 x ∧ fy = F0 y) := ⟨hfx, hfy⟩
      obtain ⟨ck, hck⟩ : ∃ ck, ck = chg f (l.take k) := ⟨_, rfl⟩
      have HCK : Hid (ck = chg f (l.take k)) := hck
      rw [← hfx] at hux
      rw [← hfy] at huy HS
      rw [← hck]
      obtain ⟨nb, hnb⟩ : ∃ nb, nb = wr.heap.size := ⟨_, rfl⟩
      rw [← hnb] at HS
      clear ht htm hed e1 e2 hF0 hub c1 q0 q1 q2 hs hs9 hfx hfy hck zV hbV hVb
      go_wp2
      rw [← hV, ← hnb]
      clear hV hnb
      go_region_held3 (fun w' => Below V.heap.size V w' ∧ w'.cell? ⟨nb, 0, none⟩ = some (.int .i64 (x : Int)) ∧ w'.cell? ⟨nb, 1, none⟩ = some (.int .i64 (y : Int)) ∧ w'.cell? ⟨nb, 2, none⟩ = some (.bool t2) ∧ w'.cell? ⟨b, y, none⟩ = some (.int .i64 (fy : Int)))
        ((refine HS.out _ ?_; (repeat' (first | with_reducible assumption | with_reducible exact Below.refl _ _ | with_reducible apply Below.drew))))
        ((go_at_call 54; refine (KS.out _ (by repeat' (first | exact Below.refl _ _ | apply Below.drew))).mono ?_; rintro e w3 ⟨rfl, b3⟩; have b4 : Below V.heap.size V w3 := Below.trans (b := V.drew) (Below.refl _ _).drew b3.out))
      obtain ⟨-, r0, -, -, -⟩ := HS.out _ b4
      have HZ3 : Hid (ZAt w3 b (levL n F0)) := HZV.out.keep b4
      have cx := HZ3.out.cell (levL_at F0 hx)
      rw [← HFX.out.1] at cx
      have fz := HZ3.out.frozen x
      have HB3 : Hid (Below w0.heap.size w0 w3) := HBV.out.trans (b4.mono HBV.out.size)
      by_cases hup : fx < fy + s
      · have hup2 : (fx : Int) < (fy : Int) + (s : Int) := by omega
        have HR : Hid (levL n (rai f (l.take (k + 1))) = (levL n F0).set x ((fy : Int) + (s : Int))) := by
          show _ = _
          rw [HE1.out, show ((fy : Int) + (s : Int)) = ((fy + s : Nat) : Int) by omega, levL_put _ hx]
          congr 1
          unfold raiE
          rw [← HSS.out]
          simp only [Int.toNat_natCast]
          rw [← HFX.out.1, ← HFX.out.2, if_pos hup]
        have HC : Hid (chg f (l.take (k + 1)) = true) := by show _ = _; rw [HE2.out, ← HFX.out.1, ← HFX.out.2, decide_eq_true hup, Bool.or_true]
        clear hup
        go_wp2
        go_roundw
        case rel => exact ⟨k + 1, by omega, by go_num, by rw [HC.out], by rw [HR.out]; exact HZ3.out.put _ _, bel_set HB3.out hB⟩
        case measure => simp [intOf]; omega
      · have hup2 : ¬ (fx : Int) < (fy : Int) + (s : Int) := by omega
        have HR : Hid (rai f (l.take (k + 1)) = F0) := by
          show _ = _
          rw [HE1.out]
          unfold raiE
          rw [← HSS.out]
          simp only [Int.toNat_natCast]
          rw [← HFX.out.1, ← HFX.out.2, if_neg hup]
        have HC : Hid (chg f (l.take (k + 1)) = ck) := by show _ = _; rw [HE2.out, ← HFX.out.1, ← HFX.out.2, decide_eq_false hup, Bool.or_false, HCK.out]
        clear hup
        go_wp2
        go_roundw
        case rel => exact ⟨k + 1, by omega, by go_num, by rw [HC.out], by rw [HR.out]; exact HZ3, HB3⟩
        case measure => simp [intOf]; omega
    · obtain rfl : k = l.length := by omega
      rw [List.take_length] at HZk ⊢
      go_wp2
      go_ret
      exact ⟨rfl, HZk, HBk⟩
set_option maxHeartbeats 4000000 in
set_option maxRecDepth 100000 in
theorem levels_any (n : Nat) (v : Value) (l : List Ed) (w : World) {F : Nat → Prop} (ha : IsEds w F v l) (hm : mayE (n : Int) l = true) (hc : Clean l) :
    Calls Try.prog 24 #[.int .i64 (n : Int), v] w fun e w' => ∃ u, e = .returned u ∧ Hid (IsInts w' (fun i => w.heap.size ≤ i) u (levL n (levT n l))) ∧ Hid (Below w.heap.size w w') := by
  obtain ⟨h0, h1, hl⟩ := mayE_all hm
  have hn : n ≤ 64 := by omega
  have KR : Hid (∀ r w', Below w.heap.size w w' → ZAt w' w.heap.size (levL n (itL l r)) → Calls Try.prog 36 #[.slice (some ⟨w.heap.size, 0, none⟩) n n, v] w' fun e w'' => e = .returned (.bool (chg (itL l r) l)) ∧ Hid (ZAt w'' w.heap.size (levL n (itL l (r + 1)))) ∧ Hid (Below w.heap.size w w'')) := fun r w' hb hz =>
    raise_any w.heap.size n (itL l r) v l w w' ha hb (Nat.le_refl _) hl hz fun i => by
      show itL l (r + 1) i ≤ 1000
      by_cases hi : i < n
      · have := it_lt hl hc (r + 1) hi; omega
      · rw [it_out hl _ i (by omega)]; omega
  have HD : Hid (∀ r, chg (itL l r) l = false → itL l r = levT n l ∧ itL l (r + 1) = levT n l) := fun r h => by
    have := it_done hl hc h
    exact ⟨this, by show rai (itL l r) l = _; rw [rai_fix l _ ((chg_no _ _).1 h), this]⟩
  have HG : Hid (∀ r, chg (itL l r) l = true → r < n) := fun r h => it_goes hl hc h
  have hmk := make_ints n hn w
  obtain ⟨p, cp, rfl⟩ := ha.slc
  clear ha hm hc h0 h1 hl
  go_enter Try.func24, Try.ntmps24
  go_wp2
  go_loopg [10] n (fun g x wr => ∃ r, r + g = n ∧ Hid (ZAt wr w.heap.size (levL n (itL l r))) ∧ Hid (Below w.heap.size w wr))
  case atStart => exact ⟨0, by omega, ZAt.new w _, bel1 _ _⟩
  case round =>
    obtain ⟨r, hr, HZ, HB⟩ := hrel
    have KC := KR.out r wr HB.out HZ.out
    cases hch : chg (itL l r) l with
    | true =>
      have hlt := HG.out r hch
      rw [hch] at KC
      clear hch
      go_wp2_with (go_at_call 36; refine KC.mono ?_; rintro e w1 ⟨rfl, HZ1, HB1⟩)
      go_roundg (gk - 1)
      case measure => omega
      case rel => exact ⟨r + 1, by omega, HZ1, HB1⟩
    | false =>
      have HF := HD.out r hch
      have HF2 : Hid (itL l (r + 1) = levT n l) := HF.2
      rw [hch] at KC
      clear hch HF
      go_wp2_with (go_at_call 36; refine KC.mono ?_; rintro e w1 ⟨rfl, HZ1, HB1⟩)
      rw [HF2.out] at HZ1
      have HI : Hid (IsInts w1 (fun i => w.heap.size ≤ i) (.slice (some ⟨w.heap.size, 0, none⟩) n n) (levL n (levT n l))) := HZ1.out.ints (Nat.le_refl _) (levL_length _ _).symm (by unfold maxLen; omega)
      go_wp2
      go_ret
      exact ⟨_, rfl, HI, HB1⟩
end Go.Proofs.Ytkihbgikdbaelaa
/- bits.Mul of 1 and a small number; slices.Repeat of one -1. -/
namespace Go.Proofs.Ytkihbgikdbaelaa
set_option linter.unusedVariables false
open Go.ChangeShapes Go.WideShapes Go.ChangeAt Go.RowKit

theorem mask_small (a : Nat) (ha : a ≤ 64) : bits .and .u64 (a : Int) 4294967295 = (a : Int) := by
  have h := bits_and_u64_nat a 4294967295 (by omega) (by omega)
  have e : a &&& 4294967295 = a % 4294967296 := Nat.and_two_pow_sub_one_eq_mod a 32
  rw [e, Nat.mod_eq_of_lt (by omega)] at h
  exact h
theorem mask_one : bits .and .u64 1 4294967295 = 1 := mask_small 1 (by omega)
theorem mask_zero : bits .and .u64 0 4294967295 = 0 := mask_small 0 (by omega)
set_option maxHeartbeats 1000000 in
theorem mul64_any (n : Nat) (hn : n ≤ 64) (w : World) : Calls Try.prog 81 #[.int .u64 1, .int .u64 (n : Int)] w fun e w' => e = .returned (.tuple #[.int .u64 0, .int .u64 (n : Int)]) ∧ w = w' := by
  have h1 := mask_small n hn
  have h2 := mask_one
  have h3 := mask_zero
  have h4 : (n : Int) / 4294967296 = 0 := by omega
  have h5 : IntKind.u64.wrap (n : Int) = (n : Int) := by rw [IntKind.wrap_u64]; omega
  go_enter Try.func81, Try.ntmps81
  go_wp2
  go_ret2
  exact ⟨rfl, rfl⟩
set_option maxHeartbeats 1000000 in
theorem mul_any (n : Nat) (hn : n ≤ 64) (w : World) : Calls Try.prog 72 #[.int .u64 1, .int .u64 (n : Int)] w fun e w' => e = .returned (.tuple #[.int .u64 0, .int .u64 (n : Int)]) ∧ w = w' := by
  go_enter Try.func72, Try.ntmps72
  go_wp2_with (go_at_call 81; refine (mul64_any n hn _).mono ?_; rintro e w1 ⟨rfl, rfl⟩)
  go_ret2
  exact ⟨rfl, rfl⟩
/-- A row that is being filled with -1. -/
def fill (n m : Nat) : List Int := List.replicate m (-1) ++ List.replicate (n - m) 0
theorem fill_length {n m : Nat} (h : m ≤ n) : (fill n m).length = n := by simp [fill]; omega
theorem fill_all (n : Nat) : fill n n = farL n fun _ => -1 := by
  unfold fill farL
  rw [Nat.sub_self, List.replicate_zero, List.append_nil]
  apply List.ext_getElem?
  intro i
  by_cases hi : i < n
  · simp [hi]
  · rw [List.getElem?_eq_none (by simp; omega), List.getElem?_eq_none (by simp; omega)]
theorem fill_at {n m i : Nat} (h : i < m) : (fill n m)[i]? = some (-1) := by
  unfold fill
  rw [List.getElem?_append_left (by simpa using h)]
  simp [h]
theorem fill_splice {n m c : Nat} (h : m + c ≤ n) : splice (intsV (fill n m)) m (List.replicate c (.int .i64 (-1))) = intsV (fill n (m + c)) := by
  unfold splice intsV fill
  simp only [List.map_append, List.map_replicate, List.length_replicate]
  rw [List.take_left' (by simp), List.drop_append, List.drop_replicate, List.drop_replicate]
  simp only [List.length_replicate]
  rw [show m - (m + c) = 0 by omega, show n - m - (m + c - m) = n - (m + c) by omega, List.replicate_zero, List.nil_append, ← List.append_assoc, List.replicate_append_replicate]
theorem levL_fill (n : Nat) : levL n (fun _ => 0) = fill n 0 := by
  unfold levL fill
  apply List.ext_getElem?
  intro i
  by_cases hi : i < n
  · simp [hi]
  · rw [List.getElem?_eq_none (by simp; omega), List.getElem?_eq_none (by simp; omega)]
theorem Try.sizeInt : (Try.prog.info? 3).map (·.size) = some 1 := by kernel_rfl
theorem copy_fill {v : World} {b n m c dLen dCap sLen sCap : Nat} {ad : Addr} (hz : ZAt v b (fill n m)) (hm : m ≤ n) (hc : m + c ≤ n) (hn : c = Nat.min sLen dLen) (hs : ∀ j, j < c → v.cell? (ad.add j) = some (.int .i64 (-1))) :
    ∃ w2, (Builtin.copy_ #[45, 45] 3 #[.slice (some ⟨b, m, none⟩) dLen dCap, .slice (some ad) sLen sCap]).run Try.prog v = .ok (.int .i64 (c : Int)) w2 ∧ ZAt w2 b (fill n (m + c)) ∧ Below b v w2 := by
  have h := run_copy_row (P := Try.prog) v 45 45 3 3 b m dLen dCap ad sLen sCap (intsA (fill n m)) 3 (List.replicate c (.int .i64 (-1))) Try.underlying45 Try.sizeInt hz (by simpa using hn) (fun j u hj => by
    have hjl := (List.getElem?_eq_some_iff.1 hj).1
    have e : u = .int .i64 (-1) := List.eq_of_mem_replicate (List.mem_of_getElem? hj)
    rw [e]; exact hs j (by simpa using hjl)) (by simp [intsA, intsV, fill]; omega) (fun u hu => by rw [List.eq_of_mem_replicate hu]; rfl)
  have e : goInt ((List.replicate c (Value.int .i64 (-1))).length : Nat) = .int .i64 (c : Int) := by simp [goInt]
  rw [e] at h
  refine ⟨_, h, ?_, below_setRow (Below.refl _ _) (Nat.le_refl _) _⟩
  · have h2 := setRow_heap v b _ ((intsA (fill n m)).toList.take m ++ List.replicate c (Value.int .i64 (-1)) ++ (intsA (fill n m)).toList.drop (m + (List.replicate c (Value.int .i64 (-1))).length)).toArray _ _ hz
    have h3 := fill_splice hc
    unfold splice at h3
    unfold ZAt
    refine h2.trans ?_
    unfold intsA
    rw [← h3, List.append_assoc]
set_option maxHeartbeats 4000000 in
set_option maxRecDepth 100000 in
theorem repeat_any (n a : Nat) (w : World) (h0 : 0 < n) (hn : n ≤ 64) (hc : w.cell? ⟨a, 0, none⟩ = some (.int .i64 (-1))) (ha : a < w.heap.size) :
    Calls Try.prog 51 #[.slice (some ⟨a, 0, none⟩) 1 1, .int .i64 (n : Int)] w fun e w' => e = .returned (.slice (some ⟨w.heap.size, 0, none⟩) n n) ∧ Hid (ZAt w' w.heap.size (farL n fun _ => -1)) ∧ Hid (Below w.heap.size w w') := by
  have hmk := make_ints n hn w
  rw [levL_fill] at hmk
  have n0 : ¬ (n : Int) < 0 := by omega
  have n1 : ¬ (n : Int) > 9223372036854775807 := by omega
  have KM := mul_any n hn w
  have hw1 : IntKind.u64.wrap (n : Int) = (n : Int) := by rw [IntKind.wrap_u64]; omega
  obtain ⟨W1, hW1⟩ : ∃ W1, W1 = w.alloc (.cells (intsA (fill n 0)) 3) := ⟨_, rfl⟩
  have hb1 : Below w.heap.size w W1 := by rw [hW1]; exact bel1 _ _
  have hz1 : ZAt W1 w.heap.size (fill n 0) := by rw [hW1]; exact ZAt.new w _
  obtain ⟨w2, hr2, hz2, hb2⟩ := copy_fill (dLen := n) (dCap := n) (sLen := 1) (sCap := 1) (c := 1) (ad := ⟨a, 0, none⟩) hz1 (Nat.zero_le _) (by omega) (by simp [Nat.min_def]; omega) (fun j hj => by
    obtain rfl : j = 0 := by omega
    exact (hb1.cell (p := ⟨a, 0, none⟩) ha).trans hc)
  rw [← hW1] at hmk
  have HZ2 : Hid (ZAt w2 w.heap.size (fill n 1)) := by rw [Nat.zero_add] at hz2; exact hz2
  have HB2 : Hid (Below w.heap.size w w2) := hb1.trans hb2
  obtain ⟨B, hB⟩ : ∃ B, B = w.heap.size := ⟨_, rfl⟩
  rw [← hB] at hmk hr2 HZ2 HB2 ⊢
  clear hc ha hW1 hb1 hz1 hz2 hb2 hB
  go_enter Try.func51, Try.ntmps51
  go_wp2_with (go_at_call 72; refine KM.mono ?_; rintro e w1 ⟨rfl, rfl⟩)
  go_loopw [8] (fun x wr => ∃ m : Nat, 1 ≤ m ∧ m ≤ n ∧ x = .int .i64 m ∧ Hid (ZAt wr B (fill n m)) ∧ Hid (Below B w wr)) (fun x _ => n - (intOf x).toNat)
  case atStart => exact ⟨1, Nat.le_refl _, h0, rfl, HZ2, HB2⟩
  case round =>
    obtain ⟨m, hm1, hm, rfl, HZ, HB⟩ := hrel
    by_cases hlt : m < n
    · obtain ⟨c, hc⟩ : ∃ c, c = Nat.min m (n - m) := ⟨_, rfl⟩
      have hcm : c ≤ m := by rw [hc]; exact Nat.min_le_left _ _
      have hcn : m + c ≤ n := by have : c ≤ n - m := by rw [hc]; exact Nat.min_le_right _ _
                                 omega
      have hc0 : 0 < c := by rw [hc]; simp [Nat.min_def]; split <;> omega
      obtain ⟨w3, hr3, hz3, hb3⟩ := copy_fill (v := wr.drew) (dLen := n - m) (dCap := n - m) (sLen := m) (sCap := n) (c := c) (ad := ⟨B, 0, none⟩) HZ.out (by omega) hcn hc (fun j hj => by
        rw [Addr.add_lit, Nat.zero_add]
        exact HZ.out.cell (fill_at (by omega)))
      have HZ3 : Hid (ZAt w3 B (fill n (m + c))) := hz3
      have HB3 : Hid (Below B w w3) := HB.out.drew.trans hb3
      have hne : ¬ n = m := by omega
      have hle : m ≤ n := by omega
      clear hc hz3 hb3
      go_wp2
      go_region
      all_goals
        go_wp2
        go_roundw
        case rel => exact ⟨m + c, by omega, hcn, by go_num, HZ3, HB3⟩
        case measure => simp [intOf]; omega
    · obtain rfl : m = n := by omega
      rw [fill_all] at HZ
      go_wp2
      go_ret
      exact ⟨rfl, HZ, HB⟩
end Go.Proofs.Ytkihbgikdbaelaa
