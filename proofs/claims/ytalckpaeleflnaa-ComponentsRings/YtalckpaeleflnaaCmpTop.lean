/- Comps and Reaches of the program, against their plain functions; rows of numbers held against one another; awake of layer 7. -/
import Derived.Test.YtalckpaeleflnaaCmpWalk
namespace Go.Proofs.Ytalckpaeleflnaa
set_option linter.unusedVariables false
open Go.ChangeShapes Go.WideShapes Go.ChangeAt Go.RowKit

def intsV (l : List Int) : List Value := l.map (Value.int .i64)
def IsInts (w : World) (F : Nat → Prop) (v : Value) (l : List Int) : Prop := Reads w F v l.length (intsV l)
theorem IsInts.any {w w' : World} {F : Nat → Prop} {v : Value} {l : List Int} (h : IsInts w F v l) (hb : Below w.heap.size w w') : IsInts w' F v l := Reads.any h hb
theorem ints_nil (w : World) (F : Nat → Prop) : IsInts w F (.slice none 0 0) [] := Reads.nil w F
theorem IsInts.slc {w : World} {F : Nat → Prop} {v : Value} {l : List Int} (h : IsInts w F v l) : ∃ p c, v = .slice p l.length c := by
  obtain ⟨p, c, e, _⟩ := h
  exact ⟨p, c, e⟩
theorem IsInts.at {w : World} {F : Nat → Prop} {p : Option Addr} {n c : Nat} {l : List Int} (h : IsInts w F (.slice p n c) l) {k : Nat} {z : Int} (hk : l[k]? = some z) : ∃ g o, p = some ⟨g, o, none⟩ ∧ g < w.heap.size ∧ w.cell? ⟨g, o + k, none⟩ = some (.int .i64 z) := by
  obtain ⟨p2, c2, e2, _, hc⟩ := h
  injection e2 with e3
  subst e3
  have hlt := (List.getElem?_eq_some_iff.1 hk).1
  obtain ⟨g, o, e9, _, hg, cc, _⟩ := hc (by omega)
  exact ⟨g, o, e9, hg, cc k _ (by unfold intsV; rw [List.getElem?_map, hk]; rfl)⟩
theorem compsT_length (n : Nat) (l : List Ed) : (compsT n l).length = n := by simp [compsT]
theorem compsT_at {n : Nat} (l : List Ed) {i : Nat} (hi : i < n) : (compsT n l)[i]? = some ((comp n l i : Nat) : Int) := by simp [compsT, hi]
def cpre (n : Nat) (l : List Ed) (k : Nat) : List Int := (List.range k).map fun i => ((comp n l i : Nat) : Int)
theorem cpre_snoc (n : Nat) (l : List Ed) (k : Nat) : cpre n l (k + 1) = cpre n l k ++ [((comp n l k : Nat) : Int)] := by simp [cpre, List.range_succ]
theorem cpre_length (n : Nat) (l : List Ed) (k : Nat) : (cpre n l k).length = k := by simp [cpre]
theorem Try.infoInt : (Try.prog.info? 3).map (fun i => (i.zero, i.size, i.bytes)) = some (some (.int .i64 0), 1, 8) := by kernel_rfl
theorem news1 (w : World) (v : Value) (t : TypeId) (j : Nat) (u : Value) (hj : [v][j]? = some u) : (w.alloc (.cells #[v] t)).cell? ((⟨w.heap.size, 0, none⟩ : Addr).add j) = some u := by
  match j, hj with
  | 0, hj => simp at hj; subst hj; simp [Addr.add]
set_option maxHeartbeats 2000000 in
theorem comps_no (n : Int) (v : Value) (l : List Ed) (w : World) {F : Nat → Prop} (ha : IsEds w F v l) (hm : mayE n l = false) :
    Calls Try.prog 9 #[.int .i64 n, v] w fun e w' => e = .returned (.tuple #[.slice none 0 0, .int .i64 700]) ∧ Hid (Below w.heap.size w w') := by
  have K1 := may_any n v l w ha
  rw [hm] at K1
  obtain ⟨p, cp, rfl⟩ := ha.slc
  clear ha hm
  go_enter Try.func9, Try.ntmps9
  go_wp2_with (go_at_call 18; refine K1.mono ?_; rintro e w1 ⟨rfl, b1⟩)
  go_ret2
  exact ⟨rfl, b1⟩
set_option maxHeartbeats 4000000 in
set_option maxRecDepth 100000 in
theorem comps_ok (n : Nat) (v : Value) (l : List Ed) (w : World) {F : Nat → Prop} (ha : IsEds w F v l) (hm : mayE (n : Int) l = true) :
    Calls Try.prog 9 #[.int .i64 (n : Int), v] w fun e w' => ∃ u, e = .returned (.tuple #[u, .int .i64 0]) ∧ Hid (IsInts w' (fun i => w.heap.size ≤ i) u (compsT n l)) ∧ Hid (Below w.heap.size w w') := by
  have K1 := may_any n v l w ha
  rw [hm] at K1
  have K2 : Hid (∀ w', Below w.heap.size w w' → Calls Try.prog 19 #[.int .i64 (n : Int), v] w' fun e w'' => e = .returned (.agg (rowsA (walkT n l))) ∧ Hid (Below w'.heap.size w' w'')) := fun w' hb => walk_any n v l w' (ha.any hb) hm
  have hn : n ≤ 64 := by have := mayE_all hm; omega
  have HO : Hid (okR (walkT n l)) := okR_walk hm
  obtain ⟨p, cp, rfl⟩ := ha.slc
  obtain ⟨r, hr⟩ : ∃ r, r = walkT n l := ⟨_, rfl⟩
  have HRW : Hid (r = walkT n l) := hr
  rw [← hr] at K2 HO
  have HC : Hid (∀ i, lst (fun j => bit r i j && bit r j i) i = comp n l i) := fun i => by rw [hr]; rfl
  obtain ⟨i0, hi0, hz0, hz1, hz2⟩ := info_parts Try.infoInt
  clear ha hm hr
  go_enter Try.func9, Try.ntmps9
  go_wp2_with (first
    | (go_at_call 18; refine K1.mono ?_; rintro e w1 ⟨rfl, b1⟩)
    | (go_at_call 19; refine (K2.out _ b1.out).mono ?_; rintro e w2 ⟨rfl, b2⟩; have H2 : Hid (Below w.heap.size w w2) := b1.out.trans (b2.out.mono b1.out.size))
    | (simp only [zero_rows]; refine wpList_store_rows rfl _ _ rfl r zR rfl rfl ?_))
  go_loopw [7, 17] (fun u x wr => ∃ k : Nat, k ≤ n ∧ x = .int .i64 k ∧ Hid (wr.ownsRow (w2.heap.size + 1) 3 1 u k (intsV (cpre n l k))) ∧ Hid (RwAt wr w2.heap.size r) ∧ Hid (Below w2.heap.size w2 wr)) (fun _ x _ => n - (intOf x).toNat)
  case atStart => exact ⟨0, Nat.zero_le _, rfl, World.ownsRow_nil _ _ _ _, RwAt.new w2 r, bel1 _ _⟩
  case round =>
    obtain ⟨k, hk, rfl, HU, HR, HB⟩ := hrel
    by_cases hlt : k < n
    · have KL : Calls Try.prog 20 #[.pointer (some ⟨w2.heap.size, 0, none⟩), .int .i64 (k : Int)] wr fun e w' => e = .returned (.int .i64 ((comp n l k : Nat) : Int)) ∧ wr = w' := by
        rw [← HC.out k]; exact least_any k HR.out HO.out (by omega)
      obtain ⟨V, hV⟩ : ∃ V, V = wr := ⟨_, rfl⟩
      subst hV
      obtain ⟨c, hc⟩ : ∃ c, c = comp n l k := ⟨_, rfl⟩
      rw [← hc] at KL
      have HS : Hid (intsV (cpre n l (k + 1)) = intsV (cpre n l k) ++ [.int .i64 (c : Int)]) := by show _ = _; rw [cpre_snoc, hc]; simp [intsV]
      clear hc
      obtain ⟨p7, c7, hu⟩ := row_slice HU.out
      subst hu
      have MX : k + 1 ≤ maxLen := by unfold maxLen; omega
      have BY : (k + 1) * 8 ≤ 140737488355328 := by omega
      have BS : w2.heap.size + 1 ≤ V.heap.size := HR.out.lt
      go_wp2_with (first
        | (go_at_call 20; refine KL.mono ?_; rintro e w1 ⟨rfl, rfl⟩)
        | (at_builtin; refine wpList_append_own _ rfl _ _ 24 rfl (w2.heap.size + 1) 3 i0 (.int .i64 0) 1 8 Try.underlying24 hi0 hz0 hz1 hz2 rfl (by decide) _ _ _ rfl (HU.out.alloc _) ⟨V.heap.size, 0, none⟩ 1 1 [.int .i64 (c : Int)] rfl rfl (news1 V _ _) ?c2 MX BY ?c5 ?_))
      case c2 => intro u hu; simp at hu; subst hu; rfl
      case c5 => simp; omega
      intro v' w3 hown' hgrow _
      have HU3 : Hid (w3.ownsRow (w2.heap.size + 1) 3 1 v' (k + 1) (intsV (cpre n l (k + 1)))) := by show World.ownsRow _ _ _ _ _ _ _; rw [HS.out]; exact hown'
      have HR3 : Hid (RwAt w3 w2.heap.size r) := ((HR.out.keep (bel1 V _)).blk (hgrow.block _ (by simp; omega) (fun e => by have := (HU.out.lt _ e.symm).1; omega)))
      have HB3 : Hid (Below w2.heap.size w2 w3) := (HB.out.alloc HB.out.size _).grown hgrow (by simp; have := HB.out.size; omega) (fun g hg => by have := (HU.out.lt g hg).1; omega)
      obtain ⟨p8, c8, hv8⟩ := row_slice hown'
      subst hv8
      clear hown' hgrow
      go_wp2
      go_roundw
      case rel => exact ⟨k + 1, by omega, by go_num, HU3, HR3, HB3⟩
      case measure => simp [intOf]; omega
    · obtain rfl : k = n := by omega
      obtain ⟨p7, c7, hu⟩ := row_slice HU.out
      subst hu
      have HI : Hid (IsInts wr (fun i => w.heap.size ≤ i) (.slice p7 k c7) (compsT k l)) := by
        have := Reads.of (F := fun i => w.heap.size ≤ i) HU.out (fun b hb => by have := (HU.out.lt b hb).1; have := H2.out.size; show _ ≤ _; omega)
        show Reads _ _ _ _ _
        rw [compsT_length]; exact this
      have HF : Hid (Below w.heap.size w wr) := H2.out.trans (HB.out.mono H2.out.size)
      go_wp2
      go_ret2
      exact ⟨_, rfl, HI, HF⟩
set_option maxHeartbeats 4000000 in
set_option maxRecDepth 100000 in
theorem reaches_any (n : Int) (v : Value) (l : List Ed) (a b : Int) (w : World) {F : Nat → Prop} (ha : IsEds w F v l) :
    Calls Try.prog 13 #[.int .i64 n, v, .int .i64 a, .int .i64 b] w fun e w' => e = .returned (.bool (reachT n l a b)) ∧ Hid (Below w.heap.size w w') := by
  have K1 := may_any n v l w ha
  have HA : Hid (IsEds w F v l) := ha
  obtain ⟨p, cp, hp⟩ := ha.slc
  clear ha
  cases hm : mayE n l with
  | false =>
    rw [hm] at K1
    have HD : Hid (reachT n l a b = false) := by show _ = _; unfold reachT; rw [hm]; rfl
    subst hp
    clear hm
    go_enter Try.func13, Try.ntmps13
    go_wp2_with (go_at_call 18; refine K1.mono ?_; rintro e w1 ⟨rfl, b1⟩)
    go_ret
    exact ⟨ret_bool HD.out.symm, b1⟩
  | true =>
    rw [hm] at K1
    cases h1 : endB n a with
    | false =>
      have HD : Hid (reachT n l a b = false) := by show _ = _; unfold reachT; rw [h1]; simp
      subst hp
      clear hm
      go_enter Try.func13, Try.ntmps13
      go_wp2_with (first
        | (go_at_call 18; refine K1.mono ?_; rintro e w1 ⟨rfl, b1⟩)
        | (go_at_call 23; refine (isEnd_any _ _ _).mono ?_; rintro e w2 ⟨rfl, rfl⟩; rw [h1]))
      go_ret
      exact ⟨ret_bool HD.out.symm, b1⟩
    | true =>
      cases h2 : endB n b with
      | false =>
        have HD : Hid (reachT n l a b = false) := by show _ = _; unfold reachT; rw [h2]; simp
        subst hp
        clear hm
        go_enter Try.func13, Try.ntmps13
        go_wp2_with (first
          | (go_at_call 18; refine K1.mono ?_; rintro e w1 ⟨rfl, b1⟩)
          | (go_at_call 23; refine (isEnd_any _ _ _).mono ?_; rintro e w2 ⟨rfl, rfl⟩; first | rw [h1] | rw [h2]))
        go_ret
        exact ⟨ret_bool HD.out.symm, b1⟩
      | true =>
        have hz := mayE_all hm
        obtain ⟨m, rfl⟩ : ∃ m : Nat, n = (m : Int) := ⟨n.toNat, by omega⟩
        have h3 : 0 ≤ a ∧ a < m := by unfold endB at h1; simpa using h1
        have h4 : 0 ≤ b ∧ b < m := by unfold endB at h2; simpa using h2
        obtain ⟨x, rfl⟩ : ∃ x : Nat, a = (x : Int) := ⟨a.toNat, by omega⟩
        obtain ⟨y, rfl⟩ : ∃ y : Nat, b = (y : Int) := ⟨b.toNat, by omega⟩
        have hx : x < 64 := by omega
        have hy : y < 64 := by omega
        have HD : Hid (bit (walkT m l) x y = reachT m l x y) := by show _ = _; unfold reachT; rw [hm, h1, h2]; rfl
        have K2 : Hid (∀ w', Below w.heap.size w w' → Calls Try.prog 19 #[.int .i64 (m : Int), v] w' fun e w'' => e = .returned (.agg (rowsA (walkT m l))) ∧ Hid (Below w'.heap.size w' w'')) := fun w' hb => walk_any m v l w' (HA.out.any hb) hm
        have HO : Hid (okR (walkT m l)) := okR_walk hm
        obtain ⟨r, hr⟩ : ∃ r, r = walkT m l := ⟨_, rfl⟩
        rw [← hr] at K2 HO HD
        subst hp
        clear hm hr hz h3 h4
        go_enter Try.func13, Try.ntmps13
        go_wp2_with (first
          | (go_at_call 18; refine K1.mono ?_; rintro e w1 ⟨rfl, b1⟩)
          | (go_at_call 23; refine (isEnd_any _ _ _).mono ?_; rintro e w2 ⟨rfl, rfl⟩; first | rw [h1] | rw [h2])
          | (go_at_call 19; refine (K2.out _ b1.out).mono ?_; rintro e w2 ⟨rfl, b2⟩; have H2 : Hid (Below w.heap.size w w2) := b1.out.trans (b2.out.mono b1.out.size))
          | (go_at_call 24; refine (has_any x y (RwAt.new w2 r) HO.out hx hy).mono ?_; rintro e w3 ⟨rfl, rfl⟩)
          | (simp only [zero_rows]; refine wpList_store_rows rfl _ _ rfl r zR rfl rfl ?_))
        go_ret
        exact ⟨ret_bool HD.out, bel_alloc H2.out⟩
theorem num_any (n : Int) (w : World) : Calls Try.prog 12 #[.int .i64 n] w fun e w' => e = .returned (.int .i64 n) ∧ w = w' := by
  go_enter Try.func12, Try.ntmps12
  go_wp2
  go_ret
  exact ⟨rfl, rfl⟩
set_option maxHeartbeats 2000000 in
theorem sameInts_yes (va vb : Value) (l : List Int) (w : World) {F G : Nat → Prop} (ha : IsInts w F va l) (hb : IsInts w G vb l) (hl : l.length ≤ 100000000) :
    Calls Try.prog 11 #[va, vb] w fun e w' => e = .returned (.bool true) ∧ Hid (Below w.heap.size w w') := by
  obtain ⟨p, cp, rfl⟩ := ha.slc
  obtain ⟨q, cq, rfl⟩ := hb.slc
  have HA : Hid (IsInts w F (.slice p l.length cp) l) := ha
  have HB : Hid (IsInts w G (.slice q l.length cq) l) := hb
  clear ha hb
  go_enter Try.func11, Try.ntmps11
  go_wp2
  go_loopw [5] (fun i wr => ∃ k : Nat, k ≤ l.length ∧ i = .int .i64 k ∧ Hid (Below w.heap.size w wr)) (fun i _ => l.length - (intOf i).toNat)
  case atStart => exact ⟨0, by omega, rfl, Below.refl _ _⟩
  case round =>
    obtain ⟨k, hk, rfl, HW⟩ := hrel
    by_cases hlt : k < l.length
    · obtain ⟨t, ht⟩ : ∃ t, l[k]? = some t := ⟨_, List.getElem?_eq_getElem hlt⟩
      obtain ⟨g1, o1, hp, -, a0⟩ := (HA.out.any HW.out).at ht
      obtain ⟨g2, o2, hq, -, b0⟩ := (HB.out.any HW.out).at ht
      subst hp hq
      clear ht
      go_wp2
      go_quiet (fail)
      go_wp2
      go_roundw
      case rel => exact ⟨k + 1, by omega, by go_num, ⟨HW.out.os, HW.out.tape, HW.out.output, HW.out.size, HW.out.block⟩⟩
      case measure => simp [intOf]; omega
    · obtain rfl : k = l.length := by omega
      go_wp2
      go_ret
      exact ⟨rfl, HW⟩
def a7L : List Ed := [(1, 2, false), (2, 1, false), (0, 1, false)]
theorem le33 : 3 ≤ maxLen ∧ 3 ≤ 3 := by unfold maxLen; omega
theorem le44 : 4 ≤ maxLen ∧ 4 ≤ 4 := by unfold maxLen; omega
theorem a7_eds (w : World) : IsEds (w.alloc (.cells #[.int .i64 1, .int .i64 2, .bool false, .int .i64 2, .int .i64 1, .bool false, .int .i64 0, .int .i64 1, .bool false] 37)) Any (.slice (some ⟨w.heap.size, 0, none⟩) 3 3) a7L := reads_laid (heap_alloc_new w _) le33 rfl
theorem a7_ints (w : World) : IsInts (w.alloc (.cells #[.int .i64 0, .int .i64 1, .int .i64 1, .int .i64 3] 3)) Any (.slice (some ⟨w.heap.size, 0, none⟩) 4 4) [0, 1, 1, 3] := reads_laid (heap_alloc_new w _) le44 rfl
theorem a7m : mayE ((4 : Nat) : Int) a7L = true := by decide
theorem a7n : mayE 1 a7L = false := by decide
theorem a7c : compsT 4 a7L = [0, 1, 1, 3] := by decide +kernel
theorem a7r : reachT 4 a7L 0 2 = true ∧ reachT 4 a7L 2 0 = false ∧ reachT 4 a7L 3 3 = true ∧ reachT 4 a7L 4 4 = false := by decide +kernel
set_option maxHeartbeats 4000000 in
set_option maxRecDepth 100000 in
theorem awake7_any (w : World) : Calls Try.prog 16 #[] w fun e w' => e = .returned (.bool true) ∧ Hid (Below w.heap.size w w') := by
  obtain ⟨W, hW⟩ : ∃ W, W = w.alloc (.cells #[.int .i64 1, .int .i64 2, .bool false, .int .i64 2, .int .i64 1, .bool false, .int .i64 0, .int .i64 1, .bool false] 37) := ⟨_, rfl⟩
  have HE : Hid (∀ w', Below W.heap.size W w' → IsEds w' Any (.slice (some ⟨w.heap.size, 0, none⟩) 3 3) a7L) := fun w' hb => IsEds.any (by rw [hW]; exact a7_eds w) hb
  have HW : Hid (Below w.heap.size w W) := by rw [hW]; exact bel1 _ _
  have K1 : Calls Try.prog 9 #[.int .i64 4, .slice (some ⟨w.heap.size, 0, none⟩) 3 3] W fun e w' => ∃ u, e = .returned (.tuple #[u, .int .i64 0]) ∧ Hid (IsInts w' (fun i => W.heap.size ≤ i) u [0, 1, 1, 3]) ∧ Hid (Below W.heap.size W w') := by
    have := comps_ok 4 _ a7L W (HE.out W (Below.refl _ _)) a7m
    rw [a7c] at this
    exact this
  have K2 : Hid (∀ w', Below W.heap.size W w' → Calls Try.prog 9 #[.int .i64 1, .slice (some ⟨w.heap.size, 0, none⟩) 3 3] w' fun e w'' => e = .returned (.tuple #[.slice none 0 0, .int .i64 700]) ∧ Hid (Below w'.heap.size w' w'')) := fun w' hb => comps_no 1 _ a7L w' (HE.out w' hb) a7n
  have K3 : Hid (∀ (a b : Int) w', Below W.heap.size W w' → Calls Try.prog 13 #[.int .i64 4, .slice (some ⟨w.heap.size, 0, none⟩) 3 3, .int .i64 a, .int .i64 b] w' fun e w'' => e = .returned (.bool (reachT 4 a7L a b)) ∧ Hid (Below W.heap.size W w'')) := fun a b w' hb => (reaches_any 4 _ a7L a b w' (HE.out w' hb)).mono fun e w'' ⟨h1, h2⟩ => ⟨h1, hb.trans (h2.out.mono hb.size)⟩
  obtain ⟨r1, r2, r3, r4⟩ := a7r
  have HF : Hid (∀ w', Below W.heap.size W w' → Below w.heap.size w w') := fun w' hb => HW.out.trans (hb.mono HW.out.size)
  go_enter Try.func16, Try.ntmps16
  go_wp2_with (first
    | (go_at_call 9; first
      | (have hh := H1; clear hh; refine (K2.out _ H1.out).mono ?_; rintro e w2 ⟨rfl, b2⟩; have H2 : Hid (Below W.heap.size W w2) := H1.out.trans (b2.out.mono H1.out.size); have I2 : Hid (IsInts w2 _ _ [0, 1, 1, 3]) := I1.out.any b2.out; clear b2)
      | (rw [← hW]; refine K1.mono ?_; rintro e w1 ⟨va, rfl, I1, H1⟩))
    | (go_at_call 11; refine (sameInts_yes _ _ [0, 1, 1, 3] _ (I2.out.any (bel1 _ _)) (a7_ints w2) (by decide)).mono ?_; rintro e w3 ⟨rfl, b3⟩; have H3 : Hid (Below W.heap.size W w3) := H2.out.trans (((bel1 w2 _).trans (b3.out.mono (bel1 w2 _).size)).mono H2.out.size); clear b3)
    | (go_at_call 13; first
      | (have hh := H6; clear hh; refine (K3.out _ _ _ H6.out).mono ?_; rintro e w7 ⟨rfl, H7⟩; rw [r4])
      | (have hh := H5; clear hh; refine (K3.out _ _ _ H5.out).mono ?_; rintro e w6 ⟨rfl, H6⟩; rw [r3])
      | (have hh := H4; clear hh; refine (K3.out _ _ _ H4.out).mono ?_; rintro e w5 ⟨rfl, H5⟩; rw [r2])
      | (refine (K3.out _ _ _ H3.out).mono ?_; rintro e w4 ⟨rfl, H4⟩; rw [r1]))
    | (go_at_call 12; refine (num_any _ _).mono ?_; rintro e wn ⟨rfl, rfl⟩))
  go_ret
  exact ⟨rfl, HF.out _ H7.out⟩
end Go.Proofs.Ytalckpaeleflnaa
