import Derived.Test.YtipnfiaphmddiaaGreatStrT
import Derived.Deep.LoopGhost
import Derived.Test.YtipnfiaphmddiaaGreatHangR
import Derived.Laws.MakeOwn
import Derived.Test.YtipnfiaphmddiaaGreatStrTop
import Derived.Test.YtipnfiaphmddiaaGreatRefEdg
import Derived.Test.YtipnfiaphmddiaaGreatCopyGrW
import Derived.Test.YtipnfiaphmddiaaGreatGramSame
import Derived.Test.YtipnfiaphmddiaaGreatGramOpen
import Derived.Test.YtipnfiaphmddiaaGreatLawOpen
/- The document's distances, way back and levels, as plain functions. No program in sight. -/
namespace Go.Proofs.YtipnfiaphmddiaaGreat
set_option linter.unusedVariables false

theorem far_ex (l : List Ed) (g : Nat) : ∃ f, FarIs l g f := by
  refine ⟨fun i => open Classical in if h : ∃ k, St l k i g then ((Classical.choose (exists_least h) : Nat) : Int) else -1, fun i => ?_⟩
  by_cases h : ∃ k, St l k i g
  · right
    have h2 := Classical.choose_spec (exists_least h)
    exact ⟨_, dif_pos h, h2.1, h2.2⟩
  · left
    exact ⟨dif_neg h, fun k hk => h ⟨k, hk⟩⟩
/-- One edge in round r. -/
def fst1 (r : Nat) (f : Nat → Int) (e : Ed) : Nat → Int := if f e.1.toNat < 0 ∧ f e.2.1.toNat = (r : Int) - 1 then putZ f e.1.toNat (r : Int) else f
def frnd (r : Nat) (f : Nat → Int) : List Ed → Nat → Int
  | [] => f
  | e :: l => frnd r (fst1 r f e) l
def fit (l : List Ed) (g : Nat) : Nat → Nat → Int
  | 0 => putZ (fun _ => -1) g 0
  | r + 1 => frnd (r + 1) (fit l g r) l
theorem frnd_snoc (r : Nat) : ∀ (l : List Ed) (f : Nat → Int) (e : Ed), frnd r f (l ++ [e]) = fst1 r (frnd r f l) e
  | [], f, e => rfl
  | d :: l, f, e => frnd_snoc r l _ e
def cutZ (D : Nat → Int) (r : Nat) (i : Nat) : Int := if D i ≤ (r : Int) then D i else -1
def midZ (D : Nat → Int) (r : Nat) (m : List Ed) (i : Nat) : Int := if D i ≤ (r : Int) then D i else if D i = ((r + 1 : Nat) : Int) ∧ (m.any fun e => decide (e.1.toNat = i) && decide (D e.2.1.toNat = (r : Int))) = true then ((r + 1 : Nat) : Int) else -1
open Classical in
theorem midZ_val (D : Nat → Int) (r : Nat) (m : List Ed) (i : Nat) : midZ D r m i = if D i ≤ (r : Int) then D i else if D i = ((r + 1 : Nat) : Int) ∧ ∃ e, e ∈ m ∧ e.1.toNat = i ∧ D e.2.1.toNat = (r : Int) then ((r + 1 : Nat) : Int) else -1 := by
  unfold midZ
  have h : ((m.any fun e => decide (e.1.toNat = i) && decide (D e.2.1.toNat = (r : Int))) = true) ↔ ∃ e, e ∈ m ∧ e.1.toNat = i ∧ D e.2.1.toNat = (r : Int) := by
    simp [List.any_eq_true]
  by_cases h1 : D i ≤ (r : Int)
  · rw [if_pos h1, if_pos h1]
  · rw [if_neg h1, if_neg h1]
    by_cases h2 : D i = ((r + 1 : Nat) : Int) ∧ ∃ e, e ∈ m ∧ e.1.toNat = i ∧ D e.2.1.toNat = (r : Int)
    · rw [if_pos h2, if_pos ⟨h2.1, h.2 h2.2⟩]
    · rw [if_neg h2, if_neg fun x => h2 ⟨x.1, h.1 x.2⟩]
theorem FarIs.bound {l : List Ed} {g : Nat} {D : Nat → Int} (h : FarIs l g D) (i : Nat) : -1 ≤ D i := by
  rcases h i with ⟨h, _⟩ | ⟨d, h, _⟩ <;> omega
theorem FarIs.edge {l : List Ed} {g : Nat} {D : Nat → Int} (h : FarIs l g D) {e : Ed} (he : e ∈ l) (h0 : 0 ≤ D e.2.1.toNat) : 0 ≤ D e.1.toNat ∧ D e.1.toNat ≤ D e.2.1.toNat + 1 := by
  rcases h e.2.1.toNat with ⟨h1, _⟩ | ⟨d, h1, h2, _⟩
  · omega
  · have hs : St l (d + 1) e.1.toNat g := ⟨e, he, rfl, h2⟩
    rcases h e.1.toNat with ⟨_, h3⟩ | ⟨c, h3, _, h5⟩
    · exact absurd hs (h3 _)
    · have := h5 _ hs
      rw [h1, h3]; omega
theorem mid_step {l : List Ed} {g : Nat} {D : Nat → Int} (h : FarIs l g D) (r : Nat) (m : List Ed) {e : Ed} (he : e ∈ l) : fst1 (r + 1) (midZ D r m) e = midZ D r (m ++ [e]) := by
  have hto : midZ D r m e.2.1.toNat = ((r + 1 : Nat) : Int) - 1 ↔ D e.2.1.toNat = (r : Int) := by
    simp only [midZ_val]
    constructor
    · intro x
      split at x
      · omega
      · split at x <;> omega
    · intro x
      rw [if_pos (by omega)]; omega
  have hb := h.bound
  funext i
  unfold fst1
  by_cases hc : midZ D r m e.1.toNat < 0 ∧ midZ D r m e.2.1.toNat = ((r + 1 : Nat) : Int) - 1
  · rw [if_pos hc]
    have h1 := hto.1 hc.2
    obtain ⟨h2, h3⟩ := h.edge he (by omega)
    have h4 : D e.1.toNat = ((r + 1 : Nat) : Int) := by
      have h5 := hc.1
      rw [midZ_val] at h5
      split at h5
      · omega
      · omega
    by_cases x : i = e.1.toNat
    · subst x
      rw [putZ_same]
      simp only [midZ_val]
      rw [if_neg (by omega), if_pos ⟨h4, e, by simp, rfl, h1⟩]
    · rw [putZ_other _ _ x]
      simp only [midZ_val]
      split
      · rfl
      · congr 1
        apply propext
        constructor
        · rintro ⟨a, d, hd, b, c⟩; exact ⟨a, d, List.mem_append_left _ hd, b, c⟩
        · rintro ⟨a, d, hd, b, c⟩
          rcases List.mem_append.1 hd with hd | hd
          · exact ⟨a, d, hd, b, c⟩
          · obtain rfl : d = e := by simpa using hd
            exact absurd b.symm x
  · rw [if_neg hc]
    simp only [midZ_val]
    split
    · rfl
    · rename_i hi
      congr 1
      apply propext
      constructor
      · rintro ⟨a, d, hd, b, c⟩; exact ⟨a, d, List.mem_append_left _ hd, b, c⟩
      · rintro ⟨a, d, hd, b, c⟩
        rcases List.mem_append.1 hd with hd | hd
        · exact ⟨a, d, hd, b, c⟩
        · obtain rfl : d = e := by simpa using hd
          refine Classical.byContradiction fun hno => hc ⟨?_, hto.2 c⟩
          rw [b]
          simp only [midZ_val]
          rw [if_neg hi, if_neg hno]; omega
theorem mid_all {l : List Ed} {g : Nat} {D : Nat → Int} (h : FarIs l g D) (r : Nat) : ∀ (m k : List Ed), (∀ e, e ∈ k → e ∈ l) → frnd (r + 1) (midZ D r m) k = midZ D r (m ++ k)
  | m, [], _ => by rw [List.append_nil]; rfl
  | m, e :: k, hk => by
    show frnd (r + 1) (fst1 (r + 1) (midZ D r m) e) k = _
    rw [mid_step h r m (hk e List.mem_cons_self), mid_all h r (m ++ [e]) k fun d hd => hk d (List.mem_cons_of_mem _ hd), List.append_assoc]; rfl
theorem fit_cut {l : List Ed} {g : Nat} {D : Nat → Int} (h : FarIs l g D) : ∀ r, fit l g r = cutZ D r
  | 0 => by
    funext i
    show putZ _ g 0 i = _
    unfold cutZ
    by_cases x : i = g
    · subst x
      rw [putZ_same, h.goal]; rfl
    · rw [putZ_other _ _ x]
      split
      · rename_i hi
        have := h.bound i
        by_cases h0 : D i = 0
        · exact absurd (h.zero h0) x
        · have hi' : D i ≤ 0 := hi
          omega
      · rfl
  | r + 1 => by
    show frnd (r + 1) (fit l g r) l = _
    rw [fit_cut h r]
    have e1 : cutZ D r = midZ D r [] := by
      funext i
      unfold cutZ; rw [midZ_val]
      split
      · rfl
      · rw [if_neg]
        rintro ⟨_, d, hd, _⟩; simp at hd
    rw [e1, mid_all h r [] l (fun _ x => x), List.nil_append]
    funext i
    unfold cutZ; rw [midZ_val]
    split
    · rw [if_pos (by omega)]
    · rename_i hi
      split
      · rename_i hx
        rw [if_pos (by rw [hx.1]; exact Int.le_refl _), hx.1]
      · rename_i hx
        by_cases hd : D i = ((r + 1 : Nat) : Int)
        · obtain ⟨e, _, h2, h3, h4, _⟩ := h.next hd
          exact absurd ⟨hd, e, h2, h3, h4⟩ hx
        · rw [if_neg (by omega)]
theorem fit_far {n : Nat} {l : List Ed} {g : Nat} {D : Nat → Int} (hl : edsB (n : Int) l = true) (hg : g < n) (h : FarIs l g D) : fit l g n = D := by
  rw [fit_cut h]
  funext i
  unfold cutZ
  rw [if_pos (by have := far_le hl hg h i; omega)]
theorem fit_low {l : List Ed} {g : Nat} {D : Nat → Int} (h : FarIs l g D) (r : Nat) (m : List Ed) (hm : ∀ e, e ∈ m → e ∈ l) (i : Nat) : -1 ≤ frnd (r + 1) (fit l g r) m i ∧ frnd (r + 1) (fit l g r) m i ≤ ((r + 1 : Nat) : Int) := by
  have e1 : fit l g r = midZ D r [] := by
    rw [fit_cut h]
    funext i
    unfold cutZ; rw [midZ_val]
    split
    · rfl
    · rw [if_neg]
      rintro ⟨_, d, hd, _⟩; simp at hd
  rw [e1, mid_all h r [] m hm]
  have := h.bound i
  simp only [midZ_val]
  split
  · omega
  · split <;> omega
/-- The least of those that lead nearer, as far as looked at. -/
def bst (l m : List Ed) (f : Nat → Int) (a : Nat) : Int := ((m.find? (nextE l f a)).map fun e => e.2.1).getD (-1)
theorem bst_step {l : List Ed} {f : Nat → Int} {a : Nat} (hr : l.Pairwise fun x y => ltE x y = true) {n : Nat} (hl : edsB (n : Int) l = true) {k : Nat} {e : Ed} (he : l[k]? = some e) :
    bst l (l.take (k + 1)) f a = if (e.1.toNat = a ∧ f e.2.1.toNat = f a - 1) ∧ (bst l (l.take k) f a < 0 ∨ e.2.1 < bst l (l.take k) f a) then e.2.1 else bst l (l.take k) f a := by
  have ht : l.take (k + 1) = l.take k ++ [e] := by rw [List.take_add_one, he]; rfl
  rw [ht]
  unfold bst
  rw [List.find?_append]
  have hem : e ∈ l := List.mem_of_getElem? he
  have hed := edB_lt (List.all_eq_true.1 hl e hem)
  cases hf : (l.take k).find? (nextE l f a) with
  | none =>
    simp only [Option.none_or, Option.map_none, Option.getD_none]
    by_cases hx : e.1.toNat = a ∧ f e.2.1.toNat = f a - 1
    · have hn : nextE l f a e = true := by unfold nextE; simp [hx]
      rw [if_pos ⟨hx, Or.inl (by omega)⟩]
      simp [hn]
    · have hn : nextE l f a e = false := by
        rw [← Bool.not_eq_true]
        unfold nextE
        simpa using hx
      rw [if_neg fun y => hx y.1]
      simp [hn]
  | some d =>
    simp only [Option.some_or, Option.map_some, Option.getD_some]
    have hd1 := List.find?_some hf
    have hd2 := List.mem_of_find?_eq_some hf
    have hd3 : ltE d e = true := by
      obtain ⟨j, hj⟩ := List.mem_iff_getElem?.1 hd2
      rw [List.getElem?_take] at hj
      split at hj
      · rename_i hjk
        have hjl := (List.getElem?_eq_some_iff.1 hj).1
        have hkl := (List.getElem?_eq_some_iff.1 he).1
        have := (List.pairwise_iff_getElem.1 hr) j k hjl hkl hjk
        rw [(List.getElem?_eq_some_iff.1 hj).2, (List.getElem?_eq_some_iff.1 he).2] at this
        exact this
      · cases hj
    have hdl : d ∈ l := List.mem_of_mem_take hd2
    have hdd := edB_lt (List.all_eq_true.1 hl d hdl)
    rw [if_neg]
    rintro ⟨⟨h1, _⟩, h2⟩
    unfold nextE at hd1
    simp only [Bool.and_eq_true, decide_eq_true_eq] at hd1
    rw [ltE_iff] at hd3
    omega
theorem bst_all {n : Nat} {l : List Ed} {g : Nat} {f : Nat → Int} (hl : edsB (n : Int) l = true) (h : FarIs l g f) {a d : Nat} (ha : f a = ((d + 1 : Nat) : Int)) : bst l l f a = ((nxt l f a : Nat) : Int) := by
  obtain ⟨e, h1, h2, h3, h4, h5⟩ := h.next ha
  unfold bst
  rw [h1, h5]
  have := edB_lt (List.all_eq_true.1 hl e h2)
  simp; omega
theorem bst_low {n : Nat} {l : List Ed} (hl : edsB (n : Int) l = true) (f : Nat → Int) (a k : Nat) : -1 ≤ bst l (l.take k) f a ∧ bst l (l.take k) f a < n ∨ bst l (l.take k) f a = -1 := by
  unfold bst
  cases hf : (l.take k).find? (nextE l f a) with
  | none => right; rfl
  | some d =>
    left
    have hdd := edB_lt (List.all_eq_true.1 hl d (List.mem_of_mem_take (List.mem_of_find?_eq_some hf)))
    simp; omega
theorem raiE_max (f : Nat → Nat) (e : Ed) : raiE f e = putN f e.1.toNat (max (f e.1.toNat) (f e.2.1.toNat + stp e)) := by
  funext i
  rw [raiE_val]
  unfold putN
  by_cases x : i = e.1.toNat
  · subst x
    rw [if_pos rfl]
    split
    · rename_i h; rw [Nat.max_eq_right (Nat.le_of_lt h.1)]
    · rename_i h
      have : ¬ f e.1.toNat < f e.2.1.toNat + stp e := fun y => h ⟨y, rfl⟩
      rw [Nat.max_eq_left (by omega)]
  · rw [if_neg x, if_neg fun y => x y.2]
theorem it_more {n : Nat} {l : List Ed} (hl : edsB (n : Int) l = true) (hc : Clean l) : itL l (n + 1) = levT n l := it_fix (lev_sol hl hc) 1
end Go.Proofs.YtipnfiaphmddiaaGreat
/- The document's far and way, against their plain functions. -/
namespace Go.Proofs.YtipnfiaphmddiaaGreat
set_option linter.unusedVariables false
open Go.ChangeShapes Go.WideShapes Go.ChangeAt Go.RowKit

def pre1 (k : Nat) (i : Nat) : Int := if i < k then -1 else 0
theorem pre1_zero (n : Nat) : levL n (fun _ => 0) = farL n (pre1 0) := by
  unfold levL farL
  refine List.map_congr_left fun i _ => ?_
  unfold pre1
  rw [if_neg (by omega)]; rfl
theorem pre1_next (n k : Nat) (hk : k < n) : (farL n (pre1 k)).set k (-1) = farL n (pre1 (k + 1)) := by
  rw [farL_put _ hk]
  congr 1
  funext i
  unfold pre1
  by_cases e : i = k
  · subst e; rw [putZ_same, if_pos (by omega)]
  · rw [putZ_other _ _ e]
    by_cases h : i < k
    · rw [if_pos h, if_pos (by omega)]
    · rw [if_neg h, if_neg (by omega)]
theorem pre1_all (n : Nat) : farL n (pre1 n) = farL n (fun _ => -1) := by
  unfold farL
  refine List.map_congr_left fun i hi => ?_
  unfold pre1
  rw [if_pos (List.mem_range.1 hi)]
theorem take_frnd {l : List Ed} {k : Nat} {t : Ed} (ht : l[k]? = some t) (r : Nat) (f : Nat → Int) : frnd r f (l.take (k + 1)) = fst1 r (frnd r f (l.take k)) t := by
  rw [List.take_add_one, ht]; exact frnd_snoc _ _ _ _
set_option maxHeartbeats 4000000 in
set_option maxRecDepth 100000 in
theorem refFar_any (n g : Nat) (v : Value) (l : List Ed) (w : World) (D : Nat → Int) {F : Nat → Prop} (ha : IsEds w F v l) (hm : mayE (n : Int) l = true) (hg : g < n) (hD : FarIs l g D) :
    Calls Tryz.prog 32 #[.int .i64 (n : Int), v, .int .i64 (g : Int)] w fun e w' => e = .returned (.slice (some ⟨w.heap.size, 0, none⟩) n n) ∧ Hid (ZAt w' w.heap.size (farL n D)) ∧ Hid (Below w.heap.size w w') := by
  obtain ⟨h0, h1, hl⟩ := mayE_all hm
  have hn : n ≤ 64 := by omega
  obtain ⟨p, cp, rfl⟩ := ha.slc
  have hm9 : l.length ≤ 9223372036854775807 := by have := ha.len; unfold maxLen at this; omega
  have HA : Hid (IsEds w F (.slice p l.length cp) l) := ha
  have HL : Hid (edsB (n : Int) l = true) := hl
  have HD : Hid (FarIs l g D) := hD
  have hmk := make_ints n hn w
  rw [pre1_zero] at hmk
  obtain ⟨W1, hW1⟩ : ∃ W1, W1 = w.alloc (.cells (intsA (farL n (pre1 0))) 3) := ⟨_, rfl⟩
  rw [← hW1] at hmk
  have HZ1 : Hid (ZAt W1 w.heap.size (farL n (pre1 0))) := by rw [hW1]; exact ZAt.new w _
  have HB1 : Hid (Below w.heap.size w W1) := by rw [hW1]; exact bel1 _ _
  obtain ⟨B, hB⟩ : ∃ B, B = w.heap.size := ⟨_, rfl⟩
  have HBB : Hid (B = w.heap.size) := hB
  rw [← hB] at hmk HZ1 HB1 ⊢
  clear ha hm h0 h1 hl hD hB hW1
  go_enter Tryz.func32, Tryz.ntmps32
  go_wp2
  go_loopw [8] (fun x wr => ∃ k : Nat, k ≤ n ∧ x = .int .i64 k ∧ Hid (ZAt wr B (farL n (pre1 k))) ∧ Hid (Below B w wr)) (fun x _ => n - (intOf x).toNat)
  case atStart => exact ⟨0, Nat.zero_le _, rfl, HZ1, HB1⟩
  case round =>
    obtain ⟨k, hk, rfl, HZ, HB⟩ := hrel
    by_cases hlt : k < n
    · have c0 := HZ.out.cell (farL_at (pre1 k) hlt)
      have f0 := HZ.out.frozen k
      have HZ2 : Hid (ZAt (wr.setCell ⟨B, k, none⟩ (.int .i64 (-1))) B (farL n (pre1 (k + 1)))) := by
        show ZAt _ _ _
        rw [← pre1_next n k hlt]; exact HZ.out.put k (-1)
      have HB2 : Hid (Below B w (wr.setCell ⟨B, k, none⟩ (.int .i64 (-1)))) := HB.out.setCell (p := ⟨B, k, none⟩) (Nat.le_refl _) _
      go_wp2
      go_roundw
      case rel => exact ⟨k + 1, by omega, by go_num, HZ2, HB2⟩
      case measure => simp [intOf]; omega
    · obtain rfl : k = n := by omega
      rw [pre1_all] at HZ
      have c0 := HZ.out.cell (farL_at (fun _ => -1) hg)
      have f0 := HZ.out.frozen g
      have HZ2 : Hid (ZAt (wr.setCell ⟨B, g, none⟩ (.int .i64 0)) B (farL k (fit l g 0))) := by
        show ZAt _ _ _
        have := HZ.out.put g 0
        rw [farL_put _ hg] at this
        exact this
      have HB2 : Hid (Below B w (wr.setCell ⟨B, g, none⟩ (.int .i64 0))) := HB.out.setCell (p := ⟨B, g, none⟩) (Nat.le_refl _) _
      clear HZ HB
      go_wp2
      go_loopw [9] (fun x wr => ∃ r : Nat, r ≤ k ∧ x = .int .i64 ((r : Int) + 1) ∧ Hid (ZAt wr B (farL k (fit l g r))) ∧ Hid (Below B w wr)) (fun x _ => k + 1 - (intOf x).toNat)
      case atStart => exact ⟨0, Nat.zero_le _, rfl, HZ2, HB2⟩
      case round =>
        obtain ⟨r, hr, rfl, HZ, HB⟩ := hrel
        by_cases hlt2 : r < k
        · have hle : (r : Int) + 1 ≤ (k : Int) := by omega
          go_wp2
          go_loopw [10] (fun x wr => ∃ q : Nat, q ≤ l.length ∧ x = .int .i64 q ∧ Hid (ZAt wr B (farL k (frnd (r + 1) (fit l g r) (l.take q)))) ∧ Hid (Below B w wr)) (fun x _ => l.length - (intOf x).toNat)
          case atStart => exact ⟨0, Nat.zero_le _, rfl, HZ, HB⟩
          case round =>
            obtain ⟨q, hq, rfl, HZq, HBq⟩ := hrel
            by_cases hlq : q < l.length
            · obtain ⟨t, ht⟩ : ∃ t, l[q]? = some t := ⟨_, List.getElem?_eq_getElem hlq⟩
              obtain ⟨g1, o1, hp, hg1, a0, a1, a2⟩ := (HA.out.any (by rw [← HBB.out]; exact HBq.out)).at ht
              subst hp
              have hed := edB_lt (List.all_eq_true.1 HL.out t (List.mem_of_getElem? ht))
              obtain ⟨F0, hF0⟩ : ∃ F0, F0 = frnd (r + 1) (fit l g r) (l.take q) := ⟨_, rfl⟩
              have e1 := take_frnd ht (r + 1) (fit l g r)
              have hlow : ∀ i, -1 ≤ F0 i ∧ F0 i ≤ ((r + 1 : Nat) : Int) := fun i => by rw [hF0]; exact fit_low HD.out r _ (fun e he => List.mem_of_mem_take he) i
              rw [← hF0] at HZq e1
              obtain ⟨t0, t1, t2⟩ := t
              simp only at a0 a1 a2 hed
              obtain ⟨x, rfl⟩ : ∃ x : Nat, t0 = (x : Int) := ⟨t0.toNat, by omega⟩
              obtain ⟨y, rfl⟩ : ∃ y : Nat, t1 = (y : Int) := ⟨t1.toNat, by omega⟩
              have hx : x < k := by omega
              have hy : y < k := by omega
              have cx := HZq.out.cell (farL_at F0 hx)
              have cy := HZq.out.cell (farL_at F0 hy)
              have fx := HZq.out.frozen x
              have HE : Hid (frnd (r + 1) (fit l g r) (l.take (q + 1)) = fst1 (r + 1) F0 ((x : Int), (y : Int), t2)) := e1
              have l1 := hlow x
              have l2 := hlow y
              obtain ⟨zx, hzx⟩ : ∃ z, z = F0 x := ⟨_, rfl⟩
              obtain ⟨zy, hzy⟩ : ∃ z, z = F0 y := ⟨_, rfl⟩
              have HZX : Hid (zx = F0 x ∧ zy = F0 y) := ⟨hzx, hzy⟩
              rw [← hzx] at cx l1
              rw [← hzy] at cy l2
              clear ht hed hF0 e1 hlow hzx hzy a2
              by_cases c1 : zx < 0
              · by_cases c2 : zy = (r : Int)
                · have HN : Hid (ZAt (wr.setCell ⟨B, x, none⟩ (.int .i64 ((r : Int) + 1))) B (farL k (frnd (r + 1) (fit l g r) (l.take (q + 1))))) := by
                    show ZAt _ _ _
                    rw [HE.out]
                    unfold fst1
                    rw [if_pos (by simp only [Int.toNat_natCast]; rw [← HZX.out.1, ← HZX.out.2]; exact ⟨c1, by omega⟩)]
                    have := HZq.out.put x ((r : Int) + 1)
                    rw [farL_put _ hx] at this
                    exact this
                  have HB3 : Hid (Below B w (wr.setCell ⟨B, x, none⟩ (.int .i64 ((r : Int) + 1)))) := HBq.out.setCell (p := ⟨B, x, none⟩) (Nat.le_refl _) _
                  subst c2
                  go_wp2
                  go_roundw
                  case rel => exact ⟨q + 1, by omega, by go_num, HN, HB3⟩
                  case measure => simp [intOf]; omega
                · have HN : Hid (frnd (r + 1) (fit l g r) (l.take (q + 1)) = F0) := by
                    show _ = _
                    rw [HE.out]
                    unfold fst1
                    rw [if_neg]
                    simp only [Int.toNat_natCast]
                    rw [← HZX.out.2]
                    rintro ⟨_, h⟩; omega
                  have c3 : (zy == (r : Int)) = false := by simpa using c2
                  go_wp2
                  go_roundw
                  case rel => exact ⟨q + 1, by omega, by go_num, by rw [HN.out]; exact HZq, HBq⟩
                  case measure => simp [intOf]; omega
              · have HN : Hid (frnd (r + 1) (fit l g r) (l.take (q + 1)) = F0) := by
                  show _ = _
                  rw [HE.out]
                  unfold fst1
                  rw [if_neg]
                  simp only [Int.toNat_natCast]
                  rw [← HZX.out.1]
                  rintro ⟨h, _⟩; omega
                clear cy
                go_wp2
                go_roundw
                case rel => exact ⟨q + 1, by omega, by go_num, by rw [HN.out]; exact HZq, HBq⟩
                case measure => simp [intOf]; omega
            · obtain rfl : q = l.length := by omega
              rw [List.take_length] at HZq
              go_wp2
              go_roundw
              case rel => exact ⟨r + 1, by omega, by go_num, HZq, HBq⟩
              case measure => simp [intOf]; omega
        · obtain rfl : r = k := by omega
          rw [fit_far HL.out hg HD.out] at HZ
          have hgt : ¬ (r : Int) + 1 ≤ (r : Int) := by omega
          go_wp2
          go_ret
          exact ⟨rfl, HZ, HB⟩
set_option maxHeartbeats 8000000 in
set_option maxRecDepth 100000 in
theorem refWay_any (n a0 g d0 : Nat) (v : Value) (l : List Ed) (w : World) (D : Nat → Int) {F : Nat → Prop} (ha : IsEds w F v l) (hm : mayE (n : Int) l = true) (hr : l.Pairwise fun x y => ltE x y = true) (hg : g < n) (ha0 : a0 < n) (hD : FarIs l g D) (hd : D a0 = (d0 : Int)) :
    Calls Tryz.prog 17 #[.int .i64 (n : Int), v, .int .i64 (a0 : Int), .int .i64 (g : Int)] w fun e w' => ∃ u, e = .returned u ∧ Hid (Reads w' (fun i => w.heap.size ≤ i) u d0 (natsV (wayT l D d0 a0))) ∧ Hid (Below w.heap.size w w') := by
  obtain ⟨h0, h1, hl⟩ := mayE_all hm
  have hn : n ≤ 64 := by omega
  have KF := refFar_any n g v l w D ha hm hg hD
  obtain ⟨p, cp, rfl⟩ := ha.slc
  have hm9 : l.length ≤ 9223372036854775807 := by have := ha.len; unfold maxLen at this; omega
  have HA : Hid (IsEds w F (.slice p l.length cp) l) := ha
  have HL : Hid (edsB (n : Int) l = true) := hl
  have HD : Hid (FarIs l g D) := hD
  have HR : Hid (l.Pairwise fun x y => ltE x y = true) := hr
  have HD0 : Hid (D a0 = (d0 : Int)) := hd
  have hdn : d0 ≤ 64 := by have := far_le hl hg hD a0; omega
  obtain ⟨i0, hi0, hzz, hzs, hzb⟩ := info_parts Tryz.infoInt
  clear ha hm h0 h1 hl hD hr hd
  go_enter Tryz.func17, Tryz.ntmps17
  go_wp2_with (go_at_call 32; refine KF.mono ?_; rintro e w2 ⟨rfl, HZ, HB2⟩)
  obtain ⟨B, hB⟩ : ∃ B, B = w.heap.size := ⟨_, rfl⟩
  have HBB : Hid (B = w.heap.size) := hB
  rw [← hB] at HZ HB2 ⊢
  clear hB KF
  have hB2 : B < w2.heap.size := HZ.out.lt
  go_loopg [10, 11] d0 (fun gk o z wr => ∃ (a : Nat) (acc : List Nat), z = .int .i64 (a : Int) ∧ a < n ∧ gk ≤ d0 ∧ Hid (D a = (gk : Int)) ∧ Hid (acc ++ wayT l D gk a = wayT l D d0 a0) ∧ Hid (wr.ownsRow w2.heap.size 3 1 o acc.length (natsV acc)) ∧ Hid (Below w2.heap.size w2 wr))
  case atStart => exact ⟨a0, [], rfl, ha0, Nat.le_refl _, HD0, rfl, World.ownsRow_nil _ _ _ _, Below.refl _ _⟩
  case round =>
    obtain ⟨a, acc, rfl, han, hgk, HFA, HW2, HO, HBw⟩ := hrel
    have hal : acc.length + gk = d0 := by
      have := congrArg List.length HW2.out
      simp only [List.length_append, wayT_length] at this
      omega
    obtain ⟨p8, c8, ho⟩ := row_slice HO.out
    subst ho
    cases gk with
    | zero =>
      have hax : a = g := HD.out.zero HFA.out
      subst hax
      have HI2 : Hid (Reads wr (fun i => B ≤ i) (.slice p8 acc.length c8) d0 (natsV (wayT l D d0 a0))) := by
        have h1 := Reads.of (F := fun i => B ≤ i) HO.out (fun b hb => by have := (HO.out.lt b hb).1; show _ ≤ _; omega)
        have h2 : acc = wayT l D d0 a0 := by have := HW2.out; simpa [wayT] using this
        show Reads _ _ _ _ _
        rw [← h2]
        have h3 : acc.length = d0 := by omega
        rw [h3] at h1 ⊢
        exact h1
      have HE : Hid (Below B w wr) := HB2.out.trans (HBw.out.mono (Nat.le_of_lt hB2))
      clear hal
      go_wp2
      go_ret
      exact ⟨_, rfl, by rw [← HBB.out]; exact HI2, by rw [← HBB.out]; exact HE⟩
    | succ m =>
      have hax : ¬ a = g := fun e => by
        have h1 := HD.out.goal
        have h2 := HFA.out
        rw [e, h1] at h2; omega
      have c3 : ((a : Int) == (g : Int)) = false := by simp; omega
      obtain ⟨e9, hfi, he9, h9a, h9b, h9c⟩ := HD.out.next HFA.out
      have HNX : Hid (D (nxt l D a) = (m : Int) ∧ nxt l D a < n) := ⟨by rw [h9c]; exact h9b, by rw [h9c]; exact (eds_lt HL.out he9).2⟩
      have HBS : Hid (bst l l D a = ((nxt l D a : Nat) : Int)) := bst_all HL.out HD.out HFA.out
      have HW3 : Hid ((acc ++ [a]) ++ wayT l D m (nxt l D a) = wayT l D d0 a0) := by show _ = _; rw [← HW2.out, List.append_assoc]; rfl
      have HSV : Hid (natsV (acc ++ [a]) = natsV acc ++ [.int .i64 (a : Int)]) := by show _ = _; simp [natsV]
      have MX : acc.length + 1 ≤ maxLen := by unfold maxLen; omega
      have BY : (acc.length + 1) * 8 ≤ 140737488355328 := by omega
      have BS : w2.heap.size ≤ wr.heap.size := HBw.out.size
      clear hfi he9 h9a h9b h9c hal hax
      go_wp2_with (at_builtin; refine wpList_append_own _ rfl _ _ 27 rfl w2.heap.size 3 i0 (.int .i64 0) 1 8 Tryz.underlying27 hi0 hzz hzs hzb rfl (by decide) _ _ _ rfl (HO.out.alloc _) ⟨wr.heap.size, 0, none⟩ 1 1 [.int .i64 (a : Int)] rfl rfl (news1 wr _ _) ?c2 MX BY ?c5 ?_)
      case c2 => intro u hu; simp at hu; subst hu; rfl
      case c5 => simp; omega
      intro v' w3 hown' hgrow _
      have HO3 : Hid (w3.ownsRow w2.heap.size 3 1 v' (acc.length + 1) (natsV (acc ++ [a]))) := by show World.ownsRow _ _ _ _ _ _ _; rw [HSV.out]; exact hown'
      have HB3w : Hid (Below w2.heap.size w2 w3) := (HBw.out.alloc HBw.out.size _).grown hgrow (by simp; omega) (fun g hg => (HO.out.lt g hg).1)
      obtain ⟨p9, c9, hv9⟩ := row_slice hown'
      subst hv9
      clear hown' hgrow
      go_wp2
      go_loopw [12, 13] (fun b x wr => ∃ j : Nat, j ≤ l.length ∧ x = .int .i64 j ∧ b = .int .i64 (bst l (l.take j) D a) ∧ Hid (Below w3.heap.size w3 wr)) (fun _ x _ => l.length - (intOf x).toNat)
      case atStart => exact ⟨0, Nat.zero_le _, rfl, rfl, Below.refl _ _⟩
      case round =>
        obtain ⟨j, hj, rfl, rfl, HBj⟩ := hrel
        have HBy : Hid (Below w2.heap.size w2 wr) := HB3w.out.trans (HBj.out.mono HB3w.out.size)
        have HBx : Hid (Below w.heap.size w wr) := by rw [← HBB.out]; exact HB2.out.trans (HBy.out.mono (Nat.le_of_lt hB2))
        by_cases hlj : j < l.length
        · obtain ⟨t, ht⟩ : ∃ t, l[j]? = some t := ⟨_, List.getElem?_eq_getElem hlj⟩
          obtain ⟨g1, o1, hp, hg1, a0', a1, a2⟩ := (HA.out.any HBx.out).at ht
          subst hp
          have hed := edB_lt (List.all_eq_true.1 HL.out t (List.mem_of_getElem? ht))
          have hst := bst_step (f := D) (a := a) HR.out HL.out ht
          have hlow := bst_low HL.out D a j
          obtain ⟨t0, t1, t2⟩ := t
          simp only at a0' a1 a2 hed hst
          obtain ⟨x, rfl⟩ : ∃ x : Nat, t0 = (x : Int) := ⟨t0.toNat, by omega⟩
          obtain ⟨y, rfl⟩ : ∃ y : Nat, t1 = (y : Int) := ⟨t1.toNat, by omega⟩
          rw [Int.toNat_natCast, Int.toNat_natCast] at hst
          have hx : x < n := by omega
          have hy : y < n := by omega
          have zw : ZAt wr B (farL n D) := HZ.out.keep HBy.out
          have cy := zw.cell (farL_at D hy)
          have ca := zw.cell (farL_at D han)
          obtain ⟨b, hb⟩ : ∃ b, b = bst l (l.take j) D a := ⟨_, rfl⟩
          rw [← hb] at hst hlow ⊢
          have bz : -1 ≤ D y ∧ D y ≤ 64 := ⟨HD.out.bound y, by have := far_le HL.out hg HD.out y; omega⟩
          have ba : -1 ≤ D a ∧ D a ≤ 64 := ⟨HD.out.bound a, by have := far_le HL.out hg HD.out a; omega⟩
          obtain ⟨zy, hzy⟩ : ∃ z, z = D y := ⟨_, rfl⟩
          obtain ⟨za, hza⟩ : ∃ z, z = D a := ⟨_, rfl⟩
          rw [← hzy] at cy bz hst
          rw [← hza] at ca ba hst
          have hb64 : -1 ≤ b ∧ b ≤ 64 := by omega
          clear ht hed hb hzy hza zw a2 hlow
          by_cases k1 : x = a
          · subst k1
            have e0 : x = x := rfl
            by_cases k2 : zy = za - 1
            · have k3 : (zy == za - 1) = true := by simpa using k2
              have k4 : decide (zy = za - 1) = true := by simpa using k2
              by_cases k5 : b < 0
              · have HN : Hid (bst l (l.take (j + 1)) D x = (y : Int)) := by show _ = _; rw [hst, if_pos ⟨⟨rfl, k2⟩, Or.inl k5⟩]
                have k6 : decide (b < 0) = true := by simpa using k5
                clear hst k2
                go_wp2
                go_quiet (fail)
                go_wp2
                go_roundw
                case rel => exact ⟨j + 1, by omega, by go_num, by rw [HN.out], bel_drewN HBj.out⟩
                case measure => simp [intOf]; omega
              · have k6 : decide (b < 0) = false := by simpa using k5
                by_cases k7 : (y : Int) < b
                · have HN : Hid (bst l (l.take (j + 1)) D x = (y : Int)) := by show _ = _; rw [hst, if_pos ⟨⟨rfl, k2⟩, Or.inr k7⟩]
                  have k8 : decide ((y : Int) < b) = true := by simpa using k7
                  clear hst k2
                  go_wp2
                  go_quiet (fail)
                  go_wp2
                  go_roundw
                  case rel => exact ⟨j + 1, by omega, by go_num, by rw [HN.out], bel_drewN HBj.out⟩
                  case measure => simp [intOf]; omega
                · have HN : Hid (bst l (l.take (j + 1)) D x = b) := by show _ = _; rw [hst, if_neg fun h => h.2.elim k5 k7]
                  have k8 : decide ((y : Int) < b) = false := by simpa using k7
                  clear hst k2
                  go_wp2
                  go_quiet (fail)
                  go_wp2
                  go_roundw
                  case rel => exact ⟨j + 1, by omega, by go_num, by rw [HN.out], bel_drewN HBj.out⟩
                  case measure => simp [intOf]; omega
            · have HN : Hid (bst l (l.take (j + 1)) D x = b) := by show _ = _; rw [hst, if_neg fun h => k2 h.1.2]
              have k3 : (zy == za - 1) = false := by simpa using k2
              have k4 : decide (zy = za - 1) = false := by simpa using k2
              clear hst k2
              go_wp2
              go_quiet (fail)
              go_wp2
              go_roundw
              case rel => exact ⟨j + 1, by omega, by go_num, by rw [HN.out], bel_drewN HBj.out⟩
              case measure => simp [intOf]; omega
          · have HN : Hid (bst l (l.take (j + 1)) D a = b) := by show _ = _; rw [hst, if_neg fun h => k1 h.1.1]
            have k3 : ((x : Int) == (a : Int)) = false := by simp; omega
            have k4 : decide (x = a) = false := by simpa using k1
            clear hst
            go_wp2
            go_quiet (fail)
            go_wp2
            go_roundw
            case rel => exact ⟨j + 1, by omega, by go_num, by rw [HN.out], bel_drewN HBj.out⟩
            case measure => simp [intOf]; omega
        · obtain rfl : j = l.length := by omega
          rw [List.take_length, HBS.out]
          have HO4 : Hid (wr.ownsRow w2.heap.size 3 1 (.slice p9 (acc.length + 1) c9) (acc ++ [a]).length (natsV (acc ++ [a]))) := by
            show World.ownsRow _ _ _ _ _ _ _
            rw [List.length_append]
            exact row_keep HO3.out HBj.out
          go_wp2
          go_roundg m
          case measure => omega
          case rel => exact ⟨nxt l D a, acc ++ [a], rfl, HNX.out.2, by omega, HNX.out.1, HW3, HO4, HBy⟩
end Go.Proofs.YtipnfiaphmddiaaGreat
/- The document's Strata, against the plain functions. -/
namespace Go.Proofs.YtipnfiaphmddiaaGreat
set_option linter.unusedVariables false
open Go.ChangeShapes Go.WideShapes Go.ChangeAt Go.RowKit

set_option maxHeartbeats 4000000 in
set_option maxRecDepth 100000 in
theorem refStrata_no (g : Gr) (v1 v2 : Value) (w : World) {F : Nat → Prop} (hg : GrIs w F v1 v2 g) (hn : ∀ s, s ∈ g.names → s.size ≤ maxLen) (hM : mayG g = false) :
    Calls Tryz.prog 6 #[.agg #[.int .i64 g.start, v1, v2]] w fun e w' => e = .returned (.tuple #[.slice none 0 0, .slice none 0 0, .int .i64 800]) ∧ Hid (Below w.heap.size w w') := by
  have K1 : ∀ o, Calls Tryz.prog 15 #[.agg #[.int .i64 g.start, v1, v2]] (w.alloc o) fun e w' => e = .returned (.tuple #[.slice none 0 0, .int .i64 600]) ∧ Hid (Below (w.alloc o).heap.size (w.alloc o) w') := fun o => refEdges_no g v1 v2 (w.alloc o) (hg.any (bel1 w o)) hn hM
  obtain ⟨p1, c1, l1, hv1⟩ : ∃ p n c, v1 = .slice p n c := by obtain ⟨p, c, e, _⟩ := hg.1; exact ⟨_, _, _, e⟩
  obtain ⟨p2, c2, hv2⟩ := hg.2.slc
  subst hv1 hv2
  clear hg hn hM
  go_enter Tryz.func6, Tryz.ntmps6
  go_wp2_with (go_at_call 15; refine (K1 _).mono ?_; rintro e w1 ⟨rfl, b1⟩)
  go_ret3
  exact ⟨rfl, (bel1 _ _).trans (b1.out.mono (bel1 w _).size)⟩
/-- An edge that is not bad: if it is negated there is no way back. -/
theorem reach_bad {n : Nat} {l : List Ed} (hm : mayE (n : Int) l = true) {x y : Nat} (hx : x < n) (hy : y < n) (he : ((x : Int), (y : Int), true) ∈ l) : reachT (n : Int) l (y : Int) (x : Int) = badE n l ((x : Int), (y : Int), true) := by
  obtain ⟨_, _, hl⟩ := mayE_all hm
  rw [reach_way hm hy hx, Bool.eq_iff_iff, way_iff hl hy, bad_iff hl he]
  simp
set_option maxHeartbeats 8000000 in
set_option maxRecDepth 100000 in
theorem refStrata_ok (g : Gr) (v1 v2 : Value) (w : World) {F : Nat → Prop} (hg : GrIs w F v1 v2 g) (hn : ∀ s, s ∈ g.names → s.size ≤ maxLen) (hM : mayG g = true) (hc : (edgesT g).find? (badE g.names.length (edgesT g)) = none) :
    Calls Tryz.prog 6 #[.agg #[.int .i64 g.start, v1, v2]] w fun e w' => ∃ u, e = .returned (.tuple #[u, .slice none 0 0, .int .i64 0]) ∧ Hid (IsInts w' (fun i => w.heap.size ≤ i) u (levL g.names.length (levT g.names.length (edgesT g)))) ∧ Hid (Below w.heap.size w w') := by
  obtain ⟨W1, hW1⟩ : ∃ W1, W1 = w.alloc (.cells #[.int .i64 g.start, v1, v2] 25) := ⟨_, rfl⟩
  have hb1 : Below w.heap.size w W1 := by rw [hW1]; exact bel1 _ _
  have K1 := refEdges_ok g v1 v2 W1 (hg.any hb1) hn hM
  have hm := mayE_edges hM
  obtain ⟨p1, l1, hv1⟩ : ∃ p c, v1 = .slice p g.names.length c := by obtain ⟨p, c, e, _⟩ := hg.1; exact ⟨_, _, e⟩
  obtain ⟨p2, c2, hv2⟩ := hg.2.slc
  obtain ⟨L, hL⟩ : ∃ L, L = edgesT g := ⟨_, rfl⟩
  obtain ⟨n, hn9⟩ : ∃ n, n = g.names.length := ⟨_, rfl⟩
  have hn64 : n ≤ 64 := by rw [hn9]; exact mayG_names hM
  rw [← hL] at K1 hm hc ⊢
  rw [← hn9] at hm hc hv1 ⊢
  have q1 : W1.cell? ⟨w.heap.size, 1, none⟩ = some v1 := by rw [hW1]; exact World.cell?_alloc_at _ _ _ _ rfl
  have hz1 : w.heap.size < W1.heap.size := by rw [hW1]; simp
  have HB1 : Hid (Below w.heap.size w W1) := hb1
  have HM : Hid (mayE (n : Int) L = true) := hm
  have HC : Hid (∀ e, e ∈ L → badE n L e = false) := fun e he => by rw [List.find?_eq_none] at hc; simpa using hc e he
  have HCl : Hid (Clean L) := clean_of (mayE_all hm).2.2 hc
  have HL : Hid (edsB (n : Int) L = true) := (mayE_all hm).2.2
  subst hv1 hv2
  clear hg hn hM hb1 hm hc hL hn9
  go_enter Tryz.func6, Tryz.ntmps6
  go_upto_region 2 with (go_at_call 15; rw [← hW1]; refine K1.mono ?_; rintro e w2 ⟨v, rfl, IE, b2⟩)
  have hm9 : L.length ≤ 9223372036854775807 := by have := IE.out.len; unfold maxLen at this; omega
  obtain ⟨p3, c3, hv⟩ := IE.out.slc
  subst hv
  have q2 : w2.cell? ⟨w.heap.size, 1, none⟩ = some (.slice p1 n l1) := (b2.out.cell (p := ⟨_, _, none⟩) hz1).trans q1
  have hz2 : w.heap.size < w2.heap.size := Nat.lt_of_lt_of_le hz1 b2.out.size
  have HB2 : Hid (Below w.heap.size w w2) := HB1.out.trans (b2.out.mono HB1.out.size)
  clear hW1 K1 q1 hz1
  go_wp2
  clear q2
  go_loopw [8] (fun x wr => ∃ k : Nat, k ≤ L.length ∧ x = .int .i64 k ∧ Hid (Below w2.heap.size w2 wr)) (fun x _ => L.length - (intOf x).toNat)
  case atStart => exact ⟨0, Nat.zero_le _, rfl, Below.refl _ _⟩
  case round =>
    obtain ⟨k, hk, rfl, HB⟩ := hrel
    by_cases hlt : k < L.length
    · obtain ⟨t, ht⟩ : ∃ t, L[k]? = some t := ⟨_, List.getElem?_eq_getElem hlt⟩
      obtain ⟨g1, o1, hp, hg1, a0, a1, a2⟩ := (IE.out.any HB.out).at ht
      subst hp
      have htm := List.mem_of_getElem? ht
      have hed := edB_lt (List.all_eq_true.1 HL.out t htm)
      have hnb := HC.out t htm
      obtain ⟨t0, t1, t2⟩ := t
      simp only at a0 a1 a2 hed
      obtain ⟨x, rfl⟩ : ∃ x : Nat, t0 = (x : Int) := ⟨t0.toNat, by omega⟩
      obtain ⟨y, rfl⟩ : ∃ y : Nat, t1 = (y : Int) := ⟨t1.toNat, by omega⟩
      have hx : x < n := by omega
      have hy : y < n := by omega
      cases t2 with
      | false =>
        clear ht htm hed hnb
        go_wp2
        go_quiet (fail)
        go_wp2
        go_roundw
        case rel => exact ⟨k + 1, by omega, by go_num, bel_drewN HB.out⟩
        case measure => simp [intOf]; omega
      | true =>
        have hrb := reach_bad HM.out hx hy htm
        rw [hnb] at hrb
        obtain ⟨V, hV⟩ : ∃ V, V = wr := ⟨_, rfl⟩
        subst hV
        have KR : Hid (∀ w', Below V.heap.size V w' → Calls Tryz.prog 16 #[.int .i64 (n : Int), .slice (some ⟨g1, o1, none⟩) L.length c3, .int .i64 (y : Int), .int .i64 (x : Int)] w' fun e w'' => e = .returned (.bool false) ∧ Hid (Below w'.heap.size w' w'')) := fun w' hb => by
          have h := reachRef_any (n : Int) (.slice (some ⟨g1, o1, none⟩) L.length c3) L (y : Int) (x : Int) w' ((IE.out.any HB.out).any hb)
          rw [hrb] at h; exact h
        have HS : Hid (∀ w', Below V.heap.size V w' → Below V.heap.size V w' ∧ w'.cell? ⟨g1, o1 + k * 3, none⟩ = some (.int .i64 (x : Int)) ∧ w'.cell? ⟨g1, o1 + k * 3 + 1, none⟩ = some (.int .i64 (y : Int)) ∧ w'.cell? ⟨g1, o1 + k * 3 + 2, none⟩ = some (.bool true)) := fun w' hb =>
          ⟨hb, (hb.cell (p := ⟨_, _, none⟩) hg1).trans a0, (hb.cell (p := ⟨_, _, none⟩) hg1).trans a1, (hb.cell (p := ⟨_, _, none⟩) hg1).trans a2⟩
        clear ht htm hed hnb hrb a0 a1 a2
        go_wp2
        go_region_held3 (fun w' => Below V.heap.size V w' ∧ w'.cell? ⟨g1, o1 + k * 3, none⟩ = some (.int .i64 (x : Int)) ∧ w'.cell? ⟨g1, o1 + k * 3 + 1, none⟩ = some (.int .i64 (y : Int)) ∧ w'.cell? ⟨g1, o1 + k * 3 + 2, none⟩ = some (.bool true))
          ((refine HS.out _ ?_; (repeat' (first | with_reducible assumption | with_reducible exact Below.refl _ _ | with_reducible apply Below.drew))))
          ((go_at_call 16; refine (KR.out _ (by repeat' (first | exact Below.refl _ _ | apply Below.drew))).mono ?_; rintro e w3 ⟨rfl, b3⟩; have b4 : Below V.heap.size V w3 := Below.trans (b := V.drew) (Below.refl _ _).drew b3.out))
        go_wp2
        go_roundw
        case rel => exact ⟨k + 1, by omega, by go_num, HB.out.trans (b4.mono HB.out.size)⟩
        case measure => simp [intOf]; omega
    · obtain rfl : k = L.length := by omega
      have HB5 : Hid (Below w.heap.size w wr) := HB2.out.trans (HB.out.mono HB2.out.size)
      have hmk := make_ints n hn64 wr
      obtain ⟨V, hV⟩ : ∃ V, V = wr := ⟨_, rfl⟩
      subst hV
      obtain ⟨W3, hW3⟩ : ∃ W3, W3 = V.alloc (.cells (intsA (levL n fun _ => 0)) 3) := ⟨_, rfl⟩
      rw [← hW3] at hmk
      have HZ3 : Hid (ZAt W3 V.heap.size (levL n (itL L 0))) := by rw [hW3]; exact ZAt.new V _
      have HB3 : Hid (Below V.heap.size V W3) := by rw [hW3]; exact bel1 _ _
      clear hW3
      go_wp2
      clear hmk
      obtain ⟨B, hB⟩ : ∃ B, B = V.heap.size := ⟨_, rfl⟩
      have HBB : Hid (B = V.heap.size) := hB
      rw [← hB] at HZ3 HB3 ⊢
      have HBV : Hid (∀ wr, Below B V wr → Below w2.heap.size w2 wr ∧ Below w.heap.size w wr) := fun wr h => by
        rw [hB] at h
        exact ⟨HB.out.trans (h.mono HB.out.size), HB5.out.trans (h.mono HB5.out.size)⟩
      clear hB
      go_loopw [11] (fun x wr => ∃ r : Nat, r ≤ n + 1 ∧ x = .int .i64 r ∧ Hid (ZAt wr B (levL n (itL L r))) ∧ Hid (Below B V wr)) (fun x _ => n + 1 - (intOf x).toNat)
      case atStart => exact ⟨0, Nat.zero_le _, rfl, HZ3, HB3⟩
      case round =>
        obtain ⟨r, hr, rfl, HZ, HBr⟩ := hrel
        by_cases hlr : r ≤ n
        · have hle : (r : Int) ≤ (n : Int) := by omega
          go_wp2
          go_loopw [12] (fun x wr => ∃ q : Nat, q ≤ L.length ∧ x = .int .i64 q ∧ Hid (ZAt wr B (levL n (rai (itL L r) (L.take q)))) ∧ Hid (Below B V wr)) (fun x _ => L.length - (intOf x).toNat)
          case atStart => exact ⟨0, Nat.zero_le _, rfl, HZ, HBr⟩
          case round =>
            obtain ⟨q, hq, rfl, HZq, HBq⟩ := hrel
            by_cases hlq : q < L.length
            · obtain ⟨t, ht⟩ : ∃ t, L[q]? = some t := ⟨_, List.getElem?_eq_getElem hlq⟩
              obtain ⟨g1, o1, hp, hg1, a0, a1, a2⟩ := (IE.out.any (HBV.out wr HBq.out).1).at ht
              subst hp
              have htm := List.mem_of_getElem? ht
              have hed := edB_lt (List.all_eq_true.1 HL.out t htm)
              have e1 := take_rai ht (itL L r)
              obtain ⟨F0, hF0⟩ : ∃ F0, F0 = rai (itL L r) (L.take q) := ⟨_, rfl⟩
              have hub : ∀ i, F0 i ≤ 1000 := fun i => by
                rw [hF0]
                refine Nat.le_trans (rai_take L q (itL L r) i) ?_
                show itL L (r + 1) i ≤ 1000
                by_cases hi : i < n
                · have := it_lt HL.out HCl.out (r + 1) hi; omega
                · rw [it_out HL.out _ i (by omega)]; omega
              rw [← hF0] at e1 HZq
              rw [raiE_max] at e1
              obtain ⟨t0, t1, t2⟩ := t
              simp only at a0 a1 a2 hed e1
              obtain ⟨x, rfl⟩ : ∃ x : Nat, t0 = (x : Int) := ⟨t0.toNat, by omega⟩
              obtain ⟨y, rfl⟩ : ∃ y : Nat, t1 = (y : Int) := ⟨t1.toNat, by omega⟩
              rw [Int.toNat_natCast, Int.toNat_natCast] at e1
              have hx : x < n := by omega
              have hy : y < n := by omega
              have cx := HZq.out.cell (levL_at F0 hx)
              have cy := HZq.out.cell (levL_at F0 hy)
              have fx := HZq.out.frozen x
              have hux := hub x
              have huy := hub y
              obtain ⟨zx, hzx⟩ : ∃ z, z = F0 x := ⟨_, rfl⟩
              obtain ⟨zy, hzy⟩ : ∃ z, z = F0 y := ⟨_, rfl⟩
              rw [← hzx] at cx hux e1
              rw [← hzy] at cy huy e1
              have HE : Hid (∀ m : Nat, m = zy + stp ((x : Int), (y : Int), t2) → levL n (rai (itL L r) (L.take (q + 1))) = (levL n F0).set x (max (zx : Int) (m : Int))) := fun m hm => by
                rw [e1, ← hm, show max (zx : Int) (m : Int) = ((max zx m : Nat) : Int) by omega, levL_put _ hx]
              clear ht htm hed hF0 e1 hub hzx hzy
              cases t2 with
              | false =>
                have HN : Hid (ZAt (wr.setCell ⟨B, x, none⟩ (.int .i64 (max (zx : Int) (zy : Int)))) B (levL n (rai (itL L r) (L.take (q + 1))))) := by
                  show ZAt _ _ _
                  rw [HE.out zy rfl]; exact HZq.out.put _ _
                have HB3q : Hid (Below B V (wr.setCell ⟨B, x, none⟩ (.int .i64 (max (zx : Int) (zy : Int))))) := HBq.out.setCell (p := ⟨B, x, none⟩) (Nat.le_refl _) _
                go_wp2
                go_region
                all_goals
                  go_wp2
                  go_roundw
                  case rel => exact ⟨q + 1, by omega, by go_num, HN, HB3q.out.drew⟩
                  case measure => simp [intOf]; omega
              | true =>
                have HN : Hid (ZAt (wr.setCell ⟨B, x, none⟩ (.int .i64 (max (zx : Int) ((zy : Int) + 1)))) B (levL n (rai (itL L r) (L.take (q + 1))))) := by
                  show ZAt _ _ _
                  have := HE.out (zy + 1) rfl
                  rw [show ((zy + 1 : Nat) : Int) = (zy : Int) + 1 by omega] at this
                  rw [this]; exact HZq.out.put _ _
                have HB3q : Hid (Below B V (wr.setCell ⟨B, x, none⟩ (.int .i64 (max (zx : Int) ((zy : Int) + 1))))) := HBq.out.setCell (p := ⟨B, x, none⟩) (Nat.le_refl _) _
                go_wp2
                go_region
                all_goals
                  go_wp2
                  go_roundw
                  case rel => exact ⟨q + 1, by omega, by go_num, HN, HB3q.out.drew⟩
                  case measure => simp [intOf]; omega
            · obtain rfl : q = L.length := by omega
              rw [List.take_length] at HZq
              go_wp2
              go_roundw
              case rel => exact ⟨r + 1, by omega, by go_num, HZq, HBq⟩
              case measure => simp [intOf]; omega
        · obtain rfl : r = n + 1 := by omega
          rw [it_more HL.out HCl.out] at HZ
          have hgt : ¬ (((n + 1 : Nat) : Int)) ≤ (n : Int) := by omega
          have HI : Hid (IsInts wr (fun i => w.heap.size ≤ i) (.slice (some ⟨B, 0, none⟩) n n) (levL n (levT n L))) := HZ.out.ints (by rw [HBB.out]; exact HB5.out.size) (levL_length _ _).symm (by unfold maxLen; omega)
          have HE : Hid (Below w.heap.size w wr) := (HBV.out wr HBr.out).2
          go_wp2
          go_ret3
          exact ⟨_, rfl, HI, HE⟩
theorem natsV_one (q : List Nat) : ∀ x ∈ natsV q, x.oneCell' = true := fun x hx => by
  obtain ⟨i, _, rfl⟩ := List.mem_map.1 hx
  rfl
set_option maxHeartbeats 8000000 in
set_option maxRecDepth 100000 in
theorem refStrata_cyc (g : Gr) (v1 v2 : Value) (w : World) {F : Nat → Prop} (hg : GrIs w F v1 v2 g) (hn : ∀ s, s ∈ g.names → s.size ≤ maxLen) (hM : mayG g = true) (t : Ed) (hc : (edgesT g).find? (badE g.names.length (edgesT g)) = some t) (D : Nat → Int) (hD : FarIs (edgesT g) t.1.toNat D) :
    Calls Tryz.prog 6 #[.agg #[.int .i64 g.start, v1, v2]] w fun e w' => ∃ u, e = .returned (.tuple #[.slice none 0 0, u, .int .i64 801]) ∧ Hid (IsInts w' (fun i => w.heap.size ≤ i) u (cycT (edgesT g) D t)) ∧ Hid (Below w.heap.size w w') := by
  obtain ⟨W1, hW1⟩ : ∃ W1, W1 = w.alloc (.cells #[.int .i64 g.start, v1, v2] 25) := ⟨_, rfl⟩
  have hb1 : Below w.heap.size w W1 := by rw [hW1]; exact bel1 _ _
  have K1 := refEdges_ok g v1 v2 W1 (hg.any hb1) hn hM
  have hm := mayE_edges hM
  have hri := edgesT_rise g
  obtain ⟨p1, l1, hv1⟩ : ∃ p c, v1 = .slice p g.names.length c := by obtain ⟨p, c, e, _⟩ := hg.1; exact ⟨_, _, e⟩
  obtain ⟨p2, c2, hv2⟩ := hg.2.slc
  obtain ⟨L, hL⟩ : ∃ L, L = edgesT g := ⟨_, rfl⟩
  obtain ⟨n, hn9⟩ : ∃ n, n = g.names.length := ⟨_, rfl⟩
  have hn64 : n ≤ 64 := by rw [hn9]; exact mayG_names hM
  rw [← hL] at K1 hm hc hri hD ⊢
  rw [← hn9] at hm hc hv1
  have hbad := List.find?_some hc
  have htm := List.mem_of_find?_eq_some hc
  obtain ⟨h0, h1, hl⟩ := mayE_all hm
  have hed := edB_lt (List.all_eq_true.1 hl t htm)
  have hw := (bad_iff hl htm).1 hbad
  obtain ⟨t0, t1, t2⟩ := t
  simp only at hed hw hD
  obtain ⟨x0, rfl⟩ : ∃ x : Nat, t0 = (x : Int) := ⟨t0.toNat, by omega⟩
  obtain ⟨y0, rfl⟩ : ∃ y : Nat, t1 = (y : Int) := ⟨t1.toNat, by omega⟩
  have hx0 : x0 < n := by omega
  have hy0 : y0 < n := by omega
  obtain rfl : t2 = true := hw.1
  rw [Int.toNat_natCast] at hD
  have hwy := hw.2
  rw [Int.toNat_natCast, Int.toNat_natCast] at hwy
  obtain ⟨d, hd⟩ : ∃ d : Nat, D y0 = (d : Int) := by
    obtain ⟨k, hk⟩ := hwy
    rcases hD y0 with ⟨_, h⟩ | ⟨d, h, _⟩
    · exact absurd hk (h k)
    · exact ⟨d, h⟩
  have hd64 : d ≤ 64 := by have := far_le hl hx0 hD y0; omega
  have HCT : Hid (cycT L D ((x0 : Int), (y0 : Int), true) = (x0 :: wayT L D d y0).map fun i => ((i : Nat) : Int)) := by
    show _ = _
    unfold cycT
    simp only [Int.toNat_natCast]
    rw [hd, Int.toNat_natCast]
  have q1 : W1.cell? ⟨w.heap.size, 1, none⟩ = some v1 := by rw [hW1]; exact World.cell?_alloc_at _ _ _ _ rfl
  have hz1 : w.heap.size < W1.heap.size := by rw [hW1]; simp
  have HB1 : Hid (Below w.heap.size w W1) := hb1
  have HM : Hid (mayE (n : Int) L = true) := hm
  have HL : Hid (edsB (n : Int) L = true) := hl
  have HC : Hid (L.find? (badE n L) = some ((x0 : Int), (y0 : Int), true)) := hc
  have HRI : Hid (L.Pairwise fun x y => ltE x y = true) := hri
  have HD : Hid (FarIs L x0 D ∧ D y0 = (d : Int)) := ⟨hD, hd⟩
  subst hv1 hv2
  clear hg hn hM hb1 hm hc hL hn9 hbad htm hed hw hwy hri hD hd h0 h1 hl
  obtain ⟨i0, hi0, hzz, hzs, hzb⟩ := info_parts Tryz.infoInt
  go_enter Tryz.func6, Tryz.ntmps6
  go_upto_region 2 with (go_at_call 15; rw [← hW1]; refine K1.mono ?_; rintro e w2 ⟨v, rfl, IE, b2⟩)
  have hm9 : L.length ≤ 9223372036854775807 := by have := IE.out.len; unfold maxLen at this; omega
  obtain ⟨p3, c3, hv⟩ := IE.out.slc
  subst hv
  have q2 : w2.cell? ⟨w.heap.size, 1, none⟩ = some (.slice p1 n l1) := (b2.out.cell (p := ⟨_, _, none⟩) hz1).trans q1
  have hz2 : w.heap.size < w2.heap.size := Nat.lt_of_lt_of_le hz1 b2.out.size
  have HB2 : Hid (Below w.heap.size w w2) := HB1.out.trans (b2.out.mono HB1.out.size)
  clear hW1 K1 q1 hz1
  go_wp2
  clear q2
  go_loopw [8] (fun x wr => ∃ k : Nat, k ≤ L.length ∧ x = .int .i64 k ∧ Hid (Below w2.heap.size w2 wr) ∧ Hid (∀ j e, j < k → L[j]? = some e → badE n L e = false)) (fun x _ => L.length - (intOf x).toNat)
  case atStart => exact ⟨0, Nat.zero_le _, rfl, Below.refl _ _, fun j e hj => by omega⟩
  case round =>
    obtain ⟨k, hk, rfl, HB, HN⟩ := hrel
    by_cases hlt : k < L.length
    · obtain ⟨t, ht⟩ : ∃ t, L[k]? = some t := ⟨_, List.getElem?_eq_getElem hlt⟩
      obtain ⟨g1, o1, hp, hg1, a0, a1, a2⟩ := (IE.out.any HB.out).at ht
      subst hp
      have htm := List.mem_of_getElem? ht
      have hed := edB_lt (List.all_eq_true.1 HL.out t htm)
      obtain ⟨t0, t1, t2⟩ := t
      simp only at a0 a1 a2 hed
      obtain ⟨x, rfl⟩ : ∃ x : Nat, t0 = (x : Int) := ⟨t0.toNat, by omega⟩
      obtain ⟨y, rfl⟩ : ∃ y : Nat, t1 = (y : Int) := ⟨t1.toNat, by omega⟩
      have hx : x < n := by omega
      have hy : y < n := by omega
      have HNX : Hid (badE n L ((x : Int), (y : Int), t2) = false → ∀ j e, j < k + 1 → L[j]? = some e → badE n L e = false) := fun h j e hj he => by
        by_cases x : j = k
        · subst x
          rw [ht] at he
          cases he
          exact h
        · exact HN.out j e (by omega) he
      have HT : Hid (L[k]? = some ((x : Int), (y : Int), t2)) := ht
      cases t2 with
      | false =>
        have HN3 : Hid (∀ j e, j < k + 1 → L[j]? = some e → badE n L e = false) := HNX.out rfl
        clear ht htm hed
        go_wp2
        go_quiet (fail)
        go_wp2
        go_roundw
        case rel => exact ⟨k + 1, by omega, by go_num, bel_drewN HB.out, HN3⟩
        case measure => simp [intOf]; omega
      | true =>
        have hrb := reach_bad HM.out hx hy htm
        obtain ⟨V, hV⟩ : ∃ V, V = wr := ⟨_, rfl⟩
        subst hV
        have KR : Hid (∀ w', Below V.heap.size V w' → Calls Tryz.prog 16 #[.int .i64 (n : Int), .slice (some ⟨g1, o1, none⟩) L.length c3, .int .i64 (y : Int), .int .i64 (x : Int)] w' fun e w'' => e = .returned (.bool (badE n L ((x : Int), (y : Int), true))) ∧ Hid (Below w'.heap.size w' w'')) := fun w' hb => by
          have h := reachRef_any (n : Int) (.slice (some ⟨g1, o1, none⟩) L.length c3) L (y : Int) (x : Int) w' ((IE.out.any HB.out).any hb)
          rw [hrb] at h; exact h
        have HS : Hid (∀ w', Below V.heap.size V w' → Below V.heap.size V w' ∧ w'.cell? ⟨g1, o1 + k * 3, none⟩ = some (.int .i64 (x : Int)) ∧ w'.cell? ⟨g1, o1 + k * 3 + 1, none⟩ = some (.int .i64 (y : Int)) ∧ w'.cell? ⟨g1, o1 + k * 3 + 2, none⟩ = some (.bool true)) := fun w' hb =>
          ⟨hb, (hb.cell (p := ⟨_, _, none⟩) hg1).trans a0, (hb.cell (p := ⟨_, _, none⟩) hg1).trans a1, (hb.cell (p := ⟨_, _, none⟩) hg1).trans a2⟩
        have HG1 : Hid (g1 < V.heap.size) := hg1
        clear ht htm hed hrb a0 a1 a2
        cases hbe : badE n L ((x : Int), (y : Int), true) with
        | false =>
          have HN3 : Hid (∀ j e, j < k + 1 → L[j]? = some e → badE n L e = false) := HNX.out hbe
          rw [hbe] at KR
          clear hbe
          go_wp2
          go_region_held3 (fun w' => Below V.heap.size V w' ∧ w'.cell? ⟨g1, o1 + k * 3, none⟩ = some (.int .i64 (x : Int)) ∧ w'.cell? ⟨g1, o1 + k * 3 + 1, none⟩ = some (.int .i64 (y : Int)) ∧ w'.cell? ⟨g1, o1 + k * 3 + 2, none⟩ = some (.bool true))
            ((refine HS.out _ ?_; (repeat' (first | with_reducible assumption | with_reducible exact Below.refl _ _ | with_reducible apply Below.drew))))
            ((go_at_call 16; refine (KR.out _ (by repeat' (first | exact Below.refl _ _ | apply Below.drew))).mono ?_; rintro e w3 ⟨rfl, b3⟩; have b4 : Below V.heap.size V w3 := Below.trans (b := V.drew) (Below.refl _ _).drew b3.out))
          go_wp2
          go_roundw
          case rel => exact ⟨k + 1, by omega, by go_num, HB.out.trans (b4.mono HB.out.size), HN3⟩
          case measure => simp [intOf]; omega
        | true =>
          have hfa := find_at HN.out HT.out hbe
          rw [HC.out] at hfa
          simp only [Option.some.injEq, Prod.mk.injEq, and_true] at hfa
          obtain ⟨e1, e2⟩ := hfa
          have e1 : x0 = x := by omega
          have e2 : y0 = y := by omega
          subst e1 e2
          rw [hbe] at KR
          clear hbe
          go_wp2
          go_region_held3 (fun w' => Below V.heap.size V w' ∧ w'.cell? ⟨g1, o1 + k * 3, none⟩ = some (.int .i64 (x0 : Int)) ∧ w'.cell? ⟨g1, o1 + k * 3 + 1, none⟩ = some (.int .i64 (y0 : Int)) ∧ w'.cell? ⟨g1, o1 + k * 3 + 2, none⟩ = some (.bool true))
            ((refine HS.out _ ?_; (repeat' (first | with_reducible assumption | with_reducible exact Below.refl _ _ | with_reducible apply Below.drew))))
            ((go_at_call 16; refine (KR.out _ (by repeat' (first | exact Below.refl _ _ | apply Below.drew))).mono ?_; rintro e w3 ⟨rfl, b3⟩; have b4 : Below V.heap.size V w3 := Below.trans (b := V.drew) (Below.refl _ _).drew b3.out))
          obtain ⟨-, d0, d1, d2⟩ := HS.out _ b4
          have HB3 : Hid (Below w2.heap.size w2 w3) := HB.out.trans (b4.mono HB.out.size)
          have HBw3 : Hid (Below w.heap.size w w3) := HB2.out.trans (HB3.out.mono HB2.out.size)
          have hg3 : g1 < w3.heap.size := Nat.lt_of_lt_of_le HG1.out b4.size
          go_upto_region 10 with fail
          obtain ⟨W4, hW4⟩ : ∃ W4, W4 = w3.alloc (.cells #[.int .i64 (x0 : Int)] 3) := ⟨_, rfl⟩
          rw [← hW4]
          have bW4 : Below w3.heap.size w3 W4 := by rw [hW4]; exact bel1 _ _
          have HO4 : Hid (W4.ownsRow w3.heap.size 3 1 (.slice (some ⟨w3.heap.size, 0, none⟩) 1 1) 1 (natsV [x0])) := by
            rw [hW4]
            exact ⟨rfl, .inr ⟨w3.heap.size, 1, _, rfl, Nat.le_refl _, heap_alloc_new w3 _, Nat.le_refl _, by unfold maxLen; omega, rfl, rfl⟩⟩
          have u0 : W4.cell? ⟨g1, o1 + k * 3, none⟩ = some (.int .i64 (x0 : Int)) := (bW4.cell (p := ⟨_, _, none⟩) hg3).trans d0
          have u1 : W4.cell? ⟨g1, o1 + k * 3 + 1, none⟩ = some (.int .i64 (y0 : Int)) := (bW4.cell (p := ⟨_, _, none⟩) hg3).trans d1
          have hz4 : w3.heap.size < W4.heap.size := by rw [hW4]; simp
          have KW : Hid (∀ w', Below W4.heap.size W4 w' → Calls Tryz.prog 17 #[.int .i64 (n : Int), .slice (some ⟨g1, o1, none⟩) L.length c3, .int .i64 (y0 : Int), .int .i64 (x0 : Int)] w' fun e w'' => ∃ u v' w6, e = .returned u ∧ Hid ((Builtin.append_ #[27, 27] 27 #[.slice (some ⟨w3.heap.size, 0, none⟩) 1 1, u]).run Tryz.prog w'' = .ok v' w6) ∧ Hid (IsInts w6 (fun i => w.heap.size ≤ i) v' (cycT L D ((x0 : Int), (y0 : Int), true))) ∧ Hid (Below w.heap.size w w6)) := fun w' hb => by
            refine (refWay_any n y0 x0 d _ L w' D ((IE.out.any HB3.out).any (bW4.trans (hb.mono bW4.size))) HM.out HRI.out hx hy HD.out.1 HD.out.2).mono ?_
            rintro e w5 ⟨u, rfl, IR, b5⟩
            have ho5 := row_keep (row_keep HO4.out hb) b5.out
            obtain ⟨v', w6, r6, o6, g6⟩ := run_append_reads (P := Tryz.prog) w3.heap.size 27 27 3 i0 _ 1 8 Tryz.underlying27 hi0 hzz hzs hzb rfl (by omega) _ 1 _ ho5 u d (natsV (wayT L D d y0)) IR.out (by rw [natsV_length, wayT_length]; omega) (natsV_one _) (by unfold maxLen; omega) (by omega) (by have := bW4.size; have := hb.size; have := b5.out.size; omega)
            have hB6 : Below w.heap.size w w6 := by
              have h9 := HBw3.out.trans ((bW4.trans ((hb.trans (b5.out.mono hb.size)).mono bW4.size)).mono HBw3.out.size)
              have hsz := HBw3.out.size
              exact ⟨h9.os.symm ▸ g6.os, h9.tape.symm ▸ g6.tape, h9.output.symm ▸ g6.output, Nat.le_trans h9.size g6.size, fun i hi => (g6.block i (by have := h9.size; omega) (fun e => by simp [Value.ownBlock] at e; omega)).trans (h9.block i hi)⟩
            refine ⟨u, v', w6, rfl, r6, ?_, hB6⟩
            show Reads _ _ _ _ _
            have h9 := Reads.of (F := fun i => w.heap.size ≤ i) o6 (fun b hb => by have := (o6.lt b hb).1; have := HBw3.out.size; show _ ≤ _; omega)
            rw [HCT.out, ← natsV_ints]
            have h8 : natsV [x0] ++ natsV (wayT L D d y0) = natsV (x0 :: wayT L D d y0) := by simp [natsV]
            rw [h8] at h9
            have h7 : ((x0 :: wayT L D d y0).map fun i => ((i : Nat) : Int)).length = 1 + d := by simp [wayT_length]; omega
            rw [h7]; exact h9
          clear hW4 d0 d1 d2
          go_region_law (first
            | (with_reducible refine LA _ _ _ _ _ _ ?_ ?_ ?_ ?_; rfl; exact ⟨_, _, rfl, rfl, rfl⟩; rfl)
            | (go_simp; refine (KW.out _ ((Below.refl _ _).drew)).mono ?_; rintro e w5 ⟨u, v6, w6, rfl, r6, I6, b6⟩; have LA := stepApp r6.out; unfold StepApp at LA))
          all_goals
            obtain ⟨p6, c6, hv6⟩ := I6.out.slc
            subst hv6
            go_wp2
            go_ret3
            exact ⟨_, rfl, I6, b6⟩
    · obtain rfl : k = L.length := by omega
      exfalso
      have h1 := List.find?_some HC.out
      obtain ⟨j, hj⟩ := List.mem_iff_getElem?.1 (List.mem_of_find?_eq_some HC.out)
      rw [HN.out j _ (List.getElem?_eq_some_iff.1 hj).1 hj] at h1
      cases h1
end Go.Proofs.YtipnfiaphmddiaaGreat
/- Levels: walked. -/
namespace Go.Proofs.YtipnfiaphmddiaaGreat
set_option linter.unusedVariables false
open Go.ChangeShapes Go.WideShapes Go.ChangeAt Go.RowKit

theorem box3_at {w w1 : World} {a b c : Value} {t : TypeId} (hb : Below (w.alloc (.cells #[a, b, c] t)).heap.size (w.alloc (.cells #[a, b, c] t)) w1) : w1.cell? ⟨w.heap.size, 0, none⟩ = some a ∧ w1.cell? ⟨w.heap.size, 1, none⟩ = some b ∧ w1.cell? ⟨w.heap.size, 2, none⟩ = some c ∧ w.heap.size < w1.heap.size ∧ Below w.heap.size w w1 := by
  have hz := hb.size
  simp at hz
  exact ⟨(hb.cell (p := ⟨_, _, none⟩) (by simp)).trans (World.cell?_alloc_at _ _ _ _ rfl), (hb.cell (p := ⟨_, _, none⟩) (by simp)).trans (World.cell?_alloc_at _ _ _ _ rfl), (hb.cell (p := ⟨_, _, none⟩) (by simp)).trans (World.cell?_alloc_at _ _ _ _ rfl), by omega, (bel1 w _).trans (hb.mono (bel1 w _).size)⟩
/-- What a call tells: levels A, a cycle C, a number E. -/
def Tells8 (A C : List Int) (E : Int) (w : World) (e : Ending) (w' : World) : Prop := ∃ p n c q m d, e = .returned (.tuple #[.slice p n c, .slice q m d, .int .i64 E]) ∧ Hid (IsInts w' Any (.slice p n c) A) ∧ Hid (IsInts w' Any (.slice q m d) C) ∧ Hid (Below w.heap.size w w')
set_option maxHeartbeats 16000000 in
set_option maxRecDepth 100000 in
theorem levels_core (W : World) (g : Gr) (v1 v2 : Value) (A C : List Int) (E : Int) (ga : GrIs W Any v1 v2 g) (hA : A.length ≤ 1000) (hC : C.length ≤ 1000)
    (KC0 : ∀ w2, Below W.heap.size W w2 → Calls Tryz.prog 4 #[.agg #[.int .i64 g.start, v1, v2]] w2 fun e w' => ∃ u1 u2, e = .returned (.agg #[.int .i64 g.start, u1, u2]) ∧ Hid (GrIs w' Any u1 u2 g) ∧ Hid (Below w2.heap.size w2 w'))
    (KS0 : ∀ (u1 u2 : Value) (F : Nat → Prop) w2, GrIs w2 F u1 u2 g → Calls Tryz.prog 5 #[.agg #[.int .i64 g.start, u1, u2]] w2 (Tells8 A C E w2))
    (KR0 : ∀ w2, Below W.heap.size W w2 → Calls Tryz.prog 6 #[.agg #[.int .i64 g.start, v1, v2]] w2 (Tells8 A C E w2)) :
    Calls Tryz.prog 3 #[.agg #[.int .i64 g.start, v1, v2]] W fun e W' => e = .returned (.bool true) ∧ Below W.heap.size W W' := by
  have KC : Hid (∀ w2, Below W.heap.size W w2 → Calls Tryz.prog 4 #[.agg #[.int .i64 g.start, v1, v2]] w2 fun e w' => ∃ u1 u2, e = .returned (.agg #[.int .i64 g.start, u1, u2]) ∧ Hid (GrIs w' Any u1 u2 g) ∧ Hid (Below w2.heap.size w2 w')) := KC0
  have KS : Hid (∀ (u1 u2 : Value) (F : Nat → Prop) w2, GrIs w2 F u1 u2 g → Calls Tryz.prog 5 #[.agg #[.int .i64 g.start, u1, u2]] w2 (Tells8 A C E w2)) := KS0
  have KR : Hid (∀ w2, Below W.heap.size W w2 → Calls Tryz.prog 6 #[.agg #[.int .i64 g.start, v1, v2]] w2 (Tells8 A C E w2)) := KR0
  have HLA : Hid (A.length ≤ 100000000 ∧ C.length ≤ 100000000) := ⟨by omega, by omega⟩
  obtain ⟨p1, c1, l1, hv1⟩ : ∃ p n c, v1 = .slice p n c := by obtain ⟨p, c, e, _⟩ := ga.1; exact ⟨_, _, _, e⟩
  obtain ⟨p2, c2, hv2⟩ := ga.2.slc
  subst hv1 hv2
  have HGA : Hid (GrIs W Any (.slice p1 c1 l1) (.slice p2 g.rules.length c2) g) := ga
  obtain ⟨n, hn⟩ : ∃ n, n = g.rules.length := ⟨_, rfl⟩
  rw [← hn] at KC KR HGA ⊢
  have KSG : Hid (∀ (a1 a2 b1 b2 : Value) (w2 : World) (Fa Fb : Nat → Prop), GrIs w2 Fa a1 a2 g → GrIs w2 Fb b1 b2 g → Calls Tryz.prog 9 #[.agg #[.int .i64 g.start, a1, a2], .agg #[.int .i64 g.start, b1, b2]] w2 fun e w' => e = .returned (.bool true) ∧ Hid (Below w2.heap.size w2 w')) := fun a1 a2 b1 b2 w2 Fa Fb h1 h2 => sameGram_yes g a1 a2 b1 b2 w2 h1 h2
  clear ga KC0 KS0 KR0 hA hC hn
  go_enter Tryz.func3, Tryz.ntmps3
  go_wp2_with (first
    | (go_at_call 4; refine (KC.out _ (bel1 _ _)).mono ?_; rintro e wa ⟨u1, u2, rfl, gx, ba⟩; obtain ⟨x0, x1, x2, xs, hbw⟩ := box3_at ba.out; have HA : Hid (Below W.heap.size W wa) := hbw; obtain ⟨q1, d1, m1, hu1⟩ : ∃ p n c, u1 = .slice p n c := (by obtain ⟨p, c, e, _⟩ := gx.out.1; exact ⟨_, _, _, e⟩); obtain ⟨q2, d2, hu2⟩ := gx.out.2.slc; subst hu1 hu2; clear ba hbw)
    | (go_at_call 5; refine (KS.out _ _ _ _ (gx.out.any (bel1 _ _))).mono ?_; rintro e wb ⟨pa, na, ca, pb, nb, cb, rfl, IA, IC, bb⟩; obtain ⟨y0, y1, y2, ys, hbw⟩ := box3_at bb.out; have HB : Hid (Below W.heap.size W wb) := HA.out.trans (hbw.mono HA.out.size); have HAB : Hid (Below wa.heap.size wa wb) := hbw; have z0 := (hbw.cell (p := ⟨W.heap.size, 0, none⟩) xs).trans x0; have z1 := (hbw.cell (p := ⟨W.heap.size, 1, none⟩) xs).trans x1; have z2 := (hbw.cell (p := ⟨W.heap.size, 2, none⟩) xs).trans x2; have zs : W.heap.size < wb.heap.size := Nat.lt_trans xs ys; clear x0 x1 x2 bb hbw)
    | (go_at_call 6; refine (KR.out _ HB.out).mono ?_; rintro e wc ⟨pc, nc, cc, pd, nd, cd, rfl, JA, JC, bc⟩; have HC : Hid (Below W.heap.size W wc) := HB.out.trans (bc.out.mono HB.out.size); have HBC : Hid (Below wb.heap.size wb wc) := bc.out)
    | (go_at_call 7; first
      | (have hh := T1; clear hh; refine (sameInts_yes _ _ C _ ((IC.out.any HBC.out).any HCD.out) (JC.out.any HCD.out) HLA.out.2).mono ?_; rintro e we ⟨rfl, be⟩; have HBE : Hid (Below wb.heap.size wb we) := HBC.out.trans ((HCD.out.trans (be.out.mono HCD.out.size)).mono HBC.out.size); have HE : Hid (Below W.heap.size W we) := HB.out.trans (HBE.out.mono HB.out.size); have a0 := (HBE.out.cell (p := ⟨W.heap.size, 0, none⟩) zs).trans z0; have a1 := (HBE.out.cell (p := ⟨W.heap.size, 1, none⟩) zs).trans z1; have a2 := (HBE.out.cell (p := ⟨W.heap.size, 2, none⟩) zs).trans z2; have b0 := (HBE.out.cell (p := ⟨wa.heap.size, 0, none⟩) ys).trans y0; have b1 := (HBE.out.cell (p := ⟨wa.heap.size, 1, none⟩) ys).trans y1; have b2 := (HBE.out.cell (p := ⟨wa.heap.size, 2, none⟩) ys).trans y2; clear z0 z1 z2 y0 y1 y2)
      | (refine (sameInts_yes _ _ A _ (IA.out.any HBC.out) JA.out HLA.out.1).mono ?_; rintro e wd ⟨rfl, bd⟩; have HCD : Hid (Below wc.heap.size wc wd) := bd.out; have T1 : Hid True := trivial))
    | (go_at_call 8; refine (num_any _ _).mono ?_; rintro e wn ⟨rfl, rfl⟩)
    | (go_at_call 9; refine (KSG.out _ _ _ _ _ _ _ (gx.out.any (HAB.out.trans (HBE.out.mono HAB.out.size))) (HGA.out.any HE.out)).mono ?_; rintro e wf ⟨rfl, bf⟩; have HF : Hid (Below W.heap.size W wf) := HE.out.trans (bf.out.mono HE.out.size))
    | (go_at_call 10; refine (awake8_any _).mono ?_; rintro e wi ⟨rfl, bi⟩))
  go_ret
  exact ⟨rfl, HF.out.trans (bi.out.mono HF.out.size)⟩
theorem tells_no {w : World} {e : Ending} {w' : World} (h : e = .returned (.tuple #[.slice none 0 0, .slice none 0 0, .int .i64 800]) ∧ Hid (Below w.heap.size w w')) : Tells8 [] [] 800 w e w' := ⟨_, _, _, _, _, _, h.1, ints_nil _ _, ints_nil _ _, h.2⟩
theorem tells_ok {w : World} {e : Ending} {w' : World} {A : List Int} (h : ∃ u, e = .returned (.tuple #[u, .slice none 0 0, .int .i64 0]) ∧ Hid (IsInts w' (fun i => w.heap.size ≤ i) u A) ∧ Hid (Below w.heap.size w w')) : Tells8 A [] 0 w e w' := by
  obtain ⟨u, h1, h2, h3⟩ := h
  obtain ⟨p, c, hu⟩ := h2.out.slc
  subst hu
  exact ⟨_, _, _, _, _, _, h1, Reads.low h2.out (fun _ _ _ => trivial), ints_nil _ _, h3⟩
theorem tells_cyc {w : World} {e : Ending} {w' : World} {C : List Int} (h : ∃ u, e = .returned (.tuple #[.slice none 0 0, u, .int .i64 801]) ∧ Hid (IsInts w' (fun i => w.heap.size ≤ i) u C) ∧ Hid (Below w.heap.size w w')) : Tells8 [] C 801 w e w' := by
  obtain ⟨u, h1, h2, h3⟩ := h
  obtain ⟨p, c, hu⟩ := h2.out.slc
  subst hu
  exact ⟨_, _, _, _, _, _, h1, ints_nil _ _, Reads.low h2.out (fun _ _ _ => trivial), h3⟩
theorem levels_walk (W : World) (g : Gr) (v1 v2 : Value) (ga : GrIs W Any v1 v2 g) (gn : ∀ s, s ∈ g.names → s.size ≤ maxLen ∧ s.size ≤ reachBytes) (gz : g.names.length * 16 ≤ reachBytes ∧ g.rules.length * 32 ≤ reachBytes ∧ ∀ r, r ∈ g.rules → r.conj.length * 32 ≤ reachBytes ∧ ∀ c, c ∈ r.conj → c.seq.length * 24 ≤ reachBytes) (w0 : (Lit.int .i64 g.start).wf = true) :
    Calls Tryz.prog 3 #[.agg #[.int .i64 g.start, v1, v2]] W fun e W' => e = .returned (.bool true) ∧ Below W.heap.size W W' := by
  have hS : Short g.rules := fun r hr c hc => by have := (gz.2.2 r hr).2 c hc; unfold reachBytes at this; omega
  have hN : ∀ s, s ∈ g.names → s.size ≤ maxLen := fun s h => (gn s h).1
  have gz' : GSz reachBytes g := gz
  have KC : ∀ w2, Below W.heap.size W w2 → Calls Tryz.prog 4 #[.agg #[.int .i64 g.start, v1, v2]] w2 fun e w' => ∃ u1 u2, e = .returned (.agg #[.int .i64 g.start, u1, u2]) ∧ Hid (GrIs w' Any u1 u2 g) ∧ Hid (Below w2.heap.size w2 w') := fun w2 hb => (copyGr_any g v1 v2 w2 (ga.any hb) gz').mono fun e w' ⟨u1, u2, h1, h2, h3⟩ => ⟨u1, u2, h1, ⟨Reads.low h2.out.1 (fun _ _ _ => trivial), IsRus.low h2.out.2 (fun _ _ _ => trivial)⟩, h3⟩
  cases hM : mayG g with
  | false =>
    exact levels_core W g v1 v2 [] [] 800 ga (by simp) (by simp) KC (fun u1 u2 F w2 hg => (strata_no g u1 u2 w2 hg hN hS hM).mono fun e w' h => tells_no h) (fun w2 hb => (refStrata_no g v1 v2 w2 (ga.any hb) hN hM).mono fun e w' h => tells_no h)
  | true =>
    have hm := mayE_edges hM
    obtain ⟨h0, h1, hl⟩ := mayE_all hm
    cases hc : (edgesT g).find? (badE g.names.length (edgesT g)) with
    | none =>
      exact levels_core W g v1 v2 _ [] 0 ga (by rw [levL_length]; omega) (by simp) KC (fun u1 u2 F w2 hg => (strata_ok g u1 u2 w2 hg hN hS hM hc).mono fun e w' h => tells_ok h) (fun w2 hb => (refStrata_ok g v1 v2 w2 (ga.any hb) hN hM hc).mono fun e w' h => tells_ok h)
    | some t =>
      obtain ⟨D, hD⟩ := far_ex (edgesT g) t.1.toNat
      have htm := List.mem_of_find?_eq_some hc
      have hed := edB_lt (List.all_eq_true.1 hl t htm)
      refine levels_core W g v1 v2 [] (cycT (edgesT g) D t) 801 ga (by simp) ?_ KC (fun u1 u2 F w2 hg => (strata_cyc g u1 u2 w2 hg hN hS hM t hc).mono fun e w' ⟨u, f, h1, h2, h3, h4⟩ => tells_cyc ⟨u, h1, by rw [hD.unique h2.out]; exact h3, h4⟩) (fun w2 hb => (refStrata_cyc g v1 v2 w2 (ga.any hb) hN hM t hc D hD).mono fun e w' h => tells_cyc h)
      rw [cycT_length]
      have := far_le hl (by omega) hD t.2.1.toNat
      omega
end Go.Proofs.YtipnfiaphmddiaaGreat
/- Levels: any grammar's levels, or its cycle, are the document's; the grammar stays: at every argument, with no condition. -/
namespace Go.Proofs.YtipnfiaphmddiaaGreat
set_option linter.unusedVariables false
open Go.ChangeShapes Go.WideShapes Go.ChangeAt Go.RowKit


set_option linter.unusedVariables false
theorem levels_own : ownKnob Tryz.prog.godebug = none := by kernel_rfl
set_option maxRecDepth 100000 in
theorem levels_lifted (os : Os) (started : os.Started) (H : Type) (enc : TypeId × Value → H) :
    ReturnsInHanded {} Tryz.checked os 3 .any (Rows.levelsSpec.pre6 enc Tryz.prog Tryz.f3 Rows.levelsRow.domain false) (Rows.levelsSpec.post enc Tryz.prog Tryz.f3 false true false false) := by
  refine returnsInHanded_of_change_sized (C := Tryz.checked) levels_own started (by kernel_rfl) Tryz.func3
    (ChangeSpec.witness6 (enc := enc) (C := Tryz.checked) false ⟨#[], #[.agg #[.int .i64 0, .slice none 0 0, .slice none 0 0]], []⟩ 8 (by kernel_rfl) (by kernel_rfl) (by kernel_rfl) (by kernel_rfl)) ?_
  intro W base args ds gs before hval0 hW hcnd hsz0 _
  have hsz : (DataW.weightsEach Tryz.prog (Tryz.f3.params.toList ++ Rows.levelsSpec.plain.varTypes Tryz.prog) (ds ++ gs)).all (· ≤ reachBytes) = true := hsz0
  have hval : ∀ (j : Nat) t v, Tryz.f3.params[j]? = some t → args[j]? = some v → Value.okWide Tryz.prog W .any base t v := hval0
  have hW' := hW
  obtain ⟨p, q, hA0, hV, rfl, hfz, hnd⟩ := hW
  have hA : DataW.TrodAll enc Tryz.prog W 0 (fun _ => true) true Tryz.f3.params.toList args.toList ds p := hA0
  rw [Tryz.params3] at hA hval hsz
  obtain ⟨v0, vs0, d0, ds0, p0, q0, hargs, rfl, rfl, h0, r0⟩ := trodAll_cons hA
  obtain ⟨rfl, rfl, rfl⟩ := trodAll_nil r0
  obtain rfl : args = #[v0] := by cases args; simp_all
  obtain ⟨rfl, rfl⟩ := trodVars_none hV
  clear hA0 hval0 hsz0
  have k0 := h0
  have lt0 : ∀ x ∈ p0, x.block < W.heap.size := fun x hx => by have := hW'.lt x (by simp [hx]); simpa using this
  obtain ⟨cs0, rfl, op0⟩ := open_agg (j := 0) Tryz.structGr (hval 0 25 v0 rfl rfl) h0 (fun b o hm => hfz b o (by simp [hm])) hsz rfl rfl
  obtain ⟨g0, ga0, gb0, rfl, gi0, gn0, gs0, w0⟩ := op_gramZ op0
  refine (levels_walk W g0 ga0 gb0 gi0 gn0 gs0 w0).mono fun e W' ⟨he, bel⟩ => ?_
  subst he
  exact ⟨_, rfl, _, _, _, [], _, [], hW', trodAll_mk1 (shut_bool Tryz.underlying4 _), (trodAll_cons_mk (Below.trod Tryz.laidOutB (by kernel_rfl) (of_decide_eq_true (by kernel_rfl)) k0 bel lt0) trodAll_mk0), rfl, bel.frame _, fun h => by cases h⟩

set_option maxHeartbeats 8000000 in
theorem levels_closed : joinedFacts Tryz.checked.prog 3 Tryz.f3 Rows.levelsSpec Rows.levelsRow = true := by
  unfold joinedFacts
  iterate 31 (refine and_ok ?_ ?_)
  all_goals first | (with_reducible exact enter_ok) | (rw [lifts_no]; rfl) | (rw [make_cut]; rfl) | as_aux_lemma => kernel_rfl
theorem levels_holds : Rows.LevelsSaid :=
  OpenClaim.holds_of_wide 3 Tryz.f3 rfl rfl rfl rfl rfl rfl rfl ⟨rfl, rfl, rfl, rfl, rfl⟩ rfl rfl rfl rfl rfl (by kernel_rfl) Tryz.func3 levels_closed
    (of_decide_eq_true (by kernel_rfl)) (by unfold Func.isWrapper; first | (rw [if_pos (by decide +kernel)]; kernel_rfl) | (rw [if_neg (by decide +kernel)]; exact ⟨rfl, rfl⟩))
    (fun os started H enc _ => levels_lifted os started H enc)
#print axioms levels_holds
end Go.Proofs.YtipnfiaphmddiaaGreat
