import Derived.Test.YtejhdhlpdcfedaaGreatStrT
import Derived.Deep.LoopGhost
import Derived.Test.YtejhdhlpdcfedaaGreatStrTop
import Derived.Test.YtejhdhlpdcfedaaGreatHangR
/- The document's distances, way back and levels, as plain functions. No program in sight. -/
namespace Go.Proofs.YtejhdhlpdcfedaaGreat
set_option linter.unusedVariables false

theorem far_ex (l : List Ed) (g : Nat) : ∃ f, FarIs l g f := by
  refine ⟨fun i => open Classical in if h : ∃ k, St l k i g then ((Classical.choose (exists_least h) : Nat) : Int) else -1, fun i => ?_⟩
  by_cases h : ∃ k, St l k i g
  · right
    have h2 := Classical.choose_spec (exists_least h)
    exact ⟨_, dif_pos h, h2.1, h2.2⟩
  · left
    exact ⟨dif_neg h, fun k hk => h ⟨k, hk⟩⟩
/-- One edge in round r. -/
def fst1 (r : Nat) (f : Nat → Int) (e : Ed) : Nat → Int := if f e.1.toNat < 0 ∧ f e.2.1.toNat = (r : Int) - 1 then putZ f e.1.toNat (r : Int) else f
def frnd (r : Nat) (f : Nat → Int) : List Ed → Nat → Int
  | [] => f
  | e :: l => frnd r (fst1 r f e) l
def fit (l : List Ed) (g : Nat) : Nat → Nat → Int
  | 0 => putZ (fun _ => -1) g 0
  | r + 1 => frnd (r + 1) (fit l g r) l
theorem frnd_snoc (r : Nat) : ∀ (l : List Ed) (f : Nat → Int) (e : Ed), frnd r f (l ++ [e]) = fst1 r (frnd r f l) e
  | [], f, e => rfl
  | d :: l, f, e => frnd_snoc r l _ e
def cutZ (D : Nat → Int) (r : Nat) (i : Nat) : Int := if D i ≤ (r : Int) then D i else -1
def midZ (D : Nat → Int) (r : Nat) (m : List Ed) (i : Nat) : Int := if D i ≤ (r : Int) then D i else if D i = ((r + 1 : Nat) : Int) ∧ (m.any fun e => decide (e.1.toNat = i) && decide (D e.2.1.toNat = (r : Int))) = true then ((r + 1 : Nat) : Int) else -1
open Classical in
theorem midZ_val (D : Nat → Int) (r : Nat) (m : List Ed) (i : Nat) : midZ D r m i = if D i ≤ (r : Int) then D i else if D i = ((r + 1 : Nat) : Int) ∧ ∃ e, e ∈ m ∧ e.1.toNat = i ∧ D e.2.1.toNat = (r : Int) then ((r + 1 : Nat) : Int) else -1 := by
  unfold midZ
  have h : ((m.any fun e => decide (e.1.toNat = i) && decide (D e.2.1.toNat = (r : Int))) = true) ↔ ∃ e, e ∈ m ∧ e.1.toNat = i ∧ D e.2.1.toNat = (r : Int) := by
    simp [List.any_eq_true]
  by_cases h1 : D i ≤ (r : Int)
  · rw [if_pos h1, if_pos h1]
  · rw [if_neg h1, if_neg h1]
    by_cases h2 : D i = ((r + 1 : Nat) : Int) ∧ ∃ e, e ∈ m ∧ e.1.toNat = i ∧ D e.2.1.toNat = (r : Int)
    · rw [if_pos h2, if_pos ⟨h2.1, h.2 h2.2⟩]
    · rw [if_neg h2, if_neg fun x => h2 ⟨x.1, h.1 x.2⟩]
theorem FarIs.bound {l : List Ed} {g : Nat} {D : Nat → Int} (h : FarIs l g D) (i : Nat) : -1 ≤ D i := by
  rcases h i with ⟨h, _⟩ | ⟨d, h, _⟩ <;> omega
theorem FarIs.edge {l : List Ed} {g : Nat} {D : Nat → Int} (h : FarIs l g D) {e : Ed} (he : e ∈ l) (h0 : 0 ≤ D e.2.1.toNat) : 0 ≤ D e.1.toNat ∧ D e.1.toNat ≤ D e.2.1.toNat + 1 := by
  rcases h e.2.1.toNat with ⟨h1, _⟩ | ⟨d, h1, h2, _⟩
  · omega
  · have hs : St l (d + 1) e.1.toNat g := ⟨e, he, rfl, h2⟩
    rcases h e.1.toNat with ⟨_, h3⟩ | ⟨c, h3, _, h5⟩
    · exact absurd hs (h3 _)
    · have := h5 _ hs
      rw [h1, h3]; omega
theorem mid_step {l : List Ed} {g : Nat} {D : Nat → Int} (h : FarIs l g D) (r : Nat) (m : List Ed) {e : Ed} (he : e ∈ l) : fst1 (r + 1) (midZ D r m) e = midZ D r (m ++ [e]) := by
  have hto : midZ D r m e.2.1.toNat = ((r + 1 : Nat) : Int) - 1 ↔ D e.2.1.toNat = (r : Int) := by
    simp only [midZ_val]
    constructor
    · intro x
      split at x
      · omega
      · split at x <;> omega
    · intro x
      rw [if_pos (by omega)]; omega
  have hb := h.bound
  funext i
  unfold fst1
  by_cases hc : midZ D r m e.1.toNat < 0 ∧ midZ D r m e.2.1.toNat = ((r + 1 : Nat) : Int) - 1
  · rw [if_pos hc]
    have h1 := hto.1 hc.2
    obtain ⟨h2, h3⟩ := h.edge he (by omega)
    have h4 : D e.1.toNat = ((r + 1 : Nat) : Int) := by
      have h5 := hc.1
      rw [midZ_val] at h5
      split at h5
      · omega
      · omega
    by_cases x : i = e.1.toNat
    · subst x
      rw [putZ_same]
      simp only [midZ_val]
      rw [if_neg (by omega), if_pos ⟨h4, e, by simp, rfl, h1⟩]
    · rw [putZ_other _ _ x]
      simp only [midZ_val]
      split
      · rfl
      · congr 1
        apply propext
        constructor
        · rintro ⟨a, d, hd, b, c⟩; exact ⟨a, d, List.mem_append_left _ hd, b, c⟩
        · rintro ⟨a, d, hd, b, c⟩
          rcases List.mem_append.1 hd with hd | hd
          · exact ⟨a, d, hd, b, c⟩
          · obtain rfl : d = e := by simpa using hd
            exact absurd b.symm x
  · rw [if_neg hc]
    simp only [midZ_val]
    split
    · rfl
    · rename_i hi
      congr 1
      apply propext
      constructor
      · rintro ⟨a, d, hd, b, c⟩; exact ⟨a, d, List.mem_append_left _ hd, b, c⟩
      · rintro ⟨a, d, hd, b, c⟩
        rcases List.mem_append.1 hd with hd | hd
        · exact ⟨a, d, hd, b, c⟩
        · obtain rfl : d = e := by simpa using hd
          refine Classical.byContradiction fun hno => hc ⟨?_, hto.2 c⟩
          rw [b]
          simp only [midZ_val]
          rw [if_neg hi, if_neg hno]; omega
theorem mid_all {l : List Ed} {g : Nat} {D : Nat → Int} (h : FarIs l g D) (r : Nat) : ∀ (m k : List Ed), (∀ e, e ∈ k → e ∈ l) → frnd (r + 1) (midZ D r m) k = midZ D r (m ++ k)
  | m, [], _ => by rw [List.append_nil]; rfl
  | m, e :: k, hk => by
    show frnd (r + 1) (fst1 (r + 1) (midZ D r m) e) k = _
    rw [mid_step h r m (hk e List.mem_cons_self), mid_all h r (m ++ [e]) k fun d hd => hk d (List.mem_cons_of_mem _ hd), List.append_assoc]; rfl
theorem fit_cut {l : List Ed} {g : Nat} {D : Nat → Int} (h : FarIs l g D) : ∀ r, fit l g r = cutZ D r
  | 0 => by
    funext i
    show putZ _ g 0 i = _
    unfold cutZ
    by_cases x : i = g
    · subst x
      rw [putZ_same, h.goal]; rfl
    · rw [putZ_other _ _ x]
      split
      · rename_i hi
        have := h.bound i
        by_cases h0 : D i = 0
        · exact absurd (h.zero h0) x
        · have hi' : D i ≤ 0 := hi
          omega
      · rfl
  | r + 1 => by
    show frnd (r + 1) (fit l g r) l = _
    rw [fit_cut h r]
    have e1 : cutZ D r = midZ D r [] := by
      funext i
      unfold cutZ; rw [midZ_val]
      split
      · rfl
      · rw [if_neg]
        rintro ⟨_, d, hd, _⟩; simp at hd
    rw [e1, mid_all h r [] l (fun _ x => x), List.nil_append]
    funext i
    unfold cutZ; rw [midZ_val]
    split
    · rw [if_pos (by omega)]
    · rename_i hi
      split
      · rename_i hx
        rw [if_pos (by rw [hx.1]; exact Int.le_refl _), hx.1]
      · rename_i hx
        by_cases hd : D i = ((r + 1 : Nat) : Int)
        · obtain ⟨e, _, h2, h3, h4, _⟩ := h.next hd
          exact absurd ⟨hd, e, h2, h3, h4⟩ hx
        · rw [if_neg (by omega)]
theorem fit_far {n : Nat} {l : List Ed} {g : Nat} {D : Nat → Int} (hl : edsB (n : Int) l = true) (hg : g < n) (h : FarIs l g D) : fit l g n = D := by
  rw [fit_cut h]
  funext i
  unfold cutZ
  rw [if_pos (by have := far_le hl hg h i; omega)]
theorem fit_low {l : List Ed} {g : Nat} {D : Nat → Int} (h : FarIs l g D) (r : Nat) (m : List Ed) (hm : ∀ e, e ∈ m → e ∈ l) (i : Nat) : -1 ≤ frnd (r + 1) (fit l g r) m i ∧ frnd (r + 1) (fit l g r) m i ≤ ((r + 1 : Nat) : Int) := by
  have e1 : fit l g r = midZ D r [] := by
    rw [fit_cut h]
    funext i
    unfold cutZ; rw [midZ_val]
    split
    · rfl
    · rw [if_neg]
      rintro ⟨_, d, hd, _⟩; simp at hd
  rw [e1, mid_all h r [] m hm]
  have := h.bound i
  simp only [midZ_val]
  split
  · omega
  · split <;> omega
/-- The least of those that lead nearer, as far as looked at. -/
def bst (l m : List Ed) (f : Nat → Int) (a : Nat) : Int := ((m.find? (nextE l f a)).map fun e => e.2.1).getD (-1)
theorem bst_step {l : List Ed} {f : Nat → Int} {a : Nat} (hr : l.Pairwise fun x y => ltE x y = true) {n : Nat} (hl : edsB (n : Int) l = true) {k : Nat} {e : Ed} (he : l[k]? = some e) :
    bst l (l.take (k + 1)) f a = if (e.1.toNat = a ∧ f e.2.1.toNat = f a - 1) ∧ (bst l (l.take k) f a < 0 ∨ e.2.1 < bst l (l.take k) f a) then e.2.1 else bst l (l.take k) f a := by
  have ht : l.take (k + 1) = l.take k ++ [e] := by rw [List.take_add_one, he]; rfl
  rw [ht]
  unfold bst
  rw [List.find?_append]
  have hem : e ∈ l := List.mem_of_getElem? he
  have hed := edB_lt (List.all_eq_true.1 hl e hem)
  cases hf : (l.take k).find? (nextE l f a) with
  | none =>
    simp only [Option.none_or, Option.map_none, Option.getD_none]
    by_cases hx : e.1.toNat = a ∧ f e.2.1.toNat = f a - 1
    · have hn : nextE l f a e = true := by unfold nextE; simp [hx]
      rw [if_pos ⟨hx, Or.inl (by omega)⟩]
      simp [hn]
    · have hn : nextE l f a e = false := by
        rw [← Bool.not_eq_true]
        unfold nextE
        simpa using hx
      rw [if_neg fun y => hx y.1]
      simp [hn]
  | some d =>
    simp only [Option.some_or, Option.map_some, Option.getD_some]
    have hd1 := List.find?_some hf
    have hd2 := List.mem_of_find?_eq_some hf
    have hd3 : ltE d e = true := by
      obtain ⟨j, hj⟩ := List.mem_iff_getElem?.1 hd2
      rw [List.getElem?_take] at hj
      split at hj
      · rename_i hjk
        have hjl := (List.getElem?_eq_some_iff.1 hj).1
        have hkl := (List.getElem?_eq_some_iff.1 he).1
        have := (List.pairwise_iff_getElem.1 hr) j k hjl hkl hjk
        rw [(List.getElem?_eq_some_iff.1 hj).2, (List.getElem?_eq_some_iff.1 he).2] at this
        exact this
      · cases hj
    have hdl : d ∈ l := List.mem_of_mem_take hd2
    have hdd := edB_lt (List.all_eq_true.1 hl d hdl)
    rw [if_neg]
    rintro ⟨⟨h1, _⟩, h2⟩
    unfold nextE at hd1
    simp only [Bool.and_eq_true, decide_eq_true_eq] at hd1
    rw [ltE_iff] at hd3
    omega
theorem bst_all {n : Nat} {l : List Ed} {g : Nat} {f : Nat → Int} (hl : edsB (n : Int) l = true) (h : FarIs l g f) {a d : Nat} (ha : f a = ((d + 1 : Nat) : Int)) : bst l l f a = ((nxt l f a : Nat) : Int) := by
  obtain ⟨e, h1, h2, h3, h4, h5⟩ := h.next ha
  unfold bst
  rw [h1, h5]
  have := edB_lt (List.all_eq_true.1 hl e h2)
  simp; omega
theorem bst_low {n : Nat} {l : List Ed} (hl : edsB (n : Int) l = true) (f : Nat → Int) (a k : Nat) : -1 ≤ bst l (l.take k) f a ∧ bst l (l.take k) f a < n ∨ bst l (l.take k) f a = -1 := by
  unfold bst
  cases hf : (l.take k).find? (nextE l f a) with
  | none => right; rfl
  | some d =>
    left
    have hdd := edB_lt (List.all_eq_true.1 hl d (List.mem_of_mem_take (List.mem_of_find?_eq_some hf)))
    simp; omega
theorem raiE_max (f : Nat → Nat) (e : Ed) : raiE f e = putN f e.1.toNat (max (f e.1.toNat) (f e.2.1.toNat + stp e)) := by
  funext i
  rw [raiE_val]
  unfold putN
  by_cases x : i = e.1.toNat
  · subst x
    rw [if_pos rfl]
    split
    · rename_i h; rw [Nat.max_eq_right (Nat.le_of_lt h.1)]
    · rename_i h
      have : ¬ f e.1.toNat < f e.2.1.toNat + stp e := fun y => h ⟨y, rfl⟩
      rw [Nat.max_eq_left (by omega)]
  · rw [if_neg x, if_neg fun y => x y.2]
theorem it_more {n : Nat} {l : List Ed} (hl : edsB (n : Int) l = true) (hc : Clean l) : itL l (n + 1) = levT n l := it_fix (lev_sol hl hc) 1
end Go.Proofs.YtejhdhlpdcfedaaGreat
/- The document's far and way, against their plain functions. -/
namespace Go.Proofs.YtejhdhlpdcfedaaGreat
set_option linter.unusedVariables false
open Go.ChangeShapes Go.WideShapes Go.ChangeAt Go.RowKit

def pre1 (k : Nat) (i : Nat) : Int := if i < k then -1 else 0
theorem pre1_zero (n : Nat) : levL n (fun _ => 0) = farL n (pre1 0) := by
  unfold levL farL
  refine List.map_congr_left fun i _ => ?_
  unfold pre1
  rw [if_neg (by omega)]; rfl
theorem pre1_next (n k : Nat) (hk : k < n) : (farL n (pre1 k)).set k (-1) = farL n (pre1 (k + 1)) := by
  rw [farL_put _ hk]
  congr 1
  funext i
  unfold pre1
  by_cases e : i = k
  · subst e; rw [putZ_same, if_pos (by omega)]
  · rw [putZ_other _ _ e]
    by_cases h : i < k
    · rw [if_pos h, if_pos (by omega)]
    · rw [if_neg h, if_neg (by omega)]
theorem pre1_all (n : Nat) : farL n (pre1 n) = farL n (fun _ => -1) := by
  unfold farL
  refine List.map_congr_left fun i hi => ?_
  unfold pre1
  rw [if_pos (List.mem_range.1 hi)]
theorem take_frnd {l : List Ed} {k : Nat} {t : Ed} (ht : l[k]? = some t) (r : Nat) (f : Nat → Int) : frnd r f (l.take (k + 1)) = fst1 r (frnd r f (l.take k)) t := by
  rw [List.take_add_one, ht]; exact frnd_snoc _ _ _ _
set_option maxHeartbeats 4000000 in
set_option maxRecDepth 100000 in
theorem refFar_any (n g : Nat) (v : Value) (l : List Ed) (w : World) (D : Nat → Int) {F : Nat → Prop} (ha : IsEds w F v l) (hm : mayE (n : Int) l = true) (hg : g < n) (hD : FarIs l g D) :
    Calls Tryz.prog 65 #[.int .i64 (n : Int), v, .int .i64 (g : Int)] w fun e w' => e = .returned (.slice (some ⟨w.heap.size, 0, none⟩) n n) ∧ Hid (ZAt w' w.heap.size (farL n D)) ∧ Hid (Below w.heap.size w w') := by
  obtain ⟨h0, h1, hl⟩ := mayE_all hm
  have hn : n ≤ 64 := by omega
  obtain ⟨p, cp, rfl⟩ := ha.slc
  have hm9 : l.length ≤ 9223372036854775807 := by have := ha.len; unfold maxLen at this; omega
  have HA : Hid (IsEds w F (.slice p l.length cp) l) := ha
  have HL : Hid (edsB (n : Int) l = true) := hl
  have HD : Hid (FarIs l g D) := hD
  have hmk := make_ints n hn w
  rw [pre1_zero] at hmk
  obtain ⟨W1, hW1⟩ : ∃ W1, W1 = w.alloc (.cells (intsA (farL n (pre1 0))) 3) := ⟨_, rfl⟩
  rw [← hW1] at hmk
  have HZ1 : Hid (ZAt W1 w.heap.size (farL n (pre1 0))) := by rw [hW1]; exact ZAt.new w _
  have HB1 : Hid (Below w.heap.size w W1) := by rw [hW1]; exact bel1 _ _
  obtain ⟨B, hB⟩ : ∃ B, B = w.heap.size := ⟨_, rfl⟩
  have HBB : Hid (B = w.heap.size) := hB
  rw [← hB] at hmk HZ1 HB1 ⊢
  clear ha hm h0 h1 hl hD hB hW1
  go_enter Tryz.func65, Tryz.ntmps65
  go_wp2
  go_loopw [8] (fun x wr => ∃ k : Nat, k ≤ n ∧ x = .int .i64 k ∧ Hid (ZAt wr B (farL n (pre1 k))) ∧ Hid (Below B w wr)) (fun x _ => n - (intOf x).toNat)
  case atStart => exact ⟨0, Nat.zero_le _, rfl, HZ1, HB1⟩
  case round =>
    obtain ⟨k, hk, rfl, HZ, HB⟩ := hrel
    by_cases hlt : k < n
    · have c0 := HZ.out.cell (farL_at (pre1 k) hlt)
      have f0 := HZ.out.frozen k
      have HZ2 : Hid (ZAt (wr.setCell ⟨B, k, none⟩ (.int .i64 (-1))) B (farL n (pre1 (k + 1)))) := by
        show ZAt _ _ _
        rw [← pre1_next n k hlt]; exact HZ.out.put k (-1)
      have HB2 : Hid (Below B w (wr.setCell ⟨B, k, none⟩ (.int .i64 (-1)))) := HB.out.setCell (p := ⟨B, k, none⟩) (Nat.le_refl _) _
      go_wp2
      go_roundw
      case rel => exact ⟨k + 1, by omega, by go_num, HZ2, HB2⟩
      case measure => simp [intOf]; omega
    · obtain rfl : k = n := by omega
      rw [pre1_all] at HZ
      have c0 := HZ.out.cell (farL_at (fun _ => -1) hg)
      have f0 := HZ.out.frozen g
      have HZ2 : Hid (ZAt (wr.setCell ⟨B, g, none⟩ (.int .i64 0)) B (farL k (fit l g 0))) := by
        show ZAt _ _ _
        have := HZ.out.put g 0
        rw [farL_put _ hg] at this
        exact this
      have HB2 : Hid (Below B w (wr.setCell ⟨B, g, none⟩ (.int .i64 0))) := HB.out.setCell (p := ⟨B, g, none⟩) (Nat.le_refl _) _
      clear HZ HB
      go_wp2
      go_loopw [9] (fun x wr => ∃ r : Nat, r ≤ k ∧ x = .int .i64 ((r : Int) + 1) ∧ Hid (ZAt wr B (farL k (fit l g r))) ∧ Hid (Below B w wr)) (fun x _ => k + 1 - (intOf x).toNat)
      case atStart => exact ⟨0, Nat.zero_le _, rfl, HZ2, HB2⟩
      case round =>
        obtain ⟨r, hr, rfl, HZ, HB⟩ := hrel
        by_cases hlt2 : r < k
        · have hle : (r : Int) + 1 ≤ (k : Int) := by omega
          go_wp2
          go_loopw [10] (fun x wr => ∃ q : Nat, q ≤ l.length ∧ x = .int .i64 q ∧ Hid (ZAt wr B (farL k (frnd (r + 1) (fit l g r) (l.take q)))) ∧ Hid (Below B w wr)) (fun x _ => l.length - (intOf x).toNat)
          case atStart => exact ⟨0, Nat.zero_le _, rfl, HZ, HB⟩
          case round =>
            obtain ⟨q, hq, rfl, HZq, HBq⟩ := hrel
            by_cases hlq : q < l.length
            · obtain ⟨t, ht⟩ : ∃ t, l[q]? = some t := ⟨_, List.getElem?_eq_getElem hlq⟩
              obtain ⟨g1, o1, hp, hg1, a0, a1, a2⟩ := (HA.out.any (by rw [← HBB.out]; exact HBq.out)).at ht
              subst hp
              have hed := edB_lt (List.all_eq_true.1 HL.out t (List.mem_of_getElem? ht))
              obtain ⟨F0, hF0⟩ : ∃ F0, F0 = frnd (r + 1) (fit l g r) (l.take q) := ⟨_, rfl⟩
              have e1 := take_frnd ht (r + 1) (fit l g r)
              have hlow : ∀ i, -1 ≤ F0 i ∧ F0 i ≤ ((r + 1 : Nat) : Int) := fun i => by rw [hF0]; exact fit_low HD.out r _ (fun e he => List.mem_of_mem_take he) i
              rw [← hF0] at HZq e1
              obtain ⟨t0, t1, t2⟩ := t
              simp only at a0 a1 a2 hed
              obtain ⟨x, rfl⟩ : ∃ x : Nat, t0 = (x : Int) := ⟨t0.toNat, by omega⟩
              obtain ⟨y, rfl⟩ : ∃ y : Nat, t1 = (y : Int) := ⟨t1.toNat, by omega⟩
              have hx : x < k := by omega
              have hy : y < k := by omega
              have cx := HZq.out.cell (farL_at F0 hx)
              have cy := HZq.out.cell (farL_at F0 hy)
              have fx := HZq.out.frozen x
              have HE : Hid (frnd (r + 1) (fit l g r) (l.take (q + 1)) = fst1 (r + 1) F0 ((x : Int), (y : Int), t2)) := e1
              have l1 := hlow x
              have l2 := hlow y
              obtain ⟨zx, hzx⟩ : ∃ z, z = F0 x := ⟨_, rfl⟩
              obtain ⟨zy, hzy⟩ : ∃ z, z = F0 y := ⟨_, rfl⟩
              have HZX : Hid (zx = F0 x ∧ zy = F0 y) := ⟨hzx, hzy⟩
              rw [← hzx] at cx l1
              rw [← hzy] at cy l2
              clear ht hed hF0 e1 hlow hzx hzy a2
              by_cases c1 : zx < 0
              · by_cases c2 : zy = (r : Int)
                · have HN : Hid (ZAt (wr.setCell ⟨B, x, none⟩ (.int .i64 ((r : Int) + 1))) B (farL k (frnd (r + 1) (fit l g r) (l.take (q + 1))))) := by
                    show ZAt _ _ _
                    rw [HE.out]
                    unfold fst1
                    rw [if_pos (by simp only [Int.toNat_natCast]; rw [← HZX.out.1, ← HZX.out.2]; exact ⟨c1, by omega⟩)]
                    have := HZq.out.put x ((r : Int) + 1)
                    rw [farL_put _ hx] at this
                    exact this
                  have HB3 : Hid (Below B w (wr.setCell ⟨B, x, none⟩ (.int .i64 ((r : Int) + 1)))) := HBq.out.setCell (p := ⟨B, x, none⟩) (Nat.le_refl _) _
                  subst c2
                  go_wp2
                  go_roundw
                  case rel => exact ⟨q + 1, by omega, by go_num, HN, HB3⟩
                  case measure => simp [intOf]; omega
                · have HN : Hid (frnd (r + 1) (fit l g r) (l.take (q + 1)) = F0) := by
                    show _ = _
                    rw [HE.out]
                    unfold fst1
                    rw [if_neg]
                    simp only [Int.toNat_natCast]
                    rw [← HZX.out.2]
                    rintro ⟨_, h⟩; omega
                  have c3 : (zy == (r : Int)) = false := by simpa using c2
                  go_wp2
                  go_roundw
                  case rel => exact ⟨q + 1, by omega, by go_num, by rw [HN.out]; exact HZq, HBq⟩
                  case measure => simp [intOf]; omega
              · have HN : Hid (frnd (r + 1) (fit l g r) (l.take (q + 1)) = F0) := by
                  show _ = _
                  rw [HE.out]
                  unfold fst1
                  rw [if_neg]
                  simp only [Int.toNat_natCast]
                  rw [← HZX.out.1]
                  rintro ⟨h, _⟩; omega
                clear cy
                go_wp2
                go_roundw
                case rel => exact ⟨q + 1, by omega, by go_num, by rw [HN.out]; exact HZq, HBq⟩
                case measure => simp [intOf]; omega
            · obtain rfl : q = l.length := by omega
              rw [List.take_length] at HZq
              go_wp2
              go_roundw
              case rel => exact ⟨r + 1, by omega, by go_num, HZq, HBq⟩
              case measure => simp [intOf]; omega
        · obtain rfl : r = k := by omega
          rw [fit_far HL.out hg HD.out] at HZ
          have hgt : ¬ (r : Int) + 1 ≤ (r : Int) := by omega
          go_wp2
          go_ret
          exact ⟨rfl, HZ, HB⟩
set_option maxHeartbeats 8000000 in
set_option maxRecDepth 100000 in
theorem refWay_any (n a0 g d0 : Nat) (v : Value) (l : List Ed) (w : World) (D : Nat → Int) {F : Nat → Prop} (ha : IsEds w F v l) (hm : mayE (n : Int) l = true) (hr : l.Pairwise fun x y => ltE x y = true) (hg : g < n) (ha0 : a0 < n) (hD : FarIs l g D) (hd : D a0 = (d0 : Int)) :
    Calls Tryz.prog 40 #[.int .i64 (n : Int), v, .int .i64 (a0 : Int), .int .i64 (g : Int)] w fun e w' => ∃ u, e = .returned u ∧ Hid (Reads w' (fun i => w.heap.size ≤ i) u d0 (natsV (wayT l D d0 a0))) ∧ Hid (Below w.heap.size w w') := by
  obtain ⟨h0, h1, hl⟩ := mayE_all hm
  have hn : n ≤ 64 := by omega
  have KF := refFar_any n g v l w D ha hm hg hD
  obtain ⟨p, cp, rfl⟩ := ha.slc
  have hm9 : l.length ≤ 9223372036854775807 := by have := ha.len; unfold maxLen at this; omega
  have HA : Hid (IsEds w F (.slice p l.length cp) l) := ha
  have HL : Hid (edsB (n : Int) l = true) := hl
  have HD : Hid (FarIs l g D) := hD
  have HR : Hid (l.Pairwise fun x y => ltE x y = true) := hr
  have HD0 : Hid (D a0 = (d0 : Int)) := hd
  have hdn : d0 ≤ 64 := by have := far_le hl hg hD a0; omega
  obtain ⟨i0, hi0, hzz, hzs, hzb⟩ := info_parts Tryz.infoInt
  clear ha hm h0 h1 hl hD hr hd
  go_enter Tryz.func40, Tryz.ntmps40
  go_wp2_with (go_at_call 65; refine KF.mono ?_; rintro e w2 ⟨rfl, HZ, HB2⟩)
  obtain ⟨B, hB⟩ : ∃ B, B = w.heap.size := ⟨_, rfl⟩
  have HBB : Hid (B = w.heap.size) := hB
  rw [← hB] at HZ HB2 ⊢
  clear hB KF
  have hB2 : B < w2.heap.size := HZ.out.lt
  go_loopg [10, 11] d0 (fun gk o z wr => ∃ (a : Nat) (acc : List Nat), z = .int .i64 (a : Int) ∧ a < n ∧ gk ≤ d0 ∧ Hid (D a = (gk : Int)) ∧ Hid (acc ++ wayT l D gk a = wayT l D d0 a0) ∧ Hid (wr.ownsRow w2.heap.size 3 1 o acc.length (natsV acc)) ∧ Hid (Below w2.heap.size w2 wr))
  case atStart => exact ⟨a0, [], rfl, ha0, Nat.le_refl _, HD0, rfl, World.ownsRow_nil _ _ _ _, Below.refl _ _⟩
  case round =>
    obtain ⟨a, acc, rfl, han, hgk, HFA, HW2, HO, HBw⟩ := hrel
    have hal : acc.length + gk = d0 := by
      have := congrArg List.length HW2.out
      simp only [List.length_append, wayT_length] at this
      omega
    obtain ⟨p8, c8, ho⟩ := row_slice HO.out
    subst ho
    cases gk with
    | zero =>
      have hax : a = g := HD.out.zero HFA.out
      subst hax
      have HI2 : Hid (Reads wr (fun i => B ≤ i) (.slice p8 acc.length c8) d0 (natsV (wayT l D d0 a0))) := by
        have h1 := Reads.of (F := fun i => B ≤ i) HO.out (fun b hb => by have := (HO.out.lt b hb).1; show _ ≤ _; omega)
        have h2 : acc = wayT l D d0 a0 := by have := HW2.out; simpa [wayT] using this
        show Reads _ _ _ _ _
        rw [← h2]
        have h3 : acc.length = d0 := by omega
        rw [h3] at h1 ⊢
        exact h1
      have HE : Hid (Below B w wr) := HB2.out.trans (HBw.out.mono (Nat.le_of_lt hB2))
      clear hal
      go_wp2
      go_ret
      exact ⟨_, rfl, by rw [← HBB.out]; exact HI2, by rw [← HBB.out]; exact HE⟩
    | succ m =>
      have hax : ¬ a = g := fun e => by
        have h1 := HD.out.goal
        have h2 := HFA.out
        rw [e, h1] at h2; omega
      have c3 : ((a : Int) == (g : Int)) = false := by simp; omega
      obtain ⟨e9, hfi, he9, h9a, h9b, h9c⟩ := HD.out.next HFA.out
      have HNX : Hid (D (nxt l D a) = (m : Int) ∧ nxt l D a < n) := ⟨by rw [h9c]; exact h9b, by rw [h9c]; exact (eds_lt HL.out he9).2⟩
      have HBS : Hid (bst l l D a = ((nxt l D a : Nat) : Int)) := bst_all HL.out HD.out HFA.out
      have HW3 : Hid ((acc ++ [a]) ++ wayT l D m (nxt l D a) = wayT l D d0 a0) := by show _ = _; rw [← HW2.out, List.append_assoc]; rfl
      have HSV : Hid (natsV (acc ++ [a]) = natsV acc ++ [.int .i64 (a : Int)]) := by show _ = _; simp [natsV]
      have MX : acc.length + 1 ≤ maxLen := by unfold maxLen; omega
      have BY : (acc.length + 1) * 8 ≤ 140737488355328 := by omega
      have BS : w2.heap.size ≤ wr.heap.size := HBw.out.size
      clear hfi he9 h9a h9b h9c hal hax
      go_wp2_with (at_builtin; refine wpList_append_own _ rfl _ _ 44 rfl w2.heap.size 3 i0 (.int .i64 0) 1 8 Tryz.underlying44 hi0 hzz hzs hzb rfl (by decide) _ _ _ rfl (HO.out.alloc _) ⟨wr.heap.size, 0, none⟩ 1 1 [.int .i64 (a : Int)] rfl rfl (news1 wr _ _) ?c2 MX BY ?c5 ?_)
      case c2 => intro u hu; simp at hu; subst hu; rfl
      case c5 => simp; omega
      intro v' w3 hown' hgrow _
      have HO3 : Hid (w3.ownsRow w2.heap.size 3 1 v' (acc.length + 1) (natsV (acc ++ [a]))) := by show World.ownsRow _ _ _ _ _ _ _; rw [HSV.out]; exact hown'
      have HB3w : Hid (Below w2.heap.size w2 w3) := (HBw.out.alloc HBw.out.size _).grown hgrow (by simp; omega) (fun g hg => (HO.out.lt g hg).1)
      obtain ⟨p9, c9, hv9⟩ := row_slice hown'
      subst hv9
      clear hown' hgrow
      go_wp2
      go_loopw [12, 13] (fun b x wr => ∃ j : Nat, j ≤ l.length ∧ x = .int .i64 j ∧ b = .int .i64 (bst l (l.take j) D a) ∧ Hid (Below w3.heap.size w3 wr)) (fun _ x _ => l.length - (intOf x).toNat)
      case atStart => exact ⟨0, Nat.zero_le _, rfl, rfl, Below.refl _ _⟩
      case round =>
        obtain ⟨j, hj, rfl, rfl, HBj⟩ := hrel
        have HBy : Hid (Below w2.heap.size w2 wr) := HB3w.out.trans (HBj.out.mono HB3w.out.size)
        have HBx : Hid (Below w.heap.size w wr) := by rw [← HBB.out]; exact HB2.out.trans (HBy.out.mono (Nat.le_of_lt hB2))
        by_cases hlj : j < l.length
        · obtain ⟨t, ht⟩ : ∃ t, l[j]? = some t := ⟨_, List.getElem?_eq_getElem hlj⟩
          obtain ⟨g1, o1, hp, hg1, a0', a1, a2⟩ := (HA.out.any HBx.out).at ht
          subst hp
          have hed := edB_lt (List.all_eq_true.1 HL.out t (List.mem_of_getElem? ht))
          have hst := bst_step (f := D) (a := a) HR.out HL.out ht
          have hlow := bst_low HL.out D a j
          obtain ⟨t0, t1, t2⟩ := t
          simp only at a0' a1 a2 hed hst
          obtain ⟨x, rfl⟩ : ∃ x : Nat, t0 = (x : Int) := ⟨t0.toNat, by omega⟩
          obtain ⟨y, rfl⟩ : ∃ y : Nat, t1 = (y : Int) := ⟨t1.toNat, by omega⟩
          rw [Int.toNat_natCast, Int.toNat_natCast] at hst
          have hx : x < n := by omega
          have hy : y < n := by omega
          have zw : ZAt wr B (farL n D) := HZ.out.keep HBy.out
          have cy := zw.cell (farL_at D hy)
          have ca := zw.cell (farL_at D han)
          obtain ⟨b, hb⟩ : ∃ b, b = bst l (l.take j) D a := ⟨_, rfl⟩
          rw [← hb] at hst hlow ⊢
          have bz : -1 ≤ D y ∧ D y ≤ 64 := ⟨HD.out.bound y, by have := far_le HL.out hg HD.out y; omega⟩
          have ba : -1 ≤ D a ∧ D a ≤ 64 := ⟨HD.out.bound a, by have := far_le HL.out hg HD.out a; omega⟩
          obtain ⟨zy, hzy⟩ : ∃ z, z = D y := ⟨_, rfl⟩
          obtain ⟨za, hza⟩ : ∃ z, z = D a := ⟨_, rfl⟩
          rw [← hzy] at cy bz hst
          rw [← hza] at ca ba hst
          have hb64 : -1 ≤ b ∧ b ≤ 64 := by omega
          clear ht hed hb hzy hza zw a2 hlow
          by_cases k1 : x = a
          · subst k1
            have e0 : x = x := rfl
            by_cases k2 : zy = za - 1
            · have k3 : (zy == za - 1) = true := by simpa using k2
              have k4 : decide (zy = za - 1) = true := by simpa using k2
              by_cases k5 : b < 0
              · have HN : Hid (bst l (l.take (j + 1)) D x = (y : Int)) := by show _ = _; rw [hst, if_pos ⟨⟨rfl, k2⟩, Or.inl k5⟩]
                have k6 : decide (b < 0) = true := by simpa using k5
                clear hst k2
                go_wp2
                go_quiet (fail)
                go_wp2
                go_roundw
                case rel => exact ⟨j + 1, by omega, by go_num, by rw [HN.out], bel_drewN HBj.out⟩
                case measure => simp [intOf]; omega
              · have k6 : decide (b < 0) = false := by simpa using k5
                by_cases k7 : (y : Int) < b
                · have HN : Hid (bst l (l.take (j + 1)) D x = (y : Int)) := by show _ = _; rw [hst, if_pos ⟨⟨rfl, k2⟩, Or.inr k7⟩]
                  have k8 : decide ((y : Int) < b) = true := by simpa using k7
                  clear hst k2
                  go_wp2
                  go_quiet (fail)
                  go_wp2
                  go_roundw
                  case rel => exact ⟨j + 1, by omega, by go_num, by rw [HN.out], bel_drewN HBj.out⟩
                  case measure => simp [intOf]; omega
                · have HN : Hid (bst l (l.take (j + 1)) D x = b) := by show _ = _; rw [hst, if_neg fun h => h.2.elim k5 k7]
                  have k8 : decide ((y : Int) < b) = false := by simpa using k7
                  clear hst k2
                  go_wp2
                  go_quiet (fail)
                  go_wp2
                  go_roundw
                  case rel => exact ⟨j + 1, by omega, by go_num, by rw [HN.out], bel_drewN HBj.out⟩
                  case measure => simp [intOf]; omega
            · have HN : Hid (bst l (l.take (j + 1)) D x = b) := by show _ = _; rw [hst, if_neg fun h => k2 h.1.2]
              have k3 : (zy == za - 1) = false := by simpa using k2
              have k4 : decide (zy = za - 1) = false := by simpa using k2
              clear hst k2
              go_wp2
              go_quiet (fail)
              go_wp2
              go_roundw
              case rel => exact ⟨j + 1, by omega, by go_num, by rw [HN.out], bel_drewN HBj.out⟩
              case measure => simp [intOf]; omega
          · have HN : Hid (bst l (l.take (j + 1)) D a = b) := by show _ = _; rw [hst, if_neg fun h => k1 h.1.1]
            have k3 : ((x : Int) == (a : Int)) = false := by simp; omega
            have k4 : decide (x = a) = false := by simpa using k1
            clear hst
            go_wp2
            go_quiet (fail)
            go_wp2
            go_roundw
            case rel => exact ⟨j + 1, by omega, by go_num, by rw [HN.out], bel_drewN HBj.out⟩
            case measure => simp [intOf]; omega
        · obtain rfl : j = l.length := by omega
          rw [List.take_length, HBS.out]
          have HO4 : Hid (wr.ownsRow w2.heap.size 3 1 (.slice p9 (acc.length + 1) c9) (acc ++ [a]).length (natsV (acc ++ [a]))) := by
            show World.ownsRow _ _ _ _ _ _ _
            rw [List.length_append]
            exact row_keep HO3.out HBj.out
          go_wp2
          go_roundg m
          case measure => omega
          case rel => exact ⟨nxt l D a, acc ++ [a], rfl, HNX.out.2, by omega, HNX.out.1, HW3, HO4, HBy⟩
end Go.Proofs.YtejhdhlpdcfedaaGreat
