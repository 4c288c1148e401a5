/- The turn of begin (package first): what its row may begin with is taken up by the head. -/
import Derived.Test.YtopokicdgdjgkaaFirA
import Derived.Test.YtopokicdgdjgkaaRanB
import Derived.BigQuiet
import Derived.Deep.QuietTactic
import Derived.Test.YtopokicdgdjgkaaEq
namespace Go.Proofs.Ytopokicdgdjgkaa
set_option linter.unusedVariables false
set_option linter.unusedSimpArgs false
open Go.ChangeShapes Go.WideShapes Go.ChangeAt Go.RowKit Go.Shelf
attribute [local go_sem] Oper.semAt_some

/-- What may come where a row stands ahead of nothing. -/
def comT (E : Nat → Bool) (B : Nat → Nat → Nat) : List Sy → (Nat → Nat) × Bool
  | [] => (zB, false)
  | s :: l => aheadT E B s (comT E B l)
theorem hid_ofF {p : Prop} (h : p) : Hid p := h
theorem okB_zB : okB zB := fun i => by unfold zB; decide
theorem ahead_ok {E : Nat → Bool} {B : Nat → Nat → Nat} (hB : ∀ k, okB (B k)) {s : Sy} {c : (Nat → Nat) × Bool} (hc : okB c.1) : okB (aheadT E B s c).1 := by
  unfold aheadT
  split
  · exact okB_rng _ _
  · split
    · exact hB _
    · exact okB_or (hB _) hc
theorem comT_ok {E : Nat → Bool} {B : Nat → Nat → Nat} (hB : ∀ k, okB (B k)) : ∀ l, okB (comT E B l).1
  | [] => okB_zB
  | s :: l => ahead_ok hB (comT_ok hB l)
theorem comT_drop {E : Nat → Bool} {B : Nat → Nat → Nat} {l : List Sy} {k : Nat} {s : Sy} (h : l[k]? = some s) : comT E B (l.drop k) = aheadT E B s (comT E B (l.drop (k + 1))) := by
  have hk := (List.getElem?_eq_some_iff.1 h).1
  have e : l.drop k = s :: l.drop (k + 1) := by
    rw [List.drop_eq_getElem_cons hk]
    have : l[k] = s := (List.getElem?_eq_some_iff.1 h).2
    rw [this]
  rw [e]; rfl
def unlikeB (a b : Nat → Nat) : Bool := !((a 0 == b 0) && ((a 1 == b 1) && ((a 2 == b 2) && (a 3 == b 3))))
def updB (B : Nat → Nat → Nat) (h : Nat) (a : Nat → Nat) : Nat → Nat → Nat := fun k => if k = h then a else B k
/-- A turn: the head takes up what its row may begin with. -/
def trB (E : Nat → Bool) (B : Nat → Nat → Nat) (h : Int) (l : List Sy) : Bool × (Nat → Nat → Nat) :=
  if unlikeB (orB (B h.toNat) (comT E B l).1) (B h.toNat) = true then (true, updB B h.toNat (orB (B h.toNat) (comT E B l).1)) else (false, B)

/-- What is no row stays. -/
theorem keeps_but {b : Nat} {W W' : World} (h : But W.heap.size b W W') (hb : ∀ o, W.heap[b]? = some o → o.isCells = true) : KeepsOthers W W' := ⟨h.size, fun k o hk ho => by
  by_cases e : k = b
  · subst e; rw [hb o hk] at ho; cases ho
  · exact (h.block k (Array.getElem?_eq_some_iff.1 hk).1 e).trans hk⟩
theorem but_below {B b B' : Nat} {X W W' : World} (h : But B b X W) (hb : Below B' W W') (hB : B ≤ B') : But B b X W' := h.trans ((But.of hb).mono hB)
/-- Five cells: what may come, in a box. -/
abbrev fc (c : (Nat → Nat) × Bool) : Array Value := #[.int .u64 ((c.1 0 : Nat) : Int), .int .u64 ((c.1 1 : Nat) : Int), .int .u64 ((c.1 2 : Nat) : Int), .int .u64 ((c.1 3 : Nat) : Int), .bool c.2]
def ComAt (w : World) (b : Nat) (c : (Nat → Nat) × Bool) : Prop := w.heap[b]? = some (.cells (fc c) 55)
theorem ComAt.lt {w : World} {b : Nat} {c : (Nat → Nat) × Bool} (h : ComAt w b c) : b < w.heap.size := block_lt h
theorem ComAt.cell {w : World} {b : Nat} {c : (Nat → Nat) × Bool} (h : ComAt w b c) {k : Nat} {v : Value} (hv : (fc c)[k]? = some v) : w.cell? ⟨b, k, none⟩ = some v := (Lib.cell_of_heap h k).trans hv
theorem ComAt.frz {w : World} {b : Nat} {c : (Nat → Nat) × Bool} (h : ComAt w b c) (k : Nat) : w.frozen? ⟨b, k, none⟩ = false := frzV h k
abbrev setC (w : World) (b : Nat) (d : (Nat → Nat) × Bool) : World := ((((w.setCell ⟨b, 0, none⟩ (.int .u64 ((d.1 0 : Nat) : Int))).setCell ⟨b, 1, none⟩ (.int .u64 ((d.1 1 : Nat) : Int))).setCell ⟨b, 2, none⟩ (.int .u64 ((d.1 2 : Nat) : Int))).setCell ⟨b, 3, none⟩ (.int .u64 ((d.1 3 : Nat) : Int))).setCell ⟨b, 4, none⟩ (.bool d.2)
theorem but_setC {B b : Nat} {a w : World} (h : But B b a w) (d : (Nat → Nat) × Bool) : But B b a (setC w b d) := but_setF (but_setF (but_setF (but_setF (but_setF h _) _) _) _) _
theorem ComAt.set {w : World} {b : Nat} {c : (Nat → Nat) × Bool} (h : ComAt w b c) (d : (Nat → Nat) × Bool) :
    ComAt (setC w b d) b d := four_set h
theorem may_symD {n : Nat} {l : List Sy} (hm : ∀ s, s ∈ l → maySym n s = true) (x : Nat) : maySym n (symD l x) = true := by
  unfold symD
  rw [List.getD_eq_getElem?_getD]
  cases h9 : l[x]? with
  | none => show maySym n ⟨-1, 0, 0⟩ = true; unfold maySym; rw [if_pos rfl]; decide
  | some s => exact hm s (List.mem_of_getElem? h9)
theorem bysA_get (n : Nat) (B : Nat → Nat → Nat) (i : Nat) : (bysA n B)[i]? = if i < n * 4 then some (.int .u64 ((B (i / 4) (i % 4) : Nat) : Int)) else none := by
  unfold bysA
  by_cases h : i < n * 4
  · rw [if_pos h]; simp only [List.getElem?_toArray, List.getElem?_map, List.getElem?_range h, Option.map_some]
  · rw [if_neg h]; simp only [List.getElem?_toArray]; rw [List.getElem?_eq_none]; simp; omega
theorem bysA_size (n : Nat) (B : Nat → Nat → Nat) : (bysA n B).size = n * 4 := by unfold bysA; simp
theorem bysA_put {n k : Nat} (B : Nat → Nat → Nat) (a : Nat → Nat) (hk : k < n) :
    ((((bysA n B).setIfInBounds (k * 4) (.int .u64 ((a 0 : Nat) : Int))).setIfInBounds (k * 4 + 1) (.int .u64 ((a 1 : Nat) : Int))).setIfInBounds (k * 4 + 2) (.int .u64 ((a 2 : Nat) : Int))).setIfInBounds (k * 4 + 3) (.int .u64 ((a 3 : Nat) : Int)) = bysA n (updB B k a) := by
  apply Array.ext_getElem?
  intro i
  simp only [Array.getElem?_setIfInBounds, Array.size_setIfInBounds, bysA_size, bysA_get]
  unfold updB
  by_cases h3 : k * 4 + 3 = i
  · subst h3
    rw [if_pos rfl, if_pos (by omega), if_pos (by omega), show (k * 4 + 3) / 4 = k by omega, show (k * 4 + 3) % 4 = 3 by omega, if_pos rfl]
  rw [if_neg h3]
  by_cases h2 : k * 4 + 2 = i
  · subst h2
    rw [if_pos rfl, if_pos (by omega), if_pos (by omega), show (k * 4 + 2) / 4 = k by omega, show (k * 4 + 2) % 4 = 2 by omega, if_pos rfl]
  rw [if_neg h2]
  by_cases h1 : k * 4 + 1 = i
  · subst h1
    rw [if_pos rfl, if_pos (by omega), if_pos (by omega), show (k * 4 + 1) / 4 = k by omega, show (k * 4 + 1) % 4 = 1 by omega, if_pos rfl]
  rw [if_neg h1]
  by_cases h0 : k * 4 = i
  · subst h0
    rw [if_pos rfl, if_pos (by omega), if_pos (by omega), show (k * 4) / 4 = k by omega, show (k * 4) % 4 = 0 by omega, if_pos rfl]
  rw [if_neg h0]
  by_cases hi : i < n * 4
  · rw [if_pos hi, if_pos hi, if_neg (by omega)]
  · rw [if_neg hi, if_neg hi]
theorem bysA_same {n : Nat} {B C : Nat → Nat → Nat} (h : ∀ i j, j < 4 → B i j = C i j) : bysA n B = bysA n C := by
  apply Array.ext_getElem?
  intro i
  rw [bysA_get, bysA_get, h _ _ (by omega)]
theorem quad_set {w : World} {b : Nat} {x0 x1 x2 x3 y0 y1 y2 y3 : Value} {t : TypeId} (h : w.heap[b]? = some (.cells #[x0, x1, x2, x3] t)) :
    ((((w.setCell ⟨b, 0, none⟩ y0).setCell ⟨b, 1, none⟩ y1).setCell ⟨b, 2, none⟩ y2).setCell ⟨b, 3, none⟩ y3).heap[b]? = some (.cells #[y0, y1, y2, y3] t) := by
  have h0 := heap_setCell_same w b 0 _ _ y0 h
  have h1 := heap_setCell_same _ b 1 _ _ y1 h0
  have h2 := heap_setCell_same _ b 2 _ _ y2 h1
  exact heap_setCell_same _ b 3 _ _ y3 h2
abbrev setB (w : World) (b k : Nat) (a : Nat → Nat) : World := (((w.setCell ⟨b, k * 4, none⟩ (.int .u64 ((a 0 : Nat) : Int))).setCell ⟨b, k * 4 + 1, none⟩ (.int .u64 ((a 1 : Nat) : Int))).setCell ⟨b, k * 4 + 2, none⟩ (.int .u64 ((a 2 : Nat) : Int))).setCell ⟨b, k * 4 + 3, none⟩ (.int .u64 ((a 3 : Nat) : Int))
theorem ByAt.put4 {w : World} {b n k : Nat} {B : Nat → Nat → Nat} (h : ByAt w b n B) (hk : k < n) (a : Nat → Nat) : ByAt (setB w b k a) b n (updB B k a) := by
  have h0 := heap_setCell_same w b (k * 4) _ _ (.int .u64 ((a 0 : Nat) : Int)) h
  have h1 := heap_setCell_same _ b (k * 4 + 1) _ _ (.int .u64 ((a 1 : Nat) : Int)) h0
  have h2 := heap_setCell_same _ b (k * 4 + 2) _ _ (.int .u64 ((a 2 : Nat) : Int)) h1
  have h3 := heap_setCell_same _ b (k * 4 + 3) _ _ (.int .u64 ((a 3 : Nat) : Int)) h2
  rw [bysA_put B a hk] at h3
  exact h3
theorem but_setB {B b : Nat} {a w : World} (h : But B b a w) (k : Nat) (c : Nat → Nat) : But B b a (setB w b k c) := but_setF (but_setF (but_setF (but_setF h _) _) _) _
/-- Either way the head's set is the new one. -/
theorem trB_by {E : Nat → Bool} {B : Nat → Nat → Nat} {k n b : Nat} {l : List Sy} {w : World} (h : ByAt w b n (updB B k (orB (B k) (comT E B l).1))) : ByAt w b n (trB E B (k : Int) l).2 := by
  unfold trB
  rw [Int.toNat_natCast]
  split
  · exact h
  · rename_i hn
    unfold ByAt at h ⊢
    rw [h, bysA_same]
    intro i j hj
    unfold updB
    split
    · rename_i e
      subst e
      unfold unlikeB at hn
      simp at hn
      have : j = 0 ∨ j = 1 ∨ j = 2 ∨ j = 3 := by omega
      rcases this with rfl | rfl | rfl | rfl
      · exact hn.1
      · exact hn.2.1
      · exact hn.2.2.1
      · exact hn.2.2.2
    · rfl
theorem trB_un (E : Nat → Bool) (B : Nat → Nat → Nat) (k : Nat) (l : List Sy) : (trB E B (k : Int) l).1 = unlikeB (orB (B k) (comT E B l).1) (B k) := by
  unfold trB
  rw [Int.toNat_natCast]
  split
  · rename_i h; exact h.symm
  · rename_i h; exact (Bool.eq_false_iff.2 h).symm
structure JB (n eb bb y : Nat) (E : Nat → Bool) (B : Nat → Nat → Nat) (w : World) : Prop where
  y0 : w.cell? ⟨y, 0, none⟩ = some (.slice (some ⟨eb, 0, none⟩) n n)
  y1 : w.cell? ⟨y, 1, none⟩ = some (.slice (some ⟨bb, 0, none⟩) n n)
  el : BlAt w eb n E
  bl : ByAt w bb n B
  ok : ∀ k, okB (B k)
set_option maxHeartbeats 8000000 in
set_option maxRecDepth 100000 in
theorem turnB_any (E : Nat → Bool) (B : Nat → Nat → Nat) (n eb bb y k : Nat) (u : Value) (l : List Sy) (w : World) {F : Nat → Prop} (hk : k < n) (hn : n ≤ 64) (hs : IsSys w F u l) (hl64 : l.length ≤ 64) (hm : ∀ s, s ∈ l → maySym n s = true) (hJ : JB n eb bb y E B w) :
    Calls Try.prog 34 #[.int .i64 (k : Int), u, .pointer (some ⟨y, 0, none⟩)] w fun e w' => e = .returned (.bool (trB E B (k : Int) l).1) ∧ Hid (ByAt w' bb n (trB E B (k : Int) l).2) ∧ Hid (But w.heap.size bb w w') := by
  obtain ⟨p2, c2, hu⟩ := IsSys.slc hs
  obtain ⟨zl, hzl⟩ : ∃ z, z = l.length := ⟨_, rfl⟩
  rw [← hzl] at hu hl64
  subst hu
  have HJJ := hid_ofF hJ
  have HSY := hid_ofF hs
  have HMS := hid_ofF hm
  have HZL : Hid (zl = l.length) := hzl
  clear hJ hs hm hzl
  have HL64 : Hid (zl ≤ 64) := hl64
  have HN : Hid (n ≤ 64) := hn
  have HKN : Hid (k < n) := hk
  obtain ⟨w5, hw5⟩ : ∃ w5, w5 = (w.alloc (.cells #[.int .u64 0, .int .u64 0, .int .u64 0, .int .u64 0, .bool false] 55)).alloc (.cells #[.slice p2 zl c2] 28) := ⟨_, rfl⟩
  have hb5 : Below w.heap.size w w5 := by rw [hw5]; exact (bel1 _ _).alloc (by simp) _
  have h5s : w5.heap.size = w.heap.size + 2 := by rw [hw5]; simp
  obtain ⟨cb, hcb⟩ : ∃ cb, cb = w.heap.size := ⟨_, rfl⟩
  have hcm : ComAt w5 cb (zB, false) := by rw [hw5, hcb]; exact (heap_alloc_old _ (by simp)).trans (heap_alloc_new _ _)
  have x5 : w5.cell? ⟨cb + 1, 0, none⟩ = some (.slice p2 zl c2) := by rw [hw5, hcb]; exact World.cell?_alloc_at _ _ _ _ (by simp)
  have HB5 : Hid (Below cb w w5) := by rw [hcb]; exact hb5
  have H5S : Hid (w5.heap.size = cb + 2) := by rw [hcb]; exact h5s
  have HCW : Hid (cb = w.heap.size) := hcb
  have HSQ : Hid (SyCs w5 (fun k => k = cb) p2 l) := fun k s hs => by
    have hS := HSY.out
    rw [HZL.out] at hS
    obtain ⟨g, o, h1, h2, h3, h4, h6⟩ := IsSys.cel hS hs
    refine ⟨g, o, h1, by omega, ?_, ?_, ?_⟩
    · exact (hb5.cell (p := ⟨_, _, none⟩) h2).trans h3
    · exact (hb5.cell (p := ⟨_, _, none⟩) h2).trans h4
    · exact (hb5.cell (p := ⟨_, _, none⟩) h2).trans h6
  have HJ5 : Hid (∀ W', But w5.heap.size cb w5 W' → JB n eb bb y E B W') := fun W' h => by
    have hJ := HJJ.out
    have T : ∀ {b o : Nat} {v : Value}, w.cell? ⟨b, o, none⟩ = some v → W'.cell? ⟨b, o, none⟩ = some v := fun {b o v} hc => by
      have h1 : b < w.heap.size := block_lt_of_cell hc
      exact (h.cell (p := ⟨_, _, none⟩) (by show b < _; omega) (by show b ≠ _; omega)).trans ((hb5.cell (p := ⟨_, _, none⟩) h1).trans hc)
    have h1 := block_lt hJ.el
    have h2 := block_lt hJ.bl
    exact ⟨T hJ.y0, T hJ.y1, (h.block eb (by omega) (by omega)).trans ((hb5.block eb h1).trans hJ.el), (h.block bb (by omega) (by omega)).trans ((hb5.block bb h2).trans hJ.bl), hJ.ok⟩
  have HIO : Hid (OwnFrom w5.heap.size (fun (pre : List Nat) W' => w5.heap.size ≤ W'.heap.size ∧ pre.length ≤ zl ∧ ∃ cm, ComAt W' cb cm ∧ okB cm.1 ∧ But w5.heap.size cb w5 W' ∧ (pre = dwn zl pre.length → cm = comT E B (l.drop (zl - pre.length))))) := by
    rintro pre W1 W2 row ⟨h1, h2, cm, h3, h4, h5, h6⟩ hg hr
    have hbl : Below w5.heap.size W1 W2 := (Below.refl _ W1).grown hg h1 (fun k e => (hr k e).1)
    exact ⟨Nat.le_trans h1 hbl.size, h2, cm, (hbl.block cb (by have := H5S.out; omega)).trans h3, h4, but_below h5 hbl (Nat.le_refl _), h6⟩
  have HMD : Hid (∀ x, maySym n (symD l x) = true) := may_symD HMS.out
  refine (callsIn_wide (n := 4)).1 ?_
  refine callsIn_of_wp_marks Try.func34 rfl trivial ?_ rfl
  simp only [Try.ntmps34, List.size_toArray, List.length_cons, List.length_nil, Nat.reduceAdd, Nat.reduceSub, Array.replicate_succ, Array.replicate_zero, List.push_toArray, List.append_toArray, List.nil_append, List.cons_append]
  refine wpIn_wide.2 ?_
  go_wp2_with (go_at_call 35; refine (backward_any _ _ _ _).mono ?_; rintro e w9 ⟨rfl, rfl⟩)
  rw [← hw5, ← hcb]
  clear hw5 hcb hb5 h5s
  refine range_box (encs := bkE l) (Kp := Bc (fun k => k = cb)) rfl (enters_of Try.func46 (by kernel_rfl) rfl) (back_stops 3 (cb + 1) (fun k => k = cb) (by omega) p2 c2 l w5 HSQ.out (by omega) (by rw [x5, HZL.out]) (by rw [← HZL.out]; exact HL64.out)) (fun h k => h.trans k) (fun W' l o o' _ h9 h8 _ => Bc.put h9 h8) (fun W' o => Bc.ofB (bel1 _ _)) (fun _ => rfl) _ HIO.out (fun pre W' h9 => h9.1)
    ⟨Nat.le_refl _, Nat.zero_le _, (zB, false), hcm, okB_zB, But.refl _ _ _, fun _ => by rw [show zl - ([] : List Nat).length = l.length by rw [HZL.out]; rfl, List.drop_length]; rfl⟩ 8 (fun k => #[.int .i64 (symD l k).name, .int .i64 (symD l k).lo, .int .i64 (symD l k).hi]) 36 ?assign ?body ?done
  case assign =>
    intro l' x W' K hK
    unfold bkE at hK ⊢
    generalize symD l x = sx at hK ⊢
    obtain ⟨nm, lo, up⟩ := sx
    simp only [List.zip_toArray, List.zip_cons_cons, List.zip_nil_right, List.foldl_toArray', List.foldl_cons, List.foldl_nil, List.size_toArray, List.length_cons, List.length_nil, List.setIfInBounds_toArray, List.set_cons_zero, List.set_cons_succ] at hK ⊢
    gi_wp2
    exact hK
  case body =>
    rintro l' pre x Bx W' ⟨hw1, hw2, cm, hc, okc, hbu, hzz⟩ hBx hle hlen
    unfold bkE
    obtain ⟨sx, hsx⟩ : ∃ sx, sx = symD l x := ⟨_, rfl⟩
    have hsi := HMD.out x
    rw [← hsx] at hBx hsi ⊢
    have HSX : Hid (sx = symD l x) := hsx
    have hJ := HJ5.out W' hbu
    obtain ⟨am, ham⟩ : ∃ am, am = aheadT E B sx cm := ⟨_, rfl⟩
    have KA := ahead_any E B n eb bb sx cm W' HN.out hJ.el hJ.bl hsi hJ.ok okc
    rw [← ham] at KA
    have oka : okB am.1 := by rw [ham]; exact ahead_ok hJ.ok okc
    have y0 := hJ.y0
    have y1 := hJ.y1
    rw [← HZL.out] at hlen
    have HLED : Hid (pre ++ [x] = dwn zl (pre ++ [x]).length → am = comT E B (l.drop (zl - (pre ++ [x]).length))) := fun e6 => by
      have e7 : (pre ++ [x]).length = pre.length + 1 := by simp
      rw [e7] at e6 ⊢
      have e8 : pre ++ [x] = dwn zl pre.length ++ [zl - 1 - pre.length] := e6
      have e9 := List.append_inj' e8 rfl
      have ex : x = zl - 1 - pre.length := by simpa using e9.2
      have hs : l[x]? = some sx := by
        have hx : x < l.length := by rw [← HZL.out]; omega
        have h1 : l[x]? = some l[x] := List.getElem?_eq_getElem hx
        rw [h1, HSX.out, symD_at h1]
      have h2 := comT_drop (E := E) (B := B) hs
      rw [show zl - (pre.length + 1) = x by omega, h2, ham, hzz e9.1, show zl - pre.length = x + 1 by omega]
    have HF6 : Hid (∀ w6, Below W'.heap.size W' w6 → ComAt w6 cb cm ∧ (KeepsFrom w5.heap.size W' (setC w6 cb am) ∧ Bc (fun k => k = cb) W' (setC w6 cb am) ∧ (w5.heap.size ≤ (setC w6 cb am).heap.size ∧ (pre ++ [x]).length ≤ zl ∧ ∃ cm, ComAt (setC w6 cb am) cb cm ∧ okB cm.1 ∧ But w5.heap.size cb w5 (setC w6 cb am) ∧ (pre ++ [x] = dwn zl (pre ++ [x]).length → cm = comT E B (l.drop (zl - (pre ++ [x]).length)))))) := fun w6 hb6 => by
      have h6 : ComAt w6 cb cm := (hb6.block cb hc.lt).trans hc
      have hB : But W'.heap.size cb W' (setC w6 cb am) := but_setC (But.of hb6) am
      have hcl : ∀ o, W'.heap[cb]? = some o → o.isCells = true := fun o ho => by rw [show W'.heap[cb]? = _ from hc] at ho; injection ho with ho; rw [← ho]; rfl
      exact ⟨h6, (keeps_but hB hcl).from _, Bc.ofU hB rfl, Nat.le_trans hw1 hB.size, by simp; omega, am, h6.set am, oka, hbu.trans (hB.mono hw1), HLED.out⟩
    obtain ⟨nm, lo, up⟩ := sx
    dsimp only at hBx KA ⊢
    have b0 : W'.cell? ⟨Bx, 0, none⟩ = some (.int .i64 nm) := Lib.cell_of_heap hBx 0
    have b1 : W'.cell? ⟨Bx, 1, none⟩ = some (.int .i64 lo) := Lib.cell_of_heap hBx 1
    have b2 : W'.cell? ⟨Bx, 2, none⟩ = some (.int .i64 up) := Lib.cell_of_heap hBx 2
    have c0 : W'.cell? ⟨cb, 0, none⟩ = some (.int .u64 ((cm.1 0 : Nat) : Int)) := hc.cell rfl
    have c1 : W'.cell? ⟨cb, 1, none⟩ = some (.int .u64 ((cm.1 1 : Nat) : Int)) := hc.cell rfl
    have c2' : W'.cell? ⟨cb, 2, none⟩ = some (.int .u64 ((cm.1 2 : Nat) : Int)) := hc.cell rfl
    have c3 : W'.cell? ⟨cb, 3, none⟩ = some (.int .u64 ((cm.1 3 : Nat) : Int)) := hc.cell rfl
    have c4 : W'.cell? ⟨cb, 4, none⟩ = some (.bool cm.2) := hc.cell rfl
    have KAH := hid_ofF KA
    clear ham KA oka hJ hsi hsx HSX hBx hc okc hbu hzz hle hlen hw1 hw2 x5 hcm
    simp only [List.zip_toArray, List.zip_cons_cons, List.zip_nil_right, List.foldl_toArray', List.foldl_cons, List.foldl_nil, List.size_toArray, List.length_cons, List.length_nil, List.setIfInBounds_toArray, List.set_cons_zero, List.set_cons_succ]
    gi_wp2_with (refine ⟨trivial, ?_⟩; gi_at_call 36; refine (CallsIn.inRound l' (callsIn_wide.2 KAH.out)).mono ?_; rintro e w6 ⟨rfl, b6⟩; obtain ⟨h6, f3⟩ := HF6.out w6 b6.out; have F3 : Hid _ := f3; have r0 := h6.cell (k := 0) rfl; have r1 := h6.cell (k := 1) rfl; have r2 := h6.cell (k := 2) rfl; have r3 := h6.cell (k := 3) rfl; have r4 := h6.cell (k := 4) rfl; have f0 := h6.frz 0; have f1 := h6.frz 1; have f2 := h6.frz 2; have f33 := h6.frz 3; have f4 := h6.frz 4; have rl := h6.lt; clear f3 b6 h6)
    exact F3.out
  case done =>
    rintro D2 xs W' hD2 rfl ⟨hw1, hw2, cm, hc, okc, hbu, hzz⟩ hK2
    have hcm2 : cm = comT E B l := by
      have h := hzz (by rw [dwn_len, HZL.out])
      rw [dwn_len, HZL.out, Nat.sub_self, List.drop_zero] at h
      exact h
    have hJ := HJ5.out W' hbu
    have HBU : Hid (But w5.heap.size cb w5 W') := hbu
    have HM2 : Hid (Marks w5.heap.size [{ target := .collected D2, args := #[] }] W') := ⟨⟨D2, rfl, hD2, hK2, fun d' hd' => by cases hd'⟩, trivial⟩
    obtain ⟨r, hr⟩ : ∃ r, r = orB (B k) cm.1 := ⟨_, rfl⟩
    have KO : Hid (∀ W, Calls Try.prog 37 #[bv (B k), bv cm.1] W fun e w' => e = .returned (bv r) ∧ Below W.heap.size W w') := fun W => by rw [hr]; exact or_any (B k) cm.1 W (hJ.ok k) okc
    have HRC : Hid (r = orB (B k) (comT E B l).1) := by show _ = _; rw [hr, hcm2]
    have HBY : Hid (ByAt W' bb n B) := hJ.bl
    have hkn := HKN.out
    have hn64 := HN.out
    have y1 := hJ.y1
    have b0 := hJ.bl.cell hkn (j := 0) (by omega)
    have b1 := hJ.bl.cell hkn (j := 1) (by omega)
    have b2 := hJ.bl.cell hkn (j := 2) (by omega)
    have b3 := hJ.bl.cell hkn (j := 3) (by omega)
    rw [Nat.add_zero] at b0
    have c0 : W'.cell? ⟨cb, 0, none⟩ = some (.int .u64 ((cm.1 0 : Nat) : Int)) := hc.cell rfl
    have c1 : W'.cell? ⟨cb, 1, none⟩ = some (.int .u64 ((cm.1 1 : Nat) : Int)) := hc.cell rfl
    have c2' : W'.cell? ⟨cb, 2, none⟩ = some (.int .u64 ((cm.1 2 : Nat) : Int)) := hc.cell rfl
    have c3 : W'.cell? ⟨cb, 3, none⟩ = some (.int .u64 ((cm.1 3 : Nat) : Int)) := hc.cell rfl
    have HSS : Hid (∀ w', Below W'.heap.size W' w' → Below W'.heap.size W' w' ∧ w'.cell? ⟨y, 1, none⟩ = some (.slice (some ⟨bb, 0, none⟩) n n) ∧ w'.cell? ⟨bb, k * 4, none⟩ = some (.int .u64 ((B k 0 : Nat) : Int)) ∧ w'.cell? ⟨bb, k * 4 + 1, none⟩ = some (.int .u64 ((B k 1 : Nat) : Int)) ∧ w'.cell? ⟨bb, k * 4 + 2, none⟩ = some (.int .u64 ((B k 2 : Nat) : Int)) ∧ w'.cell? ⟨bb, k * 4 + 3, none⟩ = some (.int .u64 ((B k 3 : Nat) : Int)) ∧ w'.cell? ⟨cb, 0, none⟩ = some (.int .u64 ((cm.1 0 : Nat) : Int)) ∧ w'.cell? ⟨cb, 1, none⟩ = some (.int .u64 ((cm.1 1 : Nat) : Int)) ∧ w'.cell? ⟨cb, 2, none⟩ = some (.int .u64 ((cm.1 2 : Nat) : Int)) ∧ w'.cell? ⟨cb, 3, none⟩ = some (.int .u64 ((cm.1 3 : Nat) : Int))) := fun w' h => by
      have T : ∀ {b o : Nat} {v : Value}, W'.cell? ⟨b, o, none⟩ = some v → w'.cell? ⟨b, o, none⟩ = some v := fun hc => (h.cell (p := ⟨_, _, none⟩) (block_lt_of_cell hc)).trans hc
      exact ⟨h, T y1, T b0, T b1, T b2, T b3, T c0, T c1, T c2', T c3⟩
    have hkI : (k : Int) < (n : Int) := by omega
    have HLB : Hid (bb < W'.heap.size ∧ bb < w.heap.size) := ⟨block_lt hJ.bl, block_lt HJJ.out.bl⟩
    have HLW : Hid (w5.heap.size ≤ W'.heap.size) := hw1
    clear hr hcm2 hJ hc okc hbu hzz hw1 hw2 hK2 hD2 x5 hcm
    go_upto_region 5 with fail
    go_cut [9] from 19 to 39 (fun t wc => ∃ gx, t = .pointer (some ⟨gx, 0, none⟩) ∧ Hid (W'.heap.size ≤ gx ∧ Below W'.heap.size W' wc ∧ wc.heap[gx]? = some (.cells #[.int .u64 ((r 0 : Nat) : Int), .int .u64 ((r 1 : Nat) : Int), .int .u64 ((r 2 : Nat) : Int), .int .u64 ((r 3 : Nat) : Int)] 39)))
    case first =>
      refine wp_region_noPanic ?_
      refine wp_region_held_drew (S := fun w' => Below W'.heap.size W' w' ∧ w'.cell? ⟨y, 1, none⟩ = some (.slice (some ⟨bb, 0, none⟩) n n) ∧ w'.cell? ⟨bb, k * 4, none⟩ = some (.int .u64 ((B k 0 : Nat) : Int)) ∧ w'.cell? ⟨bb, k * 4 + 1, none⟩ = some (.int .u64 ((B k 1 : Nat) : Int)) ∧ w'.cell? ⟨bb, k * 4 + 2, none⟩ = some (.int .u64 ((B k 2 : Nat) : Int)) ∧ w'.cell? ⟨bb, k * 4 + 3, none⟩ = some (.int .u64 ((B k 3 : Nat) : Int)) ∧ w'.cell? ⟨cb, 0, none⟩ = some (.int .u64 ((cm.1 0 : Nat) : Int)) ∧ w'.cell? ⟨cb, 1, none⟩ = some (.int .u64 ((cm.1 1 : Nat) : Int)) ∧ w'.cell? ⟨cb, 2, none⟩ = some (.int .u64 ((cm.1 2 : Nat) : Int)) ∧ w'.cell? ⟨cb, 3, none⟩ = some (.int .u64 ((cm.1 3 : Nat) : Int))) (by kernel_rfl) (HSS.out _ (Below.refl _ _).drew) (fun hHeld => ?_)
      refine wpAnyH_take (i := 0) (oi := _) (v := ?_) rfl (by kernel_rfl) (by kernel_rfl) (by kernel_rfl) (fun _ _ _ h => h) (Or.inl ⟨by rfl, ?_⟩) (by assumption) ?_
      rotate_left
      · intro w' hSw; (try dsimp only at hSw); go_simp; (try with_reducible rfl)
      simp only [Act.put, List.setIfInBounds_toArray, List.set_cons_zero, List.set_cons_succ]
      refine wpAnyH_take (i := 1) (oi := _) (v := ?_) rfl (by kernel_rfl) (by kernel_rfl) (by kernel_rfl) (fun _ _ _ h => h) (Or.inl ⟨by rfl, ?_⟩) (by assumption) ?_
      rotate_left
      · intro w' hSw; (try dsimp only at hSw); go_simp; (try with_reducible rfl)
      simp only [Act.put, List.setIfInBounds_toArray, List.set_cons_zero, List.set_cons_succ]
      refine wpAnyH_take (i := 2) (oi := _) (v := ?_) rfl (by kernel_rfl) (by kernel_rfl) (by kernel_rfl) (fun _ _ _ h => h) (Or.inl ⟨by rfl, ?_⟩) (by assumption) ?_
      rotate_left
      · intro w' hSw; (try dsimp only at hSw); go_simp; (try with_reducible rfl)
      simp only [Act.put, List.setIfInBounds_toArray, List.set_cons_zero, List.set_cons_succ]
      refine wpAnyH_take (i := 3) (oi := _) (v := ?_) rfl (by kernel_rfl) (by kernel_rfl) (by kernel_rfl) (fun _ _ _ h => h) (Or.inl ⟨by rfl, ?_⟩) (by assumption) ?_
      rotate_left
      · intro w' hSw; (try dsimp only at hSw); go_simp; (try with_reducible rfl)
      simp only [Act.put, List.setIfInBounds_toArray, List.set_cons_zero, List.set_cons_succ]
      refine wpAnyH_take (i := 4) (oi := _) (v := ?_) rfl (by kernel_rfl) (by kernel_rfl) (by kernel_rfl) (fun _ _ _ h => h) (Or.inl ⟨by rfl, ?_⟩) (by assumption) ?_
      rotate_left
      · intro w' hSw; (try dsimp only at hSw); go_simp; (try with_reducible rfl)
      simp only [Act.put, List.setIfInBounds_toArray, List.set_cons_zero, List.set_cons_succ]
      refine wpAnyH_take (i := 5) (oi := _) (v := ?_) rfl (by kernel_rfl) (by kernel_rfl) (by kernel_rfl) (fun _ _ _ h => h) (Or.inl ⟨by rfl, ?_⟩) (by assumption) ?_
      rotate_left
      · intro w' hSw; (try dsimp only at hSw); go_simp; (try with_reducible rfl)
      simp only [Act.put, List.setIfInBounds_toArray, List.set_cons_zero, List.set_cons_succ]
      refine wpAnyH_take (i := 6) (oi := _) (v := ?_) rfl (by kernel_rfl) (by kernel_rfl) (by kernel_rfl) (fun _ _ _ h => h) (Or.inl ⟨by rfl, ?_⟩) (by assumption) ?_
      rotate_left
      · intro w' hSw; (try dsimp only at hSw); go_simp; (try with_reducible rfl)
      simp only [Act.put, List.setIfInBounds_toArray, List.set_cons_zero, List.set_cons_succ]
      refine wpAnyH_ready (rs := [7, 8]) (by kernel_rfl) (by simp) ?_
      refine AllReadyH.cons rfl (fun K hK => ?_) ?_
      · go_simp
        refine (KO.out _).mono ?_
        rintro e w2 ⟨rfl, b2'⟩
        have HB2 : Hid (Below W'.heap.size W' w2) := (Below.refl _ _).drew.trans b2'
        refine hK.out _ _ (HSS.out _ HB2.out) (fun hHeld => ?_)
        clear hK K b2'
        refine wpAnyH_ready (rs := [8]) (by kernel_rfl) (by simp) ?_
        refine AllReadyH.cons rfl (fun K hK => ?_) ?_
        · go_simp
          obtain ⟨V, hV⟩ : ∃ V, V = w2.alloc (.cells #[.int .u64 0, .int .u64 0, .int .u64 0, .int .u64 0] 39) := ⟨_, rfl⟩
          obtain ⟨gx, hgx⟩ : ∃ gx, gx = w2.heap.size := ⟨_, rfl⟩
          have HV : Hid (Below W'.heap.size W' V) := by show Below _ _ _; rw [hV]; exact HB2.out.alloc HB2.out.size _
          have hx : V.heap[gx]? = some (.cells #[.int .u64 0, .int .u64 0, .int .u64 0, .int .u64 0] 39) := by rw [hV, hgx]; exact heap_alloc_new _ _
          have HGX : Hid (W'.heap.size ≤ gx) := by show _ ≤ _; rw [hgx]; exact HB2.out.size
          rw [← hV, ← hgx]
          refine hK.out _ _ (HSS.out _ HV.out) (fun hHeld => ?_)
          clear hK K hV hgx
          have r0 : V.cell? ⟨gx, 0, none⟩ = some (.int .u64 0) := Lib.cell_of_heap hx 0
          have r1 : V.cell? ⟨gx, 1, none⟩ = some (.int .u64 0) := Lib.cell_of_heap hx 1
          have r2 : V.cell? ⟨gx, 2, none⟩ = some (.int .u64 0) := Lib.cell_of_heap hx 2
          have r3 : V.cell? ⟨gx, 3, none⟩ = some (.int .u64 0) := Lib.cell_of_heap hx 3
          have f0 : V.frozen? ⟨gx, 0, none⟩ = false := frzV hx 0
          have f1 : V.frozen? ⟨gx, 1, none⟩ = false := frzV hx 1
          have f2 : V.frozen? ⟨gx, 2, none⟩ = false := frzV hx 2
          have f3 : V.frozen? ⟨gx, 3, none⟩ = false := frzV hx 3
          have rl : gx < V.heap.size := block_lt hx
          have HX : Hid (V.heap[gx]? = some (.cells #[.int .u64 0, .int .u64 0, .int .u64 0, .int .u64 0] 39)) := hx
          clear hx
          refine wpAnyH_ready (rs := [9]) (by kernel_rfl) (by simp) ?_
          refine AllReadyH.cons rfl (fun K hK => ?_) ?_
          · go_simp
            refine hK.out _ _ (HSS.out _ ((((HV.out.setCell (p := ⟨gx, 0, none⟩) HGX.out _).setCell (p := ⟨gx, 1, none⟩) HGX.out _).setCell (p := ⟨gx, 2, none⟩) HGX.out _).setCell (p := ⟨gx, 3, none⟩) HGX.out _)) (fun hHeld => ?_)
            clear hK K
            refine wpAnyH_done (by kernel_rfl) ?_ _
            refine NoPanic.normal ?_
            go_wp2
            go_meet
            case rel => exact ⟨gx, rfl, HGX.out, (((HV.out.setCell (p := ⟨gx, 0, none⟩) HGX.out _).setCell (p := ⟨gx, 1, none⟩) HGX.out _).setCell (p := ⟨gx, 2, none⟩) HGX.out _).setCell (p := ⟨gx, 3, none⟩) HGX.out _, quad_set HX.out⟩
          exact AllReadyH.nil
        exact AllReadyH.nil
      refine AllReadyH.cons rfl (fun K hK => ?_) ?_
      · go_simp
        obtain ⟨V0, hV⟩ : ∃ V, V = (W'.alloc (.cells #[.int .u64 0, .int .u64 0, .int .u64 0, .int .u64 0] 39)).drew := ⟨_, rfl⟩
        obtain ⟨gx, hgx⟩ : ∃ gx, gx = W'.heap.size := ⟨_, rfl⟩
        have HV0 : Hid (Below W'.heap.size W' V0) := by show Below _ _ _; rw [hV]; exact (bel1 _ _).drew
        have hx0 : V0.heap[gx]? = some (.cells #[.int .u64 0, .int .u64 0, .int .u64 0, .int .u64 0] 39) := by rw [hV, hgx]; exact heap_alloc_new W' _
        have HGX : Hid (W'.heap.size ≤ gx) := by show _ ≤ _; rw [hgx]; exact Nat.le_refl _
        first | rw [← hV, ← hgx] | (trace_state; fail)
        refine hK.out _ _ (HSS.out _ HV0.out) (fun hHeld => ?_)
        clear hK K hV hgx
        refine wpAnyH_ready (rs := [7]) (by kernel_rfl) (by simp) ?_
        refine AllReadyH.cons rfl (fun K hK => ?_) ?_
        · go_simp
          refine (KO.out _).mono ?_
          rintro e V ⟨rfl, b2'⟩
          have HV : Hid (Below W'.heap.size W' V) := HV0.out.trans (b2'.mono HV0.out.size)
          have hx : V.heap[gx]? = some (.cells #[.int .u64 0, .int .u64 0, .int .u64 0, .int .u64 0] 39) := (b2'.block gx (block_lt hx0)).trans hx0
          refine hK.out _ _ (HSS.out _ HV.out) (fun hHeld => ?_)
          clear hK K b2'
          have r0 : V.cell? ⟨gx, 0, none⟩ = some (.int .u64 0) := Lib.cell_of_heap hx 0
          have r1 : V.cell? ⟨gx, 1, none⟩ = some (.int .u64 0) := Lib.cell_of_heap hx 1
          have r2 : V.cell? ⟨gx, 2, none⟩ = some (.int .u64 0) := Lib.cell_of_heap hx 2
          have r3 : V.cell? ⟨gx, 3, none⟩ = some (.int .u64 0) := Lib.cell_of_heap hx 3
          have f0 : V.frozen? ⟨gx, 0, none⟩ = false := frzV hx 0
          have f1 : V.frozen? ⟨gx, 1, none⟩ = false := frzV hx 1
          have f2 : V.frozen? ⟨gx, 2, none⟩ = false := frzV hx 2
          have f3 : V.frozen? ⟨gx, 3, none⟩ = false := frzV hx 3
          have rl : gx < V.heap.size := block_lt hx
          have HX : Hid (V.heap[gx]? = some (.cells #[.int .u64 0, .int .u64 0, .int .u64 0, .int .u64 0] 39)) := hx
          clear hx
          refine wpAnyH_ready (rs := [9]) (by kernel_rfl) (by simp) ?_
          refine AllReadyH.cons rfl (fun K hK => ?_) ?_
          · go_simp
            refine hK.out _ _ (HSS.out _ ((((HV.out.setCell (p := ⟨gx, 0, none⟩) HGX.out _).setCell (p := ⟨gx, 1, none⟩) HGX.out _).setCell (p := ⟨gx, 2, none⟩) HGX.out _).setCell (p := ⟨gx, 3, none⟩) HGX.out _)) (fun hHeld => ?_)
            clear hK K
            refine wpAnyH_done (by kernel_rfl) ?_ _
            refine NoPanic.normal ?_
            go_wp2
            go_meet
            case rel => exact ⟨gx, rfl, HGX.out, (((HV.out.setCell (p := ⟨gx, 0, none⟩) HGX.out _).setCell (p := ⟨gx, 1, none⟩) HGX.out _).setCell (p := ⟨gx, 2, none⟩) HGX.out _).setCell (p := ⟨gx, 3, none⟩) HGX.out _, quad_set HX.out⟩
          exact AllReadyH.nil
        exact AllReadyH.nil
      exact AllReadyH.nil
    case rest =>
      obtain ⟨gx, h9, hX⟩ := hcut
      subst h9
      obtain ⟨V, hV⟩ : ∃ V, V = wc := ⟨_, rfl⟩
      subst hV
      obtain ⟨hgx, hbc, hxc⟩ := hX.out
      have HBC : Hid (Below W'.heap.size W' V) := hbc
      obtain ⟨-, z1, z2, z3, z4, z5, -, -, -, -⟩ := HSS.out V hbc
      have g0 : V.cell? ⟨gx, 0, none⟩ = some (.int .u64 ((r 0 : Nat) : Int)) := Lib.cell_of_heap hxc 0
      have g1 : V.cell? ⟨gx, 1, none⟩ = some (.int .u64 ((r 1 : Nat) : Int)) := Lib.cell_of_heap hxc 1
      have g2 : V.cell? ⟨gx, 2, none⟩ = some (.int .u64 ((r 2 : Nat) : Int)) := Lib.cell_of_heap hxc 2
      have g3 : V.cell? ⟨gx, 3, none⟩ = some (.int .u64 ((r 3 : Nat) : Int)) := Lib.cell_of_heap hxc 3
      have hbl := HLB.out.1
      have HBV : Hid (ByAt V bb n B) := (hbc.block bb hbl).trans HBY.out
      have fb0 : V.frozen? ⟨bb, k * 4, none⟩ = false := frzV HBV.out _
      have fb1 : V.frozen? ⟨bb, k * 4 + 1, none⟩ = false := frzV HBV.out _
      have fb2 : V.frozen? ⟨bb, k * 4 + 2, none⟩ = false := frzV HBV.out _
      have fb3 : V.frozen? ⟨bb, k * 4 + 3, none⟩ = false := frzV HBV.out _
      have bl : bb < V.heap.size := Nat.lt_of_lt_of_le hbl hbc.size
      obtain ⟨bq, hbq⟩ : ∃ bq, bq = unlikeB r (B k) := ⟨_, rfl⟩
      have HBQ : Hid (bq = unlikeB r (B k)) := hbq
      have hq : ∀ w, (Op.equalIn 10000 39 (.agg #[.int .u64 ((r 0 : Nat) : Int), .int .u64 ((r 1 : Nat) : Int), .int .u64 ((r 2 : Nat) : Int), .int .u64 ((r 3 : Nat) : Int)]) (.agg #[.int .u64 ((B k 0 : Nat) : Int), .int .u64 ((B k 1 : Nat) : Int), .int .u64 ((B k 2 : Nat) : Int), .int .u64 ((B k 3 : Nat) : Int)])).run Try.prog w = .ok (!bq) w := fun w => by
        have hc : ∀ a b : Nat, ((a : Int) == (b : Int)) = (a == b) := fun a b => by
          by_cases e : a = b
          · subst e; rw [beq_self_eq_true, beq_self_eq_true]
          · rw [beq_eq_false_iff_ne.2 e, beq_eq_false_iff_ne]; omega
        rw [Try.eqBytes, hbq, hc, hc, hc, hc]
        unfold unlikeB
        rw [Bool.not_not, Bool.and_assoc, Bool.and_assoc]
      clear hbq hxc hbc hX hgx hbl y1 b0 b1 b2 b3 c0 c1 c2' c3
      go_upto_region 6 with fail
      refine wp_region_noPanic ?_
      refine wp_region_held_drew (S := fun w' => w'.cell? ⟨y, 1, none⟩ = some (.slice (some ⟨bb, 0, none⟩) n n) ∧ w'.cell? ⟨bb, k * 4, none⟩ = some (.int .u64 ((B k 0 : Nat) : Int)) ∧ w'.cell? ⟨bb, k * 4 + 1, none⟩ = some (.int .u64 ((B k 1 : Nat) : Int)) ∧ w'.cell? ⟨bb, k * 4 + 2, none⟩ = some (.int .u64 ((B k 2 : Nat) : Int)) ∧ w'.cell? ⟨bb, k * 4 + 3, none⟩ = some (.int .u64 ((B k 3 : Nat) : Int)) ∧ w'.cell? ⟨gx, 0, none⟩ = some (.int .u64 ((r 0 : Nat) : Int)) ∧ w'.cell? ⟨gx, 1, none⟩ = some (.int .u64 ((r 1 : Nat) : Int)) ∧ w'.cell? ⟨gx, 2, none⟩ = some (.int .u64 ((r 2 : Nat) : Int)) ∧ w'.cell? ⟨gx, 3, none⟩ = some (.int .u64 ((r 3 : Nat) : Int))) (by kernel_rfl) ⟨z1, z2, z3, z4, z5, g0, g1, g2, g3⟩ (fun hHeld => ?_)
      refine wpAnyH_take (i := 0) (oi := _) (v := ?_) rfl (by kernel_rfl) (by kernel_rfl) (by kernel_rfl) (fun _ _ _ h => h) (Or.inl ⟨by rfl, ?_⟩) (by assumption) ?_
      rotate_left
      · intro w' hSw; (try dsimp only at hSw); go_simp; (try with_reducible rfl)
      simp only [Act.put, List.setIfInBounds_toArray, List.set_cons_zero, List.set_cons_succ]
      refine wpAnyH_take (i := 1) (oi := _) (v := ?_) rfl (by kernel_rfl) (by kernel_rfl) (by kernel_rfl) (fun _ _ _ h => h) (Or.inl ⟨by rfl, ?_⟩) (by assumption) ?_
      rotate_left
      · intro w' hSw; (try dsimp only at hSw); go_simp; (try with_reducible rfl)
      simp only [Act.put, List.setIfInBounds_toArray, List.set_cons_zero, List.set_cons_succ]
      refine wpAnyH_take (i := 2) (oi := _) (v := ?_) rfl (by kernel_rfl) (by kernel_rfl) (by kernel_rfl) (fun _ _ _ h => h) (Or.inl ⟨by rfl, ?_⟩) (by assumption) ?_
      rotate_left
      · intro w' hSw; (try dsimp only at hSw); go_simp; (try with_reducible rfl)
      simp only [Act.put, List.setIfInBounds_toArray, List.set_cons_zero, List.set_cons_succ]
      refine wpAnyH_take (i := 3) (oi := _) (v := ?_) rfl (by kernel_rfl) (by kernel_rfl) (by kernel_rfl) (fun _ _ _ h => h) (Or.inl ⟨by rfl, ?_⟩) (by assumption) ?_
      rotate_left
      · intro w' hSw; (try dsimp only at hSw); go_simp; (try with_reducible rfl)
      simp only [Act.put, List.setIfInBounds_toArray, List.set_cons_zero, List.set_cons_succ]
      refine wpAnyH_take (i := 4) (oi := _) (v := ?_) rfl (by kernel_rfl) (by kernel_rfl) (by kernel_rfl) (fun _ _ _ h => h) (Or.inl ⟨by rfl, ?_⟩) (by assumption) ?_
      rotate_left
      · intro w' hSw; (try dsimp only at hSw); go_simp; (try with_reducible rfl)
      simp only [Act.put, List.setIfInBounds_toArray, List.set_cons_zero, List.set_cons_succ]
      refine wpAnyH_take (i := 5) (oi := _) (v := ?_) rfl (by kernel_rfl) (by kernel_rfl) (by kernel_rfl) (fun _ _ _ h => h) (Or.inl ⟨by rfl, ?_⟩) (by assumption) ?_
      rotate_left
      · intro w' hSw; (try dsimp only at hSw); go_simp; (try with_reducible rfl)
      simp only [Act.put, List.setIfInBounds_toArray, List.set_cons_zero, List.set_cons_succ]
      refine wpAnyH_take (i := 6) (oi := _) (v := ?_) rfl (by kernel_rfl) (by kernel_rfl) (by kernel_rfl) (fun _ _ _ h => h) (Or.inl ⟨by rfl, ?_⟩) (by assumption) ?_
      rotate_left
      · intro w' hSw; (try dsimp only at hSw); go_simp; (try with_reducible rfl)
      simp only [Act.put, List.setIfInBounds_toArray, List.set_cons_zero, List.set_cons_succ]
      refine wpAnyH_take (i := 7) (oi := _) (v := ?_) rfl (by kernel_rfl) (by kernel_rfl) (by kernel_rfl) (fun _ _ _ h => h) (Or.inl ⟨by rfl, ?_⟩) (by assumption) ?_
      rotate_left
      · intro w' hSw; (try dsimp only at hSw); go_simp; (try with_reducible rfl)
      simp only [Act.put, List.setIfInBounds_toArray, List.set_cons_zero, List.set_cons_succ]
      refine wpAnyH_done (by kernel_rfl) ?_ _
      refine NoPanic.normal ?_
      clear hHeld hq
      go_wp2
      have HF : Hid (But W'.heap.size bb W' (setB V.drew bb k r)) := but_setB (But.of HBC.out).drew k r
      have HMM : Hid (Marks w5.heap.size [{ target := .collected D2, args := #[] }] (setB V.drew bb k r)) := HM2.out.keep fun d hd D e => by
        obtain ⟨h1, o, h2, -⟩ := HM2.out.ge d hd D e
        have h3 := HLB.out.2
        have h4 := H5S.out
        have h5 := HCW.out
        exact HF.out.block D (Array.getElem?_eq_some_iff.1 h2).1 (by omega)
      refine leaves_marks (v := .bool bq) (fun w9 => results_tmp (t := 5) rfl _ _ _) _ _ HMM.out ?_
      intro w' q1 q2 q3 q4 q5
      have h3 := HLB.out.2
      have h4 := H5S.out
      have h5 := HCW.out
      have hby : ByAt (setB V.drew bb k r) bb n (updB B k r) := ByAt.put4 (w := V.drew) HBV.out HKN.out r
      have hby2 : ByAt w' bb n (updB B k r) := (q5 bb (Or.inl (by omega))).trans hby
      rw [HRC.out] at hby2
      have e1 : bq = (trB E B (k : Int) l).1 := by rw [trB_un, HBQ.out, HRC.out]
      refine ⟨by rw [e1], trB_by hby2, ?_⟩
      have hA : But w.heap.size bb w W' := (But.of (by rw [← h5]; exact HB5.out)).trans ((But.of (HBU.out.below (by omega))).mono (by omega))
      have hB : But w.heap.size bb w (setB V.drew bb k r) := hA.trans (HF.out.mono hA.size)
      exact ⟨q1.trans hB.os, q2.trans hB.tape, q3.trans hB.output, by rw [q4]; exact hB.size, fun i hi hx => (q5 i (Or.inl (by omega))).trans (hB.block i hi hx)⟩
end Go.Proofs.Ytopokicdgdjgkaa
