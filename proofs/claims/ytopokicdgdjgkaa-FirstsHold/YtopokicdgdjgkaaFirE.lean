/- Who may come to nothing (package first): the closure's turn, and all rounds. -/
import Derived.Test.YtopokicdgdjgkaaFirS
import Derived.Test.YtopokicdgdjgkaaGs
import Derived.Deep.OwnRows
import Derived.Laws.MakeOwn
namespace Go.Proofs.Ytopokicdgdjgkaa
set_option linter.unusedVariables false
set_option linter.unusedSimpArgs false
open Go.ChangeShapes Go.WideShapes Go.ChangeAt Go.RowKit

def putS (s : Nat → Bool) (k : Nat) : Nat → Bool := fun j => if j = k then true else s j
def boolsA (n : Nat) (s : Nat → Bool) : Array Value := ((List.range n).map fun i => Value.bool (s i)).toArray
theorem boolsA_size (n : Nat) (s : Nat → Bool) : (boolsA n s).size = n := by simp [boolsA]
theorem boolsA_at {n : Nat} (s : Nat → Bool) {k : Nat} (hk : k < n) : (boolsA n s)[k]? = some (.bool (s k)) := by simp [boolsA, hk]
theorem boolsA_put (n : Nat) (s : Nat → Bool) (k : Nat) : (boolsA n s).setIfInBounds k (.bool true) = boolsA n (putS s k) := by
  apply Array.ext_getElem?
  intro i
  rw [Array.getElem?_setIfInBounds, boolsA_size]
  by_cases e : k = i
  · subst e
    rw [if_pos rfl]
    by_cases hk : k < n
    · rw [if_pos hk, boolsA_at _ hk]; simp [putS]
    · rw [if_neg hk, Array.getElem?_eq_none (by rw [boolsA_size]; omega)]
  · rw [if_neg e]
    by_cases hi : i < n
    · rw [boolsA_at _ hi, boolsA_at _ hi]; simp [putS, Ne.symm e]
    · rw [Array.getElem?_eq_none (by rw [boolsA_size]; omega), Array.getElem?_eq_none (by rw [boolsA_size]; omega)]
theorem made_bools (n : Nat) : madeCells #[.bool false] n = boolsA n (fun _ => false) := by
  apply Array.ext_getElem?
  intro i
  by_cases hi : i < n
  · rw [boolsA_at _ hi]
    simp [madeCells, hi, Nat.mod_one]
  · rw [Array.getElem?_eq_none (by rw [size_madeCells]; omega), Array.getElem?_eq_none (by rw [boolsA_size]; omega)]
/-- Block b is the bools s. -/
def BlAt (w : World) (b n : Nat) (s : Nat → Bool) : Prop := w.heap[b]? = some (.cells (boolsA n s) 4)
section
variable {w w' : World} {b n : Nat} {s : Nat → Bool}
theorem BlAt.lt (h : BlAt w b n s) : b < w.heap.size := block_lt h
theorem BlAt.cell (h : BlAt w b n s) {k : Nat} (hk : k < n) : w.cell? ⟨b, k, none⟩ = some (.bool (s k)) := by
  rw [cell_of_row _ _ k _ _ (0, 0) h]; exact boolsA_at s hk
theorem BlAt.frozen (h : BlAt w b n s) (k : Nat) : w.frozen? ⟨b, k, none⟩ = false := by simp [World.frozen?, show w.heap[b]? = _ from h]
theorem BlAt.keep (h : BlAt w b n s) (hb : Below w.heap.size w w') : BlAt w' b n s := (hb.block b h.lt).trans h
theorem BlAt.put (h : BlAt w b n s) (k : Nat) : BlAt (w.setCell ⟨b, k, none⟩ (.bool true)) b n (putS s k) := by
  unfold BlAt at *
  simp only [World.setCell, Array.getElem?_modify, if_pos, h, Option.map_some]
  rw [← boolsA_put]; rfl
theorem BlAt.new (w : World) (n : Nat) (s : Nat → Bool) : BlAt (w.alloc (.cells (boolsA n s) 4)) w.heap.size n s := heap_alloc_new w _
end
theorem Try.infoBool : (Try.prog.info? 4).map (fun i => (i.zero, i.size, i.bytes)) = some (some (.bool false), 1, 1) := by kernel_rfl
theorem make_bools (n : Nat) (hn : n ≤ 64) (w : World) : (Instr.makeSlice 43 (.int .i64 (n : Int)) (.int .i64 (n : Int))).run Try.prog w = .ok (.slice (some ⟨w.heap.size, 0, none⟩) n n) (w.alloc (.cells (boolsA n (fun _ => false)) 4)) := by
  obtain ⟨i, hi, hz, hs, hb⟩ := info_parts Try.infoBool
  have h := run_make (P := Try.prog) w 43 4 i _ Try.underlying43 hi hz .i64 .i64 (n : Int) (n : Int) (by omega) (Int.le_refl _) (by rw [hb]; omega) (by omega)
  simp only [Int.toNat_natCast, hs, Nat.mul_one] at h
  rw [← made_bools]
  exact h
def symB (M : Nat → Bool) (s : Sy) : Bool := decide (s.name ≠ -1) && M s.name.toNat
def empB (M : Nat → Bool) (l : List Sy) : Bool := l.all (symB M)
theorem IsSys.cel {w : World} {F : Nat → Prop} {p : Option Addr} {n c : Nat} {l : List Sy} (h : IsSys w F (.slice p n c) l) {k : Nat} {s : Sy} (hk : l[k]? = some s) : ∃ g o, p = some ⟨g, o, none⟩ ∧ g < w.heap.size ∧ w.cell? ⟨g, o + k * 3, none⟩ = some (.int .i64 s.name) ∧ w.cell? ⟨g, o + k * 3 + 1, none⟩ = some (.int .i64 s.lo) ∧ w.cell? ⟨g, o + k * 3 + 2, none⟩ = some (.int .i64 s.hi) := by
  obtain ⟨p2, c2, e2, _, hc⟩ := h
  injection e2 with e3
  subst e3
  have hlt := (List.getElem?_eq_some_iff.1 hk).1
  obtain ⟨g, o, e, _, hg, cc, _⟩ := hc (by omega)
  obtain ⟨a0, a1, a2⟩ := sysV_at l k s hk
  exact ⟨g, o, e, hg, cc _ _ a0, by rw [Nat.add_assoc]; exact cc _ _ a1, by rw [Nat.add_assoc]; exact cc _ _ a2⟩
theorem takeAll {α : Type} {p : α → Bool} {l : List α} {k : Nat} {a : α} (h : l[k]? = some a) : (l.take (k + 1)).all p = ((l.take k).all p && p a) := by
  rw [List.take_add_one, h]
  simp
theorem allFalse {α : Type} {p : α → Bool} {l : List α} {k : Nat} {a : α} (h : l[k]? = some a) (hp : p a = false) : l.all p = false := by
  rw [List.all_eq_false]
  exact ⟨a, List.mem_of_getElem? h, by rw [hp]; decide⟩
theorem bel_one {B : Nat} {w wr : World} (h : Below B w wr) (hB : B ≤ wr.heap.size) (o : Obj) : Below B w (wr.alloc o) := h.alloc hB o
def symIn (n : Nat) (s : Sy) : Prop := s.name = -1 ∨ 0 ≤ s.name ∧ s.name < (n : Int)
set_option maxHeartbeats 4000000 in
set_option maxRecDepth 100000 in
theorem marked_any (M : Nat → Bool) (n b : Nat) (v : Value) (l : List Sy) (w : World) {F : Nat → Prop} (hs : IsSys w F v l) (hb : BlAt w b n M) (hm : ∀ s, s ∈ l → symIn n s) :
    Calls Try.prog 33 #[v, .slice (some ⟨b, 0, none⟩) n n] w fun e w' => e = .returned (.bool (empB M l)) ∧ Hid (Below w.heap.size w w') := by
  obtain ⟨p, cp, rfl⟩ := IsSys.slc hs
  have hl9 : l.length ≤ 9223372036854775807 := by obtain ⟨_, _, _, h, _⟩ := hs; have := h.1; unfold maxLen at this; omega
  obtain ⟨R, hR⟩ : ∃ R, R = empB M l := ⟨_, rfl⟩
  have HR : Hid (R = l.all (symB M)) := hR
  have HS : Hid (IsSys w F (.slice p l.length cp) l) := hs
  have HB : Hid (BlAt w b n M) := hb
  have HM : Hid (∀ s, s ∈ l → symIn n s) := hm
  rw [← hR]
  clear hs hb hm hR
  go_enter Try.func33, Try.ntmps33
  go_wp2
  go_loopw [9] (fun i wr => ∃ k : Nat, k ≤ l.length ∧ i = .int .i64 k ∧ Hid (Below w.heap.size w wr) ∧ Hid ((l.take k).all (symB M) = true)) (fun i _ => l.length - (intOf i).toNat)
  case atStart => exact ⟨0, Nat.zero_le _, rfl, Below.refl _ _, rfl⟩
  case round =>
    obtain ⟨k, hk, rfl, HW, HT⟩ := hrel
    by_cases hlt : k < l.length
    · obtain ⟨t, ht⟩ : ∃ t, l[k]? = some t := ⟨_, List.getElem?_eq_getElem hlt⟩
      obtain ⟨g1, o1, hp, hg1, a0, a1, a2⟩ := (HS.out.any HW.out).cel ht
      subst hp
      have hsi := HM.out t (List.mem_of_getElem? ht)
      have hta := takeAll (p := symB M) ht
      have hfa := fun h => allFalse (p := symB M) ht h
      have HB2 : Hid (Below w.heap.size w (wr.alloc (.cells #[.int .i64 t.name, .int .i64 t.lo, .int .i64 t.hi] 36))) := bel_one HW.out HW.out.size _
      obtain ⟨nm, lo, hi⟩ := t
      unfold symIn at hsi
      simp only at a0 a1 a2 hsi HB2
      by_cases hn : nm = -1
      · have HN : Hid (R = false) := by show _ = _; rw [HR.out]; refine hfa ?_; unfold symB; simp [hn]
        subst hn
        clear ht hta hfa hsi
        go_wp2
        go_ret
        exact ⟨by rw [HN.out]; rfl, HB2⟩
      · obtain ⟨x, rfl⟩ : ∃ x : Nat, nm = (x : Int) := ⟨nm.toNat, by have := hsi.resolve_left hn; omega⟩
        have hx : x < n := by have := hsi.resolve_left hn; omega
        have hbr := (HB.out.keep HW.out)
        have cb := hbr.cell hx
        have hbl := hbr.lt
        have ne1 : ((x : Int) == -1) = false := by rw [beq_eq_false_iff_ne]; omega
        have ne2 : ¬ (x : Int) = -1 := hn
        have hsy : symB M ⟨(x : Int), lo, hi⟩ = M x := by unfold symB; simp [hn]
        rw [hsy] at hta
        rw [hsy] at hfa
        cases hM : M x with
        | false =>
          rw [hM] at cb
          have HN : Hid (R = false) := by show _ = _; rw [HR.out]; exact hfa hM
          clear ht hta hfa hsi hM hsy hbr
          go_wp2
          go_ret
          exact ⟨by rw [HN.out]; rfl, HB2⟩
        | true =>
          rw [hM] at cb
          have HN : Hid ((l.take (k + 1)).all (symB M) = true) := by show _ = _; rw [hta, HT.out, hM]; rfl
          clear ht hta hfa hsi hM hsy hbr
          go_wp2
          go_roundw
          case rel => exact ⟨k + 1, by omega, by go_num, HB2, HN⟩
          case measure => simp [intOf]; omega
    · obtain rfl : k = l.length := by omega
      have HN : Hid (R = true) := by show _ = _; rw [HR.out]; have := HT.out; rwa [List.take_length] at this
      go_wp2
      go_ret
      exact ⟨by rw [HN.out]; rfl, HW⟩
/-- A turn: the head comes to nothing if all of the row does. -/
def trE (E : Nat → Bool) (h : Int) (l : List Sy) : Bool × (Nat → Bool) := if E h.toNat = true ∨ empB E l = false then (false, E) else (true, putS E h.toNat)
theorem trE_no {E : Nat → Bool} {h : Int} {l : List Sy} (e : (trE E h l).1 = false) : (trE E h l).2 = E := by
  unfold trE at e ⊢
  split
  · rfl
  · rename_i hc; rw [if_neg hc] at e; cases e
/-- How many of the first n are not yet in. -/
def offS (n : Nat) (E : Nat → Bool) : Nat := ((List.range n).filter fun k => !E k).length
theorem offS_put {n : Nat} {E : Nat → Bool} {k : Nat} (hk : k < n) (hE : E k = false) : offS n (putS E k) < offS n E := by
  unfold offS
  have h1 : ∀ m, ((List.range m).filter fun j => !putS E k j).length + (if k < m then 1 else 0) = ((List.range m).filter fun j => !E j).length := fun m => by
    induction m with
    | zero => simp
    | succ m ih =>
      rw [List.range_succ, List.filter_append, List.filter_append, List.length_append, List.length_append, ← ih]
      by_cases e : m = k
      · subst e
        simp [putS, hE]
      · have e2 : putS E k m = E m := by unfold putS; rw [if_neg e]
        have e3 : (k < m + 1) = (k < m) := by apply propext; omega
        simp only [List.filter_cons, List.filter_nil, e2, e3]
        omega
  have := h1 n
  rw [if_pos hk] at this
  omega
theorem trE_yes {n : Nat} {E : Nat → Bool} {h : Int} {l : List Sy} (hh : h.toNat < n) (e : (trE E h l).1 = true) : offS n (trE E h l).2 < offS n E := by
  unfold trE at e ⊢
  split
  · rename_i hc; rw [if_pos hc] at e; cases e
  · rename_i hc
    refine offS_put hh ?_
    cases hE : E h.toNat with
    | true => exact absurd (Or.inl hE) hc
    | false => rfl
theorem BlAt.but {w w' : World} {b n : Nat} {s : Nat → Bool} {x : Nat} (h : BlAt w b n s) (hb : But w.heap.size x w w') (hx : b ≠ x) : BlAt w' b n s := (hb.block b h.lt hx).trans h
set_option maxHeartbeats 4000000 in
set_option maxRecDepth 100000 in
theorem turnE_any (E : Nat → Bool) (n b y k : Nat) (u : Value) (l : List Sy) (w : World) {F : Nat → Prop} (hk : k < n) (hn : n ≤ 64) (hs : IsSys w F u l) (hm : ∀ s, s ∈ l → symIn n s) (hb : BlAt w b n E) (hy : w.cell? ⟨y, 0, none⟩ = some (.slice (some ⟨b, 0, none⟩) n n)) :
    Calls Try.prog 32 #[.int .i64 (k : Int), u, .pointer (some ⟨y, 0, none⟩)] w fun e w' => e = .returned (.bool (trE E (k : Int) l).1) ∧ Hid (BlAt w' b n (trE E (k : Int) l).2) ∧ Hid (But w.heap.size b w w') := by
  have KM := fun w' (h : Below w.heap.size w w') => marked_any E n b u l w' (hs.any h) (hb.keep h) hm
  have HBB : Hid (BlAt w b n E) := hb
  have cb := hb.cell hk
  obtain ⟨p4, c4, hu⟩ := IsSys.slc hs
  obtain ⟨z, hz⟩ : ∃ z, z = l.length := ⟨_, rfl⟩
  rw [← hz] at hu
  subst hu
  have hkI : (k : Int) < (n : Int) := by omega
  have HBL : Hid (b < w.heap.size) := hb.lt
  cases hE : E k with
  | true =>
    have e1 : trE E (k : Int) l = (false, E) := by
      show (if E k = true ∨ empB E l = false then _ else _) = _
      rw [if_pos (Or.inl hE)]
    rw [hE] at cb
    rw [e1]
    clear e1 hE hs hm hb KM hz
    go_enter Try.func32, Try.ntmps32
    go_wp2
    go_ret
    exact ⟨rfl, HBB, But.refl _ _ _⟩
  | false =>
    rw [hE] at cb
    have K1 := KM w (Below.refl _ _)
    cases hem : empB E l with
    | false =>
      have e1 : trE E (k : Int) l = (false, E) := by
        show (if E k = true ∨ empB E l = false then _ else _) = _
        rw [if_pos (Or.inr hem)]
      rw [hem] at K1
      rw [e1]
      clear e1 hE hs hm hb KM hz hem
      go_enter Try.func32, Try.ntmps32
      go_wp2_with (go_at_call 33; refine K1.mono ?_; rintro e w2 ⟨rfl, b2⟩)
      go_ret
      exact ⟨rfl, HBB.out.keep b2.out, But.of b2.out⟩
    | true =>
      have e1 : trE E (k : Int) l = (true, putS E k) := by
        have hc : ¬ (E k = true ∨ empB E l = false) := fun h => by
          rcases h with h | h
          · rw [hE] at h; cases h
          · rw [hem] at h; cases h
        show (if E k = true ∨ empB E l = false then _ else _) = _
        rw [if_neg hc]
        rfl
      rw [hem] at K1
      rw [e1]
      clear e1 hE hs hm hb KM hz hem
      have YL : Hid (y < w.heap.size) := cell_in hy
      go_enter Try.func32, Try.ntmps32
      go_wp2_with (go_at_call 33; refine K1.mono ?_; rintro e w2 ⟨rfl, b2⟩; have y2 : w2.cell? ⟨y, 0, none⟩ = some (.slice (some ⟨b, 0, none⟩) n n) := (b2.out.cell (p := ⟨y, 0, none⟩) YL.out).trans hy; have q2 : w2.cell? ⟨b, k, none⟩ = some (.bool false) := (b2.out.cell (p := ⟨b, k, none⟩) HBL.out).trans cb; have f2 : w2.frozen? ⟨b, k, none⟩ = false := (HBB.out.keep b2.out).frozen k)
      go_ret
      exact ⟨rfl, (HBB.out.keep b2.out).put k, (But.of b2.out).setCell (p := ⟨b, k, none⟩) rfl _⟩
end Go.Proofs.Ytopokicdgdjgkaa
