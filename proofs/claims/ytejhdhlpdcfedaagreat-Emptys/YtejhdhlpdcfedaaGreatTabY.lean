import Derived.Test.YtejhdhlpdcfedaaGreatTabH
import Derived.Test.YtejhdhlpdcfedaaGreatTabG
import Derived.Test.YtejhdhlpdcfedaaGreatStrRef2
import Derived.Test.YtejhdhlpdcfedaaGreatNulTop
/- The document's table while its places are laid: rows of rows of numbers. -/
namespace Go.Proofs.YtejhdhlpdcfedaaGreat
set_option linter.unusedVariables false
open Go.ChangeShapes Go.WideShapes Go.ChangeAt Go.RowKit

theorem Tryz.infoIntsT : (Tryz.prog.info? 44).map (fun i => (i.zero, i.size, i.bytes)) = some (some (.slice none 0 0), 1, 24) := by kernel_rfl
/-- Two values lie in blocks apart. -/
def Apt (a b : Value) : Prop := ∀ k, a.ownBlock = some k → b.ownBlock ≠ some k
/-- Where the places of the first conjuncts begin. -/
def offL (s : Nat) (l : List Cn) (c : Nat) : List Nat := (List.range c).map fun j => s + offC l j
theorem offL_succ (s : Nat) (l : List Cn) (c : Nat) : offL s l (c + 1) = offL s l c ++ [s + offC l c] := by unfold offL; rw [List.range_succ]; simp
theorem offL_length (s : Nat) (l : List Cn) (c : Nat) : (offL s l c).length = c := by simp [offL]
/-- The rows of the first k rules are laid. -/
structure Cm (B : Nat) (l : List Ru) (k : Nat) (cv : Value) (us : List Value) (w : World) : Prop where
  len : us.length = k
  row : w.ownsRow B 44 1 cv k us
  rws : ∀ (q : Nat) (r : Ru) (u : Value), l[q]? = some r → us[q]? = some u → w.ownsRow B 3 1 u r.conj.length (nsV (offL (offR l q) r.conj r.conj.length))
section
variable {B : Nat} {w w' : World}
theorem row_setT {e size n : Nat} {v : Value} {xs : List Value} (h : w.ownsRow B e size v n xs) {b j : Nat} (hb : b < B) (x : Value) : (w.setCell ⟨b, j, none⟩ x).ownsRow B e size v n xs := ownsRow_setCell_other (a := ⟨b, j, none⟩) h (fun e => by have := (h.lt b e).1; omega) x
theorem Cm.any {l : List Ru} {k : Nat} {cv : Value} {us : List Value} (h : Cm B l k cv us w) (hb : Below w.heap.size w w') : Cm B l k cv us w' := ⟨h.len, row_keep h.row hb, fun q r u h1 h2 => row_keep (h.rws q r u h1 h2) hb⟩
theorem Cm.set {l : List Ru} {k : Nat} {cv : Value} {us : List Value} (h : Cm B l k cv us w) {b j : Nat} (hb : b < B) (x : Value) : Cm B l k cv us (w.setCell ⟨b, j, none⟩ x) := ⟨h.len, row_setT h.row hb x, fun q r u h1 h2 => row_setT (h.rws q r u h1 h2) hb x⟩
/-- A row of numbers of its own grows. -/
theorem app_num {a : Value} {la : List Nat} (h : w.ownsRow B 3 1 a la.length (nsV la)) (hB : B ≤ w.heap.size) (hl : la.length ≤ 100000000) (ix : Nat) :
    ∃ p c w', (Builtin.append_ #[44, 44] 44 #[a, .slice (some ⟨w.heap.size, 0, none⟩) 1 1]).run Tryz.prog (w.alloc (.cells #[.int .i64 (ix : Int)] 3)) = .ok (.slice p (la.length + 1) c) w' ∧ w'.ownsRow B 3 1 (.slice p (la.length + 1) c) (la ++ [ix]).length (nsV (la ++ [ix])) ∧ Below B w w' ∧ KeepT w w' ∧ (∀ (b : Value) (n : Nat) (xs : List Value), w.ownsRow B 3 1 b n xs → Apt a b → w'.ownsRow B 3 1 b n xs ∧ Apt (.slice p (la.length + 1) c) b) ∧ ∀ (b : Value) (n : Nat) (xs : List Value), w.ownsRow B 44 1 b n xs → w'.ownsRow B 44 1 b n xs := by
  obtain ⟨i0, hi0, hz0, hz1, hz2⟩ := info_partsT Tryz.infoIntT
  obtain ⟨gg, cap, w2, hrun, hown, hgrow, hat, _⟩ := run_append_lies (P := Tryz.prog) (w.alloc (.cells #[.int .i64 (ix : Int)] 3)) 44 44 B 3 i0 _ 1 8 Tryz.underlying44 hi0 hz0 hz1 hz2 rfl (by omega) a la.length (nsV la) (h.alloc _) ⟨w.heap.size, 0, none⟩ 1 1 [.int .i64 (ix : Int)] rfl
    (World.news_of_block (cs := #[.int .i64 (ix : Int)]) (t := 3) (fr := (0, 0)) (heap_alloc_new w _)) (by intro u hu; simp at hu; subst hu; rfl) (by omega) (by unfold maxLen; omega) (by omega) (by simp; omega) (w.heap.size + 1) (by simp)
  refine ⟨_, _, _, hrun, ?_, ?_, fun k cs ty fr hty hk => ?_, fun b n xs hb hne => ⟨?_, ?_⟩, fun b n xs hb => ?_⟩
  · have e : (la ++ [ix]).length = la.length + 1 := by simp
    have e2 : nsV (la ++ [ix]) = nsV la ++ [.int .i64 (ix : Int)] := by simp [nsV]
    rw [e, e2]; exact hown
  · exact (((Below.refl _ _).mono hB).alloc hB _).grown hgrow (Nat.le_trans hB (by simp)) (fun k hk => (h.lt k hk).1)
  · have hkl := blk_ltT hk
    have h9 : (w.alloc (.cells #[.int .i64 (ix : Int)] 3)).heap[k]? = some (.cells cs ty fr) := ((bel1 w _).block k hkl).trans hk
    exact (hgrow.block k (blk_ltT h9) (fun e => own_neL h hk (Ne.symm hty) e.symm)).trans h9
  · refine (hb.alloc (.cells #[.int .i64 (ix : Int)] 3)).kept hgrow ?_
    cases hbb : b.ownBlock with
    | none => exact Or.inl rfl
    | some k => exact Or.inr (fun e => hne k e.symm hbb)
  · intro k h1 h2
    have hk : k = gg := own_is h1
    subst hk
    rcases hat with hat | hat
    · exact hne _ hat h2
    · have := (hb.lt _ h2).2
      omega
  · refine (hb.alloc (.cells #[.int .i64 (ix : Int)] 3)).kept hgrow ?_
    cases hbb : b.ownBlock with
    | none => exact Or.inl rfl
    | some k => exact Or.inr (fun e => row_apart hb h (by decide) k hbb e.symm)
/-- A row of rows of its own grows. -/
theorem app_row {a : Value} {n : Nat} {us : List Value} (h : w.ownsRow B 44 1 a n us) (hB : B ≤ w.heap.size) (hl : n ≤ 100000000) (u : Value) (hu : u.oneCell' = true) :
    ∃ p c w', (Builtin.append_ #[70, 70] 70 #[a, .slice (some ⟨w.heap.size, 0, none⟩) 1 1]).run Tryz.prog (w.alloc (.cells #[u] 44)) = .ok (.slice p (n + 1) c) w' ∧ w'.ownsRow B 44 1 (.slice p (n + 1) c) (n + 1) (us ++ [u]) ∧ Below B w w' ∧ (∀ (k : Nat) (cs : Array Value) (ty : TypeId) (fr : Nat × Nat), ty ≠ 44 → w.heap[k]? = some (.cells cs ty fr) → w'.heap[k]? = some (.cells cs ty fr)) ∧ ∀ (b : Value) (n : Nat) (xs : List Value), w.ownsRow B 3 1 b n xs → w'.ownsRow B 3 1 b n xs := by
  obtain ⟨i0, hi0, hz0, hz1, hz2⟩ := info_partsT Tryz.infoIntsT
  obtain ⟨gg, cap, w2, hrun, hown, hgrow, hat, _⟩ := run_append_lies (P := Tryz.prog) (w.alloc (.cells #[u] 44)) 70 70 B 44 i0 _ 1 24 Tryz.underlying70 hi0 hz0 hz1 hz2 rfl (by omega) a n us (h.alloc _) ⟨w.heap.size, 0, none⟩ 1 1 [u] rfl
    (World.news_of_block (cs := #[u]) (t := 44) (fr := (0, 0)) (heap_alloc_new w _)) (by intro x hx; simp at hx; subst hx; exact hu) (by omega) (by unfold maxLen; omega) (by omega) (by simp; omega) (w.heap.size + 1) (by simp)
  refine ⟨_, _, _, hrun, hown, ?_, fun k cs ty fr hty hk => ?_, fun b n xs hb => ?_⟩
  · exact (((Below.refl _ _).mono hB).alloc hB _).grown hgrow (Nat.le_trans hB (by simp)) (fun k hk => (h.lt k hk).1)
  · have hkl := blk_ltT hk
    have h9 : (w.alloc (.cells #[u] 44)).heap[k]? = some (.cells cs ty fr) := ((bel1 w _).block k hkl).trans hk
    exact (hgrow.block k (blk_ltT h9) (fun e => own_neL h hk (Ne.symm hty) e.symm)).trans h9
  · refine (hb.alloc (.cells #[u] 44)).kept hgrow ?_
    cases hbb : b.ownBlock with
    | none => exact Or.inl rfl
    | some k => exact Or.inr (fun e => row_apart hb h (by decide) k hbb e.symm)
end
/-- All rows are laid: where each conjunct's places begin. -/
theorem Cm.con {B : Nat} {w : World} {l : List Ru} {cv : Value} {us : List Value} (h : Cm B l l.length cv us w) {F : Nat → Prop} (hF : ∀ i, B ≤ i → i < w.heap.size → F i) : ConIs w F cv l := by
  refine ⟨us, h.len, Reads.of h.row (fun b e => hF b (h.row.lt b e).1 (h.row.lt b e).2), fun q r u h1 h2 => ?_⟩
  have h3 := h.rws q r u h1 h2
  have h4 := Reads.of h3 (F := F) (fun b e => hF b (h3.lt b e).1 (h3.lt b e).2)
  have e : nsV (offL (offR l q) r.conj r.conj.length) = (List.range r.conj.length).map fun c => Value.int .i64 ((offR l q + offC r.conj c : Nat) : Int) := by unfold nsV offL; simp
  rw [e] at h4
  exact h4
/-- An empty table. -/
theorem FL.begin (t : Tp) (f : Nat → Nat) : FL t f 0 (fun _ => 0) (fun _ => 0) := by
  have e : MN t (fun _ => 0) = fun _ _ _ => false := by
    funext x i j
    unfold MN hasN; simp
  refine ⟨fun q c p r d _ _ _ i j _ _ h => ?_, by rw [e]; exact Jn3.begin _ _ _ _, fun q c p r d _ h => by omega⟩
  unfold hasR at h
  simp at h
/-- A table that is filled says what its names mean. -/
theorem FL.done {t : Tp} {f : Nat → Nat} {k : Nat} {hN hR : Nat → Int} (h : FL t f k hN hR) (hk : ∀ r, r ∈ t.g.rules → f r.head.toNat < k) : Stb3 (btsT t) t.m t.g.rules (MN t hN) ∧ SoundR t hN hR ∧ ∀ (q : Nat) (r : Ru), t.g.rules[q]? = some r → CompQ t hN hR q r :=
  ⟨h.jn.fin hk, h.so, fun q r hr c d hd p hp i j hij hj hh => h.lo q c p r d hr (hk r (List.mem_of_getElem? hr)) hd hp i j hij hj hh⟩
end Go.Proofs.YtejhdhlpdcfedaaGreat
/- The document's table: NewTable, walked. -/
namespace Go.Proofs.YtejhdhlpdcfedaaGreat
set_option linter.unusedVariables false
open Go.ChangeShapes Go.WideShapes Go.ChangeAt Go.RowKit

/-- A table of a grammar and a text, as the document makes it. -/
def TabOk (g : Gr) (W : ByteArray) (tb : Nat) (w' : World) : Prop :=
  ∃ (t : Tp) (xb yb : Nat) (F : Nat → Prop) (hN hR : Nat → Int) (n : Nat), t.g = g ∧ t.W = W ∧ Tw t ∧ Ts F tb (t.at xb yb) (rkI t hN hR n).1 (rkI t hN hR n).2 w' ∧ RkEnd t hN hR n ∧ Stb3 (btsT t) t.m t.g.rules (MN t hN) ∧ SoundR t hN hR ∧ ∀ (q : Nat) (r : Ru), t.g.rules[q]? = some r → CompQ t hN hR q r
theorem cells3O {w : World} {x0 x1 x2 : Value} {t : TypeId} {w' : World} (hb : Below (w.alloc (.cells #[x0, x1, x2] t)).heap.size (w.alloc (.cells #[x0, x1, x2] t)) w') : w'.cell? ⟨w.heap.size, 0, none⟩ = some x0 ∧ w'.cell? ⟨w.heap.size, 1, none⟩ = some x1 ∧ w'.cell? ⟨w.heap.size, 2, none⟩ = some x2 := cells3T hb
set_option maxHeartbeats 4000000 in
set_option maxRecDepth 100000 in
theorem newTable_no (g : Gr) (v1 v2 : Value) (W : ByteArray) (w : World) {F : Nat → Prop} (hg : GrIs w F v1 v2 g) (hn : ∀ s, s ∈ g.names → s.size ≤ maxLen) (hM : mayG g = false ∨ ∃ t, (edgesT g).find? (badE g.names.length (edgesT g)) = some t) :
    Calls Tryz.prog 15 #[.agg #[.int .i64 g.start, v1, v2], .string W] w fun e w' => e = .returned (.tuple #[.pointer none, .int .i64 1100]) ∧ Hid (Below w.heap.size w w') := by
  obtain ⟨W1, hW1⟩ : ∃ W1, W1 = w.alloc (.cells #[.int .i64 g.start, v1, v2] 25) := ⟨_, rfl⟩
  have hb1 : Below w.heap.size w W1 := by rw [hW1]; exact bel1 _ _
  have K1 : Calls Tryz.prog 24 #[.agg #[.int .i64 g.start, v1, v2]] W1 fun e w' => ∃ u er, e = .returned (.tuple #[.slice none 0 0, u, .int .i64 er]) ∧ er ≠ 0 ∧ Hid (Below W1.heap.size W1 w') := by
    cases hm : mayG g with
    | false => exact (refStrata_no g v1 v2 W1 (hg.any hb1) hn hm).mono fun e w' ⟨h1, h2⟩ => ⟨_, _, h1, by decide, h2⟩
    | true =>
      obtain ⟨t, ht⟩ := hM.resolve_left (by rw [hm]; simp)
      obtain ⟨D, hD⟩ := far_ex (edgesT g) t.1.toNat
      exact (refStrata_cyc g v1 v2 W1 (hg.any hb1) hn hm t ht D hD).mono fun e w' ⟨u, h1, _, h2⟩ => ⟨u, _, h1, by decide, h2⟩
  have HB1 : Hid (Below w.heap.size w W1) := hb1
  obtain ⟨p1, l1, hv1⟩ : ∃ p c, v1 = .slice p g.names.length c := by obtain ⟨p, c, e, _⟩ := hg.1; exact ⟨_, _, e⟩
  obtain ⟨p2, c2, hv2⟩ := hg.2.slc
  subst hv1 hv2
  clear hg hn hM hb1
  go_enter Tryz.func15, Tryz.ntmps15
  go_upto_region 2 with (go_at_call 24; rw [← hW1]; refine K1.mono ?_; rintro e w2 ⟨u, er, rfl, hne, b2⟩)
  have n1 : (er == 0) = false := by simp [hne]
  have HB2 : Hid (Below w.heap.size w w2) := HB1.out.trans (b2.out.mono HB1.out.size)
  clear hW1 K1
  go_wp2
  go_ret2
  exact ⟨rfl, HB2⟩
theorem mayCsO (k : Nat) : ∀ (l : List Cn) (n m : Nat), mayCs k n l = some m → n ≤ 1024 → m ≤ 1024 ∧ n + offC l l.length = m + l.length
  | [], n, m, h, hn => by
    have : n = m := by unfold mayCs at h; injection h
    subst this
    exact ⟨hn, by simp [offC]⟩
  | a :: l, n, m, h, hn => by
    unfold mayCs at h
    split at h
    · rename_i hc
      obtain ⟨h1, h2⟩ := mayCsO k l _ m h hc.1
      refine ⟨h1, ?_⟩
      have e : offC (a :: l) (a :: l).length = (a.seq.length + 1) + offC l l.length := by unfold offC; simp
      rw [e]; simp only [List.length_cons]; omega
    · cases h
theorem mayRsO (k : Nat) : ∀ (l : List Ru) (n : Nat), mayRs k n l = true → n ≤ 1024 → n + offR l l.length ≤ 1024 + 8 * l.length
  | [], n, _, hn => by simp [offR]; omega
  | a :: l, n, h, hn => by
    unfold mayRs at h
    split at h
    · rename_i hc
      split at h
      · cases h
      · rename_i m hm
        obtain ⟨h1, h2⟩ := mayCsO k _ n m hm hn
        have h3 := mayRsO k l m h h1
        have e : offR (a :: l) (a :: l).length = offC a.conj a.conj.length + offR l l.length := by unfold offR; simp
        rw [e]; simp only [List.length_cons]; omega
    · cases h
theorem mayG_off {g : Gr} (h : mayG g = true) : offR g.rules g.rules.length ≤ 4000 := by
  unfold mayG mayRules at h
  simp only [Bool.and_eq_true, decide_eq_true_eq] at h
  have h1 := mayRsO _ _ _ h.2.2.2.2.2 (Nat.zero_le _)
  have h2 := h.2.2.2.2.1
  omega
theorem IsInts.cellO {w : World} {F : Nat → Prop} {v : Value} {n : Nat} {f : Nat → Nat} (h : IsInts w F v (levL n f)) (hn : 0 < n) : ∃ g o c, v = .slice (some ⟨g, o, none⟩) n c ∧ g < w.heap.size ∧ ∀ x, x < n → w.cell? ⟨g, o + x, none⟩ = some (.int .i64 (f x : Int)) := by
  obtain ⟨p, c, e, _, hc⟩ := h
  rw [levL_length] at e hc
  obtain ⟨g, o, hp, _, hg, cc, _⟩ := hc hn
  subst hp
  exact ⟨g, o, c, e, hg, fun x hx => cc x _ (by unfold intsV; rw [List.getElem?_map, levL_at f hx]; rfl)⟩
theorem apt_nil (b : Value) : Apt (.slice none 0 0) b := fun k h => by cases h
theorem offC_ge (l : List Cn) : ∀ c, c ≤ l.length → c ≤ offC l c
  | 0, _ => Nat.zero_le _
  | c + 1, h => by
    have h1 := offC_ge l c (by omega)
    rw [offC_succ (List.getElem?_eq_getElem (show c < l.length by omega))]; omega
/-- A block is made, and its slice laid into a cell of another one. -/
structure Mkd (U : World) (tb j n : Nat) (v : Value) (cs : Array Value) (ty : TypeId) (U' : World) : Prop where
  size : U'.heap.size = U.heap.size + 1
  old : ∀ i, i ≠ tb → i < U.heap.size → U'.heap[i]? = U.heap[i]?
  tab : U'.heap[tb]? = some (.cells (cs.setIfInBounds j v) ty)
  ibk : IBk U' U.heap.size n (fun _ => 0)
  os : U'.os = U.os
  tape : U'.tape = U.tape
  output : U'.output = U.output
theorem tb_make {U : World} {tb : Nat} (j n : Nat) (v : Value) {cs : Array Value} {ty : TypeId} (h : U.heap[tb]? = some (.cells cs ty)) : Mkd U tb j n v cs ty ((U.setCell ⟨tb, j, none⟩ v).alloc (.cells (zerA n) 3)) := by
  have hl := blk_ltT h
  have h1 : (U.setCell ⟨tb, j, none⟩ v).heap.size = U.heap.size := Go.Deep.nblk_setCell _ _ _
  refine ⟨by simp [h1], fun i hi hl2 => ?_, ?_, ?_, rfl, rfl, rfl⟩
  · exact ((bel1 _ _).block i (by rw [h1]; exact hl2)).trans (Go.Deep.blk_setCell_other _ ⟨tb, j, none⟩ _ i hi)
  · refine ((bel1 _ _).block tb (by rw [h1]; exact hl)).trans ?_
    simp only [World.setCell, Array.getElem?_modify, if_pos, h, Option.map_some]
    rfl
  · have h2 := IBk.zer (U.setCell ⟨tb, j, none⟩ v) n
    rw [h1] at h2
    exact h2
theorem Mkd.drew {U : World} {tb j n : Nat} {v : Value} {cs : Array Value} {ty : TypeId} {U' : World} (h : Mkd U tb j n v cs ty U') (hl : tb < U.heap.size) : Mkd U tb j n v cs ty U'.drew := by
  have hb : Below U'.heap.size U' U'.drew := (Below.refl _ _).drew
  have hz := h.size
  exact ⟨h.size, fun i h1 h2 => (hb.block i (by omega)).trans (h.old i h1 h2), (hb.block tb (by omega)).trans h.tab, h.ibk.keep hb, hb.os.trans h.os, hb.tape.trans h.tape, hb.output.trans h.output⟩
theorem Cm.nil (B : Nat) (l : List Ru) (w : World) : Cm B l 0 (.slice none 0 0) [] w := ⟨rfl, World.ownsRow_nil _ _ _ _, fun q r u _ h => by simp at h⟩
set_option maxHeartbeats 4000000 in
set_option maxRecDepth 100000 in
theorem newTable_ok (g : Gr) (v1 v2 : Value) (T : ByteArray) (w : World) {F0 : Nat → Prop} (hg : GrIs w F0 v1 v2 g) (hn : ∀ s, s ∈ g.names → s.size ≤ maxLen) (hM : mayG g = true) (hc : (edgesT g).find? (badE g.names.length (edgesT g)) = none) (hT : T.size ≤ 32) :
    Calls Tryz.prog 15 #[.agg #[.int .i64 g.start, v1, v2], .string T] w fun e w' => ∃ tb, e = .returned (.tuple #[.pointer (some ⟨tb, 0, none⟩), .int .i64 0]) ∧ Hid (TabOk g T tb w') ∧ Hid (Below w.heap.size w w') := by
  obtain ⟨W1, hW1⟩ : ∃ W1, W1 = w.alloc (.cells #[.int .i64 g.start, v1, v2] 25) := ⟨_, rfl⟩
  have hb1 : Below w.heap.size w W1 := by rw [hW1]; exact bel1 _ _
  have K1 := refStrata_ok g v1 v2 W1 (hg.any hb1) hn hM hc
  have hme := mayE_edges hM
  have hcl := clean_of (mayE_all hme).2.2 hc
  have HF : Hid (Str g.rules (levT g.names.length (edgesT g))) := str_of (lev_sol (mayE_all hme).2.2 hcl)
  have hlt : ∀ i, i < g.names.length → levT g.names.length (edgesT g) i < g.names.length := fun i hi => lev_lt (mayE_all hme).2.2 hcl hi
  obtain ⟨f, hf⟩ : ∃ f, f = levT g.names.length (edgesT g) := ⟨_, rfl⟩
  rw [← hf] at K1 HF hlt
  have hn64 : g.names.length ≤ 64 := mayG_names hM
  have hn0 : 0 < g.names.length := mayG_pos hM
  have hoff := mayG_off hM
  have hrl : g.rules.length ≤ 256 := by
    unfold mayG mayRules at hM
    simp only [Bool.and_eq_true, decide_eq_true_eq] at hM
    exact hM.2.2.2.2.1
  have HTW : Hid (∀ (cv : Value) (x y : Nat), Tw ⟨g, T, v1, v2, cv, x, y⟩) := fun cv x y => ⟨hn64, hoff, hT, fun r hr c hc s hs => mayG_sym hM r hr c hc s hs, fun r hr => mayG_head hM r hr⟩
  have HHD : Hid (∀ r, r ∈ g.rules → f r.head.toNat < g.names.length) := fun r hr => hlt _ (by have := mayG_head hM r hr; omega)
  obtain ⟨p1, l1, hv1⟩ : ∃ p c, v1 = .slice p g.names.length c := by obtain ⟨p, c, e, _⟩ := hg.1; exact ⟨_, _, e⟩
  obtain ⟨p2, c2, hv2⟩ := hg.2.slc
  obtain ⟨n, hnn⟩ : ∃ n, n = g.names.length := ⟨_, rfl⟩
  obtain ⟨N, hNN⟩ : ∃ N, N = g.rules.length := ⟨_, rfl⟩
  obtain ⟨st, hst⟩ : ∃ st, st = g.start := ⟨_, rfl⟩
  have HEQ : Hid (n = g.names.length ∧ N = g.rules.length ∧ st = g.start) := ⟨hnn, hNN, hst⟩
  have HG : Hid (GrIs w (fun i => i < w.heap.size) v1 v2 g) := ⟨Reads.low hg.1 (fun _ _ h => h), IsRus.low hg.2 (fun _ _ h => h)⟩
  rw [← hnn] at K1 hn64 hn0 hv1 HHD
  rw [← hNN] at hrl hv2
  rw [← hst] at K1 hW1 ⊢
  have hq : ∀ j, W1.cell? ⟨w.heap.size, j, none⟩ = (#[.int .i64 st, v1, v2] : Array Value)[j]? := fun j => by rw [hW1]; exact World.cell?_alloc_at _ _ _ _ rfl
  have HQ : Hid (∀ w', Below W1.heap.size W1 w' → w'.cell? ⟨w.heap.size, 0, none⟩ = some (.int .i64 st) ∧ w'.cell? ⟨w.heap.size, 1, none⟩ = some v1 ∧ w'.cell? ⟨w.heap.size, 2, none⟩ = some v2) := fun w' hb => by
    have hz : w.heap.size < W1.heap.size := by rw [hW1]; simp
    exact ⟨(hb.cell (p := ⟨_, _, none⟩) hz).trans (hq 0), (hb.cell (p := ⟨_, _, none⟩) hz).trans (hq 1), (hb.cell (p := ⟨_, _, none⟩) hz).trans (hq 2)⟩
  have HB1 : Hid (Below w.heap.size w W1) := hb1
  obtain ⟨gb, hgb⟩ : ∃ gb, gb = w.heap.size := ⟨_, rfl⟩
  obtain ⟨m, hm⟩ : ∃ m, m = T.size := ⟨_, rfl⟩
  have HM : Hid (m = T.size) := hm
  rw [← hm] at hT
  have hwz : (m + 1) * (m + 1) ≤ 33 * 33 := Nat.mul_le_mul (by omega) (by omega)
  obtain ⟨wd, hwe⟩ : ∃ wd, wd = (m + 1) * (m + 1) := ⟨_, rfl⟩
  have HWD : Hid (wd = (m + 1) * (m + 1)) := hwe
  rw [← hwe] at hwz
  have hmul : ((m : Int) + 1) * ((m : Int) + 1) = (wd : Int) := by rw [hwe]; push_cast; rfl
  have hw1 : IntKind.i64.wrap (wd : Int) = (wd : Int) := by rw [IntKind.wrap_i64]; omega
  have hmn : ¬ (32 : Int) < (m : Int) := by omega
  have hmd : decide ((32 : Int) < (m : Int)) = false := decide_eq_false hmn
  have hsz : T.size = m := hm.symm
  subst hv1 hv2
  obtain ⟨q0, q1, q2⟩ := HQ.out W1 (Below.refl _ _)
  clear hg hn hM hc hme hcl hlt hf hoff hb1 hnn hNN hst hq hm hwe
  go_enter Tryz.func15, Tryz.ntmps15
  go_upto_region 4 with (go_at_call 24; rw [← hW1]; refine K1.mono ?_; rintro e w2 ⟨u, rfl, IU, b2⟩)
  obtain ⟨lg, lo, lc, hu, hlg, hlev⟩ := IU.out.cellO hn0
  subst hu
  have HB2 : Hid (Below w.heap.size w w2) := HB1.out.trans (b2.out.mono HB1.out.size)
  have HQ2 : Hid (∀ w', Below w2.heap.size w2 w' → w'.cell? ⟨gb, 0, none⟩ = some (.int .i64 st) ∧ w'.cell? ⟨gb, 1, none⟩ = some (.slice p1 n l1) ∧ w'.cell? ⟨gb, 2, none⟩ = some (.slice p2 N c2)) := fun w' hb => by rw [hgb]; exact HQ.out w' (b2.out.trans (hb.mono b2.out.size))
  have HLV : Hid (lg < w2.heap.size ∧ ∀ x, x < n → w2.cell? ⟨lg, lo + x, none⟩ = some (.int .i64 (f x : Int))) := ⟨hlg, hlev⟩
  rw [← hgb]
  clear q0 q1 q2 hW1 K1 b2 IU hlg hlev HQ HB1 hgb
  obtain ⟨q0, q1, q2⟩ := HQ2.out w2 (Below.refl _ _)
  obtain ⟨V, hV⟩ : ∃ V, V = w2.alloc (.cells #[.int .i64 st, .slice p1 n l1, .slice p2 N c2, .string T, .int .i64 (wd : Int), .slice none 0 0, .slice none 0 0, .slice none 0 0] 72) := ⟨_, rfl⟩
  have hVb : Below w2.heap.size w2 V := by rw [hV]; exact bel1 _ _
  have hVt : V.heap[w2.heap.size]? = some (.cells #[.int .i64 st, .slice p1 n l1, .slice p2 N c2, .string T, .int .i64 (wd : Int), .slice none 0 0, .slice none 0 0, .slice none 0 0] 72) := by rw [hV]; exact heap_alloc_new _ _
  obtain ⟨tb, htb⟩ : ∃ tb, tb = w2.heap.size := ⟨_, rfl⟩
  have HTB : Hid (tb = w2.heap.size ∧ V.heap.size = tb + 1 ∧ w.heap.size ≤ tb) := ⟨htb, by rw [hV, htb]; simp, by rw [htb]; exact HB2.out.size⟩
  rw [← htb] at hVt
  have HVB : Hid (Below w2.heap.size w2 V) := hVb
  have HVT : Hid (V.heap[tb]? = some (.cells #[.int .i64 st, .slice p1 n l1, .slice p2 N c2, .string T, .int .i64 (wd : Int), .slice none 0 0, .slice none 0 0, .slice none 0 0] 72)) := hVt
  have HRW : Hid (∀ (i : Nat) (w' : World), i < N → Below w2.heap.size w2 w' → ∃ (hd : Int) (cs : List Cn) (g1 o1 : Nat) (p3 : Option Addr) (c3 : Nat), g.rules[i]? = some ⟨hd, cs⟩ ∧ p2 = some ⟨g1, o1, none⟩ ∧ w'.cell? ⟨g1, o1 + i * 2 + 1, none⟩ = some (.slice p3 cs.length c3) ∧ IsCns w (fun i => i < w.heap.size) (.slice p3 cs.length c3) cs ∧ cs.length ≤ 9223372036854775807) := fun i w' hi hb => by
    obtain ⟨r, hr⟩ : ∃ r, g.rules[i]? = some r := ⟨_, List.getElem?_eq_getElem (by rw [← HEQ.out.2.1]; exact hi)⟩
    obtain ⟨g1, o1, u1, hp1, a0, a1, hcn⟩ := HG.out.2.row hr
    obtain ⟨hd, cs⟩ := r
    obtain ⟨p3, c3, hu3, hl0⟩ := IsCns.lngU hcn
    subst hu3
    have hb9 := HB2.out.trans (hb.mono HB2.out.size)
    exact ⟨hd, cs, g1, o1, p3, c3, hr, hp1, (hb9.cell (p := ⟨_, _, none⟩) (cellU_lt a1)).trans a1, hcn, by unfold maxLen at hl0; simp only at hl0; omega⟩
  have HOF : Hid (∀ (k : Nat) (r : Ru) (c : Nat) (d : Cn), g.rules[k]? = some r → r.conj[c]? = some d → offR g.rules k + offC r.conj (c + 1) ≤ 4000) := fun k r c d hr hd => by
    have h1 := (plc_top (t := ⟨g, T, .slice p1 n l1, .slice p2 N c2, .slice none 0 0, 0, 0⟩) hr hd (Nat.zero_le _)).2
    have h2 := offR_mono (l := g.rules) (c := k + 1) (e := g.rules.length) (List.getElem?_eq_some_iff.1 hr).1
    rw [offR_succ hr] at h2
    have h3 := (HTW.out (.slice none 0 0) 0 0).z
    simp only at h3
    omega
  clear hVb hVt
  go_upto_region 5 with fail
  rw [← hV, ← htb]
  clear hV htb q0 q1 q2
  go_wp2
  go_loopw [10, 11] (fun q z wr => ∃ (k : Nat) (us : List Value) (cv : Value), k ≤ N ∧ z = .int .i64 k ∧ q = .int .i64 ((offR g.rules k : Nat) : Int) ∧ Hid (Cm (tb + 1) g.rules k cv us wr) ∧ Hid (wr.heap[tb]? = some (.cells #[.int .i64 st, .slice p1 n l1, .slice p2 N c2, .string T, .int .i64 (wd : Int), .slice none 0 0, cv, .slice none 0 0] 72)) ∧ Hid (Below w2.heap.size w2 wr) ∧ Hid (tb + 1 ≤ wr.heap.size)) (fun _ z _ => N - (intOf z).toNat)
  case atStart => exact ⟨0, [], .slice none 0 0, Nat.zero_le _, rfl, rfl, Cm.nil _ _ _, HVT, HVB, by rw [← HTB.out.2.1]; exact Nat.le_refl _⟩
  case round =>
    obtain ⟨k, us, cv, hk, rfl, rfl, HCM, HTT, HB, HSZ⟩ := hrel
    obtain ⟨q0, q1, q2⟩ := HQ2.out wr HB.out
    by_cases hlt : k < N
    · obtain ⟨hd, cs, g1, o1, p3, c3, hr, hp, a1, hcn, hc9⟩ := HRW.out k wr hlt HB.out
      subst hp
      have HR1 : Hid (g.rules[k]? = some ⟨hd, cs⟩) := hr
      have HCN : Hid (IsCns w (fun i => i < w.heap.size) (.slice p3 cs.length c3) cs) := hcn
      obtain ⟨C, hC⟩ : ∃ C, C = cs.length := ⟨_, rfl⟩
      have HCL : Hid (C = cs.length) := hC
      rw [← hC] at a1 HCN hc9
      have HA1 : Hid (∀ w', Below w2.heap.size w2 w' → w'.cell? ⟨g1, o1 + k * 2 + 1, none⟩ = some (.slice p3 C c3)) := fun w' hb => by
        obtain ⟨hd', cs', g1', o1', p3', c3', hr', hp', a1', -, -⟩ := HRW.out k w' hlt hb
        injection hp' with hp'
        injection hp' with e1 e2
        subst e1 e2
        rw [HR1.out] at hr'
        injection hr' with hr'
        injection hr' with _ hr'
        subst hr'
        obtain ⟨_, _, _, _, p9, c9, hr9, hp9, a9, -, -⟩ := HRW.out k w2 hlt (Below.refl _ _)
        rw [HR1.out] at hr9
        injection hr9 with hr9
        injection hr9 with _ hr9
        subst hr9
        injection hp9 with hp9
        injection hp9 with e3 e4
        subst e3 e4
        have h1 := (HB.out.cell (p := ⟨_, _, none⟩) (cellU_lt a9)).trans a9
        rw [a1] at h1
        rw [h1]
        exact (hb.cell (p := ⟨_, _, none⟩) (cellU_lt a9)).trans a9
      obtain ⟨O, hO⟩ : ∃ O, O = offR g.rules k := ⟨_, rfl⟩
      have HO : Hid (O = offR g.rules k) := hO
      rw [← hO]
      clear hr hcn hC hO
      go_wp2
      clear q0 q1 q2 a1
      go_loopw [10, 12, 13] (fun q a z wr => ∃ c : Nat, c ≤ C ∧ z = .int .i64 c ∧ q = .int .i64 ((O + offC cs c : Nat) : Int) ∧ Hid (wr.ownsRow (tb + 1) 3 1 a c (nsV (offL O cs c))) ∧ Hid (∀ (j : Nat) (u : Value), us[j]? = some u → Apt a u) ∧ Hid (Cm (tb + 1) g.rules k cv us wr) ∧ Hid (wr.heap[tb]? = some (.cells #[.int .i64 st, .slice p1 n l1, .slice (some ⟨g1, o1, none⟩) N c2, .string T, .int .i64 (wd : Int), .slice none 0 0, cv, .slice none 0 0] 72)) ∧ Hid (Below w2.heap.size w2 wr) ∧ Hid (tb + 1 ≤ wr.heap.size)) (fun _ _ z _ => C - (intOf z).toNat)
      case atStart => exact ⟨0, Nat.zero_le _, rfl, rfl, World.ownsRow_nil _ _ _ _, fun _ u _ => apt_nil u, HCM, HTT, HB, HSZ⟩
      case round =>
        clear HCM HTT HB HSZ
        obtain ⟨c, hcc, rfl, rfl, HRO, HAP, HCM, HTT, HB, HSZ⟩ := hrel
        obtain ⟨pa, ca, hav⟩ := row_slice HRO.out
        subst hav
        obtain ⟨q0, q1, q2⟩ := HQ2.out wr HB.out
        have a1 := HA1.out wr HB.out
        by_cases hltc : c < C
        · obtain ⟨d, hd1⟩ : ∃ d, cs[c]? = some d := ⟨_, List.getElem?_eq_getElem (by rw [← HCL.out]; exact hltc)⟩
          obtain ⟨g4, o4, u4, hp4, -, b1, hsy⟩ := HCN.out.row hd1
          subst hp4
          obtain ⟨p4, c4, hu4⟩ := IsSys.slc hsy
          subst hu4
          have hof := HOF.out k _ c d HR1.out hd1
          simp only at hof
          have hos := offC_succ hd1
          obtain ⟨S, hSe⟩ : ∃ S, S = d.seq.length := ⟨_, rfl⟩
          rw [← hSe] at b1 hos
          rw [← HO.out] at hof
          obtain ⟨E, hE⟩ : ∃ E, E = O + offC cs c := ⟨_, rfl⟩
          have HE2 : Hid (O + offC cs (c + 1) = E + S + 1) := by show _ = _; rw [hos, hE]; omega
          have hE9 : E + S + 1 ≤ 4000 := by rw [← HE2.out]; exact hof
          have HOL : Hid (offL O cs (c + 1) = offL O cs c ++ [E]) := by rw [hE]; exact offL_succ _ _ _
          have hol := offL_length O cs c
          have hcb : c ≤ 4000 := by have := offC_ge cs c (by rw [← HCL.out]; omega); omega
          obtain ⟨qn, kn, w3, hrun, hown, hbel, hkt, hap, hsl⟩ := app_num (w := wr) (B := tb + 1) (a := .slice pa c ca) (la := offL O cs c) (by rw [hol]; exact HRO.out) HSZ.out (by rw [hol]; omega) E
          rw [hol] at hrun hown hap
          have HRO3 : Hid (w3.ownsRow (tb + 1) 3 1 (.slice qn (c + 1) kn) (c + 1) (nsV (offL O cs (c + 1)))) := by
            show World.ownsRow _ _ _ _ _ _ _
            rw [HOL.out]
            rw [List.length_append, hol] at hown
            exact hown
          have HCM3 : Hid (Cm (tb + 1) g.rules k cv us w3) := ⟨HCM.out.len, hsl _ _ _ HCM.out.row, fun q r u e1 e2 => (hap u _ _ (HCM.out.rws q r u e1 e2) (HAP.out q u e2)).1⟩
          have HAP3 : Hid (∀ (j : Nat) (u : Value), us[j]? = some u → Apt (.slice qn (c + 1) kn) u) := fun j u e2 => by
            obtain ⟨r, hr⟩ : ∃ r, g.rules[j]? = some r := by
              have h1 := (List.getElem?_eq_some_iff.1 e2).1
              rw [HCM.out.len] at h1
              exact ⟨_, List.getElem?_eq_getElem (by rw [← HEQ.out.2.1]; omega)⟩
            exact (hap u _ _ (HCM.out.rws j r u hr e2) (HAP.out j u e2)).2
          have HTT3 : Hid (w3.heap[tb]? = some (.cells #[.int .i64 st, .slice p1 n l1, .slice (some ⟨g1, o1, none⟩) N c2, .string T, .int .i64 (wd : Int), .slice none 0 0, cv, .slice none 0 0] 72)) := hkt tb _ _ _ (by decide) HTT.out
          have HB3 : Hid (Below w2.heap.size w2 w3) := HB.out.trans (hbel.mono (by have := HTB.out.1; omega))
          have HSZ3 : Hid (tb + 1 ≤ w3.heap.size) := Nat.le_trans HSZ.out hbel.size
          have HRN : Hid ((Builtin.append_ #[44, 44] 44 #[.slice pa c ca, .slice (some ⟨wr.heap.size, 0, none⟩) 1 1]).run Tryz.prog (wr.alloc (.cells #[.int .i64 (E : Int)] 3)) = .ok (.slice qn (c + 1) kn) w3) := hrun
          obtain ⟨r0, r1, r2⟩ := HQ2.out w3 HB3.out
          have a3 := HA1.out w3 HB3.out
          have b3 : w3.cell? ⟨g4, o4 + c * 2 + 1, none⟩ = some (.slice p4 S c4) := by
            have hb9 := HB2.out.trans (HB3.out.mono HB2.out.size)
            exact (hb9.cell (p := ⟨_, _, none⟩) (cellU_lt b1)).trans b1
          rw [← hE]
          clear hd1 hsy hof hos hSe hE hol hrun hown hbel hkt hap hsl HRO HAP HCM HTT HB HSZ b1
          go_wp2_with (at_builtin; refine wpList_run_appendT rfl _ _ 44 rfl _ _ rfl rfl HRN.out ?_)
          go_roundw
          case rel => exact ⟨c + 1, by omega, by go_num, by rw [HE2.out]; go_num, HRO3, HAP3, HCM3, HTT3, HB3, HSZ3⟩
          case measure => simp [intOf]; omega
        · obtain rfl : c = C := by omega
          have hk4 : k ≤ 100000000 := by omega
          have HROC : Hid (wr.ownsRow (tb + 1) 3 1 (.slice pa c ca) cs.length (nsV (offL O cs cs.length))) := by
            have := HRO.out
            rw [HCL.out] at this ⊢
            exact this
          obtain ⟨qv, kv, hcv⟩ := row_slice HCM.out.row
          subst hcv
          obtain ⟨qn, kn, w3, hrun, hown, hbel, hkt, hsl⟩ := app_row (w := wr) (B := tb + 1) HCM.out.row HSZ.out hk4 (.slice pa c ca) rfl
          have HTT3 : w3.heap[tb]? = some (.cells #[.int .i64 st, .slice p1 n l1, .slice (some ⟨g1, o1, none⟩) N c2, .string T, .int .i64 (wd : Int), .slice none 0 0, .slice qv k kv, .slice none 0 0] 72) := hkt tb _ _ _ (by decide) HTT.out
          have HCM4 : Hid (Cm (tb + 1) g.rules (k + 1) (.slice qn (k + 1) kn) (us ++ [.slice pa c ca]) (w3.setCell ⟨tb, 6, none⟩ (.slice qn (k + 1) kn))) := by
            refine Cm.set ⟨by simp [HCM.out.len], hown, fun q r u e1 e2 => ?_⟩ (Nat.lt_succ_self _) _
            by_cases hq : q < k
            · rw [List.getElem?_append_left (by rw [HCM.out.len]; exact hq)] at e2
              exact hsl _ _ _ (HCM.out.rws q r u e1 e2)
            · have hq2 : q = k := by
                have := (List.getElem?_eq_some_iff.1 e2).1
                simp [HCM.out.len] at this; omega
              subst hq2
              rw [List.getElem?_append_right (by rw [HCM.out.len]; exact Nat.le_refl _), HCM.out.len, Nat.sub_self] at e2
              obtain rfl : Value.slice pa c ca = u := by simpa using e2
              rw [HR1.out] at e1
              injection e1 with e1
              subst e1
              have := hsl _ _ _ HROC.out
              rw [HO.out] at this
              exact this
          have HTT4 : Hid ((w3.setCell ⟨tb, 6, none⟩ (.slice qn (k + 1) kn)).heap[tb]? = some (.cells #[.int .i64 st, .slice p1 n l1, .slice (some ⟨g1, o1, none⟩) N c2, .string T, .int .i64 (wd : Int), .slice none 0 0, .slice qn (k + 1) kn, .slice none 0 0] 72)) := by
            show _ = _
            simp only [World.setCell, Array.getElem?_modify, if_pos, HTT3, Option.map_some]
            rfl
          have HB4 : Hid (Below w2.heap.size w2 (w3.setCell ⟨tb, 6, none⟩ (.slice qn (k + 1) kn))) := (HB.out.trans (hbel.mono (by have := HTB.out.1; omega))).setCell (p := ⟨tb, 6, none⟩) (by have := HTB.out.1; simp; omega) _
          have HSZ4 : Hid (tb + 1 ≤ (w3.setCell ⟨tb, 6, none⟩ (.slice qn (k + 1) kn)).heap.size) := by
            show _ ≤ _
            rw [Go.Deep.nblk_setCell]; exact Nat.le_trans HSZ.out hbel.size
          have HE2 : Hid (offR g.rules (k + 1) = O + offC cs c) := by show _ = _; rw [offR_succ HR1.out, HCL.out, HO.out]
          have HRN : Hid ((Builtin.append_ #[70, 70] 70 #[.slice qv k kv, .slice (some ⟨wr.heap.size, 0, none⟩) 1 1]).run Tryz.prog (wr.alloc (.cells #[.slice pa c ca] 44)) = .ok (.slice qn (k + 1) kn) w3) := hrun
          have t6 : wr.cell? ⟨tb, 6, none⟩ = some (.slice qv k kv) := Lib.cell_of_heap HTT.out 6
          have t6b : w3.cell? ⟨tb, 6, none⟩ = some (.slice qv k kv) := Lib.cell_of_heap HTT3 6
          have f6 : w3.frozen? ⟨tb, 6, none⟩ = false := by simp [World.frozen?, HTT3]
          obtain ⟨E, hE⟩ : ∃ E, E = O + offC cs c := ⟨_, rfl⟩
          rw [← hE] at HE2 ⊢
          clear hE hown hbel hkt hsl HTT3 hrun HRO HAP HCM HTT HB HSZ
          go_wp2_with (at_builtin; refine wpList_run_appendT rfl _ _ 70 rfl _ _ rfl rfl HRN.out ?_)
          go_roundw
          case rel => exact ⟨k + 1, _, _, by omega, by go_num, by rw [HE2.out], HCM4, HTT4, HB4, HSZ4⟩
          case measure => simp [intOf]; omega
    · obtain rfl : k = N := by omega
      have HCMF : Hid (Cm (tb + 1) g.rules g.rules.length cv us wr) := by
        have := HCM.out
        rw [HEQ.out.2.1] at this
        exact this
      obtain ⟨Q, hQ⟩ : ∃ Q, Q = offR g.rules k := ⟨_, rfl⟩
      have HQR : Hid (Q = offR g.rules g.rules.length) := by show _ = _; rw [hQ, HEQ.out.2.1]
      have hQ4 : Q ≤ 4000 := by rw [HQR.out]; exact (HTW.out (.slice none 0 0) 0 0).z
      have hnw : n * wd ≤ 64 * (33 * 33) := Nat.mul_le_mul hn64 hwz
      have hqw : Q * wd ≤ 4000 * (33 * 33) := Nat.mul_le_mul hQ4 hwz
      obtain ⟨nn, hnn⟩ : ∃ nn, nn = n * wd := ⟨_, rfl⟩
      obtain ⟨rn, hrn⟩ : ∃ rn, rn = Q * wd := ⟨_, rfl⟩
      have HNR : Hid (nn = n * wd ∧ rn = Q * wd) := ⟨hnn, hrn⟩
      have hm1 : (n : Int) * (wd : Int) = (nn : Int) := by rw [hnn]; push_cast; rfl
      have hm2 : (Q : Int) * (wd : Int) = (rn : Int) := by rw [hrn]; push_cast; rfl
      rw [← hnn] at hnw
      rw [← hrn] at hqw
      have hw3 : IntKind.i64.wrap (nn : Int) = (nn : Int) := by rw [IntKind.wrap_i64]; omega
      have hw4 : IntKind.i64.wrap (rn : Int) = (rn : Int) := by rw [IntKind.wrap_i64]; omega
      have mk1 := fun w => make_zer nn (by omega) w
      have mk2 := fun w => make_zer rn (by omega) w
      have t4 : wr.cell? ⟨tb, 4, none⟩ = some (.int .i64 (wd : Int)) := Lib.cell_of_heap HTT.out 4
      have t5 : wr.cell? ⟨tb, 5, none⟩ = some (.slice none 0 0) := Lib.cell_of_heap HTT.out 5
      have f5 : wr.frozen? ⟨tb, 5, none⟩ = false := by simp [World.frozen?, HTT.out]
      have htl : tb < wr.heap.size := HSZ.out
      have e4 : ∀ o, (wr.alloc o).cell? ⟨tb, 4, none⟩ = some (.int .i64 (wd : Int)) := fun o => (World.cell?_alloc_past _ _ _ htl).trans t4
      have e5 : ∀ o, (wr.alloc o).cell? ⟨tb, 5, none⟩ = some (.slice none 0 0) := fun o => (World.cell?_alloc_past _ _ _ htl).trans t5
      have h5 : ∀ o, (wr.alloc o).frozen? ⟨tb, 5, none⟩ = false := fun o => ((bel1 wr o).frozen (p := ⟨tb, 5, none⟩) htl).trans f5
      rw [← hQ]
      clear hQ hnn hrn HCM
      obtain ⟨U1, hU1⟩ : ∃ U1, U1 = ((wr.setCell ⟨tb, 5, none⟩ (.slice (some ⟨wr.heap.size, 0, none⟩) nn nn)).alloc (.cells (zerA nn) 3)).drew := ⟨_, rfl⟩
      have hk1 := (tb_make 5 nn (.slice (some ⟨wr.heap.size, 0, none⟩) nn nn) HTT.out).drew htl
      rw [← hU1] at hk1
      have HU1 : Hid (Mkd wr tb 5 nn (.slice (some ⟨wr.heap.size, 0, none⟩) nn nn) #[.int .i64 st, .slice p1 n l1, .slice p2 k c2, .string T, .int .i64 (wd : Int), .slice none 0 0, cv, .slice none 0 0] 72 U1) := hk1
      have ht1 : U1.heap[tb]? = some (.cells #[.int .i64 st, .slice p1 n l1, .slice p2 k c2, .string T, .int .i64 (wd : Int), .slice (some ⟨wr.heap.size, 0, none⟩) nn nn, cv, .slice none 0 0] 72) := hk1.tab
      have hs1 := hk1.size
      have t14 : U1.cell? ⟨tb, 4, none⟩ = some (.int .i64 (wd : Int)) := Lib.cell_of_heap ht1 4
      have t17 : U1.cell? ⟨tb, 7, none⟩ = some (.slice none 0 0) := Lib.cell_of_heap ht1 7
      have f17 : U1.frozen? ⟨tb, 7, none⟩ = false := by simp [World.frozen?, ht1]
      have htl1 : tb < U1.heap.size := by omega
      have HT1 : Hid (U1.heap[tb]? = some (.cells #[.int .i64 st, .slice p1 n l1, .slice p2 k c2, .string T, .int .i64 (wd : Int), .slice (some ⟨wr.heap.size, 0, none⟩) nn nn, cv, .slice none 0 0] 72)) := ht1
      clear hs1 ht1 hk1
      go_upto_region 16 with fail
      go_region
      rw [← hU1]
      clear hU1 t4 t5 f5 e4 e5 h5 mk1
      have e7 : ∀ o, (U1.alloc o).cell? ⟨tb, 7, none⟩ = some (.slice none 0 0) := fun o => (World.cell?_alloc_past _ _ _ htl1).trans t17
      have h7 : ∀ o, (U1.alloc o).frozen? ⟨tb, 7, none⟩ = false := fun o => ((bel1 U1 o).frozen (p := ⟨tb, 7, none⟩) htl1).trans f17
      obtain ⟨U2, hU2⟩ : ∃ U2, U2 = (U1.setCell ⟨tb, 7, none⟩ (.slice (some ⟨U1.heap.size, 0, none⟩) rn rn)).alloc (.cells (zerA rn) 3) := ⟨_, rfl⟩
      have hk2 := tb_make 7 rn (.slice (some ⟨U1.heap.size, 0, none⟩) rn rn) HT1.out
      rw [← hU2] at hk2
      have HU2 : Hid (Mkd U1 tb 7 rn (.slice (some ⟨U1.heap.size, 0, none⟩) rn rn) _ _ U2) := hk2
      clear hk2
      go_upto_region 18 with fail
      rw [← hU2]
      clear hU2 mk2 t14 t17 f17 e7 h7 q0 q1 q2
      obtain ⟨nb, hnb⟩ : ∃ nb, nb = wr.heap.size := ⟨_, rfl⟩
      have HS1 : Hid (U1.heap.size = nb + 1 ∧ U2.heap.size = nb + 2 ∧ tb < nb ∧ nb = wr.heap.size) := by
        have h1 := HU1.out.size
        have h2 := HU2.out.size
        show _ ∧ _ ∧ _ ∧ _
        omega
      obtain ⟨t, ht⟩ : ∃ t : Tp, t = ⟨g, T, .slice p1 n l1, .slice p2 k c2, cv, nb, nb + 1⟩ := ⟨_, rfl⟩
      have htw : Tw t := by rw [ht]; exact HTW.out cv nb (nb + 1)
      have hold : ∀ i, i ≠ tb → i < nb → U2.heap[i]? = wr.heap[i]? := fun i h1 h2 => (HU2.out.old i h1 (by have := HS1.out; omega)).trans (HU1.out.old i h1 (by have := HS1.out; omega))
      have hbw : Below w2.heap.size w2 U2 := by
        refine ⟨HU2.out.os.trans (HU1.out.os.trans HB.out.os), HU2.out.tape.trans (HU1.out.tape.trans HB.out.tape), HU2.out.output.trans (HU1.out.output.trans HB.out.output), by have := HS1.out; have := HB.out.size; omega, fun i hi => ?_⟩
        have := HTB.out.1
        have := HS1.out
        exact (hold i (by omega) (by omega)).trans (HB.out.block i hi)
      have htz : t.nn = nn ∧ t.rn = rn ∧ t.wide = wd ∧ t.m = m := by
        have e0 : t.m = m := by rw [ht, HM.out]; rfl
        have e1 : t.wide = wd := by unfold Tp.wide; rw [e0]; exact HWD.out.symm
        refine ⟨?_, ?_, e1, e0⟩
        · unfold Tp.nn; rw [e1, HNR.out.1, HEQ.out.1, ht]
        · unfold Tp.rn; rw [e1, HNR.out.2, HQR.out, ht]
      have HTS : Hid (Ts (fun i => i < nb ∧ i ≠ tb) tb t (fun _ => 0) (fun _ => 0) U2) := by
        have hst : Stay (fun i => i < nb ∧ i ≠ tb) wr U2 := ⟨by have := HS1.out; omega, fun i hi => hold i hi.2 hi.1⟩
        have hgw := HG.out.any (HB2.out.trans (HB.out.mono HB2.out.size))
        have hFm : ∀ i, i < w.heap.size → i < wr.heap.size → i < nb ∧ i ≠ tb := fun i h1 h2 => by have := HTB.out; have := HS1.out; omega
        have hgr : GrIs wr (fun i => i < nb ∧ i ≠ tb) (.slice p1 n l1) (.slice p2 k c2) g := ⟨Reads.low hgw.1 hFm, IsRus.low hgw.2 hFm⟩
        have hcon : ConIs wr (fun i => i < nb ∧ i ≠ tb) cv g.rules := HCMF.out.con fun i h1 h2 => by have := HS1.out; omega
        obtain ⟨us2, c1, c2', c3⟩ := hcon
        refine ⟨⟨?_, ?_, ?_⟩, ?_, ?_⟩
        · have h9 := HU2.out.tab
          have h8 := HS1.out.1
          rw [h8] at h9
          rw [htz.1, htz.2.1, htz.2.2.1, ht, ← HEQ.out.2.2]
          rw [hnb]
          rw [hnb] at h9
          exact h9
        · rw [ht]; exact GrIs.keepT hgr hst
        · rw [ht]; exact ⟨us2, c1, c2'.keep hst (fun _ h => h), fun q r u e1 e2 => (c3 q r u e1 e2).keep hst (fun _ h => h)⟩
        · rw [htz.1]
          have h9 := HU1.out.ibk
          rw [← hnb] at h9
          have h7 : U2.heap[nb]? = U1.heap[nb]? := HU2.out.old nb (by have := HS1.out; omega) (by have := HS1.out; omega)
          rw [ht]; exact h9.blk h7
        · rw [htz.2.1]
          have h9 := HU2.out.ibk
          rw [HS1.out.1] at h9
          rw [ht]; exact h9
      have HSP : Hid (Sep (fun i => i < nb ∧ i ≠ tb) tb t) := by
        have := HS1.out
        rw [ht]
        exact ⟨by simp only; omega, by simp only; omega, by simp only; omega, fun i hi => ⟨by simp only; omega, by simp only; omega⟩⟩
      have HTT2 : Hid (Tw t ∧ t.g = g ∧ t.W = T ∧ t.nb = nb ∧ t.rb = nb + 1) := ⟨htw, by rw [ht], by rw [ht], by rw [ht], by rw [ht]⟩
      have HBU : Hid (Below w2.heap.size w2 U2) := hbw
      have KF : Hid (∀ (lv : Nat) (hN hR : Nat → Int) (w' : World), Ts (fun i => i < nb ∧ i ≠ tb) tb t hN hR w' → B2 nb (nb + 1) U2 w' → FL t f lv hN hR → Calls Tryz.prog 25 #[.pointer (some ⟨tb, 0, none⟩), .slice (some ⟨lg, lo, none⟩) n lc, .int .i64 (lv : Int)] w' fun e w'' => ∃ hN' hR', e = .returned (.tuple #[]) ∧ Hid (Ts (fun i => i < nb ∧ i ≠ tb) tb t hN' hR' w'') ∧ Hid (B2 nb (nb + 1) w' w'') ∧ Hid (FL t f (lv + 1) hN' hR')) := fun lv hN hR w' h1 h2 h3 => by
        have hlg : lg ≠ nb ∧ lg ≠ nb + 1 := by have := HLV.out.1; have := HTB.out; have := HS1.out; omega
        have h9 := fill_any t tb hN hR w' h1 HSP.out (fun i hi => by have := h2.size; have := HS1.out; omega) htw (f := f) (lv := lv) (by rw [ht]; exact HF.out) h3 lg lo lc (fun x hx => by
          rw [ht, ← HEQ.out.1] at hx
          have h4 := HLV.out.2 x hx
          have h5 := (hbw.cell (p := ⟨lg, lo + x, none⟩) HLV.out.1).trans h4
          exact h2.cell h5 hlg.1 hlg.2) (by rw [HTT2.out.2.2.2.1]; exact hlg.1) (by rw [HTT2.out.2.2.2.2]; exact hlg.2) (by rw [HTT2.out.2.1, ← HEQ.out.2.1]; exact hrl)
        rw [HTT2.out.2.1, ← HEQ.out.1, HTT2.out.2.2.2.1, HTT2.out.2.2.2.2] at h9
        exact h9
      have KRK : Hid (∀ (hN hR : Nat → Int) (w' : World), Ts (fun i => i < nb ∧ i ≠ tb) tb t hN hR w' → B2 nb (nb + 1) U2 w' → Calls Tryz.prog 26 #[.pointer (some ⟨tb, 0, none⟩)] w' fun e w'' => ∃ n xb yb, e = .returned (.tuple #[]) ∧ Hid (w'.heap.size ≤ xb ∧ w'.heap.size ≤ yb ∧ xb ≠ yb) ∧ Hid (Ts (fun i => i < nb ∧ i ≠ tb) tb (t.at xb yb) (rkI t hN hR n).1 (rkI t hN hR n).2 w'') ∧ Hid (RkEnd t hN hR n) ∧ Hid (Bt2 tb w' w'')) := fun hN hR w' h1 h2 => rankT_any t tb hN hR w' h1 (fun i hi => ⟨by have := h2.size; have := HS1.out; omega, hi.2⟩) htw (by rw [HTT2.out.2.1, ← HEQ.out.2.1]; exact hrl)
      have HQ3 : Hid (∀ w', B2 nb (nb + 1) U2 w' → w'.cell? ⟨gb, 1, none⟩ = some (.slice p1 n l1)) := fun w' hb => by
        have h1 := (HQ2.out U2 hbw).2.1
        have hgl : gb < w2.heap.size := cellU_lt (HQ2.out w2 (Below.refl _ _)).2.1
        have := HTB.out; have := HS1.out
        exact hb.cell h1 (by omega) (by omega)
      have HFL0 : Hid (FL t f 0 (fun _ => 0) (fun _ => 0)) := FL.begin t f
      have HHD2 : Hid (∀ r, r ∈ t.g.rules → f r.head.toNat < n + 1) := fun r hr => by
        rw [HTT2.out.2.1] at hr
        have := HHD.out r hr
        omega
      have HWX : Hid (∀ w', B2 nb (nb + 1) U2 w' → Below w.heap.size w w') := fun w' hb => by
        have := HTB.out; have := HS1.out; have := hbw.size; have := HB2.out.size
        exact (HB2.out.trans (hbw.mono HB2.out.size)).trans (hb.below (by omega) (by omega) (by omega))
      clear HCMF HTT HB HSZ HU1 HU2 HT1 htw hold hbw htz hnb ht htl htl1 hm1 hm2 hw3 hw4 hnw hqw
      go_wp2
      go_loopw [14] (fun z wr => ∃ (lv : Nat) (hN hR : Nat → Int), lv ≤ n + 1 ∧ z = .int .i64 lv ∧ Hid (Ts (fun i => i < nb ∧ i ≠ tb) tb t hN hR wr) ∧ Hid (B2 nb (nb + 1) U2 wr) ∧ Hid (FL t f lv hN hR)) (fun z _ => n + 1 - (intOf z).toNat)
      case atStart => exact ⟨0, _, _, Nat.zero_le _, rfl, HTS, B2.refl _ _ _, HFL0⟩
      case round =>
        clear HTS HFL0
        obtain ⟨lv, hN, hR, hlv, rfl, HTS, HBB, HFL⟩ := hrel
        have g1c := HQ3.out wr HBB.out
        by_cases hll : lv ≤ n
        · have hll2 : (lv : Int) ≤ (n : Int) := by omega
          have KK := KF.out lv hN hR wr HTS.out HBB.out HFL.out
          clear HTS HFL
          go_wp2_with (go_at_call 25; refine KK.mono ?_; rintro e w5 ⟨hN', hR', rfl, HT5, HB5, HL5⟩)
          have HB6 : Hid (B2 nb (nb + 1) U2 w5) := HBB.out.trans HB5.out
          go_roundw
          case rel => exact ⟨lv + 1, hN', hR', by omega, by go_num, HT5, HB6, HL5⟩
          case measure => simp [intOf]; omega
        · obtain rfl : lv = n + 1 := by omega
          have n1 : ¬ ((n + 1 : Nat) : Int) ≤ (n : Int) := by omega
          have n2 : ¬ ((n : Int) + 1) ≤ (n : Int) := by omega
          have KK := KRK.out hN hR wr HTS.out HBB.out
          obtain ⟨hst3, hso, hcq⟩ := HFL.out.done HHD2.out
          have HDN : Hid (Stb3 (btsT t) t.m t.g.rules (MN t hN) ∧ SoundR t hN hR ∧ ∀ (q : Nat) (r : Ru), t.g.rules[q]? = some r → CompQ t hN hR q r) := ⟨hst3, hso, hcq⟩
          clear hst3 hso hcq HFL HTS KF KRK
          go_wp2_with (go_at_call 26; refine KK.mono ?_; rintro e w7 ⟨nr, xb, yb, rfl, HXY, HT7, HE7, HB7⟩)
          have HOK : Hid (TabOk g T tb w7) := ⟨t, xb, yb, _, hN, hR, nr, HTT2.out.2.1, HTT2.out.2.2.1, HTT2.out.1, HT7.out, HE7.out, HDN.out.1, HDN.out.2.1, HDN.out.2.2⟩
          have HB8 : Hid (Below w.heap.size w w7) := by
            have h1 := HWX.out wr HBB.out
            have h2 := HB7.out
            have := HTB.out
            refine ⟨h2.os.trans h1.os, h2.tape.trans h1.tape, h2.output.trans h1.output, Nat.le_trans h1.size h2.size, fun i hi => ?_⟩
            exact (h2.block i (by have := h1.size; omega) (by omega)).trans (h1.block i hi)
          go_ret2
          exact ⟨tb, rfl, HOK, HB8⟩
end Go.Proofs.YtejhdhlpdcfedaaGreat
/- The document's Nulls: who has the empty text. -/
namespace Go.Proofs.YtejhdhlpdcfedaaGreat
set_option linter.unusedVariables false
open Go.ChangeShapes Go.WideShapes Go.ChangeAt Go.RowKit

theorem Tryz.infoBoolY : (Tryz.prog.info? 4).map (fun i => (i.zero, i.size, i.bytes)) = some (some (.bool false), 1, 1) := by kernel_rfl
/-- What the table of no bytes says of a name. -/
theorem TabOk.has {g : Gr} {tb : Nat} {w' : World} (h : TabOk g ⟨#[]⟩ tb w') : ∃ M, Stb g.rules M ∧ ∀ (x : Nat) (w'' : World), x < g.names.length → Below w'.heap.size w' w'' → Calls Tryz.prog 16 #[.pointer (some ⟨tb, 0, none⟩), .int .i64 (x : Int), .int .i64 0, .int .i64 0] w'' fun e w3 => e = .returned (.bool (M x)) ∧ Hid (Below w''.heap.size w'' w3) := by
  obtain ⟨t, xb, yb, F, hN, hR, n, rfl, hW, hw, hT, hE, hS, hso, hcq⟩ := h
  have hm : t.m = 0 := by unfold Tp.m; rw [hW]; rfl
  have hS0 := hS
  rw [hm] at hS0
  refine ⟨fun x => MN t hN x 0 0, stb_empty hS0, fun x w'' hx hb => ?_⟩
  have h1 := hasT_any (t.at xb yb) tb x 0 0 (rkI t hN hR n).1 w'' (hT.1.any hb) (hT.2.1.keep hb) hx hw.n (Nat.le_refl _) (Nat.zero_le _) hw.m
  have h2 := rank_all (f := fun _ => 0) (k := 0) hw hS hso hcq hE x 0 0 hx (Nat.le_refl _) (Nat.zero_le _)
  refine h1.mono fun e w3 ⟨e1, n1, e2⟩ => ⟨?_, ?_⟩
  · rw [e1]
    have h3 : decide (0 < (rkI t hN hR n).1 (nameIx (t.at xb yb) x 0 0)) = MN t hN x 0 0 := h2
    rw [h3]
  · rw [e2]; exact below_drewN (Below.refl _ _) n1
set_option maxHeartbeats 2000000 in
set_option maxRecDepth 100000 in
theorem refNulls_no (g : Gr) (v1 v2 : Value) (w : World) {F : Nat → Prop} (hg : GrIs w F v1 v2 g) (hn : ∀ s, s ∈ g.names → s.size ≤ maxLen) (hM : mayG g = false ∨ ∃ t, (edgesT g).find? (badE g.names.length (edgesT g)) = some t) :
    Calls Tryz.prog 6 #[.agg #[.int .i64 g.start, v1, v2]] w fun e w' => e = .returned (.tuple #[.slice none 0 0, .int .i64 900]) ∧ Hid (Below w.heap.size w w') := by
  obtain ⟨W1, hW1⟩ : ∃ W1, W1 = w.alloc (.cells #[.int .i64 g.start, v1, v2] 25) := ⟨_, rfl⟩
  have hb1 : Below w.heap.size w W1 := by rw [hW1]; exact bel1 _ _
  have K1 := newTable_no g v1 v2 ⟨#[]⟩ W1 (hg.any hb1) hn hM
  have HB1 : Hid (Below w.heap.size w W1) := hb1
  obtain ⟨p1, l1, hv1⟩ : ∃ p c, v1 = .slice p g.names.length c := by obtain ⟨p, c, e, _⟩ := hg.1; exact ⟨_, _, e⟩
  obtain ⟨p2, c2, hv2⟩ := hg.2.slc
  subst hv1 hv2
  clear hg hn hM hb1
  go_enter Tryz.func6, Tryz.ntmps6
  go_upto_region 2 with (go_at_call 15; rw [← hW1]; refine K1.mono ?_; rintro e w2 ⟨rfl, b2⟩)
  have HB2 : Hid (Below w.heap.size w w2) := HB1.out.trans (b2.out.mono HB1.out.size)
  clear hW1 K1
  go_wp2
  go_ret2
  exact ⟨rfl, HB2⟩
set_option maxHeartbeats 2000000 in
set_option maxRecDepth 100000 in
theorem refNulls_ok (g : Gr) (v1 v2 : Value) (w : World) {F : Nat → Prop} (hg : GrIs w F v1 v2 g) (hn : ∀ s, s ∈ g.names → s.size ≤ maxLen) (hM : mayG g = true) (hc : (edgesT g).find? (badE g.names.length (edgesT g)) = none) :
    Calls Tryz.prog 6 #[.agg #[.int .i64 g.start, v1, v2]] w fun e w' => ∃ p c M, e = .returned (.tuple #[.slice p g.names.length c, .int .i64 0]) ∧ Hid (Stb g.rules M) ∧ Hid (IsBls w' (fun i => w.heap.size ≤ i) (.slice p g.names.length c) (bolL g.names.length M)) ∧ Hid (Below w.heap.size w w') := by
  obtain ⟨W1, hW1⟩ : ∃ W1, W1 = w.alloc (.cells #[.int .i64 g.start, v1, v2] 25) := ⟨_, rfl⟩
  have hb1 : Below w.heap.size w W1 := by rw [hW1]; exact bel1 _ _
  have K1 := newTable_ok g v1 v2 ⟨#[]⟩ W1 (hg.any hb1) hn hM hc (by decide)
  have HB1 : Hid (Below w.heap.size w W1) := hb1
  have hn64 : g.names.length ≤ 64 := mayG_names hM
  obtain ⟨p1, l1, hv1⟩ : ∃ p c, v1 = .slice p g.names.length c := by obtain ⟨p, c, e, _⟩ := hg.1; exact ⟨_, _, e⟩
  obtain ⟨p2, c2, hv2⟩ := hg.2.slc
  obtain ⟨n, hnn⟩ : ∃ n, n = g.names.length := ⟨_, rfl⟩
  have HNN : Hid (n = g.names.length) := hnn
  rw [← hnn] at hv1 hn64 ⊢
  subst hv1 hv2
  have HQ : Hid (∀ w', Below W1.heap.size W1 w' → w'.cell? ⟨w.heap.size, 1, none⟩ = some (.slice p1 n l1)) := fun w' hb => by
    rw [hW1] at hb
    exact (cells3T hb).2.1
  obtain ⟨i0, hi0, hz0, hz1, hz2⟩ := info_partsT Tryz.infoBoolY
  have HIN : Hid (Tryz.prog.info? 4 = some i0 ∧ i0.zero = some (.bool false) ∧ i0.size = 1 ∧ i0.bytes = 1) := ⟨hi0, hz0, hz1, hz2⟩
  obtain ⟨gb, hgb⟩ : ∃ gb, gb = w.heap.size := ⟨_, rfl⟩
  rw [← hgb] at HQ
  clear hg hn hM hc hb1 hnn hi0 hz0 hz1 hz2
  go_enter Tryz.func6, Tryz.ntmps6
  go_upto_region 4 with (go_at_call 15; rw [← hW1]; refine K1.mono ?_; rintro e w2 ⟨tb, rfl, HOK, b2⟩)
  obtain ⟨M, hst, hhas⟩ := HOK.out.has
  have HST : Hid (Stb g.rules M) := hst
  have KH : Hid (∀ (x : Nat) (w'' : World), x < n → Below w2.heap.size w2 w'' → Calls Tryz.prog 16 #[.pointer (some ⟨tb, 0, none⟩), .int .i64 (x : Int), .int .i64 0, .int .i64 0] w'' fun e w3 => e = .returned (.bool (M x)) ∧ Hid (Below w''.heap.size w'' w3)) := fun x w'' hx hb => hhas x w'' (by rw [← HNN.out]; exact hx) hb
  have HB2 : Hid (Below w.heap.size w w2) := HB1.out.trans (b2.out.mono HB1.out.size)
  have HQ2 : Hid (∀ w', Below w2.heap.size w2 w' → w'.cell? ⟨gb, 1, none⟩ = some (.slice p1 n l1)) := fun w' hb => HQ.out w' (b2.out.trans (hb.mono b2.out.size))
  rw [← hgb]
  clear hW1 K1 hst hhas HOK HQ b2 hgb
  go_wp2
  go_loopw [6, 7] (fun o z wr => ∃ k : Nat, k ≤ n ∧ z = .int .i64 k ∧ Hid (wr.ownsRow w2.heap.size 4 1 o k (blsV (bolL k M))) ∧ Hid (Below w2.heap.size w2 wr)) (fun _ z _ => n - (intOf z).toNat)
  case atStart => exact ⟨0, Nat.zero_le _, rfl, World.ownsRow_nil _ _ _ _, Below.refl _ _⟩
  case round =>
    obtain ⟨k, hk, rfl, HO, HB⟩ := hrel
    obtain ⟨po, co, hov⟩ := row_slice HO.out
    subst hov
    have q1 := HQ2.out wr HB.out
    by_cases hlt : k < n
    · have KH1 := KH.out k wr hlt HB.out
      have HEL : Hid (blsV (bolL (k + 1) M) = blsV (bolL k M) ++ [.bool (M k)]) := by show _ = _; unfold bolL blsV; rw [List.range_succ]; simp
      obtain ⟨b, hb⟩ : ∃ b, b = M k := ⟨_, rfl⟩
      rw [← hb] at KH1 HEL
      clear hb
      have HAPP : Hid (∀ w3, Below wr.heap.size wr w3 → ∃ qn kn w4, (Builtin.append_ #[27, 27] 27 #[.slice po k co, .slice (some ⟨w3.heap.size, 0, none⟩) 1 1]).run Tryz.prog (w3.alloc (.cells #[.bool b] 4)) = .ok (.slice qn (k + 1) kn) w4 ∧ w4.ownsRow w2.heap.size 4 1 (.slice qn (k + 1) kn) (k + 1) (blsV (bolL (k + 1) M)) ∧ Below w2.heap.size w2 w4) := fun w3 hb3 => by
        have hbw := HB.out.trans (hb3.mono HB.out.size)
        have ho := row_keep HO.out hb3
        obtain ⟨gg, cap, w4, hrun, hown, hgrow, hat, _⟩ := run_append_lies (P := Tryz.prog) (w3.alloc (.cells #[.bool b] 4)) 27 27 w2.heap.size 4 i0 _ 1 1 Tryz.underlying27 HIN.out.1 HIN.out.2.1 HIN.out.2.2.1 HIN.out.2.2.2 rfl (by omega) (.slice po k co) k (blsV (bolL k M)) (ho.alloc _) ⟨w3.heap.size, 0, none⟩ 1 1 [.bool b] rfl
          (World.news_of_block (cs := #[.bool b]) (t := 4) (fr := (0, 0)) (heap_alloc_new w3 _)) (by intro u hu; simp at hu; subst hu; rfl) (by omega) (by unfold maxLen; omega) (by omega) (by have := hbw.size; simp; omega) (w3.heap.size + 1) (by simp)
        exact ⟨_, _, w4, hrun, by rw [HEL.out]; exact hown, (hbw.alloc hbw.size _).grown hgrow (Nat.le_trans hbw.size (le_alloc _ _)) (fun i hi => (ho.lt i hi).1)⟩
      go_wp2_with (first
        | (go_at_call 16; refine KH1.mono ?_; rintro e w3 ⟨rfl, b3⟩; obtain ⟨qn, kn, w4, hrun, hown4, hbel4⟩ := HAPP.out w3 b3.out; have HRN : Hid ((Builtin.append_ #[27, 27] 27 #[.slice po k co, .slice (some ⟨w3.heap.size, 0, none⟩) 1 1]).run Tryz.prog (w3.alloc (.cells #[.bool b] 4)) = .ok (.slice qn (k + 1) kn) w4) := hrun; have HO4 : Hid (w4.ownsRow w2.heap.size 4 1 (.slice qn (k + 1) kn) (k + 1) (blsV (bolL (k + 1) M))) := hown4; have HB4 : Hid (Below w2.heap.size w2 w4) := hbel4; clear hrun hown4 hbel4)
        | (at_builtin; refine wpList_run_appendT rfl _ _ 27 rfl _ _ rfl rfl HRN.out ?_))
      go_roundw
      case rel => exact ⟨k + 1, by omega, by go_num, HO4, HB4⟩
      case measure => simp [intOf]; omega
    · obtain rfl : k = n := by omega
      have HIS : Hid (IsBls wr (fun i => w.heap.size ≤ i) (.slice po k co) (bolL k M)) := by
        have h9 := Reads.of HO.out (F := fun i => w.heap.size ≤ i) (fun b e => by have := (HO.out.lt b e).1; have := HB2.out.size; omega)
        show Reads _ _ _ _ _
        rw [bolL_length]; exact h9
      go_wp2
      go_ret2
      exact ⟨_, _, M, rfl, HST, HIS, HB2.out.trans (HB.out.mono HB2.out.size)⟩
end Go.Proofs.YtejhdhlpdcfedaaGreat
