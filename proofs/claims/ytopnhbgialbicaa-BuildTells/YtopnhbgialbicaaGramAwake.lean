/- awake of layer 4 answers true. -/
import Derived.Test.YtopnhbgialbicaaGramBuild
import Derived.Test.YtopnhbgialbicaaGramSame
namespace Go.Proofs.Ytopnhbgialbicaa
set_option linter.unusedVariables false
open Go.ChangeShapes Go.WideShapes Go.ChangeAt Go.RowKit

def sizedB (r : Rw) : Bool :=
  r.defs.all (fun d => decide (d.name.size ≤ 140737488355328) && d.alts.all (fun a => decide (a.length ≤ 1099511627776) && a.all (fun c => c.items.all fun i => decide (i.text.size ≤ 140737488355328)))) &&
  (r.starts.all (fun s => decide (s.size ≤ 140737488355328)) && (decide (r.defs.length ≤ 4294967296) && decide ((rulesT (namesT r.defs) r.defs).length ≤ 1099511627776)))
theorem sized_of {r : Rw} (h : sizedB r = true) : Sized r := by
  unfold sizedB at h
  simp only [Bool.and_eq_true, List.all_eq_true, decide_eq_true_eq] at h
  obtain ⟨h1, h2, h3, h4⟩ := h
  exact ⟨fun d hd a ha c hc i hi => ((h1 d hd).2 a ha).2 c hc i hi, fun d hd => (h1 d hd).1, h2, h3, h4, fun d hd a ha => ((h1 d hd).2 a ha).1⟩
theorem build_ok {r : Rw} {g : Gr} (h : buildT r = .ok g) (hS : sizedB r = true) (v1 v2 : Value) (w : World) {F : Nat → Prop} (h1 : IsTexts w F v1 r.starts) (h2 : IsDefs w F v2 r.defs) :
    Calls Try.prog 5 #[.agg #[v1, v2]] w fun e w' => ∃ p1 c1 p2 c2, ∃ F : Nat → Prop, e = .returned (.tuple #[.agg #[.int .i64 g.start, .slice p1 g.names.length c1, .slice p2 g.rules.length c2], .string ⟨#[]⟩, .int .i64 0]) ∧ Hid (GrIs w' F (.slice p1 g.names.length c1) (.slice p2 g.rules.length c2) g) ∧ Hid (Below w.heap.size w w') ∧ Hid (∀ b, F b → w.heap.size ≤ b) := by
  refine (build_any r v1 v2 w h1 h2 (sized_of hS)).mono ?_
  rw [h]
  rintro e w' ⟨p1, c1, p2, c2, F', rfl, hF, hg, hb⟩
  exact ⟨p1, c1, p2, c2, F', rfl, hg, hb, fun b h => (hF b h).1⟩
theorem build_err {r : Rw} {n : ByteArray} {k : Nat} (h : buildT r = .error (n, k)) (hS : sizedB r = true) (v1 v2 : Value) (w : World) {F : Nat → Prop} (h1 : IsTexts w F v1 r.starts) (h2 : IsDefs w F v2 r.defs) :
    Calls Try.prog 5 #[.agg #[v1, v2]] w fun e w' => e = .returned (.tuple #[.agg #[.int .i64 0, .slice none 0 0, .slice none 0 0], .string n, .int .i64 (k : Int)]) ∧ Hid (Below w.heap.size w w') := by
  refine (build_any r v1 v2 w h1 h2 (sized_of hS)).mono ?_
  rw [h]
  rintro e w' ⟨rfl, hb⟩
  exact ⟨rfl, hb⟩
theorem Reads.laidF {w : World} {F : Nat → Prop} {g n c : Nat} {arr : Array Value} {t : TypeId} (h : w.heap[g]? = some (.cells arr t)) (hF : F g) (hn : n ≤ maxLen ∧ n ≤ c) {cs : List Value} (hcs : cs = arr.toList) : Reads w F (.slice (some ⟨g, 0, none⟩) n c) n cs := by
  subst hcs
  have hg : g < w.heap.size := block_lt h
  refine ⟨_, _, rfl, hn, fun _ => ⟨g, 0, rfl, hF, hg, fun j c hj => ?_, fun j _ => by simp [World.frozen?, h]⟩⟩
  simp [World.cell?, h]
  simpa using hj
theorem Reads.nil (w : World) (F : Nat → Prop) : Reads w F (.slice none 0 0) 0 [] := ⟨none, 0, rfl, ⟨Nat.zero_le _, Nat.zero_le _⟩, fun h => absurd h (by decide)⟩
theorem IsTexts.nil (w : World) (F : Nat → Prop) : IsTexts w F (.slice none 0 0) [] := Reads.nil w F
theorem IsDefs.nil (w : World) (F : Nat → Prop) : IsDefs w F (.slice none 0 0) [] := ⟨[], Reads.nil w F, defs_nil w F⟩
theorem IsRus.nil (w : World) (F : Nat → Prop) : IsRus w F (.slice none 0 0) [] := ⟨[], Reads.nil w F, RusIn.nil w F⟩
theorem three_le : 3 ≤ maxLen ∧ 3 ≤ 3 := by unfold maxLen; omega

def a4R (s : ByteArray) : Rw := ⟨[s], [⟨⟨#[83]⟩, [[⟨true, [⟨1, ⟨#[97, 98]⟩, 0, 0⟩, ⟨0, ⟨#[83]⟩, 0, 0⟩]⟩]]⟩]⟩
def a4G : Gr := ⟨0, [⟨#[83]⟩], [⟨0, [⟨true, [⟨-1, 97, 97⟩, ⟨-1, 98, 98⟩, ⟨0, 0, 0⟩]⟩]⟩]⟩
theorem a4b1 : buildT (a4R ⟨#[83]⟩) = .ok a4G := by kernel_rfl
theorem a4b2 : buildT ⟨[], []⟩ = .error (⟨#[]⟩, 400) := by kernel_rfl
theorem a4b3 : buildT (a4R ⟨#[84]⟩) = .error (⟨#[84]⟩, 402) := by kernel_rfl
theorem a4s1 : sizedB (a4R ⟨#[83]⟩) = true := by kernel_rfl
theorem a4s2 : sizedB ⟨[], []⟩ = true := by kernel_rfl
theorem a4s3 : sizedB (a4R ⟨#[84]⟩) = true := by kernel_rfl
theorem a4m1 : mayG a4G = true := by kernel_rfl
theorem a4m2 : mayG ⟨0, [], []⟩ = false := by kernel_rfl
def a4O (n : Nat) : List Obj :=
  [.cells #[.string ⟨#[83]⟩] 9, .cells #[.int .i64 1, .string ⟨#[97, 98]⟩, .int .i64 0, .int .i64 0, .int .i64 0, .string ⟨#[83]⟩, .int .i64 0, .int .i64 0] 40,
   .cells #[.bool true, .slice (some ⟨n + 1, 0, none⟩) 2 2] 43, .cells #[.slice (some ⟨n + 1 + 1, 0, none⟩) 1 1] 44, .cells #[.string ⟨#[83]⟩, .slice (some ⟨n + 1 + 1 + 1, 0, none⟩) 1 1] 35]
theorem a4_defs (w : World) (X : World) (hX : ∀ k o, (a4O w.heap.size)[k]? = some o → 0 < k → X.heap[w.heap.size + k]? = some o) : IsDefs X (fun b => w.heap.size < b) (.slice (some ⟨w.heap.size + 4, 0, none⟩) 1 1) (a4R ⟨#[]⟩).defs := by
  have h := fun k o hk hz => hX k o hk hz
  have i1 : IsIts X (fun b => w.heap.size < b) (.slice (some ⟨w.heap.size + 1, 0, none⟩) 2 2) [⟨1, ⟨#[97, 98]⟩, 0, 0⟩, ⟨0, ⟨#[83]⟩, 0, 0⟩] := Reads.laidF (h 1 _ rfl (by decide)) (by show _ < _; omega) le22 rfl
  have c1 : IsCjs X (fun b => w.heap.size < b) (.slice (some ⟨w.heap.size + 2, 0, none⟩) 1 1) [⟨true, [⟨1, ⟨#[97, 98]⟩, 0, 0⟩, ⟨0, ⟨#[83]⟩, 0, 0⟩]⟩] := ⟨[_], Reads.laidF (h 2 _ rfl (by decide)) (by show _ < _; omega) le11 rfl, cjs_snoc (cjs_nil _ _) (c := ⟨true, [⟨1, ⟨#[97, 98]⟩, 0, 0⟩, ⟨0, ⟨#[83]⟩, 0, 0⟩]⟩) i1⟩
  have a1 : IsAlts X (fun b => w.heap.size < b) (.slice (some ⟨w.heap.size + 3, 0, none⟩) 1 1) [[⟨true, [⟨1, ⟨#[97, 98]⟩, 0, 0⟩, ⟨0, ⟨#[83]⟩, 0, 0⟩]⟩]] := ⟨[_], Reads.laidF (h 3 _ rfl (by decide)) (by show _ < _; omega) le11 rfl, alts_snoc (alts_nil _ _) c1⟩
  exact ⟨[_], Reads.laidF (h 4 _ rfl (by decide)) (by show _ < _; omega) le11 rfl, defs_snoc (defs_nil _ _) (c := ⟨⟨#[83]⟩, _⟩) a1⟩
def a4P (n : Nat) : List Obj :=
  [.cells #[.string ⟨#[83]⟩] 9, .cells #[.int .i64 (-1), .int .i64 97, .int .i64 97, .int .i64 (-1), .int .i64 98, .int .i64 98, .int .i64 0, .int .i64 0, .int .i64 0] 47,
   .cells #[.bool true, .slice (some ⟨n + 1, 0, none⟩) 3 3] 50, .cells #[.int .i64 0, .slice (some ⟨n + 1 + 1, 0, none⟩) 1 1] 53]
theorem a4_gram (w : World) (n : Nat) (hn : w.heap.size = n) : GrIs (blks w (a4P n)) Any (.slice (some ⟨n, 0, none⟩) 1 1) (.slice (some ⟨n + 3, 0, none⟩) 1 1) a4G := by
  subst hn
  have h := fun k o => blks_at (a4P w.heap.size) w k o
  have i1 : IsSys (blks w (a4P w.heap.size)) Any (.slice (some ⟨w.heap.size + 1, 0, none⟩) 3 3) [⟨-1, 97, 97⟩, ⟨-1, 98, 98⟩, ⟨0, 0, 0⟩] := reads_laid (h 1 _ rfl) three_le rfl
  have c1 : IsCns (blks w (a4P w.heap.size)) Any (.slice (some ⟨w.heap.size + 2, 0, none⟩) 1 1) [⟨true, [⟨-1, 97, 97⟩, ⟨-1, 98, 98⟩, ⟨0, 0, 0⟩]⟩] := ⟨[_], reads_laid (h 2 _ rfl) le11 rfl, (CnsIn.nil _ _).snoc (c := ⟨true, [⟨-1, 97, 97⟩, ⟨-1, 98, 98⟩, ⟨0, 0, 0⟩]⟩) i1⟩
  exact ⟨reads_laid (h 0 _ rfl) le11 rfl, [_], reads_laid (h 3 _ rfl) le11 rfl, (RusIn.nil _ _).snoc (c := ⟨0, _⟩) c1⟩
/-- The literal of awake in memory, its start s. -/
structure A4 (w : World) (s : ByteArray) (X : World) : Prop where
  st : X.heap[w.heap.size]? = some (.cells #[.string s] 9)
  df : ∀ k o, (a4O w.heap.size)[k]? = some o → 0 < k → X.heap[w.heap.size + k]? = some o
  vr : X.heap[w.heap.size + 1 + 1 + 1 + 1 + 1]? = some (.cells #[.slice (some ⟨w.heap.size, 0, none⟩) 1 1, .slice (some ⟨w.heap.size + 1 + 1 + 1 + 1, 0, none⟩) 1 1] 25)
  bl : Below w.heap.size w X
section
variable {w X X' : World} {s : ByteArray}
theorem A4.keep (h : A4 w s X) (hb : Below X.heap.size X X') : A4 w s X' :=
  ⟨(hb.block _ (block_lt h.st)).trans h.st, fun k o h1 h2 => (hb.block _ (block_lt (h.df k o h1 h2))).trans (h.df k o h1 h2), (hb.block _ (block_lt h.vr)).trans h.vr, h.bl.trans (hb.mono h.bl.size)⟩
theorem A4.set (h : A4 w s X) (t : ByteArray) : A4 w t (X.setCell ⟨w.heap.size, 0, none⟩ (.string t)) :=
  ⟨heap_setCell_same X w.heap.size 0 _ _ _ h.st, fun k o h1 h2 => (Go.Deep.blk_setCell_other X ⟨w.heap.size, 0, none⟩ _ _ (by show _ ≠ w.heap.size; omega)).trans (h.df k o h1 h2), (Go.Deep.blk_setCell_other X ⟨w.heap.size, 0, none⟩ _ _ (by show _ ≠ w.heap.size; omega)).trans h.vr, h.bl.setCell (p := ⟨w.heap.size, 0, none⟩) (Nat.le_refl _) _⟩
theorem A4.raw (h : A4 w s X) : IsTexts X Any (.slice (some ⟨w.heap.size, 0, none⟩) 1 1) (a4R s).starts ∧ IsDefs X Any (.slice (some ⟨w.heap.size + 1 + 1 + 1 + 1, 0, none⟩) 1 1) (a4R s).defs :=
  ⟨reads_laid h.st le11 rfl, (a4_defs w X h.df).mono fun _ _ _ => trivial⟩
theorem A4.new (w : World) : A4 w ⟨#[83]⟩ ((blks w (a4O w.heap.size)).alloc (.cells #[.slice (some ⟨w.heap.size, 0, none⟩) 1 1, .slice (some ⟨w.heap.size + 1 + 1 + 1 + 1, 0, none⟩) 1 1] 25)) := by
  have h := fun k o hk => blks_at (a4O w.heap.size) w k o hk
  have hz : (blks w (a4O w.heap.size)).heap.size = w.heap.size + 5 := by simp [blks, a4O]
  refine ⟨(heap_alloc_old _ (by omega)).trans (h 0 _ rfl), fun k o h1 h2 => (heap_alloc_old _ (block_lt (h k o h1))).trans (h k o h1), ?_, (blks_below _ w).alloc (by omega) _⟩
  rw [show w.heap.size + 1 + 1 + 1 + 1 + 1 = (blks w (a4O w.heap.size)).heap.size by rw [hz]]
  exact heap_alloc_new _ _
theorem GrIs.set {F : Nat → Prop} {v1 v2 : Value} {g : Gr} {n m : Nat} (h : GrIs X F v1 v2 g) (hF : ∀ b, F b → m ≤ b) (hn : n < m) (u : Value) : GrIs (X.setCell ⟨n, 0, none⟩ u) F v1 v2 g := by
  have hs : Stay F X (X.setCell ⟨n, 0, none⟩ u) := ⟨by simp [World.setCell], fun b hb => Go.Deep.blk_setCell_other X ⟨n, 0, none⟩ u b (by have := hF b hb; show b ≠ n; omega)⟩
  exact ⟨h.1.keep hs (fun _ h => h), h.2.keep hs (fun _ h => h)⟩
end
theorem far3 {w2 w3 : World} {n g : Nat} {u : Value} {o : Obj} (hb : Below ((w2.setCell ⟨n, 0, none⟩ u).alloc o).heap.size ((w2.setCell ⟨n, 0, none⟩ u).alloc o) w3) (hne : g ≠ n) (hg : g < w2.heap.size) (j : Nat) : w3.cell? ⟨g, j, none⟩ = w2.cell? ⟨g, j, none⟩ := by
  have hz : (w2.setCell ⟨n, 0, none⟩ u).heap.size = w2.heap.size := by simp [World.setCell]
  exact (hb.cell (p := ⟨g, j, none⟩) (Nat.lt_of_lt_of_le (by rw [hz]; exact hg) (le_alloc _ _))).trans ((World.cell?_alloc_past _ _ _ (by rw [hz]; exact hg)).trans (World.cell?_of_block (a := ⟨g, j, none⟩) (Go.Deep.blk_setCell_other w2 ⟨n, 0, none⟩ u g hne)))
set_option maxHeartbeats 2000000 in
set_option maxRecDepth 100000 in
theorem awake4_any (w : World) : Calls Try.prog 4 #[] w fun e w' => e = .returned (.bool true) ∧ Below w.heap.size w w' := by
  have K1 : ∀ w', A4 w ⟨#[83]⟩ w' → Calls Try.prog 5 #[.agg #[.slice (some ⟨w.heap.size, 0, none⟩) 1 1, .slice (some ⟨w.heap.size + 1 + 1 + 1 + 1, 0, none⟩) 1 1]] w' fun e w'' => ∃ p1 c1 p2 c2, ∃ F : Nat → Prop, e = .returned (.tuple #[.agg #[.int .i64 0, .slice p1 1 c1, .slice p2 1 c2], .string ⟨#[]⟩, .int .i64 0]) ∧ Hid (GrIs w'' F (.slice p1 1 c1) (.slice p2 1 c2) a4G) ∧ Hid (Below w'.heap.size w' w'') ∧ Hid (∀ b, F b → w'.heap.size ≤ b) := fun w' h => build_ok a4b1 a4s1 _ _ w' h.raw.1 h.raw.2
  have K2 : ∀ w', Calls Try.prog 5 #[.agg #[.slice none 0 0, .slice none 0 0]] w' fun e w'' => e = .returned (.tuple #[.agg #[.int .i64 0, .slice none 0 0, .slice none 0 0], .string ⟨#[]⟩, .int .i64 400]) ∧ Hid (Below w'.heap.size w' w'') := fun w' => build_err a4b2 a4s2 _ _ w' (IsTexts.nil w' Any) (IsDefs.nil w' Any)
  have K3 : ∀ w', A4 w ⟨#[84]⟩ w' → Calls Try.prog 5 #[.agg #[.slice (some ⟨w.heap.size, 0, none⟩) 1 1, .slice (some ⟨w.heap.size + 1 + 1 + 1 + 1, 0, none⟩) 1 1]] w' fun e w'' => e = .returned (.tuple #[.agg #[.int .i64 0, .slice none 0 0, .slice none 0 0], .string ⟨#[84]⟩, .int .i64 402]) ∧ Hid (Below w'.heap.size w' w'') := fun w' h => build_err a4b3 a4s3 _ _ w' h.raw.1 h.raw.2
  have K5 : ∀ w' v1 v2 (F : Nat → Prop), GrIs w' F v1 v2 a4G → Calls Try.prog 7 #[.agg #[.int .i64 0, v1, v2]] w' fun e w'' => e = .returned (.bool true) ∧ Hid (Below w'.heap.size w' w'') := fun w' v1 v2 F h => by
    have := may_any a4G v1 v2 w' h (by intro x hx; simp [a4G] at hx; subst hx; decide) (by intro x hx c hc; simp [a4G] at hx; subst hx; simp at hc; subst hc; decide)
    rw [a4m1] at this
    exact this
  have K6 : ∀ w', Calls Try.prog 7 #[.agg #[.int .i64 0, .slice none 0 0, .slice none 0 0]] w' fun e w'' => e = .returned (.bool false) ∧ Hid (Below w'.heap.size w' w'') := fun w' => by
    have := may_any ⟨0, [], []⟩ _ _ w' ⟨IsTexts.nil w' Any, IsRus.nil w' Any⟩ (by intro x hx; cases hx) (by intro x hx; cases hx)
    rw [a4m2] at this
    exact this
  have H0 : Hid (A4 w ⟨#[83]⟩ ((blks w (a4O w.heap.size)).alloc (.cells #[.slice (some ⟨w.heap.size, 0, none⟩) 1 1, .slice (some ⟨w.heap.size + 1 + 1 + 1 + 1, 0, none⟩) 1 1] 25))) := A4.new w
  go_enter Try.func4, Try.ntmps4
  go_wp2_with (first
    | (go_at_call 5; first
      | (have hh := H3; fail)
      | (have hh := H2; clear hh; refine (K3 _ ((H2.out.set _).keep (bel1 _ _))).mono ?_; rintro e w3 ⟨rfl, b3⟩; have H3 : Hid (Below w.heap.size w w3) := ((H2.out.set _).keep (bel1 _ _)).bl.trans (b3.out.mono ((H2.out.set _).keep (bel1 _ _)).bl.size); have G3 : Hid (GrIs w3 F (.slice p1 1 c1) (.slice p2 1 c2) a4G) := ((G2.out.set F2.out (Nat.lt_succ_self _) _).any (bel1 _ _)).any b3.out; have v0 := (far3 b3.out hne hw12 0).trans u0; have v1 := (far3 b3.out hne hw12 1).trans u1; have v2 := (far3 b3.out hne hw12 2).trans u2; have hw13 : w1.heap.size < w3.heap.size := cell_lt v0)
      | (have hh := H1; clear hh; refine (K2 _).mono ?_; rintro e w2 ⟨rfl, b2⟩; have H2 : Hid (A4 w ⟨#[83]⟩ w2) := (H1.out.keep (bel1 _ _)).keep b2.out; have n0 : w2.cell? ⟨w.heap.size + 1 + 1 + 1 + 1 + 1, 0, none⟩ = some (.slice (some ⟨w.heap.size, 0, none⟩) 1 1) := cell_of_cells H2.out.vr 0; have n1 : w2.cell? ⟨w.heap.size + 1 + 1 + 1 + 1 + 1, 1, none⟩ = some (.slice (some ⟨w.heap.size + 1 + 1 + 1 + 1, 0, none⟩) 1 1) := cell_of_cells H2.out.vr 1; have s0 : w2.cell? ⟨w.heap.size, 0, none⟩ = some (.string ⟨#[83]⟩) := cell_of_cells H2.out.st 0; have f0 : w2.frozen? ⟨w.heap.size, 0, none⟩ = false := (by simp [World.frozen?, H2.out.st]); have hN : w.heap.size < w2.heap.size := block_lt H2.out.st; have hN5 : w.heap.size + 1 + 1 + 1 + 1 + 1 < w2.heap.size := block_lt H2.out.vr; obtain ⟨u0, u1, u2⟩ := var3 b2.out; have hw12 : w1.heap.size < w2.heap.size := cell_lt u0; have G2 : Hid (GrIs w2 F (.slice p1 1 c1) (.slice p2 1 c2) a4G) := (g1.out.any (bel1 _ _)).any b2.out)
      | (refine (K1 _ H0.out).mono ?_; rintro e w1 ⟨p1, c1, p2, c2, F, rfl, g1, b1, F1⟩; have H1 : Hid (A4 w ⟨#[83]⟩ w1) := H0.out.keep b1.out; have hne : w1.heap.size ≠ w.heap.size := Nat.ne_of_gt (block_lt H1.out.st); have F2 : Hid (∀ b, F b → w.heap.size + 1 ≤ b) := (fun b hb => Nat.le_trans (block_lt H0.out.st) (F1.out b hb))))
    | (go_at_call 6; refine (num_any _ _).mono ?_; rintro e wn ⟨rfl, rfl⟩)
    | (go_at_call 9; refine (sameGram_yes a4G _ _ _ _ (blks (w3.alloc (.cells #[.int .i64 0, .slice none 0 0, .slice none 0 0] 29)) (a4P (w3.heap.size + 1))) ((G3.out.any (bel1 _ _)).any (blks_below _ _)) (a4_gram _ _ (by simp))).mono ?_; rintro e w4 ⟨rfl, b4⟩; have q4 : Below w3.heap.size w3 w4 := ((bel1 _ _).trans ((blks_below _ _).mono (le_alloc _ _))).trans (b4.mono (Nat.le_trans (le_alloc _ _) (blks_below _ _).size)); have G4 : Hid (GrIs w4 F (.slice p1 1 c1) (.slice p2 1 c2) a4G) := G3.out.any q4; have H4 : Hid (Below w.heap.size w w4) := H3.out.trans (q4.mono H3.out.size); have t0 : w4.cell? ⟨w1.heap.size, 0, none⟩ = some (.int .i64 0) := (q4.cell (p := ⟨_, _, none⟩) hw13).trans v0; have t1 : w4.cell? ⟨w1.heap.size, 1, none⟩ = some (.slice p1 1 c1) := (q4.cell (p := ⟨_, _, none⟩) hw13).trans v1; have t2 : w4.cell? ⟨w1.heap.size, 2, none⟩ = some (.slice p2 1 c2) := (q4.cell (p := ⟨_, _, none⟩) hw13).trans v2; clear b4 q4)
    | (go_at_call 7; first | (have hh := H5; clear hh; refine (K6 _).mono ?_; rintro e w6 ⟨rfl, b6⟩) | (refine (K5 _ _ _ _ G4.out).mono ?_; rintro e w5 ⟨rfl, b5⟩; have H5 : Hid (Below w.heap.size w w5) := H4.out.trans (b5.out.mono H4.out.size))))
  go_ret
  exact ⟨rfl, H5.out.trans (b6.out.mono H5.out.size)⟩
end Go.Proofs.Ytopnhbgialbicaa
