/- The program's Build against its plain function. -/
import Derived.Test.YtopnhbgialbicaaGramOk
import Derived.Deep.RegionHeld3
import Derived.Deep.Cut
namespace Go.Proofs.Ytopnhbgialbicaa
set_option linter.unusedVariables false
open Go.ChangeShapes Go.WideShapes Go.ChangeAt Go.RowKit Go.Maps

theorem againT_lim : ∀ (l seen : List ByteArray) (i : Nat), i ≤ againT seen l i ∧ againT seen l i ≤ i + l.length
  | [], seen, i => ⟨Nat.le_refl _, Nat.le_refl _⟩
  | s :: l, seen, i => by
    rw [againT]
    split
    · exact ⟨Nat.le_refl _, by omega⟩
    · have := againT_lim l (seen ++ [s]) (i + 1)
      simp only [List.length_cons]
      omega
theorem again_le (l : List ByteArray) : again l ≤ l.length := by
  have := (againT_lim l [] 0).2
  unfold again; omega
section
variable {w : World} {F F' : Nat → Prop}
theorem IsCns.mono {v : Value} {l : List Cn} (h : IsCns w F v l) (hm : ∀ b, F b → b < w.heap.size → F' b) : IsCns w F' v l := by
  obtain ⟨vs, h1, h2, h3⟩ := h
  exact ⟨vs, h1.mono hm, h2, fun k c u e1 e2 => Reads.mono (h3 k c u e1 e2) hm⟩
theorem IsRus.mono {v : Value} {l : List Ru} (h : IsRus w F v l) (hm : ∀ b, F b → b < w.heap.size → F' b) : IsRus w F' v l := by
  obtain ⟨vs, h1, h2, h3⟩ := h
  exact ⟨vs, h1.mono hm, h2, fun k c u e1 e2 => (h3 k c u e1 e2).mono hm⟩
end
set_option maxRecDepth 100000 in
theorem NumMap.look {w : World} {B : Nat} {l : List ByteArray} (h : NMap w B l) (s : ByteArray) (hs : s.size ≤ maxLen) : (Instr.lookup 55 (.map (some B)) (.string s) false).run Try.prog w = .ok (.int .i64 (numOf l s)) w := by
  obtain ⟨D, hown, hD, hd⟩ := h
  obtain ⟨c, hrun, hat, _⟩ := hown.lookup_int Try.keyed Try.underMap Try.underlying3 (Try.zeroInt _) (WideMaps.keyOf_string_mk Try.underlying9 hs)
  have h2 := (hd s).2
  unfold litS at h2
  rw [h2] at hat
  injection hat with hat
  injection hat with _ hat
  rw [hrun, hat]
theorem below_alloc {W w' : World} {o : Obj} (h : Below W.heap.size W w') : Below W.heap.size W (w'.alloc o) := h.alloc h.size o
theorem below_set {W w' : World} {n i : Nat} (h : Below W.heap.size W w') (hn : W.heap.size ≤ n) (v : Value) : Below W.heap.size W (w'.setCell ⟨n, i, none⟩ v) := h.setCell (p := ⟨n, i, none⟩) hn v
/-- How a call of Build ends. -/
def BuildEnd (w : World) : Bres → Ending → World → Prop
  | .error (n, k), e, w' => e = .returned (.tuple #[.agg #[.int .i64 0, .slice none 0 0, .slice none 0 0], .string n, .int .i64 (k : Int)]) ∧ Below w.heap.size w w'
  | .ok g, e, w' => ∃ p1 c1 p2 c2, ∃ F : Nat → Prop, e = .returned (.tuple #[.agg #[.int .i64 g.start, .slice p1 g.names.length c1, .slice p2 g.rules.length c2], .string ⟨#[]⟩, .int .i64 0]) ∧ (∀ b, F b → w.heap.size ≤ b ∧ b < w'.heap.size) ∧ GrIs w' F (.slice p1 g.names.length c1) (.slice p2 g.rules.length c2) g ∧ Below w.heap.size w w'
/-- The call's own two variables. -/
structure Bx (w : World) (v1 v2 : Value) (w' : World) : Prop where
  x0 : w'.cell? ⟨w.heap.size, 0, none⟩ = some v1
  x1 : w'.cell? ⟨w.heap.size, 1, none⟩ = some v2
  y0 : w'.cell? ⟨w.heap.size + 1, 0, none⟩ = some (.int .i64 0)
  y1 : w'.cell? ⟨w.heap.size + 1, 1, none⟩ = some (.slice none 0 0)
  y2 : w'.cell? ⟨w.heap.size + 1, 2, none⟩ = some (.slice none 0 0)
  z0 : w'.frozen? ⟨w.heap.size + 1, 0, none⟩ = false
  z1 : w'.frozen? ⟨w.heap.size + 1, 1, none⟩ = false
  z2 : w'.frozen? ⟨w.heap.size + 1, 2, none⟩ = false
  bl : Below w.heap.size w w'
  sz : w.heap.size + 2 ≤ w'.heap.size
theorem Bx.new (w : World) (v1 v2 : Value) (t : TypeId) : Bx w v1 v2 ((w.alloc (.cells #[v1, v2] t)).alloc (.cells #[.int .i64 0, .slice none 0 0, .slice none 0 0] 29)) := by
  have hx : ∀ j, ((w.alloc (.cells #[v1, v2] t)).alloc (.cells #[.int .i64 0, .slice none 0 0, .slice none 0 0] 29)).cell? ⟨w.heap.size, j, none⟩ = (#[v1, v2] : Array Value)[j]? := fun j => (World.cell?_alloc_past _ _ _ (by simp)).trans (World.cell?_alloc_at _ _ _ _ rfl)
  have hy : ∀ j, ((w.alloc (.cells #[v1, v2] t)).alloc (.cells #[.int .i64 0, .slice none 0 0, .slice none 0 0] 29)).cell? ⟨w.heap.size + 1, j, none⟩ = (#[.int .i64 0, .slice none 0 0, .slice none 0 0] : Array Value)[j]? := fun j => World.cell?_alloc_at _ _ _ _ (by simp)
  have hz : ∀ j, ((w.alloc (.cells #[v1, v2] t)).alloc (.cells #[.int .i64 0, .slice none 0 0, .slice none 0 0] 29)).frozen? ⟨w.heap.size + 1, j, none⟩ = false := fun j => World.frozen?_alloc_at _ _ _ _ (by simp)
  exact ⟨hx 0, hx 1, hy 0, hy 1, hy 2, hz 0, hz 1, hz 2, ((Below.refl _ _).alloc (Nat.le_refl _) _).alloc (le_alloc _ _) _, by simp⟩
theorem Bx.keep {w w' w'' : World} {v1 v2 : Value} (h : Bx w v1 v2 w') (hb : Below w'.heap.size w' w'') : Bx w v1 v2 w'' := by
  have hs := h.sz
  have hc : ∀ b j, b < w.heap.size + 2 → w''.cell? ⟨b, j, none⟩ = w'.cell? ⟨b, j, none⟩ := fun b j hb' => hb.cell (p := ⟨b, j, none⟩) (by show b < w'.heap.size; omega)
  have hf : ∀ b j, b < w.heap.size + 2 → w''.frozen? ⟨b, j, none⟩ = w'.frozen? ⟨b, j, none⟩ := fun b j hb' => hb.frozen (p := ⟨b, j, none⟩) (by show b < w'.heap.size; omega)
  exact ⟨(hc _ _ (by omega)).trans h.x0, (hc _ _ (by omega)).trans h.x1, (hc _ _ (by omega)).trans h.y0, (hc _ _ (by omega)).trans h.y1, (hc _ _ (by omega)).trans h.y2, (hf _ _ (by omega)).trans h.z0, (hf _ _ (by omega)).trans h.z1, (hf _ _ (by omega)).trans h.z2, h.bl.trans (hb.mono h.bl.size), Nat.le_trans h.sz hb.size⟩
theorem below_set3 {w w' : World} {a b c : Value} (h : Below w.heap.size w w') : Below w.heap.size w (((w'.setCell ⟨w.heap.size + 1, 0, none⟩ a).setCell ⟨w.heap.size + 1, 1, none⟩ b).setCell ⟨w.heap.size + 1, 2, none⟩ c) :=
  ((h.setCell (p := ⟨w.heap.size + 1, 0, none⟩) (Nat.le_succ _) a).setCell (p := ⟨w.heap.size + 1, 1, none⟩) (Nat.le_succ _) b).setCell (p := ⟨w.heap.size + 1, 2, none⟩) (Nat.le_succ _) c

theorem Bx.set {w w' : World} {v1 v2 : Value} (h : Bx w v1 v2 w') {b : Nat} (hb : w.heap.size + 2 ≤ b) (j : Nat) (u : Value) : Bx w v1 v2 (w'.setCell ⟨b, j, none⟩ u) := by
  have hc : ∀ g i, g < w.heap.size + 2 → (w'.setCell ⟨b, j, none⟩ u).cell? ⟨g, i, none⟩ = w'.cell? ⟨g, i, none⟩ := fun g i hg => World.cell?_of_block (a := ⟨g, i, none⟩) (Go.Deep.blk_setCell_other w' ⟨b, j, none⟩ u g (by show g ≠ b; omega))
  have hf : ∀ g i, g < w.heap.size + 2 → (w'.setCell ⟨b, j, none⟩ u).frozen? ⟨g, i, none⟩ = w'.frozen? ⟨g, i, none⟩ := fun g i hg => World.frozen?_of_block (a := ⟨g, i, none⟩) (Go.Deep.blk_setCell_other w' ⟨b, j, none⟩ u g (by show g ≠ b; omega))
  exact ⟨(hc _ _ (by omega)).trans h.x0, (hc _ _ (by omega)).trans h.x1, (hc _ _ (by omega)).trans h.y0, (hc _ _ (by omega)).trans h.y1, (hc _ _ (by omega)).trans h.y2, (hf _ _ (by omega)).trans h.z0, (hf _ _ (by omega)).trans h.z1, (hf _ _ (by omega)).trans h.z2, h.bl.setCell (p := ⟨b, j, none⟩) (by show w.heap.size ≤ b; omega) u, by have := h.sz; simpa [World.setCell] using this⟩
/-- The grammar that is made, in its variable. -/
structure Gx (w : World) (v1 v2 : Value) (g : Gr) (st : Int) (a b : Value) (gb : Nat) (X : World) : Prop where
  c0 : X.cell? ⟨gb, 0, none⟩ = some (.int .i64 st)
  c1 : X.cell? ⟨gb, 1, none⟩ = some a
  c2 : X.cell? ⟨gb, 2, none⟩ = some b
  bx : Bx w v1 v2 X
  gr : GrIs X (fun b => w.heap.size + 2 ≤ b) a b g
  lt : gb < X.heap.size
section
variable {w w' X : World} {v1 v2 a b : Value} {g : Gr} {st : Int} {gb : Nat}
theorem Gx.keep (h : Gx w v1 v2 g st a b gb X) {X' : World} (hb : Below X.heap.size X X') : Gx w v1 v2 g st a b gb X' :=
  ⟨(hb.cell (p := ⟨gb, 0, none⟩) h.lt).trans h.c0, (hb.cell (p := ⟨gb, 1, none⟩) h.lt).trans h.c1, (hb.cell (p := ⟨gb, 2, none⟩) h.lt).trans h.c2, h.bx.keep hb, h.gr.any hb, Nat.lt_of_lt_of_le h.lt hb.size⟩
theorem Gx.alloc (hb : Bx w v1 v2 w') (h1 : IsTexts w' (fun b => w.heap.size + 2 ≤ b) a g.names) (h2 : IsRus w' (fun b => w.heap.size + 2 ≤ b) b g.rules) (t : TypeId) : Gx w v1 v2 g st a b w'.heap.size (w'.alloc (.cells #[.int .i64 st, a, b] t)) :=
  ⟨World.cell?_alloc_at _ _ _ _ rfl, World.cell?_alloc_at _ _ _ _ rfl, World.cell?_alloc_at _ _ _ _ rfl, hb.keep (bel1 _ _), ⟨h1.any (bel1 _ _), h2.any (bel1 _ _)⟩, by simp⟩
theorem Gx.set (hb : Bx w v1 v2 w') (hg : w.heap.size + 2 ≤ gb) (hl : gb < w'.heap.size) {u0 u1 u2 : Value} (k0 : w'.cell? ⟨gb, 0, none⟩ = some u0) (k1 : w'.cell? ⟨gb, 1, none⟩ = some u1) (k2 : w'.cell? ⟨gb, 2, none⟩ = some u2) (h1 : IsTexts w' (fun b => w.heap.size + 2 ≤ b ∧ b < gb) a g.names) (h2 : IsRus w' (fun b => gb < b) b g.rules) :
    Gx w v1 v2 g st a b gb (((w'.setCell ⟨gb, 0, none⟩ (.int .i64 st)).setCell ⟨gb, 1, none⟩ a).setCell ⟨gb, 2, none⟩ b) := by
  have n01 : (⟨gb, 0, none⟩ : Addr) ≠ ⟨gb, 1, none⟩ := by simp
  have n02 : (⟨gb, 0, none⟩ : Addr) ≠ ⟨gb, 2, none⟩ := by simp
  have n12 : (⟨gb, 1, none⟩ : Addr) ≠ ⟨gb, 2, none⟩ := by simp
  have e0 : (w'.setCell ⟨gb, 0, none⟩ (.int .i64 st)).cell? ⟨gb, 0, none⟩ = some (.int .i64 st) := World.cell?_setCell_same _ _ _ k0
  have e1 : ((w'.setCell ⟨gb, 0, none⟩ (.int .i64 st)).setCell ⟨gb, 1, none⟩ a).cell? ⟨gb, 1, none⟩ = some a := World.cell?_setCell_same _ _ _ ((World.cell?_setCell_other _ _ _ _ (ne_off (by decide))).trans k1)
  have e2 : (((w'.setCell ⟨gb, 0, none⟩ (.int .i64 st)).setCell ⟨gb, 1, none⟩ a).setCell ⟨gb, 2, none⟩ b).cell? ⟨gb, 2, none⟩ = some b := World.cell?_setCell_same _ _ _ ((World.cell?_setCell_other _ _ _ _ (ne_off (by decide))).trans ((World.cell?_setCell_other _ _ _ _ (ne_off (by decide))).trans k2))
  have hst : ∀ (F : Nat → Prop), (∀ x, F x → x ≠ gb) → ∀ (w'' : World) (j : Nat) (u : Value), Stay F w'' (w''.setCell ⟨gb, j, none⟩ u) := fun F hF w'' j u => ⟨by simp [World.setCell], fun x hx => Go.Deep.blk_setCell_other w'' ⟨gb, j, none⟩ u x (hF x hx)⟩
  have s1 := hst (fun x => w.heap.size + 2 ≤ x ∧ x < gb) (fun x hx => by omega)
  have s2 := hst (fun x => gb < x) (fun x hx => by omega)
  refine ⟨(World.cell?_setCell_other _ _ _ _ (ne_off (by decide))).trans ((World.cell?_setCell_other _ _ _ _ (ne_off (by decide))).trans e0), (World.cell?_setCell_other _ _ _ _ (ne_off (by decide))).trans e1, e2, ((hb.set hg 0 _).set hg 1 _).set hg 2 _, ⟨?_, ?_⟩, by simpa [World.setCell] using hl⟩
  · exact ((h1.keep (s1 _ _ _) (fun _ h => h)).keep (s1 _ _ _) (fun _ h => h)).keep (s1 _ _ _) (fun x hx => hx.1)
  · exact ((h2.keep (s2 _ _ _) (fun _ h => h)).keep (s2 _ _ _) (fun _ h => h)).keep (s2 _ _ _) (fun x hx => by omega)
end
set_option maxRecDepth 100000 in
set_option maxHeartbeats 8000000 in
theorem build_any (r : Rw) (v1 v2 : Value) (w : World) {F : Nat → Prop} (h1 : IsTexts w F v1 r.starts) (h2 : IsDefs w F v2 r.defs) (hS : Sized r) :
    Calls Try.prog 5 #[.agg #[v1, v2]] w (BuildEnd w (buildT r)) := by
  obtain ⟨p1, c1, hv1⟩ := Reads.slc h1
  obtain ⟨p2, c2, hv2⟩ := h2.slc
  have K1 : ∀ w2, Bx w v1 v2 w2 → Calls Try.prog 10 #[v2] w2 fun e w' => ∃ pN cN, e = .returned (.slice pN r.defs.length cN) ∧ Hid (IsTexts w' (fun b => w.heap.size + 2 ≤ b) (.slice pN r.defs.length cN) (namesT r.defs)) ∧ Hid (Bx w v1 v2 w') := fun w2 hb => (defined_any v2 r.defs w2 (h2.any hb.bl) hS.len).mono (by
    rintro e w' ⟨v', rfl, ho, hb2⟩
    obtain ⟨pN, cN, hv⟩ := row_slice ho
    subst hv
    refine ⟨pN, cN, rfl, ?_, hb.keep hb2⟩
    have h9 := Reads.of (F := fun b => w.heap.size + 2 ≤ b) ho (fun b hb' => Nat.le_trans hb.sz (ho.lt b hb').1)
    show Reads _ _ _ _ _
    rw [namesT_len]; exact h9)
  have K2 : ∀ w2 v, Bx w v1 v2 w2 → IsTexts w2 (fun b => w.heap.size + 2 ≤ b) v (namesT r.defs) → Calls Try.prog 11 #[v] w2 fun e w' => ∃ B, e = .returned (.tuple #[.map (some B), .int .i64 (again (namesT r.defs) : Int)]) ∧ Hid (again (namesT r.defs) ≤ r.defs.length) ∧ Hid (NMap w' B ((namesT r.defs).take (again (namesT r.defs))) ∧ B < w'.heap.size) ∧ Hid (Bx w v1 v2 w') ∧ Hid (IsTexts w' (fun b => w.heap.size + 2 ≤ b) v (namesT r.defs)) := fun w2 v hb hi => (number_any v (namesT r.defs) w2 hi hS.names).mono (by
    rintro e w' ⟨rfl, ha, hn, hb2, hlt⟩
    exact ⟨_, rfl, by rw [namesT_len] at ha; exact ha, ⟨hn, hlt⟩, hb.keep hb2, hi.any hb2⟩)
  have HB0 : Hid (Bx w v1 v2 ((w.alloc (.cells #[v1, v2] 25)).alloc (.cells #[.int .i64 0, .slice none 0 0, .slice none 0 0] 29))) := Bx.new w v1 v2 _
  obtain ⟨n, hn⟩ : ∃ n, n = r.defs.length := ⟨_, rfl⟩
  have hnl : (namesT r.defs).length = n := by rw [hn, namesT_len]
  have hlen := hS.len
  rw [← hn] at K1 K2 hv2 hlen
  unfold buildT
  rw [hnl]
  subst hv1 hv2
  have HNL : Hid ((namesT r.defs).length = n ∧ n = r.defs.length) := ⟨hnl, hn⟩
  clear hn
  by_cases hag : again (namesT r.defs) < n
  · rw [if_pos hag]
    obtain ⟨nm, hnm⟩ : ∃ nm, (namesT r.defs)[again (namesT r.defs)]? = some nm := ⟨_, List.getElem?_eq_getElem (by rw [hnl]; exact hag)⟩
    have hget : (namesT r.defs).getD (again (namesT r.defs)) ⟨#[]⟩ = nm := by rw [List.getD_eq_getElem?_getD, hnm]; rfl
    rw [hget]
    generalize again (namesT r.defs) = ag at hag K2 hnm
    show Calls _ _ _ _ fun e w' => e = .returned (.tuple #[.agg #[.int .i64 0, .slice none 0 0, .slice none 0 0], .string nm, .int .i64 401]) ∧ Below w.heap.size w w'
    have HNM : Hid ((txV (namesT r.defs))[ag]? = some (.string nm) ∧ 0 < (namesT r.defs).length) := ⟨by simp [txV, hnm], by omega⟩
    clear hget hnm h1 h2 hnl
    go_enter Try.func5, Try.ntmps5
    go_wp2_with (first
      | (go_at_call 10; refine (K1 _ HB0.out).mono ?_; rintro e w3 ⟨pN, cN, rfl, t3, b3⟩)
      | (go_at_call 11; refine (K2 _ _ b3.out t3.out).mono ?_; rintro e w4 ⟨B, rfl, ha4, m4, b4, t4⟩; obtain ⟨gN, oN, hpN, hcN, hg1, hg2⟩ : ∃ gN oN, pN = some ⟨gN, oN, none⟩ ∧ w4.cell? ⟨gN, oN + ag, none⟩ = some (.string nm) ∧ gN ≠ w.heap.size + 1 ∧ w.heap.size + 1 ≠ gN := (by obtain ⟨p', c', e', _, hc⟩ := t4.out; obtain ⟨g, og, h1, hgF, -, h2, -⟩ := hc HNM.out.2; injection e' with e1 e2 e3; exact ⟨g, og, e1.trans h1, h2 _ _ HNM.out.1, (by have : w.heap.size + 2 ≤ g := hgF; omega), (by have : w.heap.size + 2 ≤ g := hgF; omega)⟩); subst hpN; have y0 := b4.out.y0; have y1 := b4.out.y1; have y2 := b4.out.y2; have z0 := b4.out.z0; have z1 := b4.out.z1; have z2 := b4.out.z2))
    go_region
    all_goals go_wp2
    refine bodyPost_ret (v := .tuple #[.agg #[.int .i64 0, .slice none 0 0, .slice none 0 0], .string nm, .int .i64 401]) (by simp [results, Try.results5, go_sem, y0, y1, y2]) rfl ?_
    exact ⟨rfl, (below_set3 b4.out.bl).drew⟩
  · rw [if_neg hag]
    have hal : again (namesT r.defs) = n := by
      have := again_le (namesT r.defs)
      omega
    have K2' : ∀ w2 v, Bx w (.slice p1 r.starts.length c1) (.slice p2 n c2) w2 → IsTexts w2 (fun b => w.heap.size + 2 ≤ b) v (namesT r.defs) → Calls Try.prog 11 #[v] w2 fun e w' => ∃ B, e = .returned (.tuple #[.map (some B), .int .i64 (n : Int)]) ∧ Hid (NMap w' B (namesT r.defs) ∧ B < w'.heap.size) ∧ Hid (Bx w (.slice p1 r.starts.length c1) (.slice p2 n c2) w') ∧ Hid (IsTexts w' (fun b => w.heap.size + 2 ≤ b) v (namesT r.defs)) := fun w2 v hb hi => (K2 w2 v hb hi).mono (by
      rintro e w' ⟨B, rfl, -, hm, hb, ht⟩
      have hm' := hm.out
      rw [hal, ← hnl, List.take_length] at hm'
      rw [hal]
      exact ⟨B, rfl, hm', hb, ht⟩)
    clear K2 hal hag
    by_cases hst : r.starts.length = 1
    · rw [if_neg (by omega)]
      rw [hst] at HB0 K1 K2' h1
      rw [hst]
      have HST : Hid (r.starts.length = 1) := hst
      clear hst
      have K3 : ∀ w2 B, Bx w (.slice p1 1 c1) (.slice p2 n c2) w2 → (NMap w2 B (namesT r.defs) ∧ B < w2.heap.size) → Calls Try.prog 12 #[.agg #[.slice p1 1 c1, .slice p2 n c2], .map (some B)] w2 fun e w' => e = .returned (retS (unknownT r (namesT r.defs))) ∧ Hid (Bx w (.slice p1 1 c1) (.slice p2 n c2) w') ∧ Hid (Below w2.heap.size w2 w') := fun w2 B hb hm => (unknown_any _ _ r (namesT r.defs) B w2 (h1.any hb.bl) (h2.any hb.bl) hS.starts hS.fit hm.1 hm.2).mono fun e w' ⟨h, hb2⟩ => ⟨h, hb.keep hb2, hb2⟩
      cases hu : unknownT r (namesT r.defs) with
      | some nm =>
        rw [hu] at K3
        show Calls _ _ _ _ fun e w' => e = .returned (.tuple #[.agg #[.int .i64 0, .slice none 0 0, .slice none 0 0], .string nm, .int .i64 402]) ∧ Below w.heap.size w w'
        have K3' : ∀ w2 B, Bx w (.slice p1 1 c1) (.slice p2 n c2) w2 → (NMap w2 B (namesT r.defs) ∧ B < w2.heap.size) → Calls Try.prog 12 #[.agg #[.slice p1 1 c1, .slice p2 n c2], .map (some B)] w2 fun e w' => e = .returned (.tuple #[.string nm, .bool true]) ∧ Hid (Bx w (.slice p1 1 c1) (.slice p2 n c2) w') ∧ Hid (Below w2.heap.size w2 w') := K3
        clear K3 h1 h2 hnl hu
        go_enter Try.func5, Try.ntmps5
        go_wp2_with (first
          | (go_at_call 10; refine (K1 _ HB0.out).mono ?_; rintro e w3 ⟨pN, cN, rfl, t3, b3⟩)
          | (go_at_call 11; refine (K2' _ _ b3.out t3.out).mono ?_; rintro e w4 ⟨B, rfl, m4, b4, t4⟩; have x0 := b4.out.x0; have x1 := b4.out.x1)
          | (go_at_call 12; refine (K3' _ _ b4.out m4.out).mono ?_; rintro e w5 ⟨rfl, b5, q5⟩; have y0 := b5.out.y0; have y1 := b5.out.y1; have y2 := b5.out.y2; have z0 := b5.out.z0; have z1 := b5.out.z1; have z2 := b5.out.z2))
        refine bodyPost_ret (v := .tuple #[.agg #[.int .i64 0, .slice none 0 0, .slice none 0 0], .string nm, .int .i64 402]) (by simp [results, Try.results5, go_sem, y0, y1, y2]) rfl ?_
        exact ⟨rfl, below_set3 b5.out.bl⟩
      | none =>
        rw [hu] at K3
        have K3' : ∀ w2 B, Bx w (.slice p1 1 c1) (.slice p2 n c2) w2 → (NMap w2 B (namesT r.defs) ∧ B < w2.heap.size) → Calls Try.prog 12 #[.agg #[.slice p1 1 c1, .slice p2 n c2], .map (some B)] w2 fun e w' => e = .returned (.tuple #[.string ⟨#[]⟩, .bool false]) ∧ Hid (Bx w (.slice p1 1 c1) (.slice p2 n c2) w') ∧ Hid (Below w2.heap.size w2 w') := K3
        clear K3
        have K4 : ∀ w2, Bx w (.slice p1 1 c1) (.slice p2 n c2) w2 → Calls Try.prog 13 #[.slice p2 n c2] w2 fun e w' => e = .returned (retS (crossedT r.defs)) ∧ Hid (Bx w (.slice p1 1 c1) (.slice p2 n c2) w') ∧ Hid (Below w2.heap.size w2 w') := fun w2 hb => (crossed_any _ r.defs w2 (h2.any hb.bl) hS.fit).mono fun e w' ⟨h, hb2⟩ => ⟨h, hb.keep hb2, hb2⟩
        cases hc : crossedT r.defs with
        | some nm =>
          rw [hc] at K4
          show Calls _ _ _ _ fun e w' => e = .returned (.tuple #[.agg #[.int .i64 0, .slice none 0 0, .slice none 0 0], .string nm, .int .i64 403]) ∧ Below w.heap.size w w'
          have K4' : ∀ w2, Bx w (.slice p1 1 c1) (.slice p2 n c2) w2 → Calls Try.prog 13 #[.slice p2 n c2] w2 fun e w' => e = .returned (.tuple #[.string nm, .bool true]) ∧ Hid (Bx w (.slice p1 1 c1) (.slice p2 n c2) w') ∧ Hid (Below w2.heap.size w2 w') := K4
          clear K4 h1 h2 hnl hu hc
          go_enter Try.func5, Try.ntmps5
          go_wp2_with (first
            | (go_at_call 10; refine (K1 _ HB0.out).mono ?_; rintro e w3 ⟨pN, cN, rfl, t3, b3⟩)
            | (go_at_call 11; refine (K2' _ _ b3.out t3.out).mono ?_; rintro e w4 ⟨B, rfl, m4, b4, t4⟩; have x0 := b4.out.x0; have x1 := b4.out.x1)
            | (go_at_call 12; refine (K3' _ _ b4.out m4.out).mono ?_; rintro e w5 ⟨rfl, b5, q5⟩; have x0' := b5.out.x0; have x1' := b5.out.x1)
            | (go_at_call 13; refine (K4' _ b5.out).mono ?_; rintro e w6 ⟨rfl, b6, q6⟩; have y0 := b6.out.y0; have y1 := b6.out.y1; have y2 := b6.out.y2; have z0 := b6.out.z0; have z1 := b6.out.z1; have z2 := b6.out.z2))
          refine bodyPost_ret (v := .tuple #[.agg #[.int .i64 0, .slice none 0 0, .slice none 0 0], .string nm, .int .i64 403]) (by simp [results, Try.results5, go_sem, y0, y1, y2]) rfl ?_
          exact ⟨rfl, below_set3 b6.out.bl⟩
        | none =>
          rw [hc] at K4
          have K4' : ∀ w2, Bx w (.slice p1 1 c1) (.slice p2 n c2) w2 → Calls Try.prog 13 #[.slice p2 n c2] w2 fun e w' => e = .returned (.tuple #[.string ⟨#[]⟩, .bool false]) ∧ Hid (Bx w (.slice p1 1 c1) (.slice p2 n c2) w') ∧ Hid (Below w2.heap.size w2 w') := K4
          clear K4
          have K5 : ∀ w2, Bx w (.slice p1 1 c1) (.slice p2 n c2) w2 → Calls Try.prog 14 #[.slice p2 n c2] w2 fun e w' => e = .returned (.bool (tooLongT r.defs)) ∧ Hid (Bx w (.slice p1 1 c1) (.slice p2 n c2) w') ∧ Hid (Below w2.heap.size w2 w') := fun w2 hb => (tooLong_any _ r.defs w2 (h2.any hb.bl) hS.fit).mono fun e w' ⟨h, hb2⟩ => ⟨h, hb.keep hb2, hb2⟩
          cases ht : tooLongT r.defs with
          | true =>
            rw [ht] at K5
            show Calls _ _ _ _ fun e w' => e = .returned (.tuple #[.agg #[.int .i64 0, .slice none 0 0, .slice none 0 0], .string ⟨#[]⟩, .int .i64 404]) ∧ Below w.heap.size w w'
            clear h1 h2 hnl hu hc ht
            go_enter Try.func5, Try.ntmps5
            go_wp2_with (first
              | (go_at_call 10; refine (K1 _ HB0.out).mono ?_; rintro e w3 ⟨pN, cN, rfl, t3, b3⟩)
              | (go_at_call 11; refine (K2' _ _ b3.out t3.out).mono ?_; rintro e w4 ⟨B, rfl, m4, b4, t4⟩; have x0 := b4.out.x0; have x1 := b4.out.x1)
              | (go_at_call 12; refine (K3' _ _ b4.out m4.out).mono ?_; rintro e w5 ⟨rfl, b5, q5⟩; have x0' := b5.out.x0; have x1' := b5.out.x1)
              | (go_at_call 13; refine (K4' _ b5.out).mono ?_; rintro e w6 ⟨rfl, b6, q6⟩; have x0'' := b6.out.x0; have x1'' := b6.out.x1)
              | (go_at_call 14; refine (K5 _ b6.out).mono ?_; rintro e w7 ⟨rfl, b7, q7⟩; have y0 := b7.out.y0; have y1 := b7.out.y1; have y2 := b7.out.y2; have z0 := b7.out.z0; have z1 := b7.out.z1; have z2 := b7.out.z2))
            refine bodyPost_ret (v := .tuple #[.agg #[.int .i64 0, .slice none 0 0, .slice none 0 0], .string ⟨#[]⟩, .int .i64 404]) (by simp [results, Try.results5, go_sem, y0, y1, y2]) rfl ?_
            exact ⟨rfl, below_set3 b7.out.bl⟩
          | false =>
            rw [ht] at K5
            obtain ⟨s, hs⟩ : ∃ s, r.starts = [s] := List.length_eq_one_iff.1 HST.out
            have hsm : s.size ≤ maxLen := hS.starts s (by rw [hs]; exact List.mem_singleton.2 rfl)
            have hgS : ∃ gS oS, p1 = some ⟨gS, oS, none⟩ ∧ ∀ w', Bx w (.slice p1 1 c1) (.slice p2 n c2) w' → w'.cell? ⟨gS, oS, none⟩ = some (.string s) := by
              have hR : Reads w F (.slice p1 1 c1) r.starts.length (txV r.starts) := h1
              rw [hs] at hR
              obtain ⟨p', c', e', _, hc⟩ := hR
              obtain ⟨g, o, hp, -, hg, hx, -⟩ := hc (Nat.zero_lt_one)
              injection e' with e1 e2 e3
              exact ⟨g, o, e1.trans hp, fun w' hb => (hb.bl.cell (p := ⟨g, o, none⟩) hg).trans (hx 0 _ rfl)⟩
            obtain ⟨gS, oS, hpS, hcS⟩ := hgS
            subst hpS
            have HCS : Hid (∀ w', Bx w (.slice (some ⟨gS, oS, none⟩) 1 c1) (.slice p2 n c2) w' → w'.cell? ⟨gS, oS, none⟩ = some (.string s)) := hcS
            have HLK : Hid (∀ w' B, NMap w' B (namesT r.defs) → (Instr.lookup 55 (.map (some B)) (.string s) false).run Try.prog w' = .ok (.int .i64 (numOf (namesT r.defs) s)) w') := fun w' B hm => hm.look s hsm
            have K6 : ∀ w2 B, Bx w (.slice (some ⟨gS, oS, none⟩) 1 c1) (.slice p2 n c2) w2 → (NMap w2 B (namesT r.defs) ∧ B < w2.heap.size) → Calls Try.prog 15 #[.slice p2 n c2, .map (some B)] w2 fun e w' => ∃ pR cR, e = .returned (.slice pR (gramT r).rules.length cR) ∧ Hid (IsRus w' (fun b => w2.heap.size ≤ b) (.slice pR (gramT r).rules.length cR) (gramT r).rules) ∧ Hid (Bx w (.slice (some ⟨gS, oS, none⟩) 1 c1) (.slice p2 n c2) w') ∧ Hid (Below w2.heap.size w2 w') ∧ Hid (NMap w' B (namesT r.defs) ∧ B < w'.heap.size) := fun w2 B hb hm => (makeRules_any _ r.defs (namesT r.defs) B w2 (h2.any hb.bl) hm.1 hm.2 (hS.fine ht)).mono (by
              rintro e w' ⟨v', F', rfl, hF, hr, hb2⟩
              obtain ⟨pR, cR, hv⟩ := hr.slc
              subst hv
              exact ⟨pR, cR, rfl, hr.mono fun b hb' _ => (hF b hb').1, hb.keep hb2, hb2, hm.1.keep hb2 hm.2, Nat.lt_of_lt_of_le hm.2 hb2.size⟩)
            have HST2 : Hid ((gramT r).start = numOf (namesT r.defs) s ∧ (gramT r).names = namesT r.defs ∧ (gramT r).names.length = n) := by
              refine ⟨?_, rfl, hnl⟩
              show numOf (namesT r.defs) (startT r) = _
              unfold startT; rw [hs]; rfl
            have K7 : ∀ w2 v1 v2, GrIs w2 (fun b => w.heap.size + 2 ≤ b) v1 v2 (gramT r) → Calls Try.prog 7 #[.agg #[.int .i64 (numOf (namesT r.defs) s), v1, v2]] w2 fun e w' => e = .returned (.bool (mayG (gramT r))) ∧ Hid (Below w2.heap.size w2 w') := fun w2 v1 v2 hg => by
              rw [← HST2.out.1]
              exact may_any (gramT r) v1 v2 w2 hg (fun x hx => hS.names x hx) (hS.short ht)
            generalize numOf (namesT r.defs) s = st at HLK HST2 K7
            have FIN : Hid (∀ w' pN cN pR cR, GrIs w' (fun b => w.heap.size + 2 ≤ b) (.slice pN n cN) (.slice pR (gramT r).rules.length cR) (gramT r) → Below w.heap.size w w' → BuildEnd w (.ok (gramT r)) (.returned (.tuple #[.agg #[.int .i64 st, .slice pN n cN, .slice pR (gramT r).rules.length cR], .string ⟨#[]⟩, .int .i64 0])) (((w'.setCell ⟨w.heap.size + 1, 0, none⟩ (.int .i64 st)).setCell ⟨w.heap.size + 1, 1, none⟩ (.slice pN n cN)).setCell ⟨w.heap.size + 1, 2, none⟩ (.slice pR (gramT r).rules.length cR))) := by
              intro w' pN cN pR cR hg hb
              refine ⟨pN, cN, pR, cR, fun b => w.heap.size + 2 ≤ b ∧ b < w'.heap.size, ?_, fun b hb' => ⟨by omega, by simpa [World.setCell] using hb'.2⟩, ?_, below_set3 hb⟩
              · rw [HST2.out.1, HST2.out.2.2]
              · rw [HST2.out.2.2]
                have hg' : GrIs w' (fun b => w.heap.size + 2 ≤ b ∧ b < w'.heap.size) (.slice pN n cN) (.slice pR (gramT r).rules.length cR) (gramT r) := ⟨Reads.mono hg.1 fun b h1 h2 => ⟨h1, h2⟩, hg.2.mono fun b h1 h2 => ⟨h1, h2⟩⟩
                have hst : ∀ (w'' : World) (j : Nat) (u : Value), Stay (fun b => w.heap.size + 2 ≤ b ∧ b < w'.heap.size) w'' (w''.setCell ⟨w.heap.size + 1, j, none⟩ u) := fun w'' j u => ⟨by simp [World.setCell], fun b hb' => Go.Deep.blk_setCell_other w'' ⟨w.heap.size + 1, j, none⟩ u b (by show b ≠ w.heap.size + 1; omega)⟩
                have hid := fun (b : Nat) (hb' : w.heap.size + 2 ≤ b ∧ b < w'.heap.size) => hb'
                exact ⟨((hg'.1.keep (hst _ _ _) hid).keep (hst _ _ _) hid).keep (hst _ _ _) hid, ((hg'.2.keep (hst _ _ _) hid).keep (hst _ _ _) hid).keep (hst _ _ _) hid⟩
            have HGN : Hid ((gramT r).names = namesT r.defs) := rfl
            generalize (gramT r).rules.length = m at K6 FIN
            clear h1 h2 hnl hu hc ht hcS hs HST HST2 hsm
            have FER : Hid (mayG (gramT r) = false → ∀ w', Below w.heap.size w w' → BuildEnd w (if mayG (gramT r) = true then .ok (gramT r) else .error (⟨#[]⟩, 404)) (.returned (.tuple #[.agg #[.int .i64 0, .slice none 0 0, .slice none 0 0], .string ⟨#[]⟩, .int .i64 404])) w') := by
              intro hm w' hb
              rw [if_neg (by rw [hm]; decide)]
              exact ⟨rfl, hb⟩
            have FOK : Hid (mayG (gramT r) = true → BuildEnd w (if mayG (gramT r) = true then .ok (gramT r) else .error (⟨#[]⟩, 404)) = BuildEnd w (.ok (gramT r))) := by
              intro hm
              rw [if_pos hm]
            show Calls _ _ _ _ (BuildEnd w (if mayG (gramT r) = true then .ok (gramT r) else .error (⟨#[]⟩, 404)))
            generalize BuildEnd w (if mayG (gramT r) = true then .ok (gramT r) else .error (⟨#[]⟩, 404)) = BE at FER FOK ⊢
            go_enter Try.func5, Try.ntmps5
            go_wp2_with (first
              | (go_at_call 10; refine (K1 _ HB0.out).mono ?_; rintro e w3 ⟨pN, cN, rfl, t3, b3⟩)
              | (go_at_call 11; refine (K2' _ _ b3.out t3.out).mono ?_; rintro e w4 ⟨B, rfl, m4, b4, t4⟩; have x0 := b4.out.x0; have x1 := b4.out.x1)
              | (go_at_call 12; refine (K3' _ _ b4.out m4.out).mono ?_; rintro e w5 ⟨rfl, b5, q5⟩; have x0' := b5.out.x0; have x1' := b5.out.x1)
              | (go_at_call 13; refine (K4' _ b5.out).mono ?_; rintro e w6 ⟨rfl, b6, q6⟩; have x0'' := b6.out.x0; have x1'' := b6.out.x1)
              | (go_at_call 14; refine (K5 _ b6.out).mono ?_; rintro e w7 ⟨rfl, b7, q7⟩; have x07 := b7.out.x0; have x17 := b7.out.x1))
            have q47 := q5.out.trans ((q6.out.trans (q7.out.mono q6.out.size)).mono q5.out.size)
            have M7 : Hid (∀ w', Below w7.heap.size w7 w' → NMap w' B (namesT r.defs) ∧ B < w'.heap.size) := fun w' hb => ⟨m4.out.1.keep (q47.trans (hb.mono q47.size)) m4.out.2, Nat.lt_of_lt_of_le m4.out.2 (Nat.le_trans q47.size hb.size)⟩
            have T7 : Hid (IsTexts w7 (fun b => w.heap.size + 2 ≤ b ∧ b < w7.heap.size) (.slice pN n cN) (namesT r.defs)) := Reads.mono (t4.out.any q47) fun b h1 h2 => ⟨h1, h2⟩
            have L7 := HLK.out w7.drew _ (M7.out _ (Below.refl _ _).drew).1
            have L7o := fun o => HLK.out (w7.alloc o).drew _ (M7.out _ (bel1 _ _).drew).1
            have s7 := HCS.out _ b7.out
            have hws : w.heap.size + 1 < w7.heap.size := b7.out.sz
            have hw1 : w.heap.size < w7.heap.size := by omega
            have hgS7 : gS < w7.heap.size := cell_lt s7
            clear q47
            have K6a : Calls Try.prog 15 #[.slice p2 n c2, .map (some B)] w7.drew fun e w8 => ∃ pR cR, e = .returned (.slice pR m cR) ∧ Below w7.heap.size w7 w8 ∧ w8.cell? ⟨w.heap.size, 0, none⟩ = some (.slice (some ⟨gS, oS, none⟩) 1 c1) ∧ w8.cell? ⟨w.heap.size, 1, none⟩ = some (.slice p2 n c2) ∧ w8.cell? ⟨gS, oS, none⟩ = some (.string s) ∧ (Instr.lookup 55 (.map (some B)) (.string s) false).run Try.prog w8 = .ok (.int .i64 st) w8 ∧ (∀ o, (Instr.lookup 55 (.map (some B)) (.string s) false).run Try.prog (w8.alloc o) = .ok (.int .i64 st) (w8.alloc o)) ∧ w.heap.size + 1 < w8.heap.size ∧ w.heap.size < w8.heap.size ∧ gS < w8.heap.size ∧ Hid (Gx w (.slice (some ⟨gS, oS, none⟩) 1 c1) (.slice p2 n c2) (gramT r) st (.slice pN n cN) (.slice pR m cR) w8.heap.size (w8.alloc (.cells #[.int .i64 st, .slice pN n cN, .slice pR m cR] 29))) := (K6 _ _ (b7.out.keep (Below.refl _ _).drew) (M7.out _ (Below.refl _ _).drew)).mono (by
              rintro e w8 ⟨pR, cR, rfl, r8, b8, q8, m8⟩
              have hz8 := b8.out.sz
              have q78 : Below w7.heap.size w7 w8 := (Below.refl _ _).drew.trans q8.out
              refine ⟨pR, cR, rfl, q78, b8.out.x0, b8.out.x1, HCS.out _ b8.out, HLK.out _ _ m8.out.1, fun o => HLK.out _ _ (m8.out.1.keep (bel1 _ o) m8.out.2), by omega, by omega, cell_lt (HCS.out _ b8.out), ?_⟩
              have t8 : IsTexts w8 (fun b => w.heap.size + 2 ≤ b) (.slice pN n cN) (gramT r).names := Reads.mono (F := fun b => w.heap.size + 2 ≤ b ∧ b < w7.heap.size) (T7.out.any q78) (fun b h1 _ => h1.1)
              have u8 : IsRus w8 (fun b => w.heap.size + 2 ≤ b) (.slice pR m cR) (gramT r).rules := r8.out.mono (fun b h1 _ => Nat.le_trans b7.out.sz h1)
              exact Gx.alloc b8.out t8 u8 _)
            have K6b : Calls Try.prog 15 #[.slice p2 n c2, .map (some B)] (w7.alloc (.cells #[.int .i64 0, .slice none 0 0, .slice none 0 0] 29)).drew fun e w8 => ∃ pR cR, e = .returned (.slice pR m cR) ∧ Below w7.heap.size w7 w8 ∧ w8.cell? ⟨w.heap.size, 0, none⟩ = some (.slice (some ⟨gS, oS, none⟩) 1 c1) ∧ w8.cell? ⟨w.heap.size, 1, none⟩ = some (.slice p2 n c2) ∧ w8.cell? ⟨gS, oS, none⟩ = some (.string s) ∧ (Instr.lookup 55 (.map (some B)) (.string s) false).run Try.prog w8 = .ok (.int .i64 st) w8 ∧ w.heap.size + 1 < w8.heap.size ∧ w.heap.size < w8.heap.size ∧ gS < w8.heap.size ∧ w8.cell? ⟨w7.heap.size, 0, none⟩ = some (.int .i64 0) ∧ w8.cell? ⟨w7.heap.size, 1, none⟩ = some (.slice none 0 0) ∧ w8.cell? ⟨w7.heap.size, 2, none⟩ = some (.slice none 0 0) ∧ w8.frozen? ⟨w7.heap.size, 0, none⟩ = false ∧ w8.frozen? ⟨w7.heap.size, 1, none⟩ = false ∧ w8.frozen? ⟨w7.heap.size, 2, none⟩ = false ∧ Hid (Gx w (.slice (some ⟨gS, oS, none⟩) 1 c1) (.slice p2 n c2) (gramT r) st (.slice pN n cN) (.slice pR m cR) w7.heap.size (((w8.setCell ⟨w7.heap.size, 0, none⟩ (.int .i64 st)).setCell ⟨w7.heap.size, 1, none⟩ (.slice pN n cN)).setCell ⟨w7.heap.size, 2, none⟩ (.slice pR m cR))) := (K6 _ _ (b7.out.keep (bel1 _ _).drew) (M7.out _ (bel1 _ _).drew)).mono (by
              rintro e w8 ⟨pR, cR, rfl, r8, b8, q8, m8⟩
              have hz8 := b8.out.sz
              have q8' := q8.out
              have hzz : (w7.alloc (.cells #[.int .i64 0, .slice none 0 0, .slice none 0 0] 29)).drew.heap.size = w7.heap.size + 1 := by simp
              have k : ∀ j, w8.cell? ⟨w7.heap.size, j, none⟩ = (#[.int .i64 0, .slice none 0 0, .slice none 0 0] : Array Value)[j]? := fun j => (q8'.cell (p := ⟨w7.heap.size, j, none⟩) (by rw [hzz]; exact Nat.lt_succ_self _)).trans (World.cell?_alloc_at _ _ _ _ rfl)
              have f : ∀ j, w8.frozen? ⟨w7.heap.size, j, none⟩ = false := fun j => (q8'.frozen (p := ⟨w7.heap.size, j, none⟩) (by rw [hzz]; exact Nat.lt_succ_self _)).trans (World.frozen?_alloc_at _ _ _ _ rfl)
              have q78 : Below w7.heap.size w7 w8 := (bel1 w7 (.cells #[.int .i64 0, .slice none 0 0, .slice none 0 0] 29)).drew.trans (q8'.mono (by rw [hzz]; omega))
              refine ⟨pR, cR, rfl, q78, b8.out.x0, b8.out.x1, HCS.out _ b8.out, HLK.out _ _ m8.out.1, by omega, by omega, cell_lt (HCS.out _ b8.out), k 0, k 1, k 2, f 0, f 1, f 2, ?_⟩
              have t8 : IsTexts w8 (fun b => w.heap.size + 2 ≤ b ∧ b < w7.heap.size) (.slice pN n cN) (gramT r).names := T7.out.any q78
              have u8 : IsRus w8 (fun b => w7.heap.size < b) (.slice pR m cR) (gramT r).rules := r8.out.mono (fun b h1 _ => by rw [hzz] at h1; omega)
              exact Gx.set b8.out b7.out.sz (cell_lt (k 0)) (k 0) (k 1) (k 2) t8 u8)
            have HSS : Hid (∀ w', Below w7.heap.size w7 w' → (Below w7.heap.size w7 w' ∧ w'.cell? ⟨w.heap.size, 0, none⟩ = some (.slice (some ⟨gS, oS, none⟩) 1 c1) ∧ w'.cell? ⟨w.heap.size, 1, none⟩ = some (.slice p2 n c2) ∧ w'.cell? ⟨gS, oS, none⟩ = some (.string s) ∧ (Instr.lookup 55 (.map (some B)) (.string s) false).run Try.prog w' = .ok (.int .i64 st) w')) := fun w' hb => ⟨hb, (hb.cell (p := ⟨_, _, none⟩) hw1).trans x07, (hb.cell (p := ⟨_, _, none⟩) hw1).trans x17, (hb.cell (p := ⟨_, _, none⟩) hgS7).trans s7, HLK.out _ _ (M7.out _ hb).1⟩
            go_cut [12] from 57 (fun x wc => ∃ gb pR cR, x = .pointer (some ⟨gb, 0, none⟩) ∧ Hid (Gx w (.slice (some ⟨gS, oS, none⟩) 1 c1) (.slice p2 n c2) (gramT r) st (.slice pN n cN) (.slice pR m cR) gb wc))
            case first =>
              go_region_held3 (fun w' => Below w7.heap.size w7 w' ∧ w'.cell? ⟨w.heap.size, 0, none⟩ = some (.slice (some ⟨gS, oS, none⟩) 1 c1) ∧ w'.cell? ⟨w.heap.size, 1, none⟩ = some (.slice p2 n c2) ∧ w'.cell? ⟨gS, oS, none⟩ = some (.string s) ∧ (Instr.lookup 55 (.map (some B)) (.string s) false).run Try.prog w' = .ok (.int .i64 st) w')
                ((refine HSS.out _ ?_; (repeat' (first | with_reducible assumption | with_reducible exact Below.refl _ _ | with_reducible apply Below.drew | with_reducible apply below_alloc | with_reducible refine below_set ?_ ?_ _)); all_goals omega))
                (first
                  | (go_at_call 15; refine K6a.mono ?_; rintro e w8 ⟨pR, cR, rfl, q78, x08, x18, s8, L8, L8o, hws8, hw8, hgS8, G8⟩)
                  | (go_at_call 15; refine K6b.mono ?_; rintro e w8 ⟨pR, cR, rfl, q78, x08, x18, s8, L8, hws8, hw8, hgS8, k0, k1, k2, l0, l1, l2, G8⟩))
              all_goals
                go_wp2
                go_meet
                case rel => exact ⟨_, _, _, rfl, G8⟩
            case rest =>
              obtain ⟨gb, pR, cR, rfl, G8⟩ := hcut
              have i0 := G8.out.c0
              have i1 := G8.out.c1
              have i2 := G8.out.c2
              cases hmay : mayG (gramT r) with
              | false =>
                rw [hmay] at K7
                have FE := FER.out hmay
                go_wp2_with (go_at_call 7; refine (K7 _ _ _ G8.out.gr).mono ?_; rintro e w9 ⟨rfl, q9⟩; have G9 : Hid _ := G8.out.keep q9.out; have y0 := G9.out.bx.y0; have y1 := G9.out.bx.y1; have y2 := G9.out.bx.y2; have z0 := G9.out.bx.z0; have z1 := G9.out.bx.z1; have z2 := G9.out.bx.z2)
                refine bodyPost_ret (v := .tuple #[.agg #[.int .i64 0, .slice none 0 0, .slice none 0 0], .string ⟨#[]⟩, .int .i64 404]) (by simp [results, Try.results5, go_sem, y0, y1, y2]) rfl ?_
                exact FE _ (below_set3 G9.out.bx.bl)
              | true =>
                rw [hmay] at K7
                have FE := FOK.out hmay
                subst FE
                go_wp2_with (go_at_call 7; refine (K7 _ _ _ G8.out.gr).mono ?_; rintro e w9 ⟨rfl, q9⟩; have G9 : Hid _ := G8.out.keep q9.out; have y0 := G9.out.bx.y0; have y1 := G9.out.bx.y1; have y2 := G9.out.bx.y2; have z0 := G9.out.bx.z0; have z1 := G9.out.bx.z1; have z2 := G9.out.bx.z2; have j0 := G9.out.c0; have j1 := G9.out.c1; have j2 := G9.out.c2)
                refine bodyPost_ret (v := .tuple #[.agg #[.int .i64 st, .slice pN n cN, .slice pR m cR], .string ⟨#[]⟩, .int .i64 0]) (by simp [results, Try.results5, go_sem, y0, y1, y2]) rfl ?_
                exact FIN.out _ _ _ _ _ G9.out.gr G9.out.bx.bl
    · rw [if_pos hst]
      show Calls _ _ _ _ fun e w' => e = .returned (.tuple #[.agg #[.int .i64 0, .slice none 0 0, .slice none 0 0], .string ⟨#[]⟩, .int .i64 400]) ∧ Below w.heap.size w w'
      have hst' : ((r.starts.length : Int) != 1) = true := by simp; omega
      clear h1 h2 hnl
      go_enter Try.func5, Try.ntmps5
      go_wp2_with (first
        | (go_at_call 10; refine (K1 _ HB0.out).mono ?_; rintro e w3 ⟨pN, cN, rfl, t3, b3⟩)
        | (go_at_call 11; refine (K2' _ _ b3.out t3.out).mono ?_; rintro e w4 ⟨B, rfl, m4, b4, t4⟩; have x0 := b4.out.x0; have y0 := b4.out.y0; have y1 := b4.out.y1; have y2 := b4.out.y2; have z0 := b4.out.z0; have z1 := b4.out.z1; have z2 := b4.out.z2))
      refine bodyPost_ret (v := .tuple #[.agg #[.int .i64 0, .slice none 0 0, .slice none 0 0], .string ⟨#[]⟩, .int .i64 400]) (by simp [results, Try.results5, go_sem, y0, y1, y2]) rfl ?_
      exact ⟨rfl, below_set3 b4.out.bl⟩
end Go.Proofs.Ytopnhbgialbicaa
