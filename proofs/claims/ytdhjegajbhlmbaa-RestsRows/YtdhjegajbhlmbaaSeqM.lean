/- Places in memory; the program's walk, Count and Places. -/
import Derived.Test.YtdhjegajbhlmbaaSeqT
import Derived.Test.YtdhjegajbhlmbaaGramLow
import Derived.Test.YtdhjegajbhlmbaaGramMayG
import Derived.Deep.AppendLies
import Derived.Laws.OwnMore
import Derived.ArgAppend
import Derived.Deep.Cut
import Derived.Deep.RegionHeld3
import Derived.Deep.QuietTactic
namespace Go.Proofs.Ytdhjegajbhlmbaa
set_option linter.unusedVariables false
open Go.ChangeShapes Go.WideShapes Go.ChangeAt Go.RowKit

def plcV (e : Plc) : List Value := [.int .i64 e.1, .int .i64 e.2.1, .int .i64 e.2.2]
def plcsV : List Plc → List Value
  | [] => []
  | e :: l => plcV e ++ plcsV l
theorem plcsV_append : ∀ l m : List Plc, plcsV (l ++ m) = plcsV l ++ plcsV m
  | [], _ => rfl
  | i :: l, m => by simp [plcsV, plcsV_append l m]
theorem plcsV_length : ∀ l : List Plc, (plcsV l).length = l.length * 3
  | [] => rfl
  | i :: l => by simp [plcsV, plcV, plcsV_length l]; omega
theorem plcsV_at : ∀ (l : List Plc) (k : Nat) (s : Plc), l[k]? = some s → (plcsV l)[k * 3]? = some (.int .i64 s.1) ∧ (plcsV l)[k * 3 + 1]? = some (.int .i64 s.2.1) ∧ (plcsV l)[k * 3 + 2]? = some (.int .i64 s.2.2)
  | [], k, i, h => by simp at h
  | q :: l, 0, i, h => by
    obtain rfl : q = i := by simpa using h
    exact ⟨rfl, rfl, rfl⟩
  | q :: l, k + 1, i, h => by
    have := plcsV_at l k i (by simpa using h)
    rw [show (k + 1) * 3 = k * 3 + 1 + 1 + 1 by omega]
    simpa [plcsV, plcV] using this
def IsPls (w : World) (F : Nat → Prop) (v : Value) (l : List Plc) : Prop := Reads w F v l.length (plcsV l)
theorem IsPls.any {w w' : World} {F : Nat → Prop} {v : Value} {l : List Plc} (h : IsPls w F v l) (hb : Below w.heap.size w w') : IsPls w' F v l := Reads.any h hb
theorem pls_nil (w : World) (F : Nat → Prop) : IsPls w F (.slice none 0 0) [] := ⟨none, 0, rfl, ⟨Nat.zero_le _, Nat.zero_le _⟩, fun h => absurd h (Nat.lt_irrefl _)⟩
theorem IsPls.slc {w : World} {F : Nat → Prop} {v : Value} {l : List Plc} (h : IsPls w F v l) : ∃ p c, v = .slice p l.length c := by
  obtain ⟨p, c, e, _⟩ := h
  exact ⟨p, c, e⟩
theorem IsPls.at {w : World} {F : Nat → Prop} {p : Option Addr} {n c : Nat} {l : List Plc} (h : IsPls w F (.slice p n c) l) {k : Nat} {r : Plc} (hk : l[k]? = some r) : ∃ g o, p = some ⟨g, o, none⟩ ∧ g < w.heap.size ∧ w.cell? ⟨g, o + k * 3, none⟩ = some (.int .i64 r.1) ∧ w.cell? ⟨g, o + k * 3 + 1, none⟩ = some (.int .i64 r.2.1) ∧ w.cell? ⟨g, o + k * 3 + 2, none⟩ = some (.int .i64 r.2.2) := by
  obtain ⟨p2, c2, e2, _, hc⟩ := h
  injection e2 with e3
  subst e3
  have hlt := (List.getElem?_eq_some_iff.1 hk).1
  obtain ⟨g, o, e, _, hg, cc, _⟩ := hc (by omega)
  obtain ⟨a0, a1, a2⟩ := plcsV_at l k r hk
  exact ⟨g, o, e, hg, cc _ _ a0, by rw [Nat.add_assoc]; exact cc _ _ a1, by rw [Nat.add_assoc]; exact cc _ _ a2⟩
theorem Try.infoPl : (Try.prog.info? 47).map (fun i => (i.zero, i.size, i.bytes)) = some (some (.agg #[.int .i64 0, .int .i64 0, .int .i64 0]), 3, 24) := by kernel_rfl
theorem info_partsP {P : Program} {t : TypeId} {z : Option Value} {s b : Nat} (h : (P.info? t).map (fun i => (i.zero, i.size, i.bytes)) = some (z, s, b)) : ∃ i, P.info? t = some i ∧ i.zero = z ∧ i.size = s ∧ i.bytes = b := by
  cases hi : P.info? t with
  | none => rw [hi] at h; cases h
  | some i => rw [hi] at h; simp only [Option.map_some, Option.some.injEq, Prod.mk.injEq] at h; exact ⟨i, rfl, h.1, h.2.1, h.2.2⟩
/-- An append that is known. -/
theorem wpList_run_appendP {P : Program} {w : World} {ops : Array Oper} {rest : List Oper} {o : Oper} {a : Act} {Q : Exit → Act → World → Prop} (hgd : o.guard = none) (s x : Operand) (t : TypeId)
    (ho : o.op = .call { callee := .builtin .append, args := #[s, x], argTypes := #[t, t] }) (v u : Value) (hs : a.eval s = v) (hx : a.eval x = u) {v' : Value} {w' : World} (hr : (Builtin.append_ #[t, t] o.type #[v, u]).run P w = .ok v' w') (h : wpList P ops Q rest (a.put o.dst v') w') :
    wpList P ops Q (o :: rest) a w := wpList_plain hgd fun K hK => by
  unfold Oper.wp execOp
  simp only [ho, resolve, invoke, builtin, Sem.run_bind, Sem.run_pure, Result.andThen_ok, List.map_toArray, List.map_cons, List.map_nil, hs, hx, hr]
  exact hK _ _ h
/-- A count in block c. -/
def CtJ (W : World) (c : Nat) (l : List Plc) (w : World) : Prop := Below W.heap.size W w ∧ c < w.heap.size ∧ w.cell? ⟨c, 0, none⟩ = some (.int .i64 (l.length : Int)) ∧ w.frozen? ⟨c, 0, none⟩ = false
theorem CtJ.any {W : World} {c : Nat} {l : List Plc} {w w' : World} (h : CtJ W c l w) (hb : Below w.heap.size w w') : CtJ W c l w' :=
  ⟨h.1.trans (hb.mono h.1.size), Nat.lt_of_lt_of_le h.2.1 hb.size, (hb.cell (p := ⟨_, _, none⟩) h.2.1).trans h.2.2.1, (hb.frozen (p := ⟨_, _, none⟩) h.2.1).trans h.2.2.2⟩
/-- A row of places, its slice in block c. -/
def RwJ (W : World) (c : Nat) (l : List Plc) (w : World) : Prop := Below W.heap.size W w ∧ c < w.heap.size ∧ w.frozen? ⟨c, 0, none⟩ = false ∧ ∃ p k, w.cell? ⟨c, 0, none⟩ = some (.slice p l.length k) ∧ w.ownsRow (c + 1) 47 3 (.slice p l.length k) l.length (plcsV l)
theorem RwJ.any {W : World} {c : Nat} {l : List Plc} {w w' : World} (h : RwJ W c l w) (hb : Below w.heap.size w w') : RwJ W c l w' := by
  obtain ⟨h1, h2, h3, p, k, h4, h5⟩ := h
  exact ⟨h1.trans (hb.mono h1.size), Nat.lt_of_lt_of_le h2 hb.size, (hb.frozen (p := ⟨_, _, none⟩) h2).trans h3, p, k, (hb.cell (p := ⟨_, _, none⟩) h2).trans h4, row_keep h5 hb⟩
set_option maxHeartbeats 1000000 in
set_option maxRecDepth 100000 in
theorem cntCl (W : World) (c : Nat) (hc : W.heap.size ≤ c) (l : List Plc) (w : World) (i j k : Int) (h : CtJ W c l w) (hl : l.length ≤ 1000000000) :
    Calls Try.prog 18 #[.agg #[.int .i64 i, .int .i64 j, .int .i64 k], .pointer (some ⟨c, 0, none⟩)] w fun e w' => e = .returned (.tuple #[]) ∧ Hid (CtJ W c (l ++ [(i, j, k)]) w') := by
  have HF : Hid (CtJ W c (l ++ [(i, j, k)]) ((w.setCell ⟨c, 0, none⟩ (.int .i64 ((l.length : Int) + 1))).alloc (.cells #[.int .i64 i, .int .i64 j, .int .i64 k] 47))) := by
    have h2 : CtJ W c (l ++ [(i, j, k)]) (w.setCell ⟨c, 0, none⟩ (.int .i64 ((l.length : Int) + 1))) := by
      refine ⟨h.1.setCell (p := ⟨c, 0, none⟩) hc _, by simpa [World.setCell] using h.2.1, ?_, (World.frozen?_setCell _ _ _ _).trans h.2.2.2⟩
      rw [World.cell?_setCell_same _ _ _ h.2.2.1]; simp
    exact h2.any (bel1 _ _)
  obtain ⟨-, h1, h2, h3⟩ := h
  generalize l ++ [(i, j, k)] = l2 at HF ⊢
  generalize l.length = n at HF h2 hl
  go_enter Try.func18, Try.ntmps18
  go_wp2
  go_end0
  exact ⟨rfl, HF⟩
set_option maxHeartbeats 2000000 in
set_option maxRecDepth 100000 in
theorem rowCl (W : World) (c : Nat) (hc : W.heap.size ≤ c) (l : List Plc) (w : World) (i j k : Int) (h : RwJ W c l w) (hl : l.length ≤ 1000000000) :
    Calls Try.prog 17 #[.agg #[.int .i64 i, .int .i64 j, .int .i64 k], .pointer (some ⟨c, 0, none⟩)] w fun e w' => e = .returned (.tuple #[]) ∧ Hid (RwJ W c (l ++ [(i, j, k)]) w') := by
  obtain ⟨i0, hi0, hz0, hz1, hz2⟩ := info_partsP Try.infoPl
  obtain ⟨X, hX⟩ : ∃ X, X = w.alloc (.cells #[.int .i64 i, .int .i64 j, .int .i64 k] 47) := ⟨_, rfl⟩
  have hXb : Below w.heap.size w X := by rw [hX]; exact bel1 _ _
  have hXs : X.heap.size = w.heap.size + 1 := by rw [hX]; simp
  obtain ⟨b1, b2, b3, p, q, b4, b5⟩ := h.any hXb
  have h2 := h.2.1
  obtain ⟨gg, cap, w2, hrun, hown, hgrow, hat, _⟩ := run_append_lies (P := Try.prog) (X.alloc (.cells #[.int .i64 i, .int .i64 j, .int .i64 k] 47)) 27 27 (c + 1) 47 i0 _ 3 24 Try.underlying27 hi0 hz0 hz1 hz2 rfl (by omega) (.slice p l.length q) l.length (plcsV l) (b5.alloc _) ⟨X.heap.size, 0, none⟩ 1 1 [.int .i64 i, .int .i64 j, .int .i64 k] rfl
    (World.news_of_block (cs := #[.int .i64 i, .int .i64 j, .int .i64 k]) (t := 47) (fr := (0, 0)) (heap_alloc_new X _)) (by intro u hu; simp at hu; rcases hu with rfl | rfl | rfl <;> rfl) (by omega) (by unfold maxLen; omega) (by omega) (by simp; omega) (X.heap.size + 1) (by simp)
  have hne : some c ≠ (Value.slice p l.length q).ownBlock := fun e => by have := (b5.lt c e.symm).1; omega
  have hcl : c < (X.alloc (.cells #[.int .i64 i, .int .i64 j, .int .i64 k] 47)).heap.size := by simp; omega
  have hcb := hgrow.block c hcl hne
  have y4 : w2.cell? ⟨c, 0, none⟩ = some (.slice p l.length q) := (World.cell?_of_block (a := ⟨c, _, none⟩) hcb).trans ((World.cell?_alloc_past _ _ _ b2).trans b4)
  have y3 : w2.frozen? ⟨c, 0, none⟩ = false := (World.frozen?_of_block (a := ⟨c, _, none⟩) hcb).trans (((bel1 X _).frozen (p := ⟨c, 0, none⟩) b2).trans b3)
  have HF : Hid (RwJ W c (l ++ [(i, j, k)]) (w2.setCell ⟨c, 0, none⟩ (.slice (some ⟨gg, 0, none⟩) (l.length + 1) cap))) := by
    have B2 : Below W.heap.size W w2 := (b1.alloc b1.size _).grown hgrow (Nat.le_trans b1.size (le_alloc _ _)) (fun i hi => by have := (b5.lt i hi).1; omega)
    have e1 : (l ++ [(i, j, k)]).length = l.length + 1 := by simp
    have e2 : plcsV (l ++ [(i, j, k)]) = plcsV l ++ [.int .i64 i, .int .i64 j, .int .i64 k] := by rw [plcsV_append]; rfl
    refine ⟨B2.setCell (p := ⟨c, 0, none⟩) hc _, ?_, (World.frozen?_setCell _ _ _ _).trans y3, some ⟨gg, 0, none⟩, cap, ?_, ?_⟩
    · have := hgrow.size; simp [World.setCell] at this ⊢; omega
    · rw [e1]; exact World.cell?_setCell_same _ _ _ y4
    · rw [e1, e2]; exact ownsRow_setCell_other (a := ⟨c, 0, none⟩) hown (fun e => by have := (hown.lt c e).1; omega) _
  have x0 : X.cell? ⟨c, 0, none⟩ = some (.slice p l.length q) := b4
  have x1 : X.cell? ⟨w.heap.size, 0, none⟩ = some (.int .i64 i) := by rw [hX]; exact World.cell?_alloc_at _ _ _ _ rfl
  have x2 : X.cell? ⟨w.heap.size, 1, none⟩ = some (.int .i64 j) := by rw [hX]; exact World.cell?_alloc_at _ _ _ _ rfl
  have x3 : X.cell? ⟨w.heap.size, 2, none⟩ = some (.int .i64 k) := by rw [hX]; exact World.cell?_alloc_at _ _ _ _ rfl
  generalize l ++ [(i, j, k)] = l2 at HF ⊢
  have HR : Hid ((Builtin.append_ #[27, 27] 27 #[.slice p l.length q, .slice (some ⟨X.heap.size, 0, none⟩) 1 1]).run Try.prog (X.alloc (.cells #[.int .i64 i, .int .i64 j, .int .i64 k] 47)) = .ok (.slice (some ⟨gg, 0, none⟩) (l.length + 1) cap) w2) := hrun
  obtain ⟨nb, hnb⟩ : ∃ nb, nb = w.heap.size := ⟨_, rfl⟩
  clear h hown hgrow hat hne hcb b1 b3 b5 hcl hXb hXs hrun hi0 hz0 hz1 hz2
  go_enter Try.func17, Try.ntmps17
  go_upto_region 1 with fail
  rw [← hX, ← hnb]
  rw [← hnb] at x1 x2 x3
  clear hX hnb
  go_wp2_with (at_builtin; refine wpList_run_appendP rfl _ _ 27 rfl _ _ rfl rfl HR.out ?_)
  go_end0
  exact ⟨rfl, HF⟩
end Go.Proofs.Ytdhjegajbhlmbaa
