/- Two rows of the same tokens are held against one another; a number of an error. -/
import Derived.Test.YtgeajdfajfdjcaaLexLex
import Derived.Laws.StructEq
namespace Go.Proofs.Ytgeajdfajfdjcaa
set_option linter.unusedVariables false
open Go.ChangeShapes Go.WideShapes Go.ChangeAt Go.RowKit

theorem num_any (n : Int) (w : World) : Calls Try.prog 14 #[.int .i64 n] w fun e w' => e = .returned (.int .i64 n) ∧ w = w' := by
  go_enter Try.func14, Try.ntmps14
  go_wp2
  go_ret
  exact ⟨rfl, rfl⟩

theorem toksV_at : ∀ (l : List Tok) (k : Nat) (t : Tok), l[k]? = some t → (toksV l)[k * 5]? = some (.int .i64 (t.kind : Int)) ∧ (toksV l)[k * 5 + 1]? = some (.int .i64 (t.pl : Int)) ∧ (toksV l)[k * 5 + 2]? = some (.string t.text) ∧ (toksV l)[k * 5 + 3]? = some (.int .i64 t.lo) ∧ (toksV l)[k * 5 + 4]? = some (.int .i64 t.hi)
  | [], k, t, h => by simp at h
  | q :: l, 0, t, h => by
    obtain rfl : q = t := by simpa using h
    exact ⟨rfl, rfl, rfl, rfl, rfl⟩
  | q :: l, k + 1, t, h => by
    have := toksV_at l k t (by simpa using h)
    rw [show (k + 1) * 5 = k * 5 + 1 + 1 + 1 + 1 + 1 by omega]
    simpa [toksV, tokC] using this

/-- Slice v of w holds the tokens l. -/
def TRow (w : World) (v : Value) (l : List Tok) : Prop :=
  ∃ p cap, v = .slice p l.length cap ∧ ∀ k t, l[k]? = some t → ∃ g, p = some ⟨g, 0, none⟩ ∧ g < w.heap.size ∧
    w.cell? ⟨g, k * 5, none⟩ = some (.int .i64 (t.kind : Int)) ∧ w.cell? ⟨g, k * 5 + 1, none⟩ = some (.int .i64 (t.pl : Int)) ∧ w.cell? ⟨g, k * 5 + 2, none⟩ = some (.string t.text) ∧ w.cell? ⟨g, k * 5 + 3, none⟩ = some (.int .i64 t.lo) ∧ w.cell? ⟨g, k * 5 + 4, none⟩ = some (.int .i64 t.hi)
theorem TRow.keep {w w' : World} {v : Value} {l : List Tok} (h : TRow w v l) (hb : Below w.heap.size w w') : TRow w' v l := by
  obtain ⟨p, cap, hv, hc⟩ := h
  refine ⟨p, cap, hv, fun k t hk => ?_⟩
  obtain ⟨g, hp, hg, c0, c1, c2, c3, c4⟩ := hc k t hk
  exact ⟨g, hp, Nat.lt_of_lt_of_le hg hb.size, (hb.cell (p := ⟨g, _, none⟩) hg).trans c0, (hb.cell (p := ⟨g, _, none⟩) hg).trans c1, (hb.cell (p := ⟨g, _, none⟩) hg).trans c2, (hb.cell (p := ⟨g, _, none⟩) hg).trans c3, (hb.cell (p := ⟨g, _, none⟩) hg).trans c4⟩
/-- A row just laid. -/
theorem TRow.laid (w : World) (l : List Tok) (t : TypeId) (cs : Array Value) (hcs : cs = (toksV l).toArray) (n : Nat) (hn : n = w.heap.size) (m c : Nat) (hm : m = l.length) : TRow (w.alloc (.cells cs t)) (.slice (some ⟨n, 0, none⟩) m c) l := by
  subst hn hcs hm
  refine ⟨_, _, rfl, fun k t' hk => ?_⟩
  obtain ⟨q0, q1, q2, q3, q4⟩ := toksV_at l k t' hk
  have hc : ∀ j, (w.alloc (.cells (toksV l).toArray t)).cell? ⟨w.heap.size, j, none⟩ = (toksV l)[j]? := fun j => (World.cell?_alloc_at _ _ _ _ rfl).trans (by simp)
  exact ⟨_, rfl, by simp, (hc _).trans q0, (hc _).trans q1, (hc _).trans q2, (hc _).trans q3, (hc _).trans q4⟩

end Go.Proofs.Ytgeajdfajfdjcaa
