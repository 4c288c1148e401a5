/- A reader in memory: seven cells, a row of bytes, a row of pieces. No program in sight. -/
import Derived.Test.YtopnhbgialbicaaLexMach
import Derived.ProofKit
namespace Go.Proofs.Ytopnhbgialbicaa
open Go.RowKit

theorem row_slice {w : World} {base e size n : Nat} {v : Value} {xs : List Value} (h : w.ownsRow base e size v n xs) : ∃ p cap, v = .slice p n cap := by
  obtain ⟨_, ⟨h1, h2⟩ | ⟨g, cap, cur, h1, _⟩⟩ := h
  · exact ⟨none, 0, by rw [h1, h2]⟩
  · exact ⟨_, _, h1⟩
theorem row_mono {w : World} {base base' e size n : Nat} {v : Value} {xs : List Value} (h : w.ownsRow base e size v n xs) (hb : base' ≤ base) : w.ownsRow base' e size v n xs := by
  obtain ⟨h0, h1 | ⟨g, cap, cur, h1, h2, h3⟩⟩ := h
  · exact ⟨h0, .inl h1⟩
  · exact ⟨h0, .inr ⟨g, cap, cur, h1, by omega, h3⟩⟩
theorem row_block {w w' : World} {base e size n : Nat} {v : Value} {xs : List Value} (h : w.ownsRow base e size v n xs) (hb : ∀ g, base ≤ g → g < w.heap.size → w'.heap[g]? = w.heap[g]?) : w'.ownsRow base e size v n xs := by
  obtain ⟨h0, h1 | ⟨g, cap, cur, h1, h2, h3, h4⟩⟩ := h
  · exact ⟨h0, .inl h1⟩
  · have hg : g < w.heap.size := by
      by_cases hh : g < w.heap.size
      · exact hh
      · rw [Array.getElem?_eq_none (by omega)] at h3; cases h3
    exact ⟨h0, .inr ⟨g, cap, cur, h1, h2, by rw [hb g h2 hg]; exact h3, h4⟩⟩
theorem row_keep {w w' : World} {base e size n : Nat} {v : Value} {xs : List Value} (h : w.ownsRow base e size v n xs) (hb : Below w.heap.size w w') : w'.ownsRow base e size v n xs :=
  row_block h fun g _ hg => hb.block g hg
theorem cell_lt {w : World} {b j : Nat} {v : Value} (h : w.cell? ⟨b, j, none⟩ = some v) : b < w.heap.size := by
  by_cases hb : b < w.heap.size
  · exact hb
  · exfalso
    have e : w.heap[b]? = none := Array.getElem?_eq_none (by omega)
    simp [World.cell?, e] at h
/-- A row of one element type is no row of another. -/
theorem row_apart {w : World} {base base' e e' size size' n n' : Nat} {v v' : Value} {xs xs' : List Value} (h : w.ownsRow base e size v n xs) (h' : w.ownsRow base' e' size' v' n' xs') (he : e ≠ e') :
    ∀ k, v.ownBlock = some k → v'.ownBlock ≠ some k := by
  intro k hk hk'
  obtain ⟨_, ⟨h1, _⟩ | ⟨g, cap, cur, h1, _, h3, _⟩⟩ := h
  · rw [h1] at hk; cases hk
  · obtain ⟨_, ⟨h1', _⟩ | ⟨g', cap', cur', h1', _, h3', _⟩⟩ := h'
    · rw [h1'] at hk'; cases hk'
    · rw [h1] at hk; rw [h1'] at hk'
      injection hk with hk; injection hk' with hk'
      have hk : g = k := hk
      have hk' : g' = k := hk'
      subst hk hk'
      rw [h3] at h3'
      injection h3' with h3'
      injection h3' with _ h4
      exact he h4
theorem row_grown {w w' : World} {base base' e e' size size' n n' : Nat} {v v' : Value} {xs xs' : List Value} (h : w.ownsRow base e size v n xs) (h' : w.ownsRow base' e' size' v' n' xs') (he : e ≠ e') (hg : w.grownBy w' v'.ownBlock) : w'.ownsRow base e size v n xs := by
  refine h.kept hg ?_
  cases hv : v.ownBlock with
  | none => exact .inl rfl
  | some k => exact .inr fun e => row_apart h h' he k hv e.symm

def bytesV (l : List Int) : List Value := l.map (Value.int .u8)
def payV : Pay → Value
  | none => .nilIface
  | some (.inl t) => .iface 9 (.string t)
  | some (.inr (a, c)) => .iface 106 (.agg #[.int .i64 a, .int .i64 c])
def pcV (p : Pc) : List Value := [.int .i64 (p.kind : Int), .int .i64 (p.pl : Int), payV p.pay]
def pcsV : List Pc → List Value
  | [] => []
  | p :: l => pcV p ++ pcsV l
theorem pcsV_append : ∀ l m : List Pc, pcsV (l ++ m) = pcsV l ++ pcsV m
  | [], _ => rfl
  | p :: l, m => by simp [pcsV, pcsV_append l m]
theorem pcsV_length : ∀ l : List Pc, (pcsV l).length = l.length * 3
  | [] => rfl
  | p :: l => by simp [pcsV, pcV, pcsV_length l]; omega
theorem bytesV_append (l m : List Int) : bytesV (l ++ m) = bytesV l ++ bytesV m := by simp [bytesV]

/-- Block B of w is a reader of s in state m; below B all is as in W. -/
structure Rd (W : World) (B : Nat) (s : ByteArray) (m : Mc) (w : World) : Prop where
  c0 : w.cell? ⟨B, 0, none⟩ = some (.string s)
  c1 : w.cell? ⟨B, 1, none⟩ = some (.int .i64 (m.st : Int))
  c2 : w.cell? ⟨B, 2, none⟩ = some (.int .i64 (m.nx : Int))
  c3 : w.cell? ⟨B, 3, none⟩ = some (.int .i64 (m.bg : Int))
  c4 : ∃ v, w.cell? ⟨B, 4, none⟩ = some v ∧ w.ownsRow (B + 1) 5 1 v m.rd.length (bytesV m.rd)
  c5 : ∃ v, w.cell? ⟨B, 5, none⟩ = some v ∧ w.ownsRow (B + 1) 93 3 v m.ps.length (pcsV m.ps)
  c6 : w.cell? ⟨B, 6, none⟩ = some (.int .i64 (m.ft : Int))
  fz : ∀ j, w.frozen? ⟨B, j, none⟩ = false
  bl : Below B W w

theorem Rd.lt {W w : World} {B : Nat} {s : ByteArray} {m : Mc} (h : Rd W B s m w) : B < w.heap.size := cell_lt h.c0
theorem Rd.keep {W w w' : World} {B : Nat} {s : ByteArray} {m : Mc} (h : Rd W B s m w) (hb : Below w.heap.size w w') : Rd W B s m w' := by
  have hl := h.lt
  have hc : ∀ j, w'.cell? ⟨B, j, none⟩ = w.cell? ⟨B, j, none⟩ := fun j => hb.cell (p := ⟨B, j, none⟩) hl
  obtain ⟨v4, h4, o4⟩ := h.c4
  obtain ⟨v5, h5, o5⟩ := h.c5
  exact ⟨(hc 0).trans h.c0, (hc 1).trans h.c1, (hc 2).trans h.c2, (hc 3).trans h.c3, ⟨v4, (hc 4).trans h4, row_keep o4 hb⟩, ⟨v5, (hc 5).trans h5, row_keep o5 hb⟩, (hc 6).trans h.c6,
    fun j => (hb.frozen (p := ⟨B, j, none⟩) hl).trans (h.fz j), h.bl.trans (hb.mono (by omega))⟩
theorem ne_off {B j k : Nat} (h : j ≠ k) : (⟨B, j, none⟩ : Addr) ≠ ⟨B, k, none⟩ := fun e => by injection e with _ e2; exact h e2
theorem Rd.put1 {W w : World} {B : Nat} {s : ByteArray} {st nx bg : Nat} {rd : List Int} {ps : List Pc} {ft : Nat} (h : Rd W B s ⟨st, nx, bg, rd, ps, ft⟩ w) (k : Nat) : Rd W B s ⟨k, nx, bg, rd, ps, ft⟩ (w.setCell ⟨B, 1, none⟩ (.int .i64 (k : Int))) := by
  obtain ⟨v4, h4, o4⟩ := h.c4
  obtain ⟨v5, h5, o5⟩ := h.c5
  have hc : ∀ j, j ≠ 1 → (w.setCell ⟨B, 1, none⟩ (.int .i64 (k : Int))).cell? ⟨B, j, none⟩ = w.cell? ⟨B, j, none⟩ := fun j hj => World.cell?_setCell_other _ _ _ _ (ne_off (Ne.symm hj))
  exact ⟨(hc 0 (by decide)).trans h.c0, World.cell?_setCell_same _ _ _ h.c1, (hc 2 (by decide)).trans h.c2, (hc 3 (by decide)).trans h.c3, ⟨v4, (hc 4 (by decide)).trans h4, ownsRow_setCell_below o4 (by show B < B + 1; omega) _⟩,
    ⟨v5, (hc 5 (by decide)).trans h5, ownsRow_setCell_below o5 (by show B < B + 1; omega) _⟩, (hc 6 (by decide)).trans h.c6, fun j => (World.frozen?_setCell _ _ _ _).trans (h.fz j), h.bl.setCell (p := ⟨B, 1, none⟩) (Nat.le_refl _) _⟩
theorem Rd.put2 {W w : World} {B : Nat} {s : ByteArray} {st nx bg : Nat} {rd : List Int} {ps : List Pc} {ft : Nat} (h : Rd W B s ⟨st, nx, bg, rd, ps, ft⟩ w) (k : Nat) (z : Int) (hz : z = (k : Int)) : Rd W B s ⟨st, k, bg, rd, ps, ft⟩ (w.setCell ⟨B, 2, none⟩ (.int .i64 z)) := by
  subst hz
  obtain ⟨v4, h4, o4⟩ := h.c4
  obtain ⟨v5, h5, o5⟩ := h.c5
  have hc : ∀ j, j ≠ 2 → (w.setCell ⟨B, 2, none⟩ (.int .i64 (k : Int))).cell? ⟨B, j, none⟩ = w.cell? ⟨B, j, none⟩ := fun j hj => World.cell?_setCell_other _ _ _ _ (ne_off (Ne.symm hj))
  exact ⟨(hc 0 (by decide)).trans h.c0, (hc 1 (by decide)).trans h.c1, World.cell?_setCell_same _ _ _ h.c2, (hc 3 (by decide)).trans h.c3, ⟨v4, (hc 4 (by decide)).trans h4, ownsRow_setCell_below o4 (by show B < B + 1; omega) _⟩,
    ⟨v5, (hc 5 (by decide)).trans h5, ownsRow_setCell_below o5 (by show B < B + 1; omega) _⟩, (hc 6 (by decide)).trans h.c6, fun j => (World.frozen?_setCell _ _ _ _).trans (h.fz j), h.bl.setCell (p := ⟨B, 2, none⟩) (Nat.le_refl _) _⟩
theorem Rd.put3 {W w : World} {B : Nat} {s : ByteArray} {st nx bg : Nat} {rd : List Int} {ps : List Pc} {ft : Nat} (h : Rd W B s ⟨st, nx, bg, rd, ps, ft⟩ w) (k : Nat) : Rd W B s ⟨st, nx, k, rd, ps, ft⟩ (w.setCell ⟨B, 3, none⟩ (.int .i64 (k : Int))) := by
  obtain ⟨v4, h4, o4⟩ := h.c4
  obtain ⟨v5, h5, o5⟩ := h.c5
  have hc : ∀ j, j ≠ 3 → (w.setCell ⟨B, 3, none⟩ (.int .i64 (k : Int))).cell? ⟨B, j, none⟩ = w.cell? ⟨B, j, none⟩ := fun j hj => World.cell?_setCell_other _ _ _ _ (ne_off (Ne.symm hj))
  exact ⟨(hc 0 (by decide)).trans h.c0, (hc 1 (by decide)).trans h.c1, (hc 2 (by decide)).trans h.c2, World.cell?_setCell_same _ _ _ h.c3, ⟨v4, (hc 4 (by decide)).trans h4, ownsRow_setCell_below o4 (by show B < B + 1; omega) _⟩,
    ⟨v5, (hc 5 (by decide)).trans h5, ownsRow_setCell_below o5 (by show B < B + 1; omega) _⟩, (hc 6 (by decide)).trans h.c6, fun j => (World.frozen?_setCell _ _ _ _).trans (h.fz j), h.bl.setCell (p := ⟨B, 3, none⟩) (Nat.le_refl _) _⟩
theorem Rd.put6 {W w : World} {B : Nat} {s : ByteArray} {st nx bg : Nat} {rd : List Int} {ps : List Pc} {ft : Nat} (h : Rd W B s ⟨st, nx, bg, rd, ps, ft⟩ w) (k : Nat) : Rd W B s ⟨st, nx, bg, rd, ps, k⟩ (w.setCell ⟨B, 6, none⟩ (.int .i64 (k : Int))) := by
  obtain ⟨v4, h4, o4⟩ := h.c4
  obtain ⟨v5, h5, o5⟩ := h.c5
  have hc : ∀ j, j ≠ 6 → (w.setCell ⟨B, 6, none⟩ (.int .i64 (k : Int))).cell? ⟨B, j, none⟩ = w.cell? ⟨B, j, none⟩ := fun j hj => World.cell?_setCell_other _ _ _ _ (ne_off (Ne.symm hj))
  exact ⟨(hc 0 (by decide)).trans h.c0, (hc 1 (by decide)).trans h.c1, (hc 2 (by decide)).trans h.c2, (hc 3 (by decide)).trans h.c3, ⟨v4, (hc 4 (by decide)).trans h4, ownsRow_setCell_below o4 (by show B < B + 1; omega) _⟩,
    ⟨v5, (hc 5 (by decide)).trans h5, ownsRow_setCell_below o5 (by show B < B + 1; omega) _⟩, World.cell?_setCell_same _ _ _ h.c6, fun j => (World.frozen?_setCell _ _ _ _).trans (h.fz j), h.bl.setCell (p := ⟨B, 6, none⟩) (Nat.le_refl _) _⟩
/-- A new row of bytes in cell 4. -/
theorem Rd.put4 {W w : World} {B : Nat} {s : ByteArray} {st nx bg : Nat} {rd : List Int} {ps : List Pc} {ft : Nat} (h : Rd W B s ⟨st, nx, bg, rd, ps, ft⟩ w) (l : List Int) (v : Value) (o : w.ownsRow (B + 1) 5 1 v l.length (bytesV l)) : Rd W B s ⟨st, nx, bg, l, ps, ft⟩ (w.setCell ⟨B, 4, none⟩ v) := by
  obtain ⟨v4, h4, o4⟩ := h.c4
  obtain ⟨v5, h5, o5⟩ := h.c5
  have hc : ∀ j, j ≠ 4 → (w.setCell ⟨B, 4, none⟩ v).cell? ⟨B, j, none⟩ = w.cell? ⟨B, j, none⟩ := fun j hj => World.cell?_setCell_other _ _ _ _ (ne_off (Ne.symm hj))
  exact ⟨(hc 0 (by decide)).trans h.c0, (hc 1 (by decide)).trans h.c1, (hc 2 (by decide)).trans h.c2, (hc 3 (by decide)).trans h.c3, ⟨v, World.cell?_setCell_same _ _ _ h4, ownsRow_setCell_below o (by show B < B + 1; omega) _⟩,
    ⟨v5, (hc 5 (by decide)).trans h5, ownsRow_setCell_below o5 (by show B < B + 1; omega) _⟩, (hc 6 (by decide)).trans h.c6, fun j => (World.frozen?_setCell _ _ _ _).trans (h.fz j), h.bl.setCell (p := ⟨B, 4, none⟩) (Nat.le_refl _) _⟩
theorem Rd.put5 {W w : World} {B : Nat} {s : ByteArray} {st nx bg : Nat} {rd : List Int} {ps : List Pc} {ft : Nat} (h : Rd W B s ⟨st, nx, bg, rd, ps, ft⟩ w) (l : List Pc) (v : Value) (o : w.ownsRow (B + 1) 93 3 v l.length (pcsV l)) : Rd W B s ⟨st, nx, bg, rd, l, ft⟩ (w.setCell ⟨B, 5, none⟩ v) := by
  obtain ⟨v4, h4, o4⟩ := h.c4
  obtain ⟨v5, h5, o5⟩ := h.c5
  have hc : ∀ j, j ≠ 5 → (w.setCell ⟨B, 5, none⟩ v).cell? ⟨B, j, none⟩ = w.cell? ⟨B, j, none⟩ := fun j hj => World.cell?_setCell_other _ _ _ _ (ne_off (Ne.symm hj))
  exact ⟨(hc 0 (by decide)).trans h.c0, (hc 1 (by decide)).trans h.c1, (hc 2 (by decide)).trans h.c2, (hc 3 (by decide)).trans h.c3, ⟨v4, (hc 4 (by decide)).trans h4, ownsRow_setCell_below o4 (by show B < B + 1; omega) _⟩,
    ⟨v, World.cell?_setCell_same _ _ _ h5, ownsRow_setCell_below o (by show B < B + 1; omega) _⟩, (hc 6 (by decide)).trans h.c6, fun j => (World.frozen?_setCell _ _ _ _).trans (h.fz j), h.bl.setCell (p := ⟨B, 5, none⟩) (Nat.le_refl _) _⟩
/-- Behind an append to one of the reader's own rows. -/
theorem Rd.grown4 {W w w' : World} {B : Nat} {s : ByteArray} {m : Mc} (h : Rd W B s m w) {v : Value} (hv : w.cell? ⟨B, 4, none⟩ = some v) (hg : w.grownBy w' v.ownBlock) :
    (∀ j, w'.cell? ⟨B, j, none⟩ = w.cell? ⟨B, j, none⟩) ∧ (∀ j, w'.frozen? ⟨B, j, none⟩ = false) ∧ Below B W w' ∧ ∃ v5, w'.cell? ⟨B, 5, none⟩ = some v5 ∧ w'.ownsRow (B + 1) 93 3 v5 m.ps.length (pcsV m.ps) := by
  have hl := h.lt
  obtain ⟨v4, h4, o4⟩ := h.c4
  obtain ⟨v5, h5, o5⟩ := h.c5
  obtain rfl : v = v4 := by rw [hv] at h4; injection h4
  have hne : some B ≠ v.ownBlock := fun e => by have := o4.lt B e.symm; omega
  have hb := hg.block B hl hne
  refine ⟨fun j => World.cell?_of_block (a := ⟨B, j, none⟩) hb, fun j => (World.frozen?_of_block (a := ⟨B, j, none⟩) hb).trans (h.fz j), h.bl.grown hg (by omega) (fun k hk => by have := o4.lt k hk; omega), v5, ?_, row_grown o5 o4 (by decide) hg⟩
  exact (World.cell?_of_block (a := ⟨B, 5, none⟩) hb).trans h5
theorem Rd.grown5 {W w w' : World} {B : Nat} {s : ByteArray} {m : Mc} (h : Rd W B s m w) {v : Value} (hv : w.cell? ⟨B, 5, none⟩ = some v) (hg : w.grownBy w' v.ownBlock) :
    (∀ j, w'.cell? ⟨B, j, none⟩ = w.cell? ⟨B, j, none⟩) ∧ (∀ j, w'.frozen? ⟨B, j, none⟩ = false) ∧ Below B W w' ∧ ∃ v4, w'.cell? ⟨B, 4, none⟩ = some v4 ∧ w'.ownsRow (B + 1) 5 1 v4 m.rd.length (bytesV m.rd) := by
  have hl := h.lt
  obtain ⟨v4, h4, o4⟩ := h.c4
  obtain ⟨v5, h5, o5⟩ := h.c5
  obtain rfl : v = v5 := by rw [hv] at h5; injection h5
  have hne : some B ≠ v.ownBlock := fun e => by have := o5.lt B e.symm; omega
  have hb := hg.block B hl hne
  refine ⟨fun j => World.cell?_of_block (a := ⟨B, j, none⟩) hb, fun j => (World.frozen?_of_block (a := ⟨B, j, none⟩) hb).trans (h.fz j), h.bl.grown hg (by omega) (fun k hk => by have := o5.lt k hk; omega), v4, ?_, row_grown o4 o5 (by decide) hg⟩
  exact (World.cell?_of_block (a := ⟨B, 4, none⟩) hb).trans h4
/-- The four numbers, the text; that all may be written. -/
theorem Rd.all {W w : World} {B : Nat} {s : ByteArray} {st nx bg : Nat} {rd : List Int} {ps : List Pc} {ft : Nat} (h : Rd W B s ⟨st, nx, bg, rd, ps, ft⟩ w) :
    w.cell? ⟨B, 0, none⟩ = some (.string s) ∧ w.cell? ⟨B, 1, none⟩ = some (.int .i64 (st : Int)) ∧ w.cell? ⟨B, 2, none⟩ = some (.int .i64 (nx : Int)) ∧ w.cell? ⟨B, 3, none⟩ = some (.int .i64 (bg : Int)) ∧ w.cell? ⟨B, 6, none⟩ = some (.int .i64 (ft : Int)) :=
  ⟨h.c0, h.c1, h.c2, h.c3, h.c6⟩
end Go.Proofs.Ytopnhbgialbicaa
