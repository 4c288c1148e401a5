/- The declarations of BuildWrong: what they are, and their variable in memory while it is changed. -/
import Derived.Test.YteafdfalgeeheaaBLong2
import Derived.Deep.CutRange
namespace Go.Proofs.Yteafdfalgeeheaa
set_option linter.unusedVariables false
open Go.ChangeShapes Go.WideShapes Go.ChangeAt Go.RowKit

def cjA (b : Bool) : List Cj := if b = true then List.replicate 9 ⟨false, []⟩ else [⟨false, [⟨0, ⟨#[84]⟩, 0, 0⟩]⟩]
def loW (b : Bool) : Int := if b = true then 3 else 1
def itT (b8 b4 : Bool) : List It := ⟨2, ⟨#[]⟩, loW b8, 2⟩ :: if b4 = true then [⟨0, ⟨#[85]⟩, 0, 0⟩] else []
def stW (b2 : Bool) : List ByteArray := if b2 = true then [⟨#[83]⟩, ⟨#[83]⟩] else [⟨#[83]⟩]
def dfW (b16 b8 b4 b1 : Bool) : List Df := [⟨⟨#[83]⟩, [cjA b16]⟩, ⟨⟨#[84]⟩, [[⟨false, itT b8 b4⟩]]⟩] ++ if b1 = true then [⟨⟨#[84]⟩, []⟩, ⟨⟨#[83]⟩, []⟩] else []
def wrR (b16 b8 b4 b2 b1 : Bool) : Rw := ⟨stW b2, dfW b16 b8 b4 b1⟩
def wantW (b16 b8 b4 b2 b1 : Bool) : Nat := if b1 = true then 401 else if b2 = true then 400 else if b4 = true then 402 else if b8 = true then 403 else if b16 = true then 404 else 0
def whoW (b8 b4 b2 b1 : Bool) : ByteArray := if b1 = true then ⟨#[84]⟩ else if b2 = true then ⟨#[]⟩ else if b4 = true then ⟨#[85]⟩ else if b8 = true then ⟨#[84]⟩ else ⟨#[]⟩
def wrB (b16 b8 b4 b2 b1 : Bool) : Bool := sizedB (wrR b16 b8 b4 b2 b1) && (match buildT (wrR b16 b8 b4 b2 b1) with
  | .error (n, e) => decide (n.data.toList = (whoW b8 b4 b2 b1).data.toList) && (decide (e = wantW b16 b8 b4 b2 b1) && !decide (wantW b16 b8 b4 b2 b1 = 0))
  | .ok g => decide (wantW b16 b8 b4 b2 b1 = 0) && (decide ((whoW b8 b4 b2 b1).data.toList = []) && decide (g.names.length = 2)))
theorem wr_all : ∀ a b c d e : Bool, wrB a b c d e = true := by decide +kernel
theorem bytes_eq {a b : ByteArray} (h : a.data.toList = b.data.toList) : a = b := by
  cases a with | mk a =>
  cases b with | mk b =>
  cases a with | mk a =>
  cases b with | mk b =>
  simp only at h
  rw [h]
def mk9 : Array Value := madeCells #[.bool false, .slice none 0 0] 18
set_option maxRecDepth 100000 in
theorem make9 (w : World) : (Instr.makeSlice 37 (.int .i64 9) (.int .i64 9)).run Try.prog w = .ok (.slice (some ⟨w.heap.size, 0, none⟩) 9 9) (w.alloc (.cells mk9 36)) := by
  obtain ⟨i, hi, hz, hs, hb⟩ := info_parts Try.infoConj
  have h := run_make (P := Try.prog) w 37 36 i _ Try.underlying37 hi hz .i64 .i64 9 9 (by omega) (Int.le_refl _) (by rw [hb]; omega) (by omega)
  simp only [hs] at h
  exact h
theorem reads_cur {w : World} {g n c : Nat} {cur : Array Value} {t : TypeId} (h : w.heap[g]? = some (.cells cur t)) (hn : n ≤ maxLen ∧ n ≤ c) {cs : List Value} (hcs : cur.toList.take cs.length = cs) : Reads w Any (.slice (some ⟨g, 0, none⟩) n c) n cs := by
  refine ⟨_, _, rfl, hn, fun _ => ⟨g, 0, rfl, trivial, block_lt h, fun j x hj => ?_, fun j _ => by simp [World.frozen?, h]⟩⟩
  rw [Nat.zero_add, cell_of_cells h]
  rw [← hcs, List.getElem?_take] at hj
  split at hj
  · simpa using hj
  · cases hj
theorem owns_exact {w : World} {g n size base : Nat} {arr : Array Value} {t : TypeId} (h : w.heap[g]? = some (.cells arr t)) (hs : arr.size = n * size) (hn : n ≤ maxLen) (hb : base ≤ g) : w.ownsRow base t size (.slice (some ⟨g, 0, none⟩) n n) n arr.toList :=
  ⟨by simp [hs], .inr ⟨g, n, arr, rfl, hb, h, Nat.le_refl _, hn, hs, by rw [List.take_of_length_le (by simp [hs])]⟩⟩
/-- All blocks but those of T are as they were. -/
structure Kp (T : Nat → Prop) (X X' : World) : Prop where
  size : X.heap.size ≤ X'.heap.size
  blk : ∀ b, b < X.heap.size → ¬ T b → X'.heap[b]? = X.heap[b]?
theorem Kp.at {T : Nat → Prop} {X X' : World} (h : Kp T X X') {b : Nat} {o : Obj} (hb : X.heap[b]? = some o) (hT : ¬ T b) : X'.heap[b]? = some o := (h.blk b (block_lt hb) hT).trans hb
/-- A row of n elements, its cells cs, whole in the block g. -/
def RwW (X : World) (v : Value) (t : TypeId) (n : Nat) (cs : List Value) (G : Nat → Prop) : Prop :=
  ∃ g cap cur, v = .slice (some ⟨g, 0, none⟩) n cap ∧ X.heap[g]? = some (.cells cur t) ∧ cur.toList.take cs.length = cs ∧ (n ≤ maxLen ∧ n ≤ cap) ∧ G g
theorem RwW.keep {X X' : World} {v : Value} {t : TypeId} {n : Nat} {cs : List Value} {G T : Nat → Prop} (h : RwW X v t n cs G) (hk : Kp T X X') (hd : ∀ b, G b → ¬ T b) : RwW X' v t n cs G := by
  obtain ⟨g, cap, cur, h1, h2, h3, h4, h5⟩ := h
  exact ⟨g, cap, cur, h1, hk.at h2 (hd g h5), h3, h4, h5⟩
theorem RwW.reads {X : World} {v : Value} {t : TypeId} {n : Nat} {cs : List Value} {G : Nat → Prop} (h : RwW X v t n cs G) : Reads X Any v n cs := by
  obtain ⟨g, cap, cur, h1, h2, h3, h4, h5⟩ := h
  rw [h1]; exact reads_cur h2 h4 h3
theorem RwW.lit {X : World} {g n : Nat} {arr : Array Value} {t : TypeId} {G : Nat → Prop} (h : X.heap[g]? = some (.cells arr t)) (hn : n ≤ maxLen) (hG : G g) : RwW X (.slice (some ⟨g, 0, none⟩) n n) t n arr.toList G :=
  ⟨g, n, arr, rfl, h, by rw [List.take_of_length_le (by simp)], ⟨hn, Nat.le_refl _⟩, hG⟩
theorem RwW.own {X : World} {v : Value} {t : TypeId} {n base size : Nat} {cs : List Value} {G : Nat → Prop} (h : X.ownsRow base t size v n cs) (hp : 0 < n) (hG : ∀ g, v.ownBlock = some g → G g) : RwW X v t n cs G := by
  obtain ⟨h0, ⟨_, h2⟩ | ⟨g, cap, cur, h1, h2, h3, h4, h5, h6, h7⟩⟩ := h
  · omega
  · refine ⟨g, cap, cur, h1, h3, ?_, ⟨Nat.le_trans h4 h5, h4⟩, hG g (by rw [h1]; rfl)⟩
    rw [h0]; exact h7
/-- The blocks of the variable: those that do not turn, and what lies in those that do. -/
structure WO (wa : World) (vS vD vI vA : Value) (X : World) : Prop where
  n1 : X.heap[wa.heap.size + 1]? = some (.cells #[.int .i64 0, .string ⟨#[84]⟩, .int .i64 0, .int .i64 0] 33)
  n2 : X.heap[wa.heap.size + 1 + 1]? = some (.cells #[.bool false, .slice (some ⟨wa.heap.size + 1, 0, none⟩) 1 1] 36)
  n3 : X.heap[wa.heap.size + 1 + 1 + 1]? = some (.cells #[vA] 37)
  n5 : X.heap[wa.heap.size + 1 + 1 + 1 + 1 + 1]? = some (.cells #[.bool false, vI] 36)
  n6 : X.heap[wa.heap.size + 1 + 1 + 1 + 1 + 1 + 1]? = some (.cells #[.slice (some ⟨wa.heap.size + 1 + 1 + 1 + 1 + 1, 0, none⟩) 1 1] 37)
  n8 : X.heap[wa.heap.size + 1 + 1 + 1 + 1 + 1 + 1 + 1 + 1]? = some (.cells #[vS, vD] 27)
  bl : Below wa.heap.size wa X
def WG (wa : World) (g : Nat) : Prop := wa.heap.size + 9 ≤ g
def WG4 (wa : World) (g : Nat) : Prop := g = wa.heap.size + 1 + 1 + 1 + 1 ∨ wa.heap.size + 9 ≤ g
def WG0 (wa : World) (g : Nat) : Prop := g = wa.heap.size ∨ wa.heap.size + 9 ≤ g
def WG7 (wa : World) (g : Nat) : Prop := g = wa.heap.size + 1 + 1 + 1 + 1 + 1 + 1 + 1 ∨ wa.heap.size + 9 ≤ g
def RA (wa : World) (b : Bool) (vA : Value) (X : World) : Prop := if b = true then RwW X vA 36 9 mk9.toList (WG wa) else vA = .slice (some ⟨wa.heap.size + 1 + 1, 0, none⟩) 1 1
def RI (wa : World) (b8 b4 : Bool) (vI : Value) (X : World) : Prop := RwW X vI 33 (itT b8 b4).length (itsV (itT b8 b4)) (WG4 wa)
def RS (wa : World) (b2 : Bool) (vS : Value) (X : World) : Prop := RwW X vS 9 (stW b2).length (txV (stW b2)) (WG0 wa)
def dvW (b1 : Bool) (wa : World) : List Value := [.string ⟨#[83]⟩, .slice (some ⟨wa.heap.size + 1 + 1 + 1, 0, none⟩) 1 1, .string ⟨#[84]⟩, .slice (some ⟨wa.heap.size + 1 + 1 + 1 + 1 + 1 + 1, 0, none⟩) 1 1] ++ if b1 = true then [.string ⟨#[84]⟩, .slice none 0 0, .string ⟨#[83]⟩, .slice none 0 0] else []
def RD (wa : World) (b1 : Bool) (vD : Value) (X : World) : Prop := RwW X vD 31 (if b1 = true then 4 else 2) (dvW b1 wa) (WG7 wa)
structure WA (wa : World) (b16 b8 b4 b2 b1 : Bool) (vS vD vI vA : Value) (X : World) : Prop where
  o : WO wa vS vD vI vA X
  a : RA wa b16 vA X
  i : RI wa b8 b4 vI X
  s : RS wa b2 vS X
  d : RD wa b1 vD X
theorem mk9_eq : mk9.toList = cjsV (cjA true) (List.replicate 9 (.slice none 0 0)) := by kernel_rfl
theorem its_nil (w : World) : IsIts w Any (.slice none 0 0) [] := ⟨none, 0, rfl, ⟨Nat.zero_le _, Nat.zero_le _⟩, fun h => absurd h (Nat.lt_irrefl _)⟩
theorem alts_none (w : World) : IsAlts w Any (.slice none 0 0) [] := ⟨[], ⟨none, 0, rfl, ⟨Nat.zero_le _, Nat.zero_le _⟩, fun h => absurd h (Nat.lt_irrefl _)⟩, alts_nil _ _⟩
theorem WA.raw {wa X : World} {b16 b8 b4 b2 b1 : Bool} {vS vD vI vA : Value} (h : WA wa b16 b8 b4 b2 b1 vS vD vI vA X) : IsTexts X Any vS (wrR b16 b8 b4 b2 b1).starts ∧ IsDefs X Any vD (wrR b16 b8 b4 b2 b1).defs := by
  refine ⟨h.s.reads, ?_⟩
  have i1 : IsIts X Any (.slice (some ⟨wa.heap.size + 1, 0, none⟩) 1 1) [⟨0, ⟨#[84]⟩, 0, 0⟩] := reads_laid h.o.n1 le11 rfl
  have cA : IsCjs X Any vA (cjA b16) := by
    have ha := h.a
    unfold RA at ha
    cases b16 with
    | true =>
      rw [if_pos rfl] at ha
      have hr := ha.reads
      rw [mk9_eq] at hr
      refine ⟨List.replicate 9 (.slice none 0 0), hr, rfl, fun k c u e1 e2 => ?_⟩
      have e3 : u = .slice none 0 0 := List.eq_of_mem_replicate (List.mem_of_getElem? e2)
      have e4 : c = ⟨false, []⟩ := List.eq_of_mem_replicate (n := 9) (List.mem_of_getElem? e1)
      rw [e3, e4]; exact its_nil X
    | false =>
      rw [if_neg (by simp)] at ha
      rw [ha]
      exact ⟨[_], reads_laid h.o.n2 le11 rfl, cjs_snoc (cjs_nil _ _) (c := ⟨false, [⟨0, ⟨#[84]⟩, 0, 0⟩]⟩) i1⟩
  have aA : IsAlts X Any (.slice (some ⟨wa.heap.size + 1 + 1 + 1, 0, none⟩) 1 1) [cjA b16] := ⟨[_], reads_laid h.o.n3 le11 rfl, alts_snoc (alts_nil _ _) cA⟩
  have iT : IsIts X Any vI (itT b8 b4) := h.i.reads
  have cT : IsCjs X Any (.slice (some ⟨wa.heap.size + 1 + 1 + 1 + 1 + 1, 0, none⟩) 1 1) [⟨false, itT b8 b4⟩] := ⟨[_], reads_laid h.o.n5 le11 rfl, cjs_snoc (cjs_nil _ _) (c := ⟨false, itT b8 b4⟩) iT⟩
  have aT : IsAlts X Any (.slice (some ⟨wa.heap.size + 1 + 1 + 1 + 1 + 1 + 1, 0, none⟩) 1 1) [[⟨false, itT b8 b4⟩]] := ⟨[_], reads_laid h.o.n6 le11 rfl, alts_snoc (alts_nil _ _) cT⟩
  have hd := h.d.reads
  have d2 := defs_snoc (defs_snoc (defs_nil X Any) (c := ⟨⟨#[83]⟩, [cjA b16]⟩) aA) (c := ⟨⟨#[84]⟩, [[⟨false, itT b8 b4⟩]]⟩) aT
  cases b1 with
  | false => exact ⟨[.slice (some ⟨wa.heap.size + 1 + 1 + 1, 0, none⟩) 1 1, .slice (some ⟨wa.heap.size + 1 + 1 + 1 + 1 + 1 + 1, 0, none⟩) 1 1], hd, d2⟩
  | true => exact ⟨[.slice (some ⟨wa.heap.size + 1 + 1 + 1, 0, none⟩) 1 1, .slice (some ⟨wa.heap.size + 1 + 1 + 1 + 1 + 1 + 1, 0, none⟩) 1 1, .slice none 0 0, .slice none 0 0], hd, defs_snoc (defs_snoc d2 (c := ⟨⟨#[84]⟩, []⟩) (alts_none X)) (c := ⟨⟨#[83]⟩, []⟩) (alts_none X)⟩
structure W1 (wa : World) (b16 : Bool) (lo : Int) (vA : Value) (X : World) : Prop where
  o : WO wa (.slice (some ⟨wa.heap.size, 0, none⟩) 1 1) (.slice (some ⟨wa.heap.size + 1 + 1 + 1 + 1 + 1 + 1 + 1, 0, none⟩) 2 2) (.slice (some ⟨wa.heap.size + 1 + 1 + 1 + 1, 0, none⟩) 1 1) vA X
  n0 : X.heap[wa.heap.size]? = some (.cells #[.string ⟨#[83]⟩] 9)
  n4 : X.heap[wa.heap.size + 1 + 1 + 1 + 1]? = some (.cells #[.int .i64 2, .string ⟨#[]⟩, .int .i64 lo, .int .i64 2] 33)
  n7 : X.heap[wa.heap.size + 1 + 1 + 1 + 1 + 1 + 1 + 1]? = some (.cells #[.string ⟨#[83]⟩, .slice (some ⟨wa.heap.size + 1 + 1 + 1, 0, none⟩) 1 1, .string ⟨#[84]⟩, .slice (some ⟨wa.heap.size + 1 + 1 + 1 + 1 + 1 + 1, 0, none⟩) 1 1] 31)
  a : RA wa b16 vA X
structure W3 (wa : World) (b16 b8 b4 : Bool) (vI vA : Value) (X : World) : Prop where
  o : WO wa (.slice (some ⟨wa.heap.size, 0, none⟩) 1 1) (.slice (some ⟨wa.heap.size + 1 + 1 + 1 + 1 + 1 + 1 + 1, 0, none⟩) 2 2) vI vA X
  n0 : X.heap[wa.heap.size]? = some (.cells #[.string ⟨#[83]⟩] 9)
  n7 : X.heap[wa.heap.size + 1 + 1 + 1 + 1 + 1 + 1 + 1]? = some (.cells #[.string ⟨#[83]⟩, .slice (some ⟨wa.heap.size + 1 + 1 + 1, 0, none⟩) 1 1, .string ⟨#[84]⟩, .slice (some ⟨wa.heap.size + 1 + 1 + 1 + 1 + 1 + 1, 0, none⟩) 1 1] 31)
  a : RA wa b16 vA X
  i : RI wa b8 b4 vI X
structure W4 (wa : World) (b16 b8 b4 b2 : Bool) (vS vI vA : Value) (X : World) : Prop where
  o : WO wa vS (.slice (some ⟨wa.heap.size + 1 + 1 + 1 + 1 + 1 + 1 + 1, 0, none⟩) 2 2) vI vA X
  n7 : X.heap[wa.heap.size + 1 + 1 + 1 + 1 + 1 + 1 + 1]? = some (.cells #[.string ⟨#[83]⟩, .slice (some ⟨wa.heap.size + 1 + 1 + 1, 0, none⟩) 1 1, .string ⟨#[84]⟩, .slice (some ⟨wa.heap.size + 1 + 1 + 1 + 1 + 1 + 1, 0, none⟩) 1 1] 31)
  a : RA wa b16 vA X
  i : RI wa b8 b4 vI X
  s : RS wa b2 vS X
theorem W1.new (wa : World) : W1 wa false 1 (.slice (some ⟨wa.heap.size + 1 + 1, 0, none⟩) 1 1) (blks wa [.cells #[.string ⟨#[83]⟩] 9, .cells #[.int .i64 0, .string ⟨#[84]⟩, .int .i64 0, .int .i64 0] 33, .cells #[.bool false, .slice (some ⟨wa.heap.size + 1, 0, none⟩) 1 1] 36, .cells #[.slice (some ⟨wa.heap.size + 1 + 1, 0, none⟩) 1 1] 37, .cells #[.int .i64 2, .string ⟨#[]⟩, .int .i64 1, .int .i64 2] 33, .cells #[.bool false, .slice (some ⟨wa.heap.size + 1 + 1 + 1 + 1, 0, none⟩) 1 1] 36, .cells #[.slice (some ⟨wa.heap.size + 1 + 1 + 1 + 1 + 1, 0, none⟩) 1 1] 37, .cells #[.string ⟨#[83]⟩, .slice (some ⟨wa.heap.size + 1 + 1 + 1, 0, none⟩) 1 1, .string ⟨#[84]⟩, .slice (some ⟨wa.heap.size + 1 + 1 + 1 + 1 + 1 + 1, 0, none⟩) 1 1] 31, .cells #[.slice (some ⟨wa.heap.size, 0, none⟩) 1 1, .slice (some ⟨wa.heap.size + 1 + 1 + 1 + 1 + 1 + 1 + 1, 0, none⟩) 2 2] 27]) := by
  have h := fun n o hk => blks_at [.cells #[.string ⟨#[83]⟩] 9, .cells #[.int .i64 0, .string ⟨#[84]⟩, .int .i64 0, .int .i64 0] 33, .cells #[.bool false, .slice (some ⟨wa.heap.size + 1, 0, none⟩) 1 1] 36, .cells #[.slice (some ⟨wa.heap.size + 1 + 1, 0, none⟩) 1 1] 37, .cells #[.int .i64 2, .string ⟨#[]⟩, .int .i64 1, .int .i64 2] 33, .cells #[.bool false, .slice (some ⟨wa.heap.size + 1 + 1 + 1 + 1, 0, none⟩) 1 1] 36, .cells #[.slice (some ⟨wa.heap.size + 1 + 1 + 1 + 1 + 1, 0, none⟩) 1 1] 37, .cells #[.string ⟨#[83]⟩, .slice (some ⟨wa.heap.size + 1 + 1 + 1, 0, none⟩) 1 1, .string ⟨#[84]⟩, .slice (some ⟨wa.heap.size + 1 + 1 + 1 + 1 + 1 + 1, 0, none⟩) 1 1] 31, .cells #[.slice (some ⟨wa.heap.size, 0, none⟩) 1 1, .slice (some ⟨wa.heap.size + 1 + 1 + 1 + 1 + 1 + 1 + 1, 0, none⟩) 2 2] 27] wa n o hk
  exact ⟨⟨h 1 _ rfl, h 2 _ rfl, h 3 _ rfl, h 5 _ rfl, h 6 _ rfl, h 8 _ rfl, blks_below _ wa⟩, h 0 _ rfl, h 4 _ rfl, h 7 _ rfl, rfl⟩
theorem RA.keep {wa X X' : World} {b : Bool} {vA : Value} {T : Nat → Prop} (h : RA wa b vA X) (hk : Kp T X X') (hT : ∀ b, WG wa b → ¬ T b) : RA wa b vA X' := by
  unfold RA at *
  split
  · rename_i e; rw [if_pos e] at h; exact h.keep hk hT
  · rename_i e; rw [if_neg e] at h; exact h
theorem W1.t16 {wa X : World} {lo : Int} {vA : Value} (h : W1 wa false lo vA X) : W1 wa true lo (.slice (some ⟨X.heap.size, 0, none⟩) 9 9) ((X.alloc (.cells mk9 36)).setCell ⟨wa.heap.size + 1 + 1 + 1, 0, none⟩ (.slice (some ⟨X.heap.size, 0, none⟩) 9 9)) := by
  have hl8 := block_lt h.o.n8
  have hk : Kp (fun b => b = wa.heap.size + 1 + 1 + 1) X ((X.alloc (.cells mk9 36)).setCell ⟨wa.heap.size + 1 + 1 + 1, 0, none⟩ (.slice (some ⟨X.heap.size, 0, none⟩) 9 9)) :=
    ⟨by simp [World.setCell], fun b hb hT => (Go.Deep.blk_setCell_other _ ⟨wa.heap.size + 1 + 1 + 1, 0, none⟩ _ b hT).trans (Go.Deep.blk_alloc_lt _ _ _ hb)⟩
  have hn3 : (X.alloc (.cells mk9 36)).heap[wa.heap.size + 1 + 1 + 1]? = some (.cells #[vA] 37) := (Go.Deep.blk_alloc_lt _ _ _ (by omega)).trans h.o.n3
  refine ⟨⟨hk.at h.o.n1 (by omega), hk.at h.o.n2 (by omega), heap_setCell_same _ _ 0 _ _ _ hn3, hk.at h.o.n5 (by omega), hk.at h.o.n6 (by omega), hk.at h.o.n8 (by omega), ?_⟩, hk.at h.n0 (by omega), hk.at h.n4 (by omega), hk.at h.n7 (by omega), ?_⟩
  · exact (h.o.bl.alloc h.o.bl.size _).setCell (p := ⟨wa.heap.size + 1 + 1 + 1, 0, none⟩) (by show _ ≤ wa.heap.size + 1 + 1 + 1; omega) _
  · unfold RA
    rw [if_pos rfl]
    refine RwW.lit ((Go.Deep.blk_setCell_other _ ⟨wa.heap.size + 1 + 1 + 1, 0, none⟩ _ _ (by show X.heap.size ≠ wa.heap.size + 1 + 1 + 1; omega)).trans (heap_alloc_new X _)) (by unfold maxLen; omega) (by unfold WG; omega)
theorem W1.t8 {wa X : World} {b16 : Bool} {lo : Int} {vA : Value} (h : W1 wa b16 lo vA X) : W1 wa b16 3 vA (X.setCell ⟨wa.heap.size + 1 + 1 + 1 + 1, 2, none⟩ (.int .i64 3)) := by
  have hk : Kp (fun b => b = wa.heap.size + 1 + 1 + 1 + 1) X (X.setCell ⟨wa.heap.size + 1 + 1 + 1 + 1, 2, none⟩ (.int .i64 3)) := ⟨by simp [World.setCell], fun b hb hT => Go.Deep.blk_setCell_other _ ⟨wa.heap.size + 1 + 1 + 1 + 1, 2, none⟩ _ b hT⟩
  refine ⟨⟨hk.at h.o.n1 (by omega), hk.at h.o.n2 (by omega), hk.at h.o.n3 (by omega), hk.at h.o.n5 (by omega), hk.at h.o.n6 (by omega), hk.at h.o.n8 (by omega), ?_⟩, hk.at h.n0 (by omega), heap_setCell_same _ _ 2 _ _ _ h.n4, hk.at h.n7 (by omega), h.a.keep hk (fun b hb => by unfold WG at hb; omega)⟩
  exact h.o.bl.setCell (p := ⟨wa.heap.size + 1 + 1 + 1 + 1, 2, none⟩) (by show _ ≤ wa.heap.size + 1 + 1 + 1 + 1; omega) _
theorem W1.to3 {wa X : World} {b16 b8 : Bool} {vA : Value} (h : W1 wa b16 (loW b8) vA X) : W3 wa b16 b8 false (.slice (some ⟨wa.heap.size + 1 + 1 + 1 + 1, 0, none⟩) 1 1) vA X :=
  ⟨h.o, h.n0, h.n7, h.a, RwW.lit h.n4 (by unfold maxLen; omega) (Or.inl rfl)⟩
theorem kp_grow {X w2 : World} {o : Obj} {r s j : Nat} {v : Value} (hg : (X.alloc o).grownBy w2 (some r)) : Kp (fun b => b = r ∨ b = s) X (w2.setCell ⟨s, j, none⟩ v) := by
  have hsz := hg.size
  refine ⟨by simp [World.setCell] at *; omega, fun b hb hT => ?_⟩
  have h1 : b ≠ r := fun e => hT (Or.inl e)
  have h2 : b ≠ s := fun e => hT (Or.inr e)
  exact (Go.Deep.blk_setCell_other _ ⟨s, j, none⟩ _ b h2).trans ((hg.block b (by simp; omega) (fun e => h1 (by injection e))).trans (Go.Deep.blk_alloc_lt _ _ _ hb))
theorem row_set {w2 : World} {base t size n s j : Nat} {v u : Value} {cs : List Value} {G : Nat → Prop} (h : w2.ownsRow base t size v n cs) (hp : 0 < n) (hG : ∀ g, v.ownBlock = some g → G g) (hs : ¬ G s) : RwW (w2.setCell ⟨s, j, none⟩ u) v t n cs G := by
  obtain ⟨g, cap, cur, h1, h2, h3, h4, h5⟩ := RwW.own h hp hG
  exact ⟨g, cap, cur, h1, (Go.Deep.blk_setCell_other _ ⟨s, j, none⟩ _ g (fun e => hs (by rw [← show g = s from e]; exact h5))).trans h2, h3, h4, h5⟩
theorem W1.t4 {wa X w2 : World} {b16 b8 : Bool} {vA : Value} {gg cap base : Nat} (h : W1 wa b16 (loW b8) vA X) (hg : (X.alloc (.cells #[.int .i64 0, .string ⟨#[85]⟩, .int .i64 0, .int .i64 0] 33)).grownBy w2 (some (wa.heap.size + 1 + 1 + 1 + 1))) (hb : wa.heap.size ≤ base)
    (hown : w2.ownsRow base 33 4 (.slice (some ⟨gg, 0, none⟩) 2 cap) 2 ([.int .i64 2, .string ⟨#[]⟩, .int .i64 (loW b8), .int .i64 2] ++ [.int .i64 0, .string ⟨#[85]⟩, .int .i64 0, .int .i64 0])) (hat : some (wa.heap.size + 1 + 1 + 1 + 1) = some gg ∨ gg = X.heap.size + 1) :
    W3 wa b16 b8 true (.slice (some ⟨gg, 0, none⟩) 2 cap) vA (w2.setCell ⟨wa.heap.size + 1 + 1 + 1 + 1 + 1, 1, none⟩ (.slice (some ⟨gg, 0, none⟩) 2 cap)) := by
  have hl8 := block_lt h.o.n8
  have hk : Kp _ X (w2.setCell ⟨wa.heap.size + 1 + 1 + 1 + 1 + 1, 1, none⟩ (.slice (some ⟨gg, 0, none⟩) 2 cap)) := kp_grow hg
  have hn5 : w2.heap[wa.heap.size + 1 + 1 + 1 + 1 + 1]? = some (.cells #[.bool false, .slice (some ⟨wa.heap.size + 1 + 1 + 1 + 1, 0, none⟩) 1 1] 36) := (hg.block _ (by simp; omega) (fun e => by injection e with e; omega)).trans ((Go.Deep.blk_alloc_lt _ _ _ (by omega)).trans h.o.n5)
  have hgg : gg = wa.heap.size + 1 + 1 + 1 + 1 ∨ gg = X.heap.size + 1 := hat.elim (fun e => Or.inl (by injection e with e; exact e.symm)) Or.inr
  refine ⟨⟨hk.at h.o.n1 (by omega), hk.at h.o.n2 (by omega), hk.at h.o.n3 (by omega), heap_setCell_same _ _ 1 _ _ _ hn5, hk.at h.o.n6 (by omega), hk.at h.o.n8 (by omega), ?_⟩, hk.at h.n0 (by omega), hk.at h.n7 (by omega), h.a.keep hk (fun b hb => by unfold WG at hb; omega), ?_⟩
  · exact ((h.o.bl.alloc h.o.bl.size _).grown hg (by simp; have := h.o.bl.size; omega) (fun k hk => by injection hk with hk; omega)).setCell (p := ⟨wa.heap.size + 1 + 1 + 1 + 1 + 1, 1, none⟩) (by show _ ≤ wa.heap.size + 1 + 1 + 1 + 1 + 1; omega) _
  · exact row_set hown (Nat.succ_pos _) (fun g hg' => by have e : gg = g := Option.some.inj hg'; subst e; unfold WG4; omega) (by unfold WG4; omega)
theorem W3.to4 {wa X : World} {b16 b8 b4 : Bool} {vI vA : Value} (h : W3 wa b16 b8 b4 vI vA X) : W4 wa b16 b8 b4 false (.slice (some ⟨wa.heap.size, 0, none⟩) 1 1) vI vA X :=
  ⟨h.o, h.n7, h.a, h.i, RwW.lit h.n0 (by unfold maxLen; omega) (Or.inl rfl)⟩
theorem W3.t2 {wa X w2 : World} {b16 b8 b4 : Bool} {vI vA : Value} {gg cap base : Nat} (h : W3 wa b16 b8 b4 vI vA X) (hg : (X.alloc (.cells #[.string ⟨#[83]⟩] 9)).grownBy w2 (some wa.heap.size)) (hb : wa.heap.size ≤ base)
    (hown : w2.ownsRow base 9 1 (.slice (some ⟨gg, 0, none⟩) 2 cap) 2 ([.string ⟨#[83]⟩] ++ [.string ⟨#[83]⟩])) (hat : some wa.heap.size = some gg ∨ gg = X.heap.size + 1) :
    W4 wa b16 b8 b4 true (.slice (some ⟨gg, 0, none⟩) 2 cap) vI vA (w2.setCell ⟨wa.heap.size + 1 + 1 + 1 + 1 + 1 + 1 + 1 + 1, 0, none⟩ (.slice (some ⟨gg, 0, none⟩) 2 cap)) := by
  have hl8 := block_lt h.o.n8
  have hk : Kp _ X (w2.setCell ⟨wa.heap.size + 1 + 1 + 1 + 1 + 1 + 1 + 1 + 1, 0, none⟩ (.slice (some ⟨gg, 0, none⟩) 2 cap)) := kp_grow hg
  have hn8 : w2.heap[wa.heap.size + 1 + 1 + 1 + 1 + 1 + 1 + 1 + 1]? = some (.cells #[.slice (some ⟨wa.heap.size, 0, none⟩) 1 1, .slice (some ⟨wa.heap.size + 1 + 1 + 1 + 1 + 1 + 1 + 1, 0, none⟩) 2 2] 27) := (hg.block _ (by simp; omega) (fun e => by injection e with e; omega)).trans ((Go.Deep.blk_alloc_lt _ _ _ (by omega)).trans h.o.n8)
  have hgg : gg = wa.heap.size ∨ gg = X.heap.size + 1 := hat.elim (fun e => Or.inl (by injection e with e; exact e.symm)) Or.inr
  refine ⟨⟨hk.at h.o.n1 (by omega), hk.at h.o.n2 (by omega), hk.at h.o.n3 (by omega), hk.at h.o.n5 (by omega), hk.at h.o.n6 (by omega), heap_setCell_same _ _ 0 _ _ _ hn8, ?_⟩, hk.at h.n7 (by omega), h.a.keep hk (fun b hb => by unfold WG at hb; omega), RwW.keep h.i hk (fun b hb => by unfold WG4 at hb; omega), ?_⟩
  · exact ((h.o.bl.alloc h.o.bl.size _).grown hg (by simp; have := h.o.bl.size; omega) (fun k hk => by injection hk with hk; omega)).setCell (p := ⟨wa.heap.size + 1 + 1 + 1 + 1 + 1 + 1 + 1 + 1, 0, none⟩) (by show _ ≤ wa.heap.size + 1 + 1 + 1 + 1 + 1 + 1 + 1 + 1; omega) _
  · exact row_set hown (Nat.succ_pos _) (fun g hg' => by have e : gg = g := Option.some.inj hg'; subst e; unfold WG0; omega) (by unfold WG0; omega)
theorem W4.to5 {wa X : World} {b16 b8 b4 b2 : Bool} {vS vI vA : Value} (h : W4 wa b16 b8 b4 b2 vS vI vA X) : WA wa b16 b8 b4 b2 false vS (.slice (some ⟨wa.heap.size + 1 + 1 + 1 + 1 + 1 + 1 + 1, 0, none⟩) 2 2) vI vA X :=
  ⟨h.o, h.a, h.i, h.s, RwW.lit h.n7 (by unfold maxLen; omega) (Or.inl rfl)⟩
theorem W4.t1 {wa X w2 : World} {b16 b8 b4 b2 : Bool} {vS vI vA : Value} {gg cap base : Nat} (h : W4 wa b16 b8 b4 b2 vS vI vA X) (hg : (X.alloc (.cells #[.string ⟨#[84]⟩, .slice none 0 0, .string ⟨#[83]⟩, .slice none 0 0] 31)).grownBy w2 (some (wa.heap.size + 1 + 1 + 1 + 1 + 1 + 1 + 1))) (hb : wa.heap.size ≤ base)
    (hown : w2.ownsRow base 31 2 (.slice (some ⟨gg, 0, none⟩) 4 cap) 4 ([.string ⟨#[83]⟩, .slice (some ⟨wa.heap.size + 1 + 1 + 1, 0, none⟩) 1 1, .string ⟨#[84]⟩, .slice (some ⟨wa.heap.size + 1 + 1 + 1 + 1 + 1 + 1, 0, none⟩) 1 1] ++ [.string ⟨#[84]⟩, .slice none 0 0, .string ⟨#[83]⟩, .slice none 0 0])) (hat : some (wa.heap.size + 1 + 1 + 1 + 1 + 1 + 1 + 1) = some gg ∨ gg = X.heap.size + 1) :
    WA wa b16 b8 b4 b2 true vS (.slice (some ⟨gg, 0, none⟩) 4 cap) vI vA (w2.setCell ⟨wa.heap.size + 1 + 1 + 1 + 1 + 1 + 1 + 1 + 1, 1, none⟩ (.slice (some ⟨gg, 0, none⟩) 4 cap)) := by
  have hl8 := block_lt h.o.n8
  have hk : Kp _ X (w2.setCell ⟨wa.heap.size + 1 + 1 + 1 + 1 + 1 + 1 + 1 + 1, 1, none⟩ (.slice (some ⟨gg, 0, none⟩) 4 cap)) := kp_grow hg
  have hn8 : w2.heap[wa.heap.size + 1 + 1 + 1 + 1 + 1 + 1 + 1 + 1]? = some (.cells #[vS, .slice (some ⟨wa.heap.size + 1 + 1 + 1 + 1 + 1 + 1 + 1, 0, none⟩) 2 2] 27) := (hg.block _ (by simp; omega) (fun e => by injection e with e; omega)).trans ((Go.Deep.blk_alloc_lt _ _ _ (by omega)).trans h.o.n8)
  have hgg : gg = wa.heap.size + 1 + 1 + 1 + 1 + 1 + 1 + 1 ∨ gg = X.heap.size + 1 := hat.elim (fun e => Or.inl (by injection e with e; exact e.symm)) Or.inr
  refine ⟨⟨hk.at h.o.n1 (by omega), hk.at h.o.n2 (by omega), hk.at h.o.n3 (by omega), hk.at h.o.n5 (by omega), hk.at h.o.n6 (by omega), heap_setCell_same _ _ 1 _ _ _ hn8, ?_⟩, h.a.keep hk (fun b hb => by unfold WG at hb; omega), RwW.keep h.i hk (fun b hb => by unfold WG4 at hb; omega), RwW.keep h.s hk (fun b hb => by unfold WG0 at hb; omega), ?_⟩
  · exact ((h.o.bl.alloc h.o.bl.size _).grown hg (by simp; have := h.o.bl.size; omega) (fun k hk => by injection hk with hk; omega)).setCell (p := ⟨wa.heap.size + 1 + 1 + 1 + 1 + 1 + 1 + 1 + 1, 1, none⟩) (by show _ ≤ wa.heap.size + 1 + 1 + 1 + 1 + 1 + 1 + 1 + 1; omega) _
  · exact row_set hown (Nat.succ_pos _) (fun g hg' => by have e : gg = g := Option.some.inj hg'; subst e; unfold WG7; omega) (by unfold WG7; omega)
end Go.Proofs.Yteafdfalgeeheaa
