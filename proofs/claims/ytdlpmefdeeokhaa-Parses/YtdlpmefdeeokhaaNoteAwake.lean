/- awake of layer 3 answers true. -/
import Derived.Test.YtdlpmefdeeokhaaNoteParse
import Derived.Test.YtdlpmefdeeokhaaNoteSame
namespace Go.Proofs.Ytdlpmefdeeokhaa
set_option linter.unusedVariables false
open Go.ChangeShapes Go.WideShapes Go.ChangeAt Go.RowKit

/-- Blocks laid one behind the other. -/
def allocs (w : World) : List Obj → World
  | [] => w
  | o :: l => allocs (w.alloc o) l
theorem allocs_below : ∀ (l : List Obj) (w : World), Below w.heap.size w (allocs w l)
  | [], w => Below.refl _ _
  | o :: l, w => (bel1 w o).trans ((allocs_below l (w.alloc o)).mono (le_alloc _ _))
theorem allocs_at : ∀ (l : List Obj) (w : World) (k : Nat) (o : Obj), l[k]? = some o → (allocs w l).heap[w.heap.size + k]? = some o
  | [], w, k, o, h => by simp at h
  | a :: l, w, 0, o, h => by
    obtain rfl : a = o := by simpa using h
    exact ((allocs_below l (w.alloc a)).block _ (by simp)).trans (heap_alloc_new w a)
  | a :: l, w, k + 1, o, h => by
    have := allocs_at l (w.alloc a) k o (by simpa using h)
    rw [show (w.alloc a).heap.size + k = w.heap.size + (k + 1) by simp; omega] at this
    exact this
/-- A row just laid. -/
theorem Reads.laid {w : World} {g n c : Nat} {arr : Array Value} {t : TypeId} (h : w.heap[g]? = some (.cells arr t)) (hn : n ≤ maxLen ∧ n ≤ c) {cs : List Value} (hcs : cs = arr.toList) : Reads w Any (.slice (some ⟨g, 0, none⟩) n c) n cs := by
  subst hcs
  have hg : g < w.heap.size := by
    by_cases hh : g < w.heap.size
    · exact hh
    · rw [Array.getElem?_eq_none (by omega)] at h; cases h
  refine ⟨_, _, rfl, hn, fun _ => ⟨g, 0, rfl, trivial, hg, fun j c hj => ?_, fun j _ => by simp [World.frozen?, h]⟩⟩
  simp [World.cell?, h]
  simpa using hj
theorem RawIs.any {w w' : World} {F : Nat → Prop} {v1 v2 : Value} {r : Rw} (h : RawIs w F v1 v2 r) (hb : Below w.heap.size w w') : RawIs w' F v1 v2 r := ⟨h.1.any hb, h.2.any hb⟩

theorem CjsIn.nil (w : World) (F : Nat → Prop) : CjsIn w F [] [] := ⟨rfl, fun k c u e => by simp at e⟩
theorem CjsIn.snoc {w : World} {F : Nat → Prop} {l : List Cj} {vs : List Value} {c : Cj} {v : Value} (h : CjsIn w F l vs) (hi : IsIts w F v c.items) : CjsIn w F (l ++ [c]) (vs ++ [v]) := in_snoc (P := fun (c : Cj) (u : Value) => IsIts w F u c.items) h.1 h.2 hi
theorem AltsIn.nil (w : World) (F : Nat → Prop) : AltsIn w F [] [] := ⟨rfl, fun k c u e => by simp at e⟩
theorem AltsIn.snoc {w : World} {F : Nat → Prop} {l : List (List Cj)} {vs : List Value} {c : List Cj} {v : Value} (h : AltsIn w F l vs) (hi : IsCjs w F v c) : AltsIn w F (l ++ [c]) (vs ++ [v]) := in_snoc (P := fun (c : List Cj) (u : Value) => IsCjs w F u c) h.1 h.2 hi
theorem DefsIn.nil (w : World) (F : Nat → Prop) : DefsIn w F [] [] := ⟨rfl, fun k c u e => by simp at e⟩
theorem DefsIn.snoc {w : World} {F : Nat → Prop} {l : List Df} {vs : List Value} {c : Df} {v : Value} (h : DefsIn w F l vs) (hi : IsAlts w F v c.alts) : DefsIn w F (l ++ [c]) (vs ++ [v]) := in_snoc (P := fun (c : Df) (u : Value) => IsAlts w F u c.alts) h.1 h.2 hi
/-- A variable of two cells, behind a call. -/
theorem var2 {w w' : World} {a b : Value} {t : TypeId} (hb : Below (w.alloc (.cells #[a, b] t)).heap.size (w.alloc (.cells #[a, b] t)) w') : w'.cell? ⟨w.heap.size, 0, none⟩ = some a ∧ w'.cell? ⟨w.heap.size, 1, none⟩ = some b ∧ w.heap.size < w'.heap.size := by
  have hz : (w.alloc (.cells #[a, b] t)).heap.size = w.heap.size + 1 := by simp
  have hs := hb.size
  rw [hz] at hs
  exact ⟨(hb.cell (p := ⟨_, _, none⟩) (by rw [hz]; exact Nat.lt_succ_self _)).trans (World.cell?_alloc_at _ _ _ _ rfl), (hb.cell (p := ⟨_, _, none⟩) (by rw [hz]; exact Nat.lt_succ_self _)).trans (World.cell?_alloc_at _ _ _ _ rfl), by omega⟩
theorem old2 {w w' : World} {o : Obj} {g j : Nat} {v : Value} (hb : Below (w.alloc o).heap.size (w.alloc o) w') (hg : g < w.heap.size) (h : w.cell? ⟨g, j, none⟩ = some v) : w'.cell? ⟨g, j, none⟩ = some v :=
  (hb.cell (p := ⟨g, j, none⟩) (Nat.lt_of_lt_of_le hg (le_alloc _ _))).trans ((World.cell?_alloc_past _ _ _ hg).trans h)

/-- A call of Parse whose answer is known: of declarations. -/
theorem parse_ok {s : ByteArray} {r : Rw} (h : parseT s = .ok r) (hs : s.size ≤ maxLen) (w : World) :
    Calls Try.prog 4 #[.string s] w fun e w' => ∃ p1 c1 p2 c2, ∃ F : Nat → Prop, e = .returned (.tuple #[.agg #[.slice p1 r.starts.length c1, .slice p2 r.defs.length c2], .int .i64 0, .int .i64 0]) ∧ (∀ b, F b → w.heap.size ≤ b ∧ b < w'.heap.size) ∧ RawIs w' F (.slice p1 r.starts.length c1) (.slice p2 r.defs.length c2) r ∧ Below w.heap.size w w' := by
  refine (parse_any s w hs).mono ?_
  rintro e w1 ⟨v1, v2, F, rfl, hF, hR, hb⟩
  rw [h] at hR ⊢
  obtain ⟨p1, c1, e1, _⟩ := id hR.1
  obtain ⟨vs, ⟨p2, c2, e2, _⟩, _⟩ := id hR.2
  subst e1 e2
  exact ⟨_, _, _, _, F, rfl, hF, hR, hb⟩
/-- Of an error. -/
theorem parse_err {s : ByteArray} {p k : Nat} (h : parseT s = .error (p, k)) (hs : s.size ≤ maxLen) (w : World) :
    Calls Try.prog 4 #[.string s] w fun e w' => ∃ p1 c1 p2 c2, e = .returned (.tuple #[.agg #[.slice p1 0 c1, .slice p2 0 c2], .int .i64 (p : Int), .int .i64 (k : Int)]) ∧ Below w.heap.size w w' := by
  refine (parse_any s w hs).mono ?_
  rintro e w1 ⟨v1, v2, F, rfl, hF, hR, hb⟩
  rw [h] at hR ⊢
  obtain ⟨p1, c1, e1, _⟩ := id hR.1
  obtain ⟨vs, ⟨p2, c2, e2, _⟩, _⟩ := id hR.2
  subst e1 e2
  exact ⟨_, _, _, _, rfl, hb⟩

def awT : ByteArray := ⟨#[115, 116, 97, 114, 116, 32, 83, 59, 32, 83, 32, 61, 32, 65, 32, 38, 32, 126, 39, 97, 39, 32, 34, 98, 34, 32, 124, 32, 34, 34, 59]⟩
def awR : Rw := ⟨[⟨#[83]⟩], [⟨⟨#[83]⟩, [[⟨false, [⟨0, ⟨#[65]⟩, 0, 0⟩]⟩, ⟨true, [⟨2, ⟨#[]⟩, 97, 97⟩, ⟨1, ⟨#[98]⟩, 0, 0⟩]⟩], [⟨false, [⟨1, ⟨#[]⟩, 0, 0⟩]⟩]]⟩]⟩
theorem awP1 : parseT awT = .ok awR := by kernel_rfl
theorem awP2 : parseT ⟨#[83, 32, 61, 32, 59]⟩ = .error (4, 300) := by kernel_rfl
theorem awP3 : parseT ⟨#[83, 32, 61, 32, 65]⟩ = .error (5, 300) := by kernel_rfl
def awO (n : Nat) : List Obj :=
  [.cells #[.string ⟨#[83]⟩] 9, .cells #[.int .i64 0, .string ⟨#[65]⟩, .int .i64 0, .int .i64 0] 63, .cells #[.int .i64 2, .string ⟨#[]⟩, .int .i64 97, .int .i64 97, .int .i64 1, .string ⟨#[98]⟩, .int .i64 0, .int .i64 0] 63,
   .cells #[.bool false, .slice (some ⟨n + 1, 0, none⟩) 1 1, .bool true, .slice (some ⟨n + 1 + 1, 0, none⟩) 2 2] 45, .cells #[.int .i64 1, .string ⟨#[]⟩, .int .i64 0, .int .i64 0] 63, .cells #[.bool false, .slice (some ⟨n + 1 + 1 + 1 + 1, 0, none⟩) 1 1] 45,
   .cells #[.slice (some ⟨n + 1 + 1 + 1, 0, none⟩) 2 2, .slice (some ⟨n + 1 + 1 + 1 + 1 + 1, 0, none⟩) 1 1] 42, .cells #[.string ⟨#[83]⟩, .slice (some ⟨n + 1 + 1 + 1 + 1 + 1 + 1, 0, none⟩) 2 2] 41]
theorem one_le : 1 ≤ maxLen ∧ 1 ≤ 1 := by unfold maxLen; omega
theorem two_le : 2 ≤ maxLen ∧ 2 ≤ 2 := by unfold maxLen; omega
theorem aw_is (w : World) (n : Nat) (hn : w.heap.size = n) : RawIs (allocs w (awO n)) Any (.slice (some ⟨n, 0, none⟩) 1 1) (.slice (some ⟨n + 7, 0, none⟩) 1 1) awR := by
  subst hn
  have h := fun k o => allocs_at (awO w.heap.size) w k o
  have i1 : IsIts (allocs w (awO w.heap.size)) Any (.slice (some ⟨w.heap.size + 1, 0, none⟩) 1 1) [⟨0, ⟨#[65]⟩, 0, 0⟩] := Reads.laid (h 1 _ rfl) one_le rfl
  have i2 : IsIts (allocs w (awO w.heap.size)) Any (.slice (some ⟨w.heap.size + 2, 0, none⟩) 2 2) [⟨2, ⟨#[]⟩, 97, 97⟩, ⟨1, ⟨#[98]⟩, 0, 0⟩] := Reads.laid (h 2 _ rfl) two_le rfl
  have i3 : IsIts (allocs w (awO w.heap.size)) Any (.slice (some ⟨w.heap.size + 4, 0, none⟩) 1 1) [⟨1, ⟨#[]⟩, 0, 0⟩] := Reads.laid (h 4 _ rfl) one_le rfl
  have c1 : IsCjs (allocs w (awO w.heap.size)) Any (.slice (some ⟨w.heap.size + 3, 0, none⟩) 2 2) [⟨false, [⟨0, ⟨#[65]⟩, 0, 0⟩]⟩, ⟨true, [⟨2, ⟨#[]⟩, 97, 97⟩, ⟨1, ⟨#[98]⟩, 0, 0⟩]⟩] :=
    ⟨[_, _], Reads.laid (h 3 _ rfl) two_le rfl, ((CjsIn.nil _ _).snoc (c := ⟨false, [⟨0, ⟨#[65]⟩, 0, 0⟩]⟩) i1).snoc (c := ⟨true, [⟨2, ⟨#[]⟩, 97, 97⟩, ⟨1, ⟨#[98]⟩, 0, 0⟩]⟩) i2⟩
  have c2 : IsCjs (allocs w (awO w.heap.size)) Any (.slice (some ⟨w.heap.size + 5, 0, none⟩) 1 1) [⟨false, [⟨1, ⟨#[]⟩, 0, 0⟩]⟩] :=
    ⟨[_], Reads.laid (h 5 _ rfl) one_le rfl, (CjsIn.nil _ _).snoc (c := ⟨false, [⟨1, ⟨#[]⟩, 0, 0⟩]⟩) i3⟩
  have a1 : IsAlts (allocs w (awO w.heap.size)) Any (.slice (some ⟨w.heap.size + 6, 0, none⟩) 2 2) [[⟨false, [⟨0, ⟨#[65]⟩, 0, 0⟩]⟩, ⟨true, [⟨2, ⟨#[]⟩, 97, 97⟩, ⟨1, ⟨#[98]⟩, 0, 0⟩]⟩], [⟨false, [⟨1, ⟨#[]⟩, 0, 0⟩]⟩]] :=
    ⟨[_, _], Reads.laid (h 6 _ rfl) two_le rfl, ((AltsIn.nil _ _).snoc c1).snoc c2⟩
  exact ⟨Reads.laid (h 0 _ rfl) one_le rfl, [_], Reads.laid (h 7 _ rfl) one_le rfl, (DefsIn.nil _ _).snoc (c := ⟨⟨#[83]⟩, _⟩) a1⟩

set_option maxHeartbeats 8000000 in
set_option maxRecDepth 100000 in
theorem awake3_any (w : World) : Calls Try.prog 9 #[] w fun e w' => e = .returned (.bool true) ∧ Below w.heap.size w w' := by
  have K1 := fun w => parse_ok awP1 (by decide) w
  have K2 := fun w => parse_err awP2 (by decide) w
  have K3 := fun w => parse_err awP3 (by decide) w
  have l1 : awR.starts.length = 1 := rfl
  have l2 : awR.defs.length = 1 := rfl
  simp only [l1, l2, awT] at K1
  clear l1 l2
  go_enter Try.func9, Try.ntmps9
  go_wp2_with (first | (go_at_call 4; first | (have hh := B3; fail) | (have hh := B2; clear hh; refine (K3 _).mono ?_; rintro e w3 ⟨p3, c3, p4, c4, rfl, b3⟩; have B3 : Hid (Below w.heap.size w w3) := (B2.out.alloc B2.out.size _).trans (b3.mono (Nat.le_trans B2.out.size (le_alloc _ _))); have Q3 : Hid (RawIs w3 F (.slice p1 1 c1) (.slice p2 1 c2) awR) := (Q2.out.any (bel1 _ _)).any b3; have x0 := old2 b3 hv y0; have x1 := old2 b3 hv y1; have hw3 : w1.heap.size < w3.heap.size := Nat.lt_of_lt_of_le hv (Nat.le_trans (le_alloc _ _) b3.size); have he0 : w1.heap.size ≤ w3.heap.size := Nat.le_of_lt hw3; have hk1 : w1.heap.size < w3.heap.size + 1 := Nat.lt_succ_of_lt hw3; have he1 : w1.heap.size ≤ w3.heap.size + 1 := Nat.le_of_lt hk1; have hk2 : w1.heap.size < w3.heap.size + 1 + 1 := Nat.lt_succ_of_lt hk1; have he2 : w1.heap.size ≤ w3.heap.size + 1 + 1 := Nat.le_of_lt hk2; have hk3 : w1.heap.size < w3.heap.size + 1 + 1 + 1 := Nat.lt_succ_of_lt hk2; have he3 : w1.heap.size ≤ w3.heap.size + 1 + 1 + 1 := Nat.le_of_lt hk3; have hk4 : w1.heap.size < w3.heap.size + 1 + 1 + 1 + 1 := Nat.lt_succ_of_lt hk3; have he4 : w1.heap.size ≤ w3.heap.size + 1 + 1 + 1 + 1 := Nat.le_of_lt hk4; have hk5 : w1.heap.size < w3.heap.size + 1 + 1 + 1 + 1 + 1 := Nat.lt_succ_of_lt hk4; have he5 : w1.heap.size ≤ w3.heap.size + 1 + 1 + 1 + 1 + 1 := Nat.le_of_lt hk5; have hk6 : w1.heap.size < w3.heap.size + 1 + 1 + 1 + 1 + 1 + 1 := Nat.lt_succ_of_lt hk5; have he6 : w1.heap.size ≤ w3.heap.size + 1 + 1 + 1 + 1 + 1 + 1 := Nat.le_of_lt hk6; have hk7 : w1.heap.size < w3.heap.size + 1 + 1 + 1 + 1 + 1 + 1 + 1 := Nat.lt_succ_of_lt hk6; have he7 : w1.heap.size ≤ w3.heap.size + 1 + 1 + 1 + 1 + 1 + 1 + 1 := Nat.le_of_lt hk7; have hk8 : w1.heap.size < w3.heap.size + 1 + 1 + 1 + 1 + 1 + 1 + 1 + 1 := Nat.lt_succ_of_lt hk7; have he8 : w1.heap.size ≤ w3.heap.size + 1 + 1 + 1 + 1 + 1 + 1 + 1 + 1 := Nat.le_of_lt hk8; have hk9 : w1.heap.size < w3.heap.size + 1 + 1 + 1 + 1 + 1 + 1 + 1 + 1 + 1 := Nat.lt_succ_of_lt hk8; have he9 : w1.heap.size ≤ w3.heap.size + 1 + 1 + 1 + 1 + 1 + 1 + 1 + 1 + 1 := Nat.le_of_lt hk9; have hk10 : w1.heap.size < w3.heap.size + 1 + 1 + 1 + 1 + 1 + 1 + 1 + 1 + 1 + 1 := Nat.lt_succ_of_lt hk9; have he10 : w1.heap.size ≤ w3.heap.size + 1 + 1 + 1 + 1 + 1 + 1 + 1 + 1 + 1 + 1 := Nat.le_of_lt hk10; clear b3 y0 y1 hv) | (have hh := B1; clear hh; refine (K2 _).mono ?_; rintro e w2 ⟨p3, c3, p4, c4, rfl, b2⟩; have B2 : Hid (Below w.heap.size w w2) := (B1.out.alloc B1.out.size _).trans (b2.mono (Nat.le_trans B1.out.size (le_alloc _ _))); have Q2 : Hid (RawIs w2 F (.slice p1 1 c1) (.slice p2 1 c2) awR) := (Q1.out.any (bel1 _ _)).any b2; obtain ⟨y0, y1, hv⟩ := var2 b2; clear b2) | (refine (K1 _).mono ?_; rintro e w1 ⟨p1, c1, p2, c2, F, rfl, hF, hR, b1⟩; have B1 : Hid (Below w.heap.size w w1) := b1; have Q1 : Hid (RawIs w1 F (.slice p1 1 c1) (.slice p2 1 c2) awR) := hR; clear b1 hR hF)) | (go_at_call 7; refine (num_any _ _).mono ?_; rintro e wn ⟨rfl, rfl⟩))
  have hz4 : (w3.alloc (.cells #[.slice p3 0 c3, .slice p4 0 c4] 25)).heap.size = w3.heap.size + 1 := by simp
  have BA := allocs_below (awO (w3.heap.size + 1)) (w3.alloc (.cells #[.slice p3 0 c3, .slice p4 0 c4] 25))
  have QA := (Q3.out.any (bel1 w3 (.cells #[.slice p3 0 c3, .slice p4 0 c4] 25))).any BA
  have QB := aw_is (w3.alloc (.cells #[.slice p3 0 c3, .slice p4 0 c4] 25)) (w3.heap.size + 1) hz4
  have BF : Hid (Below w.heap.size w (allocs (w3.alloc (.cells #[.slice p3 0 c3, .slice p4 0 c4] 25)) (awO (w3.heap.size + 1)))) := (B3.out.alloc B3.out.size _).trans (BA.mono (Nat.le_trans B3.out.size (le_alloc _ _)))
  have hsz := BF.out.size
  refine (sameRaw_yes awR _ _ _ _ ((allocs (w3.alloc (.cells #[.slice p3 0 c3, .slice p4 0 c4] 25)) (awO (w3.heap.size + 1))).alloc (.cells #[.slice (some ⟨w3.heap.size + 1, 0, none⟩) 1 1, .slice (some ⟨w3.heap.size + 1 + 7, 0, none⟩) 1 1] 25)) (QA.any (bel1 _ _)).1 (QA.any (bel1 _ _)).2 (QB.any (bel1 _ _)).1 (QB.any (bel1 _ _)).2).mono ?_
  rintro e w5 ⟨rfl, b5⟩
  have B5 : Hid (Below w.heap.size w w5) := (BF.out.alloc hsz _).trans (b5.mono (Nat.le_trans hsz (le_alloc _ _)))
  clear QA QB BA b5 hsz hz4
  go_wp2_with (first | (go_at_call 7; refine (num_any _ _).mono ?_; rintro e wn ⟨rfl, rfl⟩))
  all_goals go_ret
  all_goals exact ⟨rfl, B5.out⟩
end Go.Proofs.Ytdlpmefdeeokhaa
