import Derived.Test.YtdoibpgkfdpbdaaDepEdg
import Derived.Laws.StructEq
/- Rows of edges held against one another; is an edge among them; awake of layer 6 answers true. -/
namespace Go.Proofs.Ytdoibpgkfdpbdaa
set_option linter.unusedVariables false
open Go.ChangeShapes Go.WideShapes Go.ChangeAt Go.RowKit

def shortE (l : List Ru) : Bool := l.all fun r => r.conj.all fun c => decide (c.seq.length ≤ 140737488355328)
theorem short_ofE {l : List Ru} (h : shortE l = true) : Short l := fun r hr c hc => by
  unfold shortE at h
  simp only [List.all_eq_true, decide_eq_true_eq] at h
  exact h r hr c hc
def nmE (l : List ByteArray) : Bool := l.all fun s => decide (s.size ≤ maxLen)
theorem nm_ofE {l : List ByteArray} (h : nmE l = true) : ∀ s, s ∈ l → s.size ≤ maxLen := fun s hs => by
  unfold nmE at h
  simp only [List.all_eq_true, decide_eq_true_eq] at h
  exact h s hs
theorem sysE_nil (w : World) (F : Nat → Prop) : IsSys w F (.slice none 0 0) [] := ⟨none, 0, rfl, ⟨Nat.zero_le _, Nat.zero_le _⟩, fun h => absurd h (Nat.lt_irrefl _)⟩
theorem textsE_nil (w : World) (F : Nat → Prop) : IsTexts w F (.slice none 0 0) [] := ⟨none, 0, rfl, ⟨Nat.zero_le _, Nat.zero_le _⟩, fun h => absurd h (Nat.lt_irrefl _)⟩
theorem rusE_nil (w : World) (F : Nat → Prop) : IsRus w F (.slice none 0 0) [] := ⟨[], ⟨none, 0, rfl, ⟨Nat.zero_le _, Nat.zero_le _⟩, fun h => absurd h (Nat.lt_irrefl _)⟩, RusIn.nil w F⟩
theorem Try.eqEd (a b : Int) (c : Bool) (a' b' : Int) (c' : Bool) (w : World) : (Op.equalIn 10000 42 (.agg #[.int .i64 a, .int .i64 b, .bool c]) (.agg #[.int .i64 a', .int .i64 b', .bool c'])).run Try.prog w = .ok (decide (a = a' ∧ b = b' ∧ c = c')) w := by
  have u3 := Try.underlying3
  have a3 := Try.isAgg3
  have z3 := Try.sizeOf3
  have u9 := Try.underlying4
  have a9 := Try.isAgg4
  have z9 := Try.sizeOf4
  have F : (Try.prog.fieldsOf 42).toList.map (fun f => (f.name, f.type, f.offset)) = [("From", 3, 0), ("To", 3, 1), ("Neg", 4, 2)] := by kernel_rfl
  rw [show (10000 : Nat) = 9999 + 1 from rfl, run_equalIn_agg w 9999 _ _ _ (by kernel_rfl) (by kernel_rfl)]
  generalize (Try.prog.fieldsOf 42).toList = fs at F
  have hl : fs.length = 3 := by simpa using congrArg List.length F
  match fs, hl, F with
  | [f0, f1, f2], _, F =>
    simp at F
    obtain ⟨⟨n0, t0, o0⟩, ⟨n1, t1, o1⟩, ⟨n2, t2, o2⟩⟩ := F
    simp only [Op.eqFields, n0, t0, o0, n1, t1, o1, n2, t2, o2]
    by_cases e1 : a = a'
    · by_cases e2 : b = b'
      · by_cases e3 : c = c'
        · subst e1 e2 e3
          go_simp
        · have f3 : (c == c') = false := by simpa using e3
          subst e1 e2
          go_simp
      · have f2 : (b == b') = false := by simpa using e2
        subst e1
        go_simp
    · have f1 : (a == a') = false := by simpa using e1
      go_simp
theorem IsEds.at {w : World} {F : Nat → Prop} {p : Option Addr} {n c : Nat} {l : List Ed} (h : IsEds w F (.slice p n c) l) {k : Nat} {e : Ed} (hk : l[k]? = some e) : ∃ g o, p = some ⟨g, o, none⟩ ∧ g < w.heap.size ∧ w.cell? ⟨g, o + k * 3, none⟩ = some (.int .i64 e.1) ∧ w.cell? ⟨g, o + k * 3 + 1, none⟩ = some (.int .i64 e.2.1) ∧ w.cell? ⟨g, o + k * 3 + 2, none⟩ = some (.bool e.2.2) := by
  obtain ⟨p2, c2, e2, _, hc⟩ := h
  injection e2 with e3
  subst e3
  have hlt := (List.getElem?_eq_some_iff.1 hk).1
  obtain ⟨g, o, e9, _, hg, cc, _⟩ := hc (by omega)
  obtain ⟨a0, a1, a2⟩ := edsV_at l k e hk
  exact ⟨g, o, e9, hg, cc _ _ a0, by rw [Nat.add_assoc]; exact cc _ _ a1, by rw [Nat.add_assoc]; exact cc _ _ a2⟩
set_option maxHeartbeats 2000000 in
theorem sameEds_yes (va vb : Value) (l : List Ed) (w : World) {F G : Nat → Prop} (ha : IsEds w F va l) (hb : IsEds w G vb l) (hl : l.length ≤ 100000000) :
    Calls Try.prog 12 #[va, vb] w fun e w' => e = .returned (.bool true) ∧ Hid (Below w.heap.size w w') := by
  obtain ⟨p, cp, rfl⟩ := ha.slc
  obtain ⟨q, cq, rfl⟩ := hb.slc
  have HA : Hid (IsEds w F (.slice p l.length cp) l) := ha
  have HB : Hid (IsEds w G (.slice q l.length cq) l) := hb
  clear ha hb
  go_enter Try.func12, Try.ntmps12
  go_wp2
  go_loopw [5] (fun i wr => ∃ k : Nat, k ≤ l.length ∧ i = .int .i64 k ∧ Hid (Below w.heap.size w wr)) (fun i _ => l.length - (intOf i).toNat)
  case atStart => exact ⟨0, by omega, rfl, Below.refl _ _⟩
  case round =>
    obtain ⟨k, hk, rfl, HW⟩ := hrel
    by_cases hlt : k < l.length
    · obtain ⟨t, ht⟩ : ∃ t, l[k]? = some t := ⟨_, List.getElem?_eq_getElem hlt⟩
      obtain ⟨g1, o1, hp, -, a0, a1, a2⟩ := (HA.out.any HW.out).at ht
      obtain ⟨g2, o2, hq, -, b0, b1, b2⟩ := (HB.out.any HW.out).at ht
      subst hp hq
      have heq : ∀ w, (Op.equalIn 10000 42 (.agg #[.int .i64 t.1, .int .i64 t.2.1, .bool t.2.2]) (.agg #[.int .i64 t.1, .int .i64 t.2.1, .bool t.2.2])).run Try.prog w = .ok true w := fun w => by rw [Try.eqEd]; simp
      generalize t.1 = x0 at a0 b0 heq
      generalize t.2.1 = x1 at a1 b1 heq
      generalize t.2.2 = x2 at a2 b2 heq
      clear ht
      go_wp2
      go_quiet (fail)
      go_wp2
      go_roundw
      case rel =>
        exact ⟨k + 1, by omega, by go_num, ⟨HW.out.os, HW.out.tape, HW.out.output, HW.out.size, HW.out.block⟩⟩
      case measure => simp [intOf]; omega
    · obtain rfl : k = l.length := by omega
      go_wp2
      go_ret
      exact ⟨rfl, HW⟩
set_option maxHeartbeats 2000000 in
theorem has_any (v : Value) (l : List Ed) (x : Ed) (w : World) {F : Nat → Prop} (ha : IsEds w F v l) (hl : l.length ≤ 100000000) :
    Calls Try.prog 10 #[v, .agg #[.int .i64 x.1, .int .i64 x.2.1, .bool x.2.2]] w fun e w' => e = .returned (.bool (decide (x ∈ l))) ∧ Hid (Below w.heap.size w w') := by
  obtain ⟨p, cp, rfl⟩ := ha.slc
  have HA : Hid (IsEds w F (.slice p l.length cp) l) := ha
  clear ha
  obtain ⟨x0, x1, x2⟩ := x
  show Calls Try.prog 10 #[.slice p l.length cp, .agg #[.int .i64 x0, .int .i64 x1, .bool x2]] w _
  go_enter Try.func10, Try.ntmps10
  go_wp2
  go_loopw [5] (fun i wr => ∃ k : Nat, k ≤ l.length ∧ i = .int .i64 k ∧ Hid (Below w.heap.size w wr) ∧ Hid (∀ y, y ∈ l.take k → y ≠ (x0, x1, x2)) ∧ wr.cell? ⟨w.heap.size, 0, none⟩ = some (.int .i64 x0) ∧ wr.cell? ⟨w.heap.size, 1, none⟩ = some (.int .i64 x1) ∧ wr.cell? ⟨w.heap.size, 2, none⟩ = some (.bool x2)) (fun i _ => l.length - (intOf i).toNat)
  case atStart => exact ⟨0, by omega, rfl, bel1 _ _, (fun y hy => by simp at hy), World.cell?_alloc_at _ _ _ _ rfl, World.cell?_alloc_at _ _ _ _ rfl, World.cell?_alloc_at _ _ _ _ rfl⟩
  case round =>
    obtain ⟨k, hk, rfl, HW, HN, c0, c1, c2⟩ := hrel
    by_cases hlt : k < l.length
    · obtain ⟨t, ht⟩ : ∃ t, l[k]? = some t := ⟨_, List.getElem?_eq_getElem hlt⟩
      obtain ⟨g1, o1, hp, -, a0, a1, a2⟩ := (HA.out.any HW.out).at ht
      subst hp
      obtain ⟨t0, t1, t2⟩ := t
      simp only at a0 a1 a2
      by_cases hxt : t0 = x0 ∧ t1 = x1 ∧ t2 = x2
      · have heq : ∀ w, (Op.equalIn 10000 42 (.agg #[.int .i64 t0, .int .i64 t1, .bool t2]) (.agg #[.int .i64 x0, .int .i64 x1, .bool x2])).run Try.prog w = .ok true w := fun w => by rw [Try.eqEd]; simp [hxt]
        have HD : Hid (decide ((x0, x1, x2) ∈ l) = true) := by
          have := List.mem_of_getElem? ht
          rw [hxt.1, hxt.2.1, hxt.2.2] at this
          show _ = _
          simpa using this
        clear ht hxt
        go_wp2
        go_quiet (fail)
        go_wp2
        go_ret
        exact ⟨by rw [HD.out]; rfl, HW.out.os, HW.out.tape, HW.out.output, HW.out.size, HW.out.block⟩
      · have heq : ∀ w, (Op.equalIn 10000 42 (.agg #[.int .i64 t0, .int .i64 t1, .bool t2]) (.agg #[.int .i64 x0, .int .i64 x1, .bool x2])).run Try.prog w = .ok false w := fun w => by rw [Try.eqEd]; simp [hxt]
        have HN2 : Hid (∀ y, y ∈ l.take (k + 1) → y ≠ (x0, x1, x2)) := fun y hy => by
          rw [take_snoc ht] at hy
          rcases List.mem_append.1 hy with hy | hy
          · exact HN.out y hy
          · obtain rfl : y = (t0, t1, t2) := by simpa using hy
            intro e
            simp only [Prod.mk.injEq] at e
            exact hxt e
        clear ht hxt
        go_wp2
        go_quiet (fail)
        go_wp2
        go_roundw
        case rel =>
          exact ⟨k + 1, by omega, by go_num, ⟨HW.out.os, HW.out.tape, HW.out.output, HW.out.size, HW.out.block⟩, HN2, c0, c1, c2⟩
        case measure => simp [intOf]; omega
    · obtain rfl : k = l.length := by omega
      have HD : Hid (decide ((x0, x1, x2) ∈ l) = false) := by
        have := HN.out
        rw [List.take_length] at this
        show _ = _
        simp only [decide_eq_false_iff_not]
        exact fun h => this _ h rfl
      go_wp2
      go_ret
      exact ⟨by rw [HD.out]; rfl, HW⟩
/-- Edges of a grammar that is known. -/
theorem edges_is {g : Gr} {l : List Ed} (hM : mayG g = true) (hs : shortE g.rules = true) (hn : nmE g.names = true) (ht : edgesT g = l) (v1 v2 : Value) (w : World) {F : Nat → Prop} (hg : GrIs w F v1 v2 g) :
    Calls Try.prog 6 #[.agg #[.int .i64 g.start, v1, v2]] w fun e w' => ∃ v, e = .returned (.tuple #[v, .int .i64 0]) ∧ Hid (IsEds w' (fun i => w.heap.size ≤ i) v l) ∧ Hid (Below w.heap.size w w') := by
  subst ht
  exact edges_ok g v1 v2 w hg (nm_ofE hn) (short_ofE hs) hM
theorem edges_isnt {g : Gr} (hM : mayG g = false) (hs : shortE g.rules = true) (hn : nmE g.names = true) (v1 v2 : Value) (w : World) {F : Nat → Prop} (hg : GrIs w F v1 v2 g) :
    Calls Try.prog 6 #[.agg #[.int .i64 g.start, v1, v2]] w fun e w' => e = .returned (.tuple #[.slice none 0 0, .int .i64 600]) ∧ Hid (Below w.heap.size w w') := edges_no g v1 v2 w hg (nm_ofE hn) (short_ofE hs) hM
def a6G : Gr := ⟨0, [⟨#[83]⟩, ⟨#[65]⟩], [⟨0, [⟨true, [⟨1, 0, 0⟩, ⟨1, 0, 0⟩]⟩, ⟨false, [⟨0, 0, 0⟩]⟩]⟩, ⟨1, [⟨false, []⟩]⟩]⟩
theorem a6m : mayG a6G = true := by kernel_rfl
theorem a6s : shortE a6G.rules = true := by kernel_rfl
theorem a6n : nmE a6G.names = true := by kernel_rfl
theorem a6z : mayG ⟨0, [], []⟩ = false := by kernel_rfl
def a6L : List Ed := [(0, 0, false), (0, 1, true)]
theorem a6l : edgesT a6G = a6L := edgesT_eq (by unfold a6L; decide) (fun x => by
  have : allE a6G.rules = [(0, 1, true), (0, 1, true), (0, 0, false)] := by decide
  rw [this]; unfold a6L
  simp only [List.mem_cons, List.not_mem_nil, or_false]
  constructor
  · rintro (h | h)
    · exact Or.inr (Or.inr h)
    · exact Or.inl h
  · rintro (h | h | h)
    · exact Or.inr h
    · exact Or.inr h
    · exact Or.inl h)
def a6P (n : Nat) : List Obj :=
  [.cells #[.string ⟨#[83]⟩, .string ⟨#[65]⟩] 9, .cells #[.int .i64 1, .int .i64 0, .int .i64 0, .int .i64 1, .int .i64 0, .int .i64 0] 44, .cells #[.int .i64 0, .int .i64 0, .int .i64 0] 44,
   .cells #[.bool true, .slice (some ⟨n + 1, 0, none⟩) 2 2, .bool false, .slice (some ⟨n + 1 + 1, 0, none⟩) 1 1] 40, .cells #[.bool false, .slice none 0 0] 40,
   .cells #[.int .i64 0, .slice (some ⟨n + 1 + 1 + 1, 0, none⟩) 2 2, .int .i64 1, .slice (some ⟨n + 1 + 1 + 1 + 1, 0, none⟩) 1 1] 36]
theorem a6_gram (w : World) (n : Nat) (hn : w.heap.size = n) : GrIs (blks w (a6P n)) Any (.slice (some ⟨n, 0, none⟩) 2 2) (.slice (some ⟨n + 5, 0, none⟩) 2 2) a6G := by
  subst hn
  have h := fun k o => blks_at (a6P w.heap.size) w k o
  have i0 := sysE_nil (blks w (a6P w.heap.size)) Any
  have i1 : IsSys (blks w (a6P w.heap.size)) Any (.slice (some ⟨w.heap.size + 1, 0, none⟩) 2 2) [⟨1, 0, 0⟩, ⟨1, 0, 0⟩] := reads_laid (h 1 _ rfl) le22 rfl
  have i2 : IsSys (blks w (a6P w.heap.size)) Any (.slice (some ⟨w.heap.size + 2, 0, none⟩) 1 1) [⟨0, 0, 0⟩] := reads_laid (h 2 _ rfl) le11 rfl
  have c1 : IsCns (blks w (a6P w.heap.size)) Any (.slice (some ⟨w.heap.size + 3, 0, none⟩) 2 2) [⟨true, [⟨1, 0, 0⟩, ⟨1, 0, 0⟩]⟩, ⟨false, [⟨0, 0, 0⟩]⟩] := ⟨[_, _], reads_laid (h 3 _ rfl) le22 rfl, ((CnsIn.nil _ _).snoc (c := ⟨true, [⟨1, 0, 0⟩, ⟨1, 0, 0⟩]⟩) i1).snoc (c := ⟨false, [⟨0, 0, 0⟩]⟩) i2⟩
  have c2 : IsCns (blks w (a6P w.heap.size)) Any (.slice (some ⟨w.heap.size + 4, 0, none⟩) 1 1) [⟨false, []⟩] := ⟨[_], reads_laid (h 4 _ rfl) le11 rfl, (CnsIn.nil _ _).snoc (c := ⟨false, []⟩) i0⟩
  exact ⟨reads_laid (h 0 _ rfl) le22 rfl, [_, _], reads_laid (h 5 _ rfl) le22 rfl, ((RusIn.nil _ _).snoc (c := ⟨0, _⟩) c1).snoc (c := ⟨1, _⟩) c2⟩
theorem a6_want (w : World) (n : Nat) (hn : w.heap.size = n) : IsEds (w.alloc (.cells #[.int .i64 0, .int .i64 0, .bool false, .int .i64 0, .int .i64 1, .bool true] 42)) Any (.slice (some ⟨n, 0, none⟩) 2 2) a6L := by
  subst hn
  exact reads_laid (heap_alloc_new w _) le22 rfl
set_option maxHeartbeats 2000000 in
set_option maxRecDepth 100000 in
theorem awake6_any (w : World) : Calls Try.prog 5 #[] w fun e w' => e = .returned (.bool true) ∧ Below w.heap.size w w' := by
  have K1 : Calls Try.prog 6 #[.agg #[.int .i64 0, .slice (some ⟨w.heap.size, 0, none⟩) 2 2, .slice (some ⟨w.heap.size + 1 + 1 + 1 + 1 + 1, 0, none⟩) 2 2]] (blks w (a6P w.heap.size)) fun e w' => ∃ v, e = .returned (.tuple #[v, .int .i64 0]) ∧ Hid (IsEds w' (fun i => (blks w (a6P w.heap.size)).heap.size ≤ i) v a6L) ∧ Hid (Below (blks w (a6P w.heap.size)).heap.size (blks w (a6P w.heap.size)) w') := edges_is a6m a6s a6n a6l _ _ _ (a6_gram w _ rfl)
  have K2 : ∀ w', Calls Try.prog 6 #[.agg #[.int .i64 0, .slice none 0 0, .slice none 0 0]] w' fun e w'' => e = .returned (.tuple #[.slice none 0 0, .int .i64 600]) ∧ Hid (Below w'.heap.size w' w'') := fun w' => edges_isnt (g := ⟨0, [], []⟩) a6z rfl rfl _ _ w' (F := Any) ⟨textsE_nil _ _, rusE_nil _ _⟩
  have HB : Hid (Below w.heap.size w (blks w (a6P w.heap.size))) := blks_below _ _
  go_enter Try.func5, Try.ntmps5
  go_wp2_with (first
    | (go_at_call 6; first
      | (have hh := H1; clear hh; refine (K2 _).mono ?_; rintro e w2 ⟨rfl, b2⟩; have H2 : Hid (Below w.heap.size w w2) := H1.out.trans (b2.out.mono H1.out.size); have I2 : Hid (IsEds w2 _ _ a6L) := I1.out.any b2.out)
      | (refine K1.mono ?_; rintro e w1 ⟨va, rfl, I1, b1⟩; have H1 : Hid (Below w.heap.size w w1) := HB.out.trans (b1.out.mono HB.out.size); clear b1))
    | (go_at_call 12; refine (sameEds_yes _ _ a6L _ (I2.out.any (bel1 _ _)) (a6_want w2 _ rfl) (by decide)).mono ?_; rintro e w3 ⟨rfl, b3⟩; have H3 : Hid (Below w.heap.size w w3) := H2.out.trans (((bel1 w2 _).trans (b3.out.mono (bel1 w2 _).size)).mono H2.out.size))
    | (go_at_call 7; refine (num_any _ _).mono ?_; rintro e wn ⟨rfl, rfl⟩))
  go_ret
  exact ⟨rfl, H3.out⟩
end Go.Proofs.Ytdoibpgkfdpbdaa
/- stands of layer 6: an edge that stands in a rule is found. -/
namespace Go.Proofs.Ytdoibpgkfdpbdaa
set_option linter.unusedVariables false
open Go.ChangeShapes Go.WideShapes Go.ChangeAt Go.RowKit

theorem IsSys.at {w : World} {F : Nat → Prop} {p : Option Addr} {n c : Nat} {l : List Sy} (h : IsSys w F (.slice p n c) l) {k : Nat} {e : Sy} (hk : l[k]? = some e) : ∃ g o, p = some ⟨g, o, none⟩ ∧ g < w.heap.size ∧ w.cell? ⟨g, o + k * 3, none⟩ = some (.int .i64 e.name) ∧ w.cell? ⟨g, o + k * 3 + 1, none⟩ = some (.int .i64 e.lo) ∧ w.cell? ⟨g, o + k * 3 + 2, none⟩ = some (.int .i64 e.hi) := by
  obtain ⟨p2, c2, e2, _, hc⟩ := h
  injection e2 with e3
  subst e3
  have hlt := (List.getElem?_eq_some_iff.1 hk).1
  obtain ⟨g, o, e9, _, hg, cc, _⟩ := hc (by omega)
  obtain ⟨a0, a1, a2⟩ := sysV_at l k e hk
  exact ⟨g, o, e9, hg, cc _ _ a0, by rw [Nat.add_assoc]; exact cc _ _ a1, by rw [Nat.add_assoc]; exact cc _ _ a2⟩
theorem IsSys.max {w : World} {F : Nat → Prop} {v : Value} {l : List Sy} (h : IsSys w F v l) : l.length ≤ maxLen := by
  obtain ⟨_, _, _, h, _⟩ := h
  exact h.1
theorem drop_cons {α : Type} {l : List α} {k : Nat} {a : α} (h : l[k]? = some a) : l.drop k = a :: l.drop (k + 1) := by
  have hlt := (List.getElem?_eq_some_iff.1 h).1
  rw [List.drop_eq_getElem_cons hlt, (List.getElem?_eq_some_iff.1 h).2]
end Go.Proofs.Ytdoibpgkfdpbdaa
