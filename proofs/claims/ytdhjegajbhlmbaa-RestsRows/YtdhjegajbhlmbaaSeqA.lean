/- awake of layer 10; Places, Count and the document's Places for an argument. -/
import Derived.Test.YtdhjegajbhlmbaaSeqS
import Derived.Test.YtdhjegajbhlmbaaSeqR
import Derived.Test.YtdhjegajbhlmbaaCopyGrW
import Derived.Test.YtdhjegajbhlmbaaGramSame
namespace Go.Proofs.Ytdhjegajbhlmbaa
set_option linter.unusedVariables false
open Go.ChangeShapes Go.WideShapes Go.ChangeAt Go.RowKit

theorem OwPl.pls {w w' : World} {v : Value} {l : List Plc} (h : OwPl w v l w') : IsPls w' (fun i => w.heap.size ≤ i ∧ i < w'.heap.size) v l := by
  obtain ⟨b, hb, ho⟩ := h
  exact Reads.of ho (fun i e => ⟨Nat.le_trans hb (ho.lt i e).1, (ho.lt i e).2⟩)
def shortP (l : List Ru) : Bool := l.all fun r => r.conj.all fun c => decide (c.seq.length ≤ 140737488355328)
theorem short_ofP {l : List Ru} (h : shortP l = true) : Short l := fun r hr c hc => by
  unfold shortP at h
  simp only [List.all_eq_true, decide_eq_true_eq] at h
  exact h r hr c hc
def nmP (l : List ByteArray) : Bool := l.all fun s => decide (s.size ≤ maxLen)
theorem nm_ofP {l : List ByteArray} (h : nmP l = true) : ∀ s, s ∈ l → s.size ≤ maxLen := fun s hs => by
  unfold nmP at h
  simp only [List.all_eq_true, decide_eq_true_eq] at h
  exact h s hs
theorem sysP_nil (w : World) (F : Nat → Prop) : IsSys w F (.slice none 0 0) [] := ⟨none, 0, rfl, ⟨Nat.zero_le _, Nat.zero_le _⟩, fun h => absurd h (Nat.lt_irrefl _)⟩
theorem textsP_nil (w : World) (F : Nat → Prop) : IsTexts w F (.slice none 0 0) [] := ⟨none, 0, rfl, ⟨Nat.zero_le _, Nat.zero_le _⟩, fun h => absurd h (Nat.lt_irrefl _)⟩
theorem rusP_nil (w : World) (F : Nat → Prop) : IsRus w F (.slice none 0 0) [] := ⟨[], ⟨none, 0, rfl, ⟨Nat.zero_le _, Nat.zero_le _⟩, fun h => absurd h (Nat.lt_irrefl _)⟩, RusIn.nil w F⟩
theorem le33 : 3 ≤ maxLen ∧ 3 ≤ 3 := by unfold maxLen; omega
def a10G : Gr := ⟨0, [⟨#[83]⟩], [⟨0, [⟨false, []⟩, ⟨false, [⟨0, 0, 0⟩]⟩]⟩]⟩
def a10L : List Plc := [(0, 0, 0), (0, 1, 0), (0, 1, 1)]
theorem a10l : ruP 0 a10G.rules = a10L := rfl
theorem a10m : mayG a10G = true := by kernel_rfl
theorem a10z : mayG ⟨0, [], []⟩ = false := by kernel_rfl
def a10P (n : Nat) : List Obj :=
  [.cells #[.string ⟨#[83]⟩] 9, .cells #[.int .i64 0, .int .i64 0, .int .i64 0] 53, .cells #[.bool false, .slice none 0 0, .bool false, .slice (some ⟨n + 1, 0, none⟩) 1 1] 45,
   .cells #[.int .i64 0, .slice (some ⟨n + 1 + 1, 0, none⟩) 2 2] 42, .cells #[.int .i64 0, .slice (some ⟨n, 0, none⟩) 1 1, .slice (some ⟨n + 1 + 1 + 1, 0, none⟩) 1 1] 25]
theorem a10_gram (X : World) (n : Nat) (h : ∀ k o, (a10P n)[k]? = some o → X.heap[n + k]? = some o) : GrIs X Any (.slice (some ⟨n, 0, none⟩) 1 1) (.slice (some ⟨n + 1 + 1 + 1, 0, none⟩) 1 1) a10G := by
  have i1 : IsSys X Any (.slice (some ⟨n + 1, 0, none⟩) 1 1) [⟨0, 0, 0⟩] := reads_laid (h 1 _ rfl) le11 rfl
  have c1 : IsCns X Any (.slice (some ⟨n + 1 + 1, 0, none⟩) 2 2) [⟨false, []⟩, ⟨false, [⟨0, 0, 0⟩]⟩] := ⟨[_, _], reads_laid (h 2 _ rfl) le22 rfl, ((CnsIn.nil _ _).snoc (c := ⟨false, []⟩) (sysP_nil _ _)).snoc (c := ⟨false, [⟨0, 0, 0⟩]⟩) i1⟩
  exact ⟨reads_laid (h 0 _ rfl) le11 rfl, [_], reads_laid (h 3 _ rfl) le11 rfl, (RusIn.nil _ _).snoc (c := ⟨0, _⟩) c1⟩
theorem three_pls (w : World) : IsPls (w.alloc (.cells #[.int .i64 0, .int .i64 0, .int .i64 0, .int .i64 0, .int .i64 1, .int .i64 0, .int .i64 0, .int .i64 1, .int .i64 1] 47)) Any (.slice (some ⟨w.heap.size, 0, none⟩) 3 3) a10L := reads_laid (heap_alloc_new w _) le33 rfl
theorem belP {W w' : World} {o : Obj} (h : Below W.heap.size W w') : Below W.heap.size W (w'.alloc o) := h.alloc h.size o
set_option maxHeartbeats 4000000 in
set_option maxRecDepth 100000 in
theorem awake10_any (w : World) : Calls Try.prog 13 #[] w fun e w' => e = .returned (.bool true) ∧ Hid (Below w.heap.size w w') := by
  obtain ⟨X, hX⟩ : ∃ X, X = blks w (a10P w.heap.size) := ⟨_, rfl⟩
  have hb : ∀ k o, (a10P w.heap.size)[k]? = some o → X.heap[w.heap.size + k]? = some o := fun k o ho => by rw [hX]; exact blks_at _ w k o ho
  have HBX : Hid (Below w.heap.size w X) := by rw [hX]; exact blks_below _ _
  have HG : Hid (GrIs X Any (.slice (some ⟨w.heap.size, 0, none⟩) 1 1) (.slice (some ⟨w.heap.size + 1 + 1 + 1, 0, none⟩) 1 1) a10G) := a10_gram X w.heap.size hb
  have K1 : Calls Try.prog 6 #[.agg #[.int .i64 0, .slice (some ⟨w.heap.size, 0, none⟩) 1 1, .slice (some ⟨w.heap.size + 1 + 1 + 1, 0, none⟩) 1 1]] X fun e w' => ∃ p c, e = .returned (.tuple #[.slice p 3 c, .int .i64 0]) ∧ Hid (IsPls w' (fun i => X.heap.size ≤ i ∧ i < w'.heap.size) (.slice p 3 c) a10L) ∧ Hid (Below X.heap.size X w') := by
    have h := places_ok a10G (.slice (some ⟨w.heap.size, 0, none⟩) 1 1) (.slice (some ⟨w.heap.size + 1 + 1 + 1, 0, none⟩) 1 1) X (F := Any) HG.out (nm_ofP (by kernel_rfl)) (short_ofP (by kernel_rfl)) a10m
    rw [a10l] at h
    exact h.mono fun e w' ⟨p, c, h1, h2, h3⟩ => ⟨p, c, h1, h2.out.pls, h3⟩
  have K3 : Hid (∀ w', Below X.heap.size X w' → Calls Try.prog 10 #[.agg #[.int .i64 0, .slice (some ⟨w.heap.size, 0, none⟩) 1 1, .slice (some ⟨w.heap.size + 1 + 1 + 1, 0, none⟩) 1 1]] w' fun e w'' => e = .returned (.int .i64 3) ∧ Hid (Below w'.heap.size w' w'')) := fun w' hb => by
    have h := count_ok a10G (.slice (some ⟨w.heap.size, 0, none⟩) 1 1) (.slice (some ⟨w.heap.size + 1 + 1 + 1, 0, none⟩) 1 1) w' (F := Any) (HG.out.any hb) (nm_ofP (by kernel_rfl)) (short_ofP (by kernel_rfl)) a10m
    rw [a10l] at h
    exact h
  have K2 : Hid (∀ w', Calls Try.prog 6 #[.agg #[.int .i64 0, .slice none 0 0, .slice none 0 0]] w' fun e w'' => e = .returned (.tuple #[.slice none 0 0, .int .i64 1000]) ∧ Hid (Below w'.heap.size w' w'')) := fun w' => places_no ⟨0, [], []⟩ _ _ w' (F := Any) ⟨textsP_nil _ _, rusP_nil _ _⟩ (nm_ofP rfl) (short_ofP rfl) a10z
  have K4 : Hid (∀ w', Calls Try.prog 10 #[.agg #[.int .i64 0, .slice none 0 0, .slice none 0 0]] w' fun e w'' => e = .returned (.int .i64 0) ∧ Hid (Below w'.heap.size w' w'')) := fun w' => count_no ⟨0, [], []⟩ _ _ w' (F := Any) ⟨textsP_nil _ _, rusP_nil _ _⟩ (nm_ofP rfl) (short_ofP rfl) a10z
  have HC : Hid (∀ w', Below X.heap.size X w' → w'.cell? ⟨w.heap.size + 1 + 1 + 1 + 1, 0, none⟩ = some (.int .i64 0) ∧ w'.cell? ⟨w.heap.size + 1 + 1 + 1 + 1, 1, none⟩ = some (.slice (some ⟨w.heap.size, 0, none⟩) 1 1) ∧ w'.cell? ⟨w.heap.size + 1 + 1 + 1 + 1, 2, none⟩ = some (.slice (some ⟨w.heap.size + 1 + 1 + 1, 0, none⟩) 1 1)) := fun w' hbw => by
    have hl : w.heap.size + 1 + 1 + 1 + 1 < X.heap.size := by rw [hX]; simp [blks, a10P]
    have c := Lib.cell_of_heap (hb 4 _ rfl)
    exact ⟨(hbw.cell (p := ⟨_, _, none⟩) hl).trans (c 0), (hbw.cell (p := ⟨_, _, none⟩) hl).trans (c 1), (hbw.cell (p := ⟨_, _, none⟩) hl).trans (c 2)⟩
  have hX2 : (((((w.alloc (.cells #[.string ⟨#[83]⟩] 9)).alloc (.cells #[.int .i64 0, .int .i64 0, .int .i64 0] 53)).alloc (.cells #[.bool false, .slice none 0 0, .bool false, .slice (some ⟨w.heap.size + 1, 0, none⟩) 1 1] 45)).alloc (.cells #[.int .i64 0, .slice (some ⟨w.heap.size + 1 + 1, 0, none⟩) 2 2] 42)).alloc (.cells #[.int .i64 0, .slice (some ⟨w.heap.size, 0, none⟩) 1 1, .slice (some ⟨w.heap.size + 1 + 1 + 1, 0, none⟩) 1 1] 25)) = X := hX.symm
  clear hb hX HG
  go_enter Try.func13, Try.ntmps13
  go_upto_region 2 with fail
  clear hX2
  obtain ⟨d0, d1, d2⟩ := HC.out _ (Below.refl _ _)
  go_upto_region 3 with (go_at_call 6; refine K1.mono ?_; rintro e w2 ⟨p1, c1, rfl, I1, b2⟩)
  have HB2 : Hid (Below X.heap.size X w2) := b2.out
  clear K1 d0 d1 d2
  go_wp2_with (first
    | (go_at_call 6; refine (K2.out _).mono ?_; rintro e w3 ⟨rfl, b3⟩; have HB3 : Hid (Below X.heap.size X w3) := HB2.out.trans (b3.out.mono HB2.out.size); have I2 : Hid (IsPls w3 _ (.slice p1 3 c1) a10L) := I1.out.any b3.out)
    | (go_at_call 8; refine (samePls_yes _ _ a10L _ (I2.out.any (bel1 _ _)) (three_pls w3)).mono ?_; rintro e w5 ⟨rfl, b5⟩; have HB5 : Hid (Below X.heap.size X w5) := (belP HB3.out).trans (b5.out.mono (belP HB3.out).size); obtain ⟨d0, d1, d2⟩ := HC.out _ HB5.out)
    | (go_at_call 10; first
      | (have hh := HB6; clear hh; refine (K4.out _).mono ?_; rintro e w7 ⟨rfl, b7⟩; have HB7 : Hid (Below X.heap.size X w7) := HB6.out.trans (b7.out.mono HB6.out.size))
      | (refine (K3.out _ HB5.out).mono ?_; rintro e w6 ⟨rfl, b6⟩; have HB6 : Hid (Below X.heap.size X w6) := HB5.out.trans (b6.out.mono HB5.out.size); clear d0 d1 d2))
    | (go_at_call 9; refine (num_any _ _).mono ?_; rintro e wn ⟨rfl, rfl⟩))
  go_ret
  exact ⟨rfl, HBX.out.trans (HB7.out.mono HBX.out.size)⟩
/-- The places, or none. -/
def plL (g : Gr) : List Plc := if mayG g then ruP 0 g.rules else []
def plE (g : Gr) : Int := if mayG g then 0 else 1000
theorem places_arg (g : Gr) (v1 v2 : Value) (w : World) {F : Nat → Prop} (hg : GrIs w F v1 v2 g) (hl : ∀ s, s ∈ g.names → s.size ≤ maxLen) (hS : Short g.rules) :
    Calls Try.prog 6 #[.agg #[.int .i64 g.start, v1, v2]] w fun e w' => ∃ p c, e = .returned (.tuple #[.slice p (plL g).length c, .int .i64 (plE g)]) ∧ Hid (IsPls w' (fun i => w.heap.size ≤ i ∧ i < w'.heap.size) (.slice p (plL g).length c) (plL g)) ∧ Hid (Below w.heap.size w w') := by
  unfold plL plE
  cases hM : mayG g with
  | true => exact (places_ok g v1 v2 w hg hl hS hM).mono fun e w' ⟨p, c, h1, h2, h3⟩ => ⟨p, c, h1, h2.out.pls, h3⟩
  | false => exact (places_no g v1 v2 w hg hl hS hM).mono fun e w' ⟨h1, h2⟩ => ⟨none, 0, h1, pls_nil _ _, h2⟩
theorem refPlaces_arg (g : Gr) (v1 v2 : Value) (w : World) {F : Nat → Prop} (hg : GrIs w F v1 v2 g) (hl : ∀ s, s ∈ g.names → s.size ≤ maxLen) :
    Calls Try.prog 7 #[.agg #[.int .i64 g.start, v1, v2]] w fun e w' => ∃ p c, e = .returned (.tuple #[.slice p (plL g).length c, .int .i64 (plE g)]) ∧ Hid (IsPls w' (fun i => w.heap.size ≤ i) (.slice p (plL g).length c) (plL g)) ∧ Hid (Below w.heap.size w w') := by
  unfold plL plE
  cases hM : mayG g with
  | true => exact (refPlaces_ok g v1 v2 w hg hl hM).mono fun e w' ⟨p, c, h1, h2, h3⟩ => ⟨p, c, h1, Reads.low h2.out.pls (fun b e1 e2 => e1.1), h3⟩
  | false => exact (refPlaces_no g v1 v2 w hg hl hM).mono fun e w' ⟨h1, h2⟩ => ⟨none, 0, h1, pls_nil _ _, h2⟩
theorem count_arg (g : Gr) (v1 v2 : Value) (w : World) {F : Nat → Prop} (hg : GrIs w F v1 v2 g) (hl : ∀ s, s ∈ g.names → s.size ≤ maxLen) (hS : Short g.rules) :
    Calls Try.prog 10 #[.agg #[.int .i64 g.start, v1, v2]] w fun e w' => e = .returned (.int .i64 ((plL g).length : Int)) ∧ Hid (Below w.heap.size w w') := by
  unfold plL
  cases hM : mayG g with
  | true => exact count_ok g v1 v2 w hg hl hS hM
  | false => exact count_no g v1 v2 w hg hl hS hM
end Go.Proofs.Ytdhjegajbhlmbaa
