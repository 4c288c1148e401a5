/- awake of layer 5 answers true; a grammar that is a literal in memory. -/
import Derived.Test.YteanhhehjlhhbaaShowShow
namespace Go.Proofs.Yteanhhehjlhhbaa
set_option linter.unusedVariables false
open Go.ChangeShapes Go.WideShapes Go.ChangeAt Go.RowKit

def shortB (l : List Ru) : Bool := l.all fun r => r.conj.all fun c => decide (c.seq.length ≤ 140737488355328)
theorem short_of {l : List Ru} (h : shortB l = true) : Short l := fun r hr c hc => by
  unfold shortB at h
  simp only [List.all_eq_true, decide_eq_true_eq] at h
  exact h r hr c hc
def nmB' (l : List ByteArray) : Bool := l.all fun s => decide (s.size ≤ maxLen)
theorem nm_of {l : List ByteArray} (h : nmB' l = true) : ∀ s, s ∈ l → s.size ≤ maxLen := fun s hs => by
  unfold nmB' at h
  simp only [List.all_eq_true, decide_eq_true_eq] at h
  exact h s hs
/-- Show of a grammar that is known. -/
theorem show_is {g : Gr} {t : ByteArray} (hM : mayG g = true) (hs : shortB g.rules = true) (hn : nmB' g.names = true) (ht : showT g = t) (hl : t.size ≤ 1000000000) (v1 v2 : Value) (w : World) {F : Nat → Prop} (hg : GrIs w F v1 v2 g) :
    Calls Try.prog 5 #[.agg #[.int .i64 g.start, v1, v2]] w fun e w' => e = .returned (.tuple #[.string t, .int .i64 0]) ∧ Hid (Below w.heap.size w w') := by
  have hL : (showL g).length ≤ 1000000000 := by
    have : (showT g).size = (showL g).length := by simp [showT, ByteArray.size]
    rw [← this, ht]; exact hl
  subst ht
  exact show_ok g v1 v2 w hg (nm_of hn) (short_of hs) hM hL
theorem show_isnt {g : Gr} (hM : mayG g = false) (hs : shortB g.rules = true) (hn : nmB' g.names = true) (v1 v2 : Value) (w : World) {F : Nat → Prop} (hg : GrIs w F v1 v2 g) :
    Calls Try.prog 5 #[.agg #[.int .i64 g.start, v1, v2]] w fun e w' => e = .returned (.tuple #[.string ⟨#[]⟩, .int .i64 500]) ∧ Hid (Below w.heap.size w w') := show_no g v1 v2 w hg (nm_of hn) (short_of hs) hM

def a5G : Gr := ⟨0, [⟨#[83]⟩], [⟨0, [⟨false, []⟩, ⟨true, [⟨-1, 34, 34⟩, ⟨-1, 10, 10⟩, ⟨0, 0, 0⟩, ⟨-1, 39, 122⟩]⟩]⟩, ⟨0, [⟨false, [⟨0, 0, 0⟩]⟩]⟩]⟩
def a5T : ByteArray := ⟨#[115, 116, 97, 114, 116, 32, 83, 59, 10, 83, 32, 61, 32, 34, 34, 32, 38, 32, 126, 34, 92, 34, 92, 120, 48, 97, 34, 32, 83, 32, 39, 92, 39, 39, 46, 46, 39, 122, 39, 32, 124, 32, 83, 59, 10]⟩
theorem a5t : showT a5G = a5T := by kernel_rfl
theorem a5l : a5T.toList = [115, 116, 97, 114, 116, 32, 83, 59, 10, 83, 32, 61, 32, 34, 34, 32, 38, 32, 126, 34, 92, 34, 92, 120, 48, 97, 34, 32, 83, 32, 39, 92, 39, 39, 46, 46, 39, 122, 39, 32, 124, 32, 83, 59, 10] := ByteArray.toList_mk ..
theorem a5m : mayG a5G = true := by kernel_rfl
theorem a5s : shortB a5G.rules = true := by kernel_rfl
theorem a5n : nmB' a5G.names = true := by kernel_rfl
theorem a5z : mayG ⟨0, [], []⟩ = false := by kernel_rfl
def a5P (n : Nat) : List Obj :=
  [.cells #[.string ⟨#[83]⟩] 9, .cells #[.int .i64 (-1), .int .i64 34, .int .i64 34, .int .i64 (-1), .int .i64 10, .int .i64 10, .int .i64 0, .int .i64 0, .int .i64 0, .int .i64 (-1), .int .i64 39, .int .i64 122] 59,
   .cells #[.bool false, .slice none 0 0, .bool true, .slice (some ⟨n + 1, 0, none⟩) 4 4] 41, .cells #[.int .i64 0, .int .i64 0, .int .i64 0] 59,
   .cells #[.bool false, .slice (some ⟨n + 1 + 1 + 1, 0, none⟩) 1 1] 41, .cells #[.int .i64 0, .slice (some ⟨n + 1 + 1, 0, none⟩) 2 2, .int .i64 0, .slice (some ⟨n + 1 + 1 + 1 + 1, 0, none⟩) 1 1] 38]
theorem le44 : 4 ≤ maxLen ∧ 4 ≤ 4 := by unfold maxLen; omega
theorem sys_nil (w : World) (F : Nat → Prop) : IsSys w F (.slice none 0 0) [] := ⟨none, 0, rfl, ⟨Nat.zero_le _, Nat.zero_le _⟩, fun h => absurd h (Nat.lt_irrefl _)⟩
theorem texts_nil (w : World) (F : Nat → Prop) : IsTexts w F (.slice none 0 0) [] := ⟨none, 0, rfl, ⟨Nat.zero_le _, Nat.zero_le _⟩, fun h => absurd h (Nat.lt_irrefl _)⟩
theorem rus_nil (w : World) (F : Nat → Prop) : IsRus w F (.slice none 0 0) [] := ⟨[], ⟨none, 0, rfl, ⟨Nat.zero_le _, Nat.zero_le _⟩, fun h => absurd h (Nat.lt_irrefl _)⟩, RusIn.nil w F⟩
theorem a5_gram (w : World) (n : Nat) (hn : w.heap.size = n) : GrIs (blks w (a5P n)) Any (.slice (some ⟨n, 0, none⟩) 1 1) (.slice (some ⟨n + 5, 0, none⟩) 2 2) a5G := by
  subst hn
  have h := fun k o => blks_at (a5P w.heap.size) w k o
  have i0 := sys_nil (blks w (a5P w.heap.size)) Any
  have i1 : IsSys (blks w (a5P w.heap.size)) Any (.slice (some ⟨w.heap.size + 1, 0, none⟩) 4 4) [⟨-1, 34, 34⟩, ⟨-1, 10, 10⟩, ⟨0, 0, 0⟩, ⟨-1, 39, 122⟩] := reads_laid (h 1 _ rfl) le44 rfl
  have i2 : IsSys (blks w (a5P w.heap.size)) Any (.slice (some ⟨w.heap.size + 3, 0, none⟩) 1 1) [⟨0, 0, 0⟩] := reads_laid (h 3 _ rfl) le11 rfl
  have c1 : IsCns (blks w (a5P w.heap.size)) Any (.slice (some ⟨w.heap.size + 2, 0, none⟩) 2 2) [⟨false, []⟩, ⟨true, [⟨-1, 34, 34⟩, ⟨-1, 10, 10⟩, ⟨0, 0, 0⟩, ⟨-1, 39, 122⟩]⟩] := ⟨[_, _], reads_laid (h 2 _ rfl) le22 rfl, ((CnsIn.nil _ _).snoc (c := ⟨false, []⟩) i0).snoc (c := ⟨true, [⟨-1, 34, 34⟩, ⟨-1, 10, 10⟩, ⟨0, 0, 0⟩, ⟨-1, 39, 122⟩]⟩) i1⟩
  have c2 : IsCns (blks w (a5P w.heap.size)) Any (.slice (some ⟨w.heap.size + 4, 0, none⟩) 1 1) [⟨false, [⟨0, 0, 0⟩]⟩] := ⟨[_], reads_laid (h 4 _ rfl) le11 rfl, (CnsIn.nil _ _).snoc (c := ⟨false, [⟨0, 0, 0⟩]⟩) i2⟩
  exact ⟨reads_laid (h 0 _ rfl) le11 rfl, [_, _], reads_laid (h 5 _ rfl) le22 rfl, ((RusIn.nil _ _).snoc (c := ⟨0, _⟩) c1).snoc (c := ⟨0, _⟩) c2⟩
set_option maxHeartbeats 2000000 in
set_option maxRecDepth 100000 in
theorem awake5_any (w : World) : Calls Try.prog 9 #[] w fun e w' => e = .returned (.bool true) ∧ Below w.heap.size w w' := by
  have K1 : Calls Try.prog 5 #[.agg #[.int .i64 0, .slice (some ⟨w.heap.size, 0, none⟩) 1 1, .slice (some ⟨w.heap.size + 1 + 1 + 1 + 1 + 1, 0, none⟩) 2 2]] (blks w (a5P w.heap.size)) fun e w' => e = .returned (.tuple #[.string a5T, .int .i64 0]) ∧ Hid (Below (blks w (a5P w.heap.size)).heap.size (blks w (a5P w.heap.size)) w') := show_is a5m a5s a5n a5t (by decide) _ _ _ (a5_gram w _ rfl)
  have K2 : ∀ w', Calls Try.prog 5 #[.agg #[.int .i64 0, .slice none 0 0, .slice none 0 0]] w' fun e w'' => e = .returned (.tuple #[.string ⟨#[]⟩, .int .i64 500]) ∧ Hid (Below w'.heap.size w' w'') := fun w' => show_isnt (g := ⟨0, [], []⟩) a5z rfl rfl _ _ w' (F := Any) ⟨texts_nil _ _, rus_nil _ _⟩
  have HB : Hid (Below w.heap.size w (blks w (a5P w.heap.size))) := blks_below _ _
  have e5 := a5l
  go_enter Try.func9, Try.ntmps9
  go_wp2_with (first
    | (go_at_call 5; first
      | (have hh := H1; clear hh; refine (K2 _).mono ?_; rintro e w2 ⟨rfl, b2⟩)
      | (refine K1.mono ?_; rintro e w1 ⟨rfl, b1⟩; have H1 : Hid (Below w.heap.size w w1) := HB.out.trans (b1.out.mono HB.out.size)))
    | (go_at_call 7; refine (num_any _ _).mono ?_; rintro e wn ⟨rfl, rfl⟩))
  go_ret
  exact ⟨rfl, H1.out.trans (b2.out.mono H1.out.size)⟩
end Go.Proofs.Yteanhhehjlhhbaa
