import Derived.Test.YtfjejnkjlnkkhaaGreatDoorGq
import Derived.Test.YtfjejnkjlnkkhaaGreatDoorGc
/- Pairs of templelaw11: a grammar that is written out. -/
namespace Go.Proofs.YtfjejnkjlnkkhaaGreatDoor
set_option linter.unusedVariables false
set_option linter.unusedSimpArgs false
open Go.ChangeShapes Go.WideShapes Go.ChangeAt Go.RowKit Go.Maps

def psA : Sy := ⟨-1, 97, 97⟩
def psB : Sy := ⟨-1, 98, 98⟩
def psS : Sy := ⟨0, 0, 0⟩
def psX : Sy := ⟨1, 0, 0⟩
/-- The grammar Pairs. -/
def psG : Gr := ⟨0, [⟨#[83]⟩, ⟨#[88]⟩], [⟨0, [⟨false, [psA, psS, psB]⟩, ⟨true, [psX]⟩]⟩, ⟨0, [⟨false, []⟩]⟩, ⟨1, [⟨false, [psA]⟩]⟩, ⟨1, [⟨false, [psX, psX]⟩]⟩]⟩
theorem ps_may : mayG psG = true := by kernel_rfl
def psP (n : Nat) : List Obj :=
  [.cells #[.int .i64 0, .slice (some ⟨n + 1 + 1 + 1 + 1 + 1, 0, none⟩) 2 2, .slice (some ⟨n + 1 + 1 + 1 + 1 + 1 + 1 + 1 + 1 + 1 + 1 + 1 + 1 + 1 + 1, 0, none⟩) 4 4] 25,
   .cells #[.int .i64 (-1), .int .i64 97, .int .i64 97] 44,
   .cells #[.int .i64 (-1), .int .i64 98, .int .i64 98] 44,
   .cells #[.int .i64 0, .int .i64 0, .int .i64 0] 44,
   .cells #[.int .i64 1, .int .i64 0, .int .i64 0] 44,
   .cells #[.string ⟨#[83]⟩, .string ⟨#[88]⟩] 9,
   .cells #[.int .i64 (-1), .int .i64 97, .int .i64 97, .int .i64 0, .int .i64 0, .int .i64 0, .int .i64 (-1), .int .i64 98, .int .i64 98] 44,
   .cells #[.int .i64 1, .int .i64 0, .int .i64 0] 44,
   .cells #[.bool false, .slice (some ⟨n + 1 + 1 + 1 + 1 + 1 + 1, 0, none⟩) 3 3, .bool true, .slice (some ⟨n + 1 + 1 + 1 + 1 + 1 + 1 + 1, 0, none⟩) 1 1] 48,
   .cells #[.bool false, .slice none 0 0] 48,
   .cells #[.int .i64 (-1), .int .i64 97, .int .i64 97] 44,
   .cells #[.bool false, .slice (some ⟨n + 1 + 1 + 1 + 1 + 1 + 1 + 1 + 1 + 1 + 1, 0, none⟩) 1 1] 48,
   .cells #[.int .i64 1, .int .i64 0, .int .i64 0, .int .i64 1, .int .i64 0, .int .i64 0] 44,
   .cells #[.bool false, .slice (some ⟨n + 1 + 1 + 1 + 1 + 1 + 1 + 1 + 1 + 1 + 1 + 1 + 1, 0, none⟩) 2 2] 48,
   .cells #[.int .i64 0, .slice (some ⟨n + 1 + 1 + 1 + 1 + 1 + 1 + 1 + 1, 0, none⟩) 2 2, .int .i64 0, .slice (some ⟨n + 1 + 1 + 1 + 1 + 1 + 1 + 1 + 1 + 1, 0, none⟩) 1 1, .int .i64 1, .slice (some ⟨n + 1 + 1 + 1 + 1 + 1 + 1 + 1 + 1 + 1 + 1 + 1, 0, none⟩) 1 1, .int .i64 1, .slice (some ⟨n + 1 + 1 + 1 + 1 + 1 + 1 + 1 + 1 + 1 + 1 + 1 + 1 + 1, 0, none⟩) 1 1] 53]
theorem ps_gram (X : World) (n : Nat) (hb : ∀ k o, (psP n)[k]? = some o → X.heap[n + k]? = some o) : GrIs X Any (.slice (some ⟨n + 1 + 1 + 1 + 1 + 1, 0, none⟩) 2 2) (.slice (some ⟨n + 1 + 1 + 1 + 1 + 1 + 1 + 1 + 1 + 1 + 1 + 1 + 1 + 1 + 1, 0, none⟩) 4 4) psG := by
  have i6 : IsSys X Any (.slice (some ⟨n + 1 + 1 + 1 + 1 + 1 + 1, 0, none⟩) 3 3) [psA, psS, psB] := reads_laid (hb 6 _ rfl) ⟨by decide, by decide⟩ rfl
  have i7 : IsSys X Any (.slice (some ⟨n + 1 + 1 + 1 + 1 + 1 + 1 + 1, 0, none⟩) 1 1) [psX] := reads_laid (hb 7 _ rfl) ⟨by decide, by decide⟩ rfl
  have i10 : IsSys X Any (.slice (some ⟨n + 1 + 1 + 1 + 1 + 1 + 1 + 1 + 1 + 1 + 1, 0, none⟩) 1 1) [psA] := reads_laid (hb 10 _ rfl) ⟨by decide, by decide⟩ rfl
  have i12 : IsSys X Any (.slice (some ⟨n + 1 + 1 + 1 + 1 + 1 + 1 + 1 + 1 + 1 + 1 + 1 + 1, 0, none⟩) 2 2) [psX, psX] := reads_laid (hb 12 _ rfl) ⟨by decide, by decide⟩ rfl
  have c8 : IsCns X Any (.slice (some ⟨n + 1 + 1 + 1 + 1 + 1 + 1 + 1 + 1, 0, none⟩) 2 2) [⟨false, [psA, psS, psB]⟩, ⟨true, [psX]⟩] := ⟨[_, _], reads_laid (hb 8 _ rfl) ⟨by decide, by decide⟩ rfl, ((CnsIn.nil _ _).snoc (c := ⟨false, [psA, psS, psB]⟩) i6).snoc (c := ⟨true, [psX]⟩) i7⟩
  have c9 : IsCns X Any (.slice (some ⟨n + 1 + 1 + 1 + 1 + 1 + 1 + 1 + 1 + 1, 0, none⟩) 1 1) [⟨false, []⟩] := ⟨[_], reads_laid (hb 9 _ rfl) ⟨by decide, by decide⟩ rfl, (CnsIn.nil _ _).snoc (c := ⟨false, []⟩) (sysE_nil _ _)⟩
  have c11 : IsCns X Any (.slice (some ⟨n + 1 + 1 + 1 + 1 + 1 + 1 + 1 + 1 + 1 + 1 + 1, 0, none⟩) 1 1) [⟨false, [psA]⟩] := ⟨[_], reads_laid (hb 11 _ rfl) ⟨by decide, by decide⟩ rfl, (CnsIn.nil _ _).snoc (c := ⟨false, [psA]⟩) i10⟩
  have c13 : IsCns X Any (.slice (some ⟨n + 1 + 1 + 1 + 1 + 1 + 1 + 1 + 1 + 1 + 1 + 1 + 1 + 1, 0, none⟩) 1 1) [⟨false, [psX, psX]⟩] := ⟨[_], reads_laid (hb 13 _ rfl) ⟨by decide, by decide⟩ rfl, (CnsIn.nil _ _).snoc (c := ⟨false, [psX, psX]⟩) i12⟩
  exact ⟨reads_laid (hb 5 _ rfl) ⟨by decide, by decide⟩ rfl, [_, _, _, _], reads_laid (hb 14 _ rfl) ⟨by decide, by decide⟩ rfl, ((((RusIn.nil _ _).snoc (c := ⟨0, _⟩) c8).snoc (c := ⟨0, _⟩) c9).snoc (c := ⟨1, _⟩) c11).snoc (c := ⟨1, _⟩) c13⟩
set_option maxHeartbeats 4000000 in
set_option maxRecDepth 100000 in
theorem pairs_any (w : World) : Calls Tryz.prog 22 #[] w fun e w' => ∃ p1 c1 p2 c2, e = .returned (.agg #[.int .i64 0, .slice p1 2 c1, .slice p2 4 c2]) ∧ Hid (GrIs w' Any (.slice p1 2 c1) (.slice p2 4 c2) psG) ∧ Hid (Below w.heap.size w w') := by
  have HG : Hid (GrIs (blks w (psP w.heap.size)) Any (.slice (some ⟨w.heap.size + 1 + 1 + 1 + 1 + 1, 0, none⟩) 2 2) (.slice (some ⟨w.heap.size + 1 + 1 + 1 + 1 + 1 + 1 + 1 + 1 + 1 + 1 + 1 + 1 + 1 + 1, 0, none⟩) 4 4) psG) := ps_gram _ _ fun k o ho => blks_at _ w k o ho
  have HB : Hid (Below w.heap.size w (blks w (psP w.heap.size))) := blks_below _ _
  go_enter Tryz.func22, Tryz.ntmps22
  go_wp2
  refine bodyPost_ret (v := .agg #[.int .i64 0, .slice (some ⟨w.heap.size + 1 + 1 + 1 + 1 + 1, 0, none⟩) 2 2, .slice (some ⟨w.heap.size + 1 + 1 + 1 + 1 + 1 + 1 + 1 + 1 + 1 + 1 + 1 + 1 + 1 + 1, 0, none⟩) 4 4]) ?_ rfl ⟨_, _, _, _, rfl, HG, HB⟩
  rw [results_cell rfl]
  go_simp
end Go.Proofs.YtfjejnkjlnkkhaaGreatDoor
/- What Pairs' grammar means of a short text: names, rests, ranks. -/
namespace Go.Proofs.YtfjejnkjlnkkhaaGreatDoor
set_option linter.unusedVariables false
set_option linter.unusedSimpArgs false
open Go.ChangeShapes Go.WideShapes Go.ChangeAt Go.RowKit Go.Maps

def psE : List Ed := [(0, 0, false), (0, 1, true), (1, 1, false)]
theorem ps_edges : edgesT psG = psE := edgesT_eq (by unfold psE; decide) (fun x => by
  have : allE psG.rules = [(0, 0, false), (0, 1, true), (1, 1, false), (1, 1, false)] := by decide
  rw [this]
  unfold psE
  simp)
theorem ps_free : (edgesT psG).find? (badE psG.names.length (edgesT psG)) = none := by
  rw [ps_edges]
  show psE.find? (badE 2 psE) = none
  decide +kernel
def psW : ByteArray := ⟨#[97, 97, 98, 98]⟩
def psL : List (Nat × Nat × Nat) := [(0, 0, 0), (0, 1, 1), (0, 2, 2), (0, 3, 3), (0, 4, 4), (0, 1, 3), (0, 0, 4), (1, 0, 1), (1, 1, 2), (1, 0, 2)]
theorem ps_stb : stbB (btsW psW) 4 2 8 psG.rules psL = true := by decide +kernel
theorem ps_mean {T : SpM} {t : Nat} {K : Nat → Nat} (h : Tk psG psW T t K) : nmT psG.names.length T = litM psL :=
  stb3_uniq (grOk_of ps_may ps_free).1.st h.hT.stb (stb_lit (N := 2) h.nm (n := 4) (t := 8) ps_stb)
end Go.Proofs.YtfjejnkjlnkkhaaGreatDoor
