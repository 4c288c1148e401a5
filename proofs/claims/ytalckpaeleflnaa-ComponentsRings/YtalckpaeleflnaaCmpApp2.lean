/- A row of edges put together in the text's order; a region that draws, by a class of worlds. -/
import Derived.Test.YtalckpaeleflnaaCmpApp
import Derived.Test.YtalckpaeleflnaaComponentsFormsW
import Derived.Deep.CutRange
namespace Go.Proofs.Ytalckpaeleflnaa
set_option linter.unusedVariables false
open Go.ChangeShapes Go.WideShapes Go.ChangeAt Go.RowKit

theorem region_class {P : Program} {id : Nat} {Q : Exit → Act → World → Prop} {a : Act} {w : World} {l : List Oper} {ι : Type} (f : ι → World) (hm : P.follows .mixedOrders = true) (hB : Region.lexB .any l.toArray = true) (h0 : ∃ n, w.drew = f n)
    (h : wpQuiet P l.toArray (fun w' => ∃ n, w' = f n) (fun a' => ∀ w', (∃ n, w' = f n) → Q .normal a' w') l a) : (Code.region id l.toArray true).wp P Q a w :=
  wp_region_quiet (C := fun w' => ∃ n, w' = f n) hm hB h0 (by simpa using h)
/-- The worlds of a property, as a family. -/
theorem family2 (I : World → Prop) (w : World) (h : I w) : ∃ (ι : Type) (f : ι → World) (n0 : ι), w = f n0 ∧ (∀ n, I (f n)) ∧ ∀ w', I w' → ∃ m, w' = f m :=
  ⟨{x // I x}, Subtype.val, ⟨w, h⟩, rfl, Subtype.property, fun w' h => ⟨⟨w', h⟩, rfl⟩⟩
theorem IsInts.all {w : World} {F : Nat → Prop} {p : Option Addr} {n c : Nat} {l : List Int} (h : IsInts w F (.slice p n c) l) (hl : 0 < l.length) : ∃ g o, p = some ⟨g, o, none⟩ ∧ g < w.heap.size ∧ ∀ k z, l[k]? = some z → w.cell? ⟨g, o + k, none⟩ = some (.int .i64 z) := by
  obtain ⟨p2, c2, e2, _, hc⟩ := h
  injection e2 with e3
  subst e3
  obtain ⟨g, o, e9, _, hg, cc, _⟩ := hc (by omega)
  exact ⟨g, o, e9, hg, fun k z hk => cc k _ (by unfold intsV; rw [List.getElem?_map, hk]; rfl)⟩
/-- As app_ed, in a region in the text's order. -/
theorem app_ed2 {V : World} {B n : Nat} {p : Option Addr} {c : Nat} {l : List Ed} (hown : V.ownsRow B 37 3 (.slice p n c) n (edsV l)) (hB : B ≤ V.heap.size) (hn : n ≤ 1000) (x y : Int) (z : Bool) :
    ∃ q k w', (Builtin.append_ #[22, 22] 22 #[.slice p n c, .slice (some ⟨V.heap.size, 0, none⟩) 1 1]).run Try.prog (V.alloc (.cells #[.int .i64 x, .int .i64 y, .bool z] 37)) = .ok (.slice q (n + 1) k) w' ∧ w'.ownsRow B 37 3 (.slice q (n + 1) k) (n + 1) (edsV (l ++ [(x, y, z)])) ∧ Below B V w' := by
  obtain ⟨i, hi0, hz0, hz1, hz2⟩ := info_parts Try.infoEd
  have hr : Reads (V.alloc (.cells #[.int .i64 x, .int .i64 y, .bool z] 37)) Any (.slice (some ⟨V.heap.size, 0, none⟩) 1 1) 1 [.int .i64 x, .int .i64 y, .bool z] := reads_laid (heap_alloc_new V _) (by unfold maxLen; omega) rfl
  obtain ⟨v', w', h1, h2, h3⟩ := run_append_reads (P := Try.prog) B 22 22 37 i _ 3 24 Try.underlying22 hi0 hz0 hz1 hz2 rfl (by decide) _ n (edsV l) (hown.alloc _) _ 1 _ hr rfl (by simp [Value.oneCell']) (by unfold maxLen; omega) (by omega) (by simp; omega)
  obtain ⟨q, k, hv⟩ := row_slice h2
  subst hv
  refine ⟨q, k, w', h1, by rw [edsV_append]; exact h2, ((Below.refl B V).alloc hB _).grown h3 (by simp; omega) (fun g hg => (hown.lt g hg).1)⟩
end Go.Proofs.Ytalckpaeleflnaa
