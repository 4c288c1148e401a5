/- A region that draws its order, all of whose operations and callees leave a class of worlds as it is: one walk, in the text's order. -/
import Derived.Test.YtinpmoojmmpaoaaAwake
import Derived.BigQuiet
namespace Go.Proofs.Ytinpmoojmmpaoaa
open Go.RowKit

theorem region_class {P : Program} {id : Nat} {Q : Exit → Act → World → Prop} {a : Act} {w : World} {l : List Oper} {ι : Type} (f : ι → World) (hm : P.follows .mixedOrders = true) (hB : Region.lexB .any l.toArray = true) (h0 : ∃ n, w.drew = f n)
    (h : wpQuiet P l.toArray (fun w' => ∃ n, w' = f n) (fun a' => ∀ w', (∃ n, w' = f n) → Q .normal a' w') l a) : (Code.region id l.toArray true).wp P Q a w :=
  wp_region_quiet (C := fun w' => ∃ n, w' = f n) hm hB h0 (by simpa using h)

/-- The worlds of a property that every call keeps, as a family. -/
theorem family (I : World → Prop) (hI : ∀ x y, I x → Below x.heap.size x y → I y) (w : World) (h : I w) :
    ∃ (ι : Type) (f : ι → World) (n0 : ι), w = f n0 ∧ (∀ n, I (f n)) ∧ ∀ n w', Below (f n).heap.size (f n) w' → ∃ m, w' = f m :=
  ⟨{x // I x}, Subtype.val, ⟨w, h⟩, rfl, Subtype.property, fun n w' hb => ⟨⟨w', hI _ _ n.2 hb⟩, rfl⟩⟩

end Go.Proofs.Ytinpmoojmmpaoaa
