/-
  DERIVED. GIVEN WITH THE SEED: THE CARDS: each row of YtgpklcpmabafmaaDoorRows.lean that lists a variable, with what it lists TIED to the program's text (the seventh form; the later family's looks); each row that meets fmt, with fmt's text TOLD by the authors' own Lean function (tested against real Go, not proved from fmt's source: count such statements apart). THE CARD IS WHAT COUNTS. Prove the row's statement (the work); the ties are given (YtgpklcpmabafmaaDoorTie.lean); close each card by the builder's one call (the guide's Derived/Test/ToyasCard.lean, 'card_holds'). Laid BY PROGRAM, IN A SANDBOX (cutbox-door.mjs). By AI agents, Wed Nov 11 2026. No macro, syntax, notation, axiom, sorry.
-/
import Derived.Test.YtgpklcpmabafmaaDoorRows
import GoSem.ClaimSeven
namespace Go.Proofs.YtgpklcpmabafmaaDoor
namespace Rows

/-- THE TIED CARD OF 'templelaw14.BinSizes'. -/
def binSizesCard : Claim7 := { stood := { row := binSizesRow, standIns := [], harness := (true, "5fce7ed0c7b9bbb116dd67317282d3a94ceff9013056f5850eb3486cfe634742"), looks := true }, kinds := [], alts := [], laidByText := true, laidKinds := [.data, .data, .data], laidTests := true, laidLooks := .later }
def BinSizesCardSaid : Prop := Claim7.holds Tryd.pinned (.plain (OpenSpec.ofChange binSizesSpec)) binSizesCard

/-- THE TIED CARD OF 'templelaw14.BinNames'. -/
def binNamesCard : Claim7 := { stood := { row := binNamesRow, standIns := [], harness := (true, "5fce7ed0c7b9bbb116dd67317282d3a94ceff9013056f5850eb3486cfe634742"), looks := true }, kinds := [], alts := [], laidByText := true, laidKinds := [.data, .data, .data], laidTests := true, laidLooks := .later }
def BinNamesCardSaid : Prop := Claim7.holds Tryd.pinned (.plain (OpenSpec.ofChange binNamesSpec)) binNamesCard

/-- THE TIED CARD OF 'templelaw14.BinMany'. -/
def binManyCard : Claim7 := { stood := { row := binManyRow, standIns := [], harness := (true, "5fce7ed0c7b9bbb116dd67317282d3a94ceff9013056f5850eb3486cfe634742"), looks := true }, kinds := [], alts := [], laidByText := true, laidKinds := [.data, .data, .data], laidTests := true, laidLooks := .later }
def BinManyCardSaid : Prop := Claim7.holds Tryd.pinned (.plain (OpenSpec.ofChange binManySpec)) binManyCard

/-- THE SECOND FORM's CARD OF 'templelaw14.BinSizes'. -/
def binSizesUptoCard : Claim7 := { stood := { row := binSizesUptoRow, standIns := [], harness := (true, "5fce7ed0c7b9bbb116dd67317282d3a94ceff9013056f5850eb3486cfe634742"), looks := true }, kinds := [], alts := [], laidByText := true, laidKinds := [.data, .data, .data], laidTests := true, laidLooks := .later }
def BinSizesUptoCardSaid : Prop := Claim7.holds Tryd.pinned (.plain (OpenSpec.upto binSizesSpec)) binSizesUptoCard

/-- THE SECOND FORM's CARD OF 'templelaw14.BinNames'. -/
def binNamesUptoCard : Claim7 := { stood := { row := binNamesUptoRow, standIns := [], harness := (true, "5fce7ed0c7b9bbb116dd67317282d3a94ceff9013056f5850eb3486cfe634742"), looks := true }, kinds := [], alts := [], laidByText := true, laidKinds := [.data, .data, .data], laidTests := true, laidLooks := .later }
def BinNamesUptoCardSaid : Prop := Claim7.holds Tryd.pinned (.plain (OpenSpec.upto binNamesSpec)) binNamesUptoCard

/-- THE SECOND FORM's CARD OF 'templelaw14.BinMany'. -/
def binManyUptoCard : Claim7 := { stood := { row := binManyUptoRow, standIns := [], harness := (true, "5fce7ed0c7b9bbb116dd67317282d3a94ceff9013056f5850eb3486cfe634742"), looks := true }, kinds := [], alts := [], laidByText := true, laidKinds := [.data, .data, .data], laidTests := true, laidLooks := .later }
def BinManyUptoCardSaid : Prop := Claim7.holds Tryd.pinned (.plain (OpenSpec.upto binManySpec)) binManyUptoCard
end Rows
end Go.Proofs.YtgpklcpmabafmaaDoor
