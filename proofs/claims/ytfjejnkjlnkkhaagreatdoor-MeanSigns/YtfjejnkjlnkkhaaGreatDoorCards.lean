/-
  DERIVED. GIVEN WITH THE SEED: THE CARDS: each row of YtfjejnkjlnkkhaaGreatDoorRows.lean that lists a variable, with what it lists TIED to the program's text (the seventh form; the later family's looks); each row that meets fmt, with fmt's text TOLD by the authors' own Lean function (tested against real Go, not proved from fmt's source: count such statements apart). THE CARD IS WHAT COUNTS. Prove the row's statement (the work); the ties are given (YtfjejnkjlnkkhaaGreatDoorTie.lean); close each card by the builder's one call (the guide's Derived/Test/ToyasCard.lean, 'card_holds'). Laid BY PROGRAM, IN A SANDBOX (cutbox-door.mjs). By AI agents, Wed Nov 11 2026. No macro, syntax, notation, axiom, sorry.
-/
import Derived.Test.YtfjejnkjlnkkhaaGreatDoorRows
import GoSem.ClaimSeven
namespace Go.Proofs.YtfjejnkjlnkkhaaGreatDoor
namespace Rows

/-- THE TIED CARD OF 'templelaw11.MeanHolds'. -/
def meanHoldsCard : Claim7 := { stood := { row := meanHoldsRow, standIns := [], harness := (true, "7b1a2502c7865af0658e6db8bd214c7ea0c6b20b20381b08a6ff544a4d37f9f1"), looks := true }, kinds := [], alts := [], laidByText := true, laidKinds := [.data], laidTests := true, laidLooks := .later }
def MeanHoldsCardSaid : Prop := Claim7.holds Tryz.pinned (.plain (OpenSpec.ofChange meanHoldsSpec)) meanHoldsCard

/-- THE TIED CARD OF 'templelaw11.MeanRanks'. -/
def meanRanksCard : Claim7 := { stood := { row := meanRanksRow, standIns := [], harness := (true, "7b1a2502c7865af0658e6db8bd214c7ea0c6b20b20381b08a6ff544a4d37f9f1"), looks := true }, kinds := [], alts := [], laidByText := true, laidKinds := [.data], laidTests := true, laidLooks := .later }
def MeanRanksCardSaid : Prop := Claim7.holds Tryz.pinned (.plain (OpenSpec.ofChange meanRanksSpec)) meanRanksCard

/-- THE TIED CARD OF 'templelaw11.MeanSpans'. -/
def meanSpansCard : Claim7 := { stood := { row := meanSpansRow, standIns := [], harness := (true, "7b1a2502c7865af0658e6db8bd214c7ea0c6b20b20381b08a6ff544a4d37f9f1"), looks := true }, kinds := [], alts := [], laidByText := true, laidKinds := [.data], laidTests := true, laidLooks := .later }
def MeanSpansCardSaid : Prop := Claim7.holds Tryz.pinned (.plain (OpenSpec.ofChange meanSpansSpec)) meanSpansCard

/-- THE TIED CARD OF 'templelaw11.MeanPairs'. -/
def meanPairsCard : Claim7 := { stood := { row := meanPairsRow, standIns := [], harness := (true, "7b1a2502c7865af0658e6db8bd214c7ea0c6b20b20381b08a6ff544a4d37f9f1"), looks := true }, kinds := [], alts := [], laidByText := true, laidKinds := [.data], laidTests := true, laidLooks := .later }
def MeanPairsCardSaid : Prop := Claim7.holds Tryz.pinned (.plain (OpenSpec.ofChange meanPairsSpec)) meanPairsCard

/-- THE TIED CARD OF 'templelaw11.MeanSigns'. -/
def meanSignsCard : Claim7 := { stood := { row := meanSignsRow, standIns := [], harness := (true, "7b1a2502c7865af0658e6db8bd214c7ea0c6b20b20381b08a6ff544a4d37f9f1"), looks := true }, kinds := [], alts := [], laidByText := true, laidKinds := [.data], laidTests := true, laidLooks := .later }
def MeanSignsCardSaid : Prop := Claim7.holds Tryz.pinned (.plain (OpenSpec.ofChange meanSignsSpec)) meanSignsCard

/-- THE TIED CARD OF 'templelaw11.MeanRows'. -/
def meanRowsCard : Claim7 := { stood := { row := meanRowsRow, standIns := [], harness := (true, "7b1a2502c7865af0658e6db8bd214c7ea0c6b20b20381b08a6ff544a4d37f9f1"), looks := true }, kinds := [], alts := [], laidByText := true, laidKinds := [.data], laidTests := true, laidLooks := .later }
def MeanRowsCardSaid : Prop := Claim7.holds Tryz.pinned (.plain (OpenSpec.ofChange meanRowsSpec)) meanRowsCard

/-- THE TIED CARD OF 'templelaw11.MeanForms'. -/
def meanFormsCard : Claim7 := { stood := { row := meanFormsRow, standIns := [], harness := (true, "7b1a2502c7865af0658e6db8bd214c7ea0c6b20b20381b08a6ff544a4d37f9f1"), looks := true }, kinds := [], alts := [], laidByText := true, laidKinds := [.data], laidTests := true, laidLooks := .later }
def MeanFormsCardSaid : Prop := Claim7.holds Tryz.pinned (.plain (OpenSpec.ofChange meanFormsSpec)) meanFormsCard

/-- THE TIED CARD OF 'templelaw11.MeanStretches'. -/
def meanStretchesCard : Claim7 := { stood := { row := meanStretchesRow, standIns := [], harness := (true, "7b1a2502c7865af0658e6db8bd214c7ea0c6b20b20381b08a6ff544a4d37f9f1"), looks := true }, kinds := [], alts := [], laidByText := true, laidKinds := [.data], laidTests := true, laidLooks := .later }
def MeanStretchesCardSaid : Prop := Claim7.holds Tryz.pinned (.plain (OpenSpec.ofChange meanStretchesSpec)) meanStretchesCard

/-- THE TIED CARD OF 'templelaw11.MeanMore'. -/
def meanMoreCard : Claim7 := { stood := { row := meanMoreRow, standIns := [], harness := (true, "7b1a2502c7865af0658e6db8bd214c7ea0c6b20b20381b08a6ff544a4d37f9f1"), looks := true }, kinds := [], alts := [], laidByText := true, laidKinds := [.data], laidTests := true, laidLooks := .later }
def MeanMoreCardSaid : Prop := Claim7.holds Tryz.pinned (.plain (OpenSpec.ofChange meanMoreSpec)) meanMoreCard

/-- THE TIED CARD OF 'templelaw11.MeanStars'. -/
def meanStarsCard : Claim7 := { stood := { row := meanStarsRow, standIns := [], harness := (true, "7b1a2502c7865af0658e6db8bd214c7ea0c6b20b20381b08a6ff544a4d37f9f1"), looks := true }, kinds := [], alts := [], laidByText := true, laidKinds := [.data], laidTests := true, laidLooks := .later }
def MeanStarsCardSaid : Prop := Claim7.holds Tryz.pinned (.plain (OpenSpec.ofChange meanStarsSpec)) meanStarsCard

/-- THE SECOND FORM's CARD OF 'templelaw11.MeanHolds'. -/
def meanHoldsUptoCard : Claim7 := { stood := { row := meanHoldsUptoRow, standIns := [], harness := (true, "7b1a2502c7865af0658e6db8bd214c7ea0c6b20b20381b08a6ff544a4d37f9f1"), looks := true }, kinds := [], alts := [], laidByText := true, laidKinds := [.data], laidTests := true, laidLooks := .later }
def MeanHoldsUptoCardSaid : Prop := Claim7.holds Tryz.pinned (.plain (OpenSpec.upto meanHoldsSpec)) meanHoldsUptoCard

/-- THE SECOND FORM's CARD OF 'templelaw11.MeanRanks'. -/
def meanRanksUptoCard : Claim7 := { stood := { row := meanRanksUptoRow, standIns := [], harness := (true, "7b1a2502c7865af0658e6db8bd214c7ea0c6b20b20381b08a6ff544a4d37f9f1"), looks := true }, kinds := [], alts := [], laidByText := true, laidKinds := [.data], laidTests := true, laidLooks := .later }
def MeanRanksUptoCardSaid : Prop := Claim7.holds Tryz.pinned (.plain (OpenSpec.upto meanRanksSpec)) meanRanksUptoCard

/-- THE SECOND FORM's CARD OF 'templelaw11.MeanSpans'. -/
def meanSpansUptoCard : Claim7 := { stood := { row := meanSpansUptoRow, standIns := [], harness := (true, "7b1a2502c7865af0658e6db8bd214c7ea0c6b20b20381b08a6ff544a4d37f9f1"), looks := true }, kinds := [], alts := [], laidByText := true, laidKinds := [.data], laidTests := true, laidLooks := .later }
def MeanSpansUptoCardSaid : Prop := Claim7.holds Tryz.pinned (.plain (OpenSpec.upto meanSpansSpec)) meanSpansUptoCard

/-- THE SECOND FORM's CARD OF 'templelaw11.MeanPairs'. -/
def meanPairsUptoCard : Claim7 := { stood := { row := meanPairsUptoRow, standIns := [], harness := (true, "7b1a2502c7865af0658e6db8bd214c7ea0c6b20b20381b08a6ff544a4d37f9f1"), looks := true }, kinds := [], alts := [], laidByText := true, laidKinds := [.data], laidTests := true, laidLooks := .later }
def MeanPairsUptoCardSaid : Prop := Claim7.holds Tryz.pinned (.plain (OpenSpec.upto meanPairsSpec)) meanPairsUptoCard

/-- THE SECOND FORM's CARD OF 'templelaw11.MeanSigns'. -/
def meanSignsUptoCard : Claim7 := { stood := { row := meanSignsUptoRow, standIns := [], harness := (true, "7b1a2502c7865af0658e6db8bd214c7ea0c6b20b20381b08a6ff544a4d37f9f1"), looks := true }, kinds := [], alts := [], laidByText := true, laidKinds := [.data], laidTests := true, laidLooks := .later }
def MeanSignsUptoCardSaid : Prop := Claim7.holds Tryz.pinned (.plain (OpenSpec.upto meanSignsSpec)) meanSignsUptoCard

/-- THE SECOND FORM's CARD OF 'templelaw11.MeanRows'. -/
def meanRowsUptoCard : Claim7 := { stood := { row := meanRowsUptoRow, standIns := [], harness := (true, "7b1a2502c7865af0658e6db8bd214c7ea0c6b20b20381b08a6ff544a4d37f9f1"), looks := true }, kinds := [], alts := [], laidByText := true, laidKinds := [.data], laidTests := true, laidLooks := .later }
def MeanRowsUptoCardSaid : Prop := Claim7.holds Tryz.pinned (.plain (OpenSpec.upto meanRowsSpec)) meanRowsUptoCard

/-- THE SECOND FORM's CARD OF 'templelaw11.MeanForms'. -/
def meanFormsUptoCard : Claim7 := { stood := { row := meanFormsUptoRow, standIns := [], harness := (true, "7b1a2502c7865af0658e6db8bd214c7ea0c6b20b20381b08a6ff544a4d37f9f1"), looks := true }, kinds := [], alts := [], laidByText := true, laidKinds := [.data], laidTests := true, laidLooks := .later }
def MeanFormsUptoCardSaid : Prop := Claim7.holds Tryz.pinned (.plain (OpenSpec.upto meanFormsSpec)) meanFormsUptoCard

/-- THE SECOND FORM's CARD OF 'templelaw11.MeanStretches'. -/
def meanStretchesUptoCard : Claim7 := { stood := { row := meanStretchesUptoRow, standIns := [], harness := (true, "7b1a2502c7865af0658e6db8bd214c7ea0c6b20b20381b08a6ff544a4d37f9f1"), looks := true }, kinds := [], alts := [], laidByText := true, laidKinds := [.data], laidTests := true, laidLooks := .later }
def MeanStretchesUptoCardSaid : Prop := Claim7.holds Tryz.pinned (.plain (OpenSpec.upto meanStretchesSpec)) meanStretchesUptoCard

/-- THE SECOND FORM's CARD OF 'templelaw11.MeanMore'. -/
def meanMoreUptoCard : Claim7 := { stood := { row := meanMoreUptoRow, standIns := [], harness := (true, "7b1a2502c7865af0658e6db8bd214c7ea0c6b20b20381b08a6ff544a4d37f9f1"), looks := true }, kinds := [], alts := [], laidByText := true, laidKinds := [.data], laidTests := true, laidLooks := .later }
def MeanMoreUptoCardSaid : Prop := Claim7.holds Tryz.pinned (.plain (OpenSpec.upto meanMoreSpec)) meanMoreUptoCard

/-- THE SECOND FORM's CARD OF 'templelaw11.MeanStars'. -/
def meanStarsUptoCard : Claim7 := { stood := { row := meanStarsUptoRow, standIns := [], harness := (true, "7b1a2502c7865af0658e6db8bd214c7ea0c6b20b20381b08a6ff544a4d37f9f1"), looks := true }, kinds := [], alts := [], laidByText := true, laidKinds := [.data], laidTests := true, laidLooks := .later }
def MeanStarsUptoCardSaid : Prop := Claim7.holds Tryz.pinned (.plain (OpenSpec.upto meanStarsSpec)) meanStarsUptoCard
end Rows
end Go.Proofs.YtfjejnkjlnkkhaaGreatDoor
