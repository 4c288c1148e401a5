/-
  No cell of these rows narrows 'for every input' (looked for: loops, veiled, ifaces, maps, wideKeys, modest, calm, conditions, laid).
  DERIVED. THE GIVEN ROWS OF THIS SEAT. 27 by the template 'for every input the law returns true; each argument reads behind the call as it read before'; 0 by the template 'total and deterministic' (their statements: YtkkmjgohjaedkaaTotals.lean).
  GIVEN WITH THE SEED: the statements are not yours to turn. If you find one false, say at which input.
  Laid BY PROGRAM, IN A SANDBOX (cutbox-rows.mjs): the forced cells as the released guide's own fill.sh prints them over the translation 9e899a8cd81a9100… (all of the seat's roots in one cut). By AI agents, Wed Nov 11 2026. No macro, syntax, notation, axiom, sorry.
-/
import Derived.Test.YtkkmjgohjaedkaaChecked
import GoSem.Claim
import GoSem.ClaimJoined
import GoSem.ClaimMapViews
import Derived.JoinedTies
import Derived.KernelRfl
namespace Go.Proofs.Ytkkmjgohjaedkaa
/- THE CELL 'sum', in the pinned program and in every row, IS THE sha256 OF THE DUMP (.gsa) THAT YtkkmjgohjaedkaaProg.lean LOADS. Nothing in Lean hashes anything: it is a label: what it is worth is what the hold of that sum in a sandbox is worth. -/
noncomputable def Try.pinned : Pinned := { name := "ytkkmjgohjaedkaa", sum := "9e899a8cd81a910081ae3e038c67c44c1c581f2e729772e91a7afdbcd028de86", checked := Try.checked }
namespace Rows
def none {H : Type} : Left H := { results := [], args := [] }

/-- 'templelaw2.Lexes': WHATEVER THE INPUT: true; the input reads as it did. -/
def lexesSpec : ChangeSpec := { name := "lexes", fn := fun _ => fun
  | [d] => { results := [.lit (.bool true)], args := [d] }
  | _ => none }
def lexesRow : OpenClaim := { program := "ytkkmjgohjaedkaa", sum := "9e899a8cd81a910081ae3e038c67c44c1c581f2e729772e91a7afdbcd028de86", func := "temple/templelaw2.Lexes", spec := "lexes", apart := false }
def LexesSaid : Prop := lexesRow.holds Try.pinned (OpenSpec.ofChange lexesSpec)

/-- ITS FALSE NEIGHBOUR: 'it returns false'. Refute it at one input. -/
def lexesWrong : ChangeSpec := { name := "lexes", fn := fun _ => fun
  | [d] => { results := [.lit (.bool false)], args := [d] }
  | _ => none }
def LexesWrongFalsely : Prop := lexesRow.holds Try.pinned (OpenSpec.ofChange lexesWrong)

/-- 'templelaw2.LexJoins': WHATEVER THE INPUT: true; the input reads as it did. -/
def lexJoinsSpec : ChangeSpec := { name := "lexJoins", fn := fun _ => fun
  | [d1, d2] => { results := [.lit (.bool true)], args := [d1, d2] }
  | _ => none }
def lexJoinsRow : OpenClaim := { program := "ytkkmjgohjaedkaa", sum := "9e899a8cd81a910081ae3e038c67c44c1c581f2e729772e91a7afdbcd028de86", func := "temple/templelaw2.LexJoins", spec := "lexJoins", apart := false }
def LexJoinsSaid : Prop := lexJoinsRow.holds Try.pinned (OpenSpec.ofChange lexJoinsSpec)

/-- ITS FALSE NEIGHBOUR: 'it returns false'. Refute it at one input. -/
def lexJoinsWrong : ChangeSpec := { name := "lexJoins", fn := fun _ => fun
  | [d1, d2] => { results := [.lit (.bool false)], args := [d1, d2] }
  | _ => none }
def LexJoinsWrongFalsely : Prop := lexJoinsRow.holds Try.pinned (OpenSpec.ofChange lexJoinsWrong)

/-- 'templelaw2.LexTexts': WHATEVER THE INPUT: true; the input reads as it did. -/
def lexTextsSpec : ChangeSpec := { name := "lexTexts", fn := fun _ => fun
  | [d1, d2] => { results := [.lit (.bool true)], args := [d1, d2] }
  | _ => none }
def lexTextsRow : OpenClaim := { program := "ytkkmjgohjaedkaa", sum := "9e899a8cd81a910081ae3e038c67c44c1c581f2e729772e91a7afdbcd028de86", func := "temple/templelaw2.LexTexts", spec := "lexTexts", apart := false }
def LexTextsSaid : Prop := lexTextsRow.holds Try.pinned (OpenSpec.ofChange lexTextsSpec)

/-- ITS FALSE NEIGHBOUR: 'it returns false'. Refute it at one input. -/
def lexTextsWrong : ChangeSpec := { name := "lexTexts", fn := fun _ => fun
  | [d1, d2] => { results := [.lit (.bool false)], args := [d1, d2] }
  | _ => none }
def LexTextsWrongFalsely : Prop := lexTextsRow.holds Try.pinned (OpenSpec.ofChange lexTextsWrong)

/-- 'templelaw2.LexBlanks': WHATEVER THE INPUT: true; the input reads as it did. -/
def lexBlanksSpec : ChangeSpec := { name := "lexBlanks", fn := fun _ => fun
  | [d1, d2] => { results := [.lit (.bool true)], args := [d1, d2] }
  | _ => none }
def lexBlanksRow : OpenClaim := { program := "ytkkmjgohjaedkaa", sum := "9e899a8cd81a910081ae3e038c67c44c1c581f2e729772e91a7afdbcd028de86", func := "temple/templelaw2.LexBlanks", spec := "lexBlanks", apart := false }
def LexBlanksSaid : Prop := lexBlanksRow.holds Try.pinned (OpenSpec.ofChange lexBlanksSpec)

/-- ITS FALSE NEIGHBOUR: 'it returns false'. Refute it at one input. -/
def lexBlanksWrong : ChangeSpec := { name := "lexBlanks", fn := fun _ => fun
  | [d1, d2] => { results := [.lit (.bool false)], args := [d1, d2] }
  | _ => none }
def LexBlanksWrongFalsely : Prop := lexBlanksRow.holds Try.pinned (OpenSpec.ofChange lexBlanksWrong)

/-- 'templelaw2.LexNames': WHATEVER THE INPUT: true; the input reads as it did. -/
def lexNamesSpec : ChangeSpec := { name := "lexNames", fn := fun _ => fun
  | [d1, d2] => { results := [.lit (.bool true)], args := [d1, d2] }
  | _ => none }
def lexNamesRow : OpenClaim := { program := "ytkkmjgohjaedkaa", sum := "9e899a8cd81a910081ae3e038c67c44c1c581f2e729772e91a7afdbcd028de86", func := "temple/templelaw2.LexNames", spec := "lexNames", apart := false }
def LexNamesSaid : Prop := lexNamesRow.holds Try.pinned (OpenSpec.ofChange lexNamesSpec)

/-- ITS FALSE NEIGHBOUR: 'it returns false'. Refute it at one input. -/
def lexNamesWrong : ChangeSpec := { name := "lexNames", fn := fun _ => fun
  | [d1, d2] => { results := [.lit (.bool false)], args := [d1, d2] }
  | _ => none }
def LexNamesWrongFalsely : Prop := lexNamesRow.holds Try.pinned (OpenSpec.ofChange lexNamesWrong)

/-- 'templelaw2.LexWrong': WHATEVER THE INPUT: true; the input reads as it did. -/
def lexWrongSpec : ChangeSpec := { name := "lexWrong", fn := fun _ => fun
  | [d1, d2] => { results := [.lit (.bool true)], args := [d1, d2] }
  | _ => none }
def lexWrongRow : OpenClaim := { program := "ytkkmjgohjaedkaa", sum := "9e899a8cd81a910081ae3e038c67c44c1c581f2e729772e91a7afdbcd028de86", func := "temple/templelaw2.LexWrong", spec := "lexWrong", apart := false }
def LexWrongSaid : Prop := lexWrongRow.holds Try.pinned (OpenSpec.ofChange lexWrongSpec)

/-- ITS FALSE NEIGHBOUR: 'it returns false'. Refute it at one input. -/
def lexWrongWrong : ChangeSpec := { name := "lexWrong", fn := fun _ => fun
  | [d1, d2] => { results := [.lit (.bool false)], args := [d1, d2] }
  | _ => none }
def LexWrongWrongFalsely : Prop := lexWrongRow.holds Try.pinned (OpenSpec.ofChange lexWrongWrong)

/-- 'templelaw2.LexPlaces': WHATEVER THE INPUT: true; the input reads as it did. -/
def lexPlacesSpec : ChangeSpec := { name := "lexPlaces", fn := fun _ => fun
  | [d] => { results := [.lit (.bool true)], args := [d] }
  | _ => none }
def lexPlacesRow : OpenClaim := { program := "ytkkmjgohjaedkaa", sum := "9e899a8cd81a910081ae3e038c67c44c1c581f2e729772e91a7afdbcd028de86", func := "temple/templelaw2.LexPlaces", spec := "lexPlaces", apart := false }
def LexPlacesSaid : Prop := lexPlacesRow.holds Try.pinned (OpenSpec.ofChange lexPlacesSpec)

/-- ITS FALSE NEIGHBOUR: 'it returns false'. Refute it at one input. -/
def lexPlacesWrong : ChangeSpec := { name := "lexPlaces", fn := fun _ => fun
  | [d] => { results := [.lit (.bool false)], args := [d] }
  | _ => none }
def LexPlacesWrongFalsely : Prop := lexPlacesRow.holds Try.pinned (OpenSpec.ofChange lexPlacesWrong)

/-- 'templelaw2.LexRows': WHATEVER THE INPUT: true; the input reads as it did. -/
def lexRowsSpec : ChangeSpec := { name := "lexRows", fn := fun _ => fun
  | [d] => { results := [.lit (.bool true)], args := [d] }
  | _ => none }
def lexRowsRow : OpenClaim := { program := "ytkkmjgohjaedkaa", sum := "9e899a8cd81a910081ae3e038c67c44c1c581f2e729772e91a7afdbcd028de86", func := "temple/templelaw2.LexRows", spec := "lexRows", apart := false }
def LexRowsSaid : Prop := lexRowsRow.holds Try.pinned (OpenSpec.ofChange lexRowsSpec)

/-- ITS FALSE NEIGHBOUR: 'it returns false'. Refute it at one input. -/
def lexRowsWrong : ChangeSpec := { name := "lexRows", fn := fun _ => fun
  | [d] => { results := [.lit (.bool false)], args := [d] }
  | _ => none }
def LexRowsWrongFalsely : Prop := lexRowsRow.holds Try.pinned (OpenSpec.ofChange lexRowsWrong)

/-- 'templelaw3.Parses': WHATEVER THE INPUT: true; the input reads as it did. -/
def parsesSpec : ChangeSpec := { name := "parses", fn := fun _ => fun
  | [d] => { results := [.lit (.bool true)], args := [d] }
  | _ => none }
def parsesRow : OpenClaim := { program := "ytkkmjgohjaedkaa", sum := "9e899a8cd81a910081ae3e038c67c44c1c581f2e729772e91a7afdbcd028de86", func := "temple/templelaw3.Parses", spec := "parses", apart := false }
def ParsesSaid : Prop := parsesRow.holds Try.pinned (OpenSpec.ofChange parsesSpec)

/-- ITS FALSE NEIGHBOUR: 'it returns false'. Refute it at one input. -/
def parsesWrong : ChangeSpec := { name := "parses", fn := fun _ => fun
  | [d] => { results := [.lit (.bool false)], args := [d] }
  | _ => none }
def ParsesWrongFalsely : Prop := parsesRow.holds Try.pinned (OpenSpec.ofChange parsesWrong)

/-- 'templelaw3.ParseJoins': WHATEVER THE INPUT: true; the input reads as it did. -/
def parseJoinsSpec : ChangeSpec := { name := "parseJoins", fn := fun _ => fun
  | [d1, d2] => { results := [.lit (.bool true)], args := [d1, d2] }
  | _ => none }
def parseJoinsRow : OpenClaim := { program := "ytkkmjgohjaedkaa", sum := "9e899a8cd81a910081ae3e038c67c44c1c581f2e729772e91a7afdbcd028de86", func := "temple/templelaw3.ParseJoins", spec := "parseJoins", apart := false }
def ParseJoinsSaid : Prop := parseJoinsRow.holds Try.pinned (OpenSpec.ofChange parseJoinsSpec)

/-- ITS FALSE NEIGHBOUR: 'it returns false'. Refute it at one input. -/
def parseJoinsWrong : ChangeSpec := { name := "parseJoins", fn := fun _ => fun
  | [d1, d2] => { results := [.lit (.bool false)], args := [d1, d2] }
  | _ => none }
def ParseJoinsWrongFalsely : Prop := parseJoinsRow.holds Try.pinned (OpenSpec.ofChange parseJoinsWrong)

/-- 'templelaw3.ParseWrong': WHATEVER THE INPUT: true; the input reads as it did. -/
def parseWrongSpec : ChangeSpec := { name := "parseWrong", fn := fun _ => fun
  | [d] => { results := [.lit (.bool true)], args := [d] }
  | _ => none }
def parseWrongRow : OpenClaim := { program := "ytkkmjgohjaedkaa", sum := "9e899a8cd81a910081ae3e038c67c44c1c581f2e729772e91a7afdbcd028de86", func := "temple/templelaw3.ParseWrong", spec := "parseWrong", apart := false }
def ParseWrongSaid : Prop := parseWrongRow.holds Try.pinned (OpenSpec.ofChange parseWrongSpec)

/-- ITS FALSE NEIGHBOUR: 'it returns false'. Refute it at one input. -/
def parseWrongWrong : ChangeSpec := { name := "parseWrong", fn := fun _ => fun
  | [d] => { results := [.lit (.bool false)], args := [d] }
  | _ => none }
def ParseWrongWrongFalsely : Prop := parseWrongRow.holds Try.pinned (OpenSpec.ofChange parseWrongWrong)

/-- 'templelaw3.ParseMade': WHATEVER THE INPUT: true; the input reads as it did. -/
def parseMadeSpec : ChangeSpec := { name := "parseMade", fn := fun _ => fun
  | [d] => { results := [.lit (.bool true)], args := [d] }
  | _ => none }
def parseMadeRow : OpenClaim := { program := "ytkkmjgohjaedkaa", sum := "9e899a8cd81a910081ae3e038c67c44c1c581f2e729772e91a7afdbcd028de86", func := "temple/templelaw3.ParseMade", spec := "parseMade", apart := false }
def ParseMadeSaid : Prop := parseMadeRow.holds Try.pinned (OpenSpec.ofChange parseMadeSpec)

/-- ITS FALSE NEIGHBOUR: 'it returns false'. Refute it at one input. -/
def parseMadeWrong : ChangeSpec := { name := "parseMade", fn := fun _ => fun
  | [d] => { results := [.lit (.bool false)], args := [d] }
  | _ => none }
def ParseMadeWrongFalsely : Prop := parseMadeRow.holds Try.pinned (OpenSpec.ofChange parseMadeWrong)

/-- 'templelaw3.ParseCuts': WHATEVER THE INPUT: true; the input reads as it did. -/
def parseCutsSpec : ChangeSpec := { name := "parseCuts", fn := fun _ => fun
  | [d1, d2] => { results := [.lit (.bool true)], args := [d1, d2] }
  | _ => none }
def parseCutsRow : OpenClaim := { program := "ytkkmjgohjaedkaa", sum := "9e899a8cd81a910081ae3e038c67c44c1c581f2e729772e91a7afdbcd028de86", func := "temple/templelaw3.ParseCuts", spec := "parseCuts", apart := false }
def ParseCutsSaid : Prop := parseCutsRow.holds Try.pinned (OpenSpec.ofChange parseCutsSpec)

/-- ITS FALSE NEIGHBOUR: 'it returns false'. Refute it at one input. -/
def parseCutsWrong : ChangeSpec := { name := "parseCuts", fn := fun _ => fun
  | [d1, d2] => { results := [.lit (.bool false)], args := [d1, d2] }
  | _ => none }
def ParseCutsWrongFalsely : Prop := parseCutsRow.holds Try.pinned (OpenSpec.ofChange parseCutsWrong)

/-- 'templelaw3.ParseStarts': WHATEVER THE INPUT: true; the input reads as it did. -/
def parseStartsSpec : ChangeSpec := { name := "parseStarts", fn := fun _ => fun
  | [d] => { results := [.lit (.bool true)], args := [d] }
  | _ => none }
def parseStartsRow : OpenClaim := { program := "ytkkmjgohjaedkaa", sum := "9e899a8cd81a910081ae3e038c67c44c1c581f2e729772e91a7afdbcd028de86", func := "temple/templelaw3.ParseStarts", spec := "parseStarts", apart := false }
def ParseStartsSaid : Prop := parseStartsRow.holds Try.pinned (OpenSpec.ofChange parseStartsSpec)

/-- ITS FALSE NEIGHBOUR: 'it returns false'. Refute it at one input. -/
def parseStartsWrong : ChangeSpec := { name := "parseStarts", fn := fun _ => fun
  | [d] => { results := [.lit (.bool false)], args := [d] }
  | _ => none }
def ParseStartsWrongFalsely : Prop := parseStartsRow.holds Try.pinned (OpenSpec.ofChange parseStartsWrong)

/-- 'templelaw4.Builds': WHATEVER THE INPUT: true; the input reads as it did. -/
def buildsSpec : ChangeSpec := { name := "builds", fn := fun _ => fun
  | [d1, d2] => { results := [.lit (.bool true)], args := [d1, d2] }
  | _ => none }
def buildsRow : OpenClaim := { program := "ytkkmjgohjaedkaa", sum := "9e899a8cd81a910081ae3e038c67c44c1c581f2e729772e91a7afdbcd028de86", func := "temple/templelaw4.Builds", spec := "builds", unfollowed := true, recurses := true, apart := false }
def BuildsSaid : Prop := buildsRow.holds Try.pinned (OpenSpec.ofChange buildsSpec)

/-- ITS FALSE NEIGHBOUR: 'it returns false'. Refute it at one input. -/
def buildsWrong : ChangeSpec := { name := "builds", fn := fun _ => fun
  | [d1, d2] => { results := [.lit (.bool false)], args := [d1, d2] }
  | _ => none }
def BuildsWrongFalsely : Prop := buildsRow.holds Try.pinned (OpenSpec.ofChange buildsWrong)

/-- 'templelaw4.BuildTells': WHATEVER THE INPUT: true; the input reads as it did. -/
def buildTellsSpec : ChangeSpec := { name := "buildTells", fn := fun _ => fun
  | [d] => { results := [.lit (.bool true)], args := [d] }
  | _ => none }
def buildTellsRow : OpenClaim := { program := "ytkkmjgohjaedkaa", sum := "9e899a8cd81a910081ae3e038c67c44c1c581f2e729772e91a7afdbcd028de86", func := "temple/templelaw4.BuildTells", spec := "buildTells", unfollowed := true, recurses := true, apart := false }
def BuildTellsSaid : Prop := buildTellsRow.holds Try.pinned (OpenSpec.ofChange buildTellsSpec)

/-- ITS FALSE NEIGHBOUR: 'it returns false'. Refute it at one input. -/
def buildTellsWrong : ChangeSpec := { name := "buildTells", fn := fun _ => fun
  | [d] => { results := [.lit (.bool false)], args := [d] }
  | _ => none }
def BuildTellsWrongFalsely : Prop := buildTellsRow.holds Try.pinned (OpenSpec.ofChange buildTellsWrong)

/-- 'templelaw4.GramForms': WHATEVER THE INPUT: true; the input reads as it did. -/
def gramFormsSpec : ChangeSpec := { name := "gramForms", fn := fun _ => fun
  | [d1, d2] => { results := [.lit (.bool true)], args := [d1, d2] }
  | _ => none }
def gramFormsRow : OpenClaim := { program := "ytkkmjgohjaedkaa", sum := "9e899a8cd81a910081ae3e038c67c44c1c581f2e729772e91a7afdbcd028de86", func := "temple/templelaw4.GramForms", spec := "gramForms", unfollowed := true, recurses := true, apart := false }
def GramFormsSaid : Prop := gramFormsRow.holds Try.pinned (OpenSpec.ofChange gramFormsSpec)

/-- ITS FALSE NEIGHBOUR: 'it returns false'. Refute it at one input. -/
def gramFormsWrong : ChangeSpec := { name := "gramForms", fn := fun _ => fun
  | [d1, d2] => { results := [.lit (.bool false)], args := [d1, d2] }
  | _ => none }
def GramFormsWrongFalsely : Prop := gramFormsRow.holds Try.pinned (OpenSpec.ofChange gramFormsWrong)

/-- 'templelaw4.GramLimits': WHATEVER THE INPUT: true; the input reads as it did. -/
def gramLimitsSpec : ChangeSpec := { name := "gramLimits", fn := fun _ => fun
  | [d1, d2] => { results := [.lit (.bool true)], args := [d1, d2] }
  | _ => none }
def gramLimitsRow : OpenClaim := { program := "ytkkmjgohjaedkaa", sum := "9e899a8cd81a910081ae3e038c67c44c1c581f2e729772e91a7afdbcd028de86", func := "temple/templelaw4.GramLimits", spec := "gramLimits", unfollowed := true, recurses := true, apart := false }
def GramLimitsSaid : Prop := gramLimitsRow.holds Try.pinned (OpenSpec.ofChange gramLimitsSpec)

/-- ITS FALSE NEIGHBOUR: 'it returns false'. Refute it at one input. -/
def gramLimitsWrong : ChangeSpec := { name := "gramLimits", fn := fun _ => fun
  | [d1, d2] => { results := [.lit (.bool false)], args := [d1, d2] }
  | _ => none }
def GramLimitsWrongFalsely : Prop := gramLimitsRow.holds Try.pinned (OpenSpec.ofChange gramLimitsWrong)

/-- 'templelaw4.BuildRows': WHATEVER THE INPUT: true; the input reads as it did. -/
def buildRowsSpec : ChangeSpec := { name := "buildRows", fn := fun _ => fun
  | [d1, d2, d3] => { results := [.lit (.bool true)], args := [d1, d2, d3] }
  | _ => none }
def buildRowsRow : OpenClaim := { program := "ytkkmjgohjaedkaa", sum := "9e899a8cd81a910081ae3e038c67c44c1c581f2e729772e91a7afdbcd028de86", func := "temple/templelaw4.BuildRows", spec := "buildRows", unfollowed := true, recurses := true, apart := false }
def BuildRowsSaid : Prop := buildRowsRow.holds Try.pinned (OpenSpec.ofChange buildRowsSpec)

/-- ITS FALSE NEIGHBOUR: 'it returns false'. Refute it at one input. -/
def buildRowsWrong : ChangeSpec := { name := "buildRows", fn := fun _ => fun
  | [d1, d2, d3] => { results := [.lit (.bool false)], args := [d1, d2, d3] }
  | _ => none }
def BuildRowsWrongFalsely : Prop := buildRowsRow.holds Try.pinned (OpenSpec.ofChange buildRowsWrong)

/-- 'templelaw4.BuildWrong': WHATEVER THE INPUT: true; the input reads as it did. -/
def buildWrongSpec : ChangeSpec := { name := "buildWrong", fn := fun _ => fun
  | [d] => { results := [.lit (.bool true)], args := [d] }
  | _ => none }
def buildWrongRow : OpenClaim := { program := "ytkkmjgohjaedkaa", sum := "9e899a8cd81a910081ae3e038c67c44c1c581f2e729772e91a7afdbcd028de86", func := "temple/templelaw4.BuildWrong", spec := "buildWrong", unfollowed := true, recurses := true, apart := false }
def BuildWrongSaid : Prop := buildWrongRow.holds Try.pinned (OpenSpec.ofChange buildWrongSpec)

/-- ITS FALSE NEIGHBOUR: 'it returns false'. Refute it at one input. -/
def buildWrongWrong : ChangeSpec := { name := "buildWrong", fn := fun _ => fun
  | [d] => { results := [.lit (.bool false)], args := [d] }
  | _ => none }
def BuildWrongWrongFalsely : Prop := buildWrongRow.holds Try.pinned (OpenSpec.ofChange buildWrongWrong)

/-- 'templelaw4.BuildLong': WHATEVER THE INPUT: true; the input reads as it did. -/
def buildLongSpec : ChangeSpec := { name := "buildLong", fn := fun _ => fun
  | [d1, d2] => { results := [.lit (.bool true)], args := [d1, d2] }
  | _ => none }
def buildLongRow : OpenClaim := { program := "ytkkmjgohjaedkaa", sum := "9e899a8cd81a910081ae3e038c67c44c1c581f2e729772e91a7afdbcd028de86", func := "temple/templelaw4.BuildLong", spec := "buildLong", unfollowed := true, recurses := true, apart := false }
def BuildLongSaid : Prop := buildLongRow.holds Try.pinned (OpenSpec.ofChange buildLongSpec)

/-- ITS FALSE NEIGHBOUR: 'it returns false'. Refute it at one input. -/
def buildLongWrong : ChangeSpec := { name := "buildLong", fn := fun _ => fun
  | [d1, d2] => { results := [.lit (.bool false)], args := [d1, d2] }
  | _ => none }
def BuildLongWrongFalsely : Prop := buildLongRow.holds Try.pinned (OpenSpec.ofChange buildLongWrong)

/-- 'templelaw5.Shows': WHATEVER THE INPUT: true; the input reads as it did. -/
def showsSpec : ChangeSpec := { name := "shows", fn := fun _ => fun
  | [d] => { results := [.lit (.bool true)], args := [d] }
  | _ => none }
def showsRow : OpenClaim := { program := "ytkkmjgohjaedkaa", sum := "9e899a8cd81a910081ae3e038c67c44c1c581f2e729772e91a7afdbcd028de86", func := "temple/templelaw5.Shows", spec := "shows", inPlace := ["internal/abi.NoEscape"], unfollowed := true, recurses := true, apart := false }
def ShowsSaid : Prop := showsRow.holds Try.pinned (OpenSpec.ofChange showsSpec)

/-- ITS FALSE NEIGHBOUR: 'it returns false'. Refute it at one input. -/
def showsWrong : ChangeSpec := { name := "shows", fn := fun _ => fun
  | [d] => { results := [.lit (.bool false)], args := [d] }
  | _ => none }
def ShowsWrongFalsely : Prop := showsRow.holds Try.pinned (OpenSpec.ofChange showsWrong)

/-- 'templelaw5.ShowBack': WHATEVER THE INPUT: true; the input reads as it did. -/
def showBackSpec : ChangeSpec := { name := "showBack", fn := fun _ => fun
  | [d1, d2] => { results := [.lit (.bool true)], args := [d1, d2] }
  | _ => none }
def showBackRow : OpenClaim := { program := "ytkkmjgohjaedkaa", sum := "9e899a8cd81a910081ae3e038c67c44c1c581f2e729772e91a7afdbcd028de86", func := "temple/templelaw5.ShowBack", spec := "showBack", inPlace := ["internal/abi.NoEscape"], unfollowed := true, recurses := true, apart := false }
def ShowBackSaid : Prop := showBackRow.holds Try.pinned (OpenSpec.ofChange showBackSpec)

/-- ITS FALSE NEIGHBOUR: 'it returns false'. Refute it at one input. -/
def showBackWrong : ChangeSpec := { name := "showBack", fn := fun _ => fun
  | [d1, d2] => { results := [.lit (.bool false)], args := [d1, d2] }
  | _ => none }
def ShowBackWrongFalsely : Prop := showBackRow.holds Try.pinned (OpenSpec.ofChange showBackWrong)

/-- 'templelaw5.ShowBytes': WHATEVER THE INPUT: true; the input reads as it did. -/
def showBytesSpec : ChangeSpec := { name := "showBytes", fn := fun _ => fun
  | [d] => { results := [.lit (.bool true)], args := [d] }
  | _ => none }
def showBytesRow : OpenClaim := { program := "ytkkmjgohjaedkaa", sum := "9e899a8cd81a910081ae3e038c67c44c1c581f2e729772e91a7afdbcd028de86", func := "temple/templelaw5.ShowBytes", spec := "showBytes", inPlace := ["internal/abi.NoEscape"], unfollowed := true, recurses := true, apart := false }
def ShowBytesSaid : Prop := showBytesRow.holds Try.pinned (OpenSpec.ofChange showBytesSpec)

/-- ITS FALSE NEIGHBOUR: 'it returns false'. Refute it at one input. -/
def showBytesWrong : ChangeSpec := { name := "showBytes", fn := fun _ => fun
  | [d] => { results := [.lit (.bool false)], args := [d] }
  | _ => none }
def ShowBytesWrongFalsely : Prop := showBytesRow.holds Try.pinned (OpenSpec.ofChange showBytesWrong)

/-- 'templelaw5.ShowRuns': WHATEVER THE INPUT: true; the input reads as it did. -/
def showRunsSpec : ChangeSpec := { name := "showRuns", fn := fun _ => fun
  | [d] => { results := [.lit (.bool true)], args := [d] }
  | _ => none }
def showRunsRow : OpenClaim := { program := "ytkkmjgohjaedkaa", sum := "9e899a8cd81a910081ae3e038c67c44c1c581f2e729772e91a7afdbcd028de86", func := "temple/templelaw5.ShowRuns", spec := "showRuns", inPlace := ["internal/abi.NoEscape"], unfollowed := true, recurses := true, apart := false }
def ShowRunsSaid : Prop := showRunsRow.holds Try.pinned (OpenSpec.ofChange showRunsSpec)

/-- ITS FALSE NEIGHBOUR: 'it returns false'. Refute it at one input. -/
def showRunsWrong : ChangeSpec := { name := "showRuns", fn := fun _ => fun
  | [d] => { results := [.lit (.bool false)], args := [d] }
  | _ => none }
def ShowRunsWrongFalsely : Prop := showRunsRow.holds Try.pinned (OpenSpec.ofChange showRunsWrong)

/-- 'templelaw5.ShowUnlike': WHATEVER THE INPUT: true; the input reads as it did. -/
def showUnlikeSpec : ChangeSpec := { name := "showUnlike", fn := fun _ => fun
  | [d1, d2] => { results := [.lit (.bool true)], args := [d1, d2] }
  | _ => none }
def showUnlikeRow : OpenClaim := { program := "ytkkmjgohjaedkaa", sum := "9e899a8cd81a910081ae3e038c67c44c1c581f2e729772e91a7afdbcd028de86", func := "temple/templelaw5.ShowUnlike", spec := "showUnlike", inPlace := ["internal/abi.NoEscape"], unfollowed := true, recurses := true, apart := false }
def ShowUnlikeSaid : Prop := showUnlikeRow.holds Try.pinned (OpenSpec.ofChange showUnlikeSpec)

/-- ITS FALSE NEIGHBOUR: 'it returns false'. Refute it at one input. -/
def showUnlikeWrong : ChangeSpec := { name := "showUnlike", fn := fun _ => fun
  | [d1, d2] => { results := [.lit (.bool false)], args := [d1, d2] }
  | _ => none }
def ShowUnlikeWrongFalsely : Prop := showUnlikeRow.holds Try.pinned (OpenSpec.ofChange showUnlikeWrong)

/-- 'templelaw5.ShowRows': WHATEVER THE INPUT: true; the input reads as it did. -/
def showRowsSpec : ChangeSpec := { name := "showRows", fn := fun _ => fun
  | [d1, d2, d3] => { results := [.lit (.bool true)], args := [d1, d2, d3] }
  | _ => none }
def showRowsRow : OpenClaim := { program := "ytkkmjgohjaedkaa", sum := "9e899a8cd81a910081ae3e038c67c44c1c581f2e729772e91a7afdbcd028de86", func := "temple/templelaw5.ShowRows", spec := "showRows", inPlace := ["internal/abi.NoEscape"], unfollowed := true, recurses := true, apart := false }
def ShowRowsSaid : Prop := showRowsRow.holds Try.pinned (OpenSpec.ofChange showRowsSpec)

/-- ITS FALSE NEIGHBOUR: 'it returns false'. Refute it at one input. -/
def showRowsWrong : ChangeSpec := { name := "showRows", fn := fun _ => fun
  | [d1, d2, d3] => { results := [.lit (.bool false)], args := [d1, d2, d3] }
  | _ => none }
def ShowRowsWrongFalsely : Prop := showRowsRow.holds Try.pinned (OpenSpec.ofChange showRowsWrong)

/- THE SECOND FORM. 'bulk': how many values and letters a reading holds, each counted each time it is reached (what is shared counts as often as it is met; a slice's spare places count too). A statement '..UptoSaid' is the law's where the arguments, and the package variables that the reading takes, are together of bulk at most 1048576: NARROWER than '..Said'. Prove '..Said' where nothing that the law and all that it calls make is longer than what came in: it says more and counts as full. Else prove '..UptoSaid'. A law counts once. -/
mutual
def uptoBulk {H : Type} : DataW H → Nat
  | .lit (.string bytes) => bytes.length + 1
  | .lit _ => 1
  | .nil => 1
  | .ptr d => uptoBulk d + 1
  | .slice elems spare => uptoBulkAll elems + uptoBulkAll spare + 1
  | .agg parts => uptoBulkAll parts + 1
  | .iface _ d => uptoBulk d + 1
  | .map entries => uptoBulkEntries entries + 1
  | .held _ => 1
def uptoBulkAll {H : Type} : List (DataW H) → Nat
  | [] => 0
  | d :: r => uptoBulk d + uptoBulkAll r
def uptoBulkEntries {H : Type} : List (Lit × DataW H) → Nat
  | [] => 0
  | x :: r => uptoBulkEntry x + uptoBulkEntries r
def uptoBulkEntry {H : Type} : Lit × DataW H → Nat
  | (.string bytes, d) => bytes.length + uptoBulk d + 1
  | (_, d) => uptoBulk d + 1
 end
def uptoSmall : (H : Type) → List (DataW H) → Bool := fun _ ds => decide (uptoBulkAll ds ≤ 1048576)
def OpenSpec.upto (s : _root_.Go.ChangeSpec) : _root_.Go.OpenSpec := { _root_.Go.OpenSpec.ofChange s with cond := some uptoSmall }

/-- 'templelaw2.Lexes', WHERE WHAT IT READS IS OF BULK AT MOST 1048576: true; the input reads as it did. -/
def lexesUptoRow : OpenClaim := { program := "ytkkmjgohjaedkaa", sum := "9e899a8cd81a910081ae3e038c67c44c1c581f2e729772e91a7afdbcd028de86", func := "temple/templelaw2.Lexes", spec := "lexes", apart := false, narrowed := true }
def LexesUptoSaid : Prop := lexesUptoRow.holds Try.pinned (OpenSpec.upto lexesSpec)

/-- 'templelaw2.LexJoins', WHERE WHAT IT READS IS OF BULK AT MOST 1048576: true; the input reads as it did. -/
def lexJoinsUptoRow : OpenClaim := { program := "ytkkmjgohjaedkaa", sum := "9e899a8cd81a910081ae3e038c67c44c1c581f2e729772e91a7afdbcd028de86", func := "temple/templelaw2.LexJoins", spec := "lexJoins", apart := false, narrowed := true }
def LexJoinsUptoSaid : Prop := lexJoinsUptoRow.holds Try.pinned (OpenSpec.upto lexJoinsSpec)

/-- 'templelaw2.LexTexts', WHERE WHAT IT READS IS OF BULK AT MOST 1048576: true; the input reads as it did. -/
def lexTextsUptoRow : OpenClaim := { program := "ytkkmjgohjaedkaa", sum := "9e899a8cd81a910081ae3e038c67c44c1c581f2e729772e91a7afdbcd028de86", func := "temple/templelaw2.LexTexts", spec := "lexTexts", apart := false, narrowed := true }
def LexTextsUptoSaid : Prop := lexTextsUptoRow.holds Try.pinned (OpenSpec.upto lexTextsSpec)

/-- 'templelaw2.LexBlanks', WHERE WHAT IT READS IS OF BULK AT MOST 1048576: true; the input reads as it did. -/
def lexBlanksUptoRow : OpenClaim := { program := "ytkkmjgohjaedkaa", sum := "9e899a8cd81a910081ae3e038c67c44c1c581f2e729772e91a7afdbcd028de86", func := "temple/templelaw2.LexBlanks", spec := "lexBlanks", apart := false, narrowed := true }
def LexBlanksUptoSaid : Prop := lexBlanksUptoRow.holds Try.pinned (OpenSpec.upto lexBlanksSpec)

/-- 'templelaw2.LexNames', WHERE WHAT IT READS IS OF BULK AT MOST 1048576: true; the input reads as it did. -/
def lexNamesUptoRow : OpenClaim := { program := "ytkkmjgohjaedkaa", sum := "9e899a8cd81a910081ae3e038c67c44c1c581f2e729772e91a7afdbcd028de86", func := "temple/templelaw2.LexNames", spec := "lexNames", apart := false, narrowed := true }
def LexNamesUptoSaid : Prop := lexNamesUptoRow.holds Try.pinned (OpenSpec.upto lexNamesSpec)

/-- 'templelaw2.LexWrong', WHERE WHAT IT READS IS OF BULK AT MOST 1048576: true; the input reads as it did. -/
def lexWrongUptoRow : OpenClaim := { program := "ytkkmjgohjaedkaa", sum := "9e899a8cd81a910081ae3e038c67c44c1c581f2e729772e91a7afdbcd028de86", func := "temple/templelaw2.LexWrong", spec := "lexWrong", apart := false, narrowed := true }
def LexWrongUptoSaid : Prop := lexWrongUptoRow.holds Try.pinned (OpenSpec.upto lexWrongSpec)

/-- 'templelaw2.LexPlaces', WHERE WHAT IT READS IS OF BULK AT MOST 1048576: true; the input reads as it did. -/
def lexPlacesUptoRow : OpenClaim := { program := "ytkkmjgohjaedkaa", sum := "9e899a8cd81a910081ae3e038c67c44c1c581f2e729772e91a7afdbcd028de86", func := "temple/templelaw2.LexPlaces", spec := "lexPlaces", apart := false, narrowed := true }
def LexPlacesUptoSaid : Prop := lexPlacesUptoRow.holds Try.pinned (OpenSpec.upto lexPlacesSpec)

/-- 'templelaw2.LexRows', WHERE WHAT IT READS IS OF BULK AT MOST 1048576: true; the input reads as it did. -/
def lexRowsUptoRow : OpenClaim := { program := "ytkkmjgohjaedkaa", sum := "9e899a8cd81a910081ae3e038c67c44c1c581f2e729772e91a7afdbcd028de86", func := "temple/templelaw2.LexRows", spec := "lexRows", apart := false, narrowed := true }
def LexRowsUptoSaid : Prop := lexRowsUptoRow.holds Try.pinned (OpenSpec.upto lexRowsSpec)

/-- 'templelaw3.Parses', WHERE WHAT IT READS IS OF BULK AT MOST 1048576: true; the input reads as it did. -/
def parsesUptoRow : OpenClaim := { program := "ytkkmjgohjaedkaa", sum := "9e899a8cd81a910081ae3e038c67c44c1c581f2e729772e91a7afdbcd028de86", func := "temple/templelaw3.Parses", spec := "parses", apart := false, narrowed := true }
def ParsesUptoSaid : Prop := parsesUptoRow.holds Try.pinned (OpenSpec.upto parsesSpec)

/-- 'templelaw3.ParseJoins', WHERE WHAT IT READS IS OF BULK AT MOST 1048576: true; the input reads as it did. -/
def parseJoinsUptoRow : OpenClaim := { program := "ytkkmjgohjaedkaa", sum := "9e899a8cd81a910081ae3e038c67c44c1c581f2e729772e91a7afdbcd028de86", func := "temple/templelaw3.ParseJoins", spec := "parseJoins", apart := false, narrowed := true }
def ParseJoinsUptoSaid : Prop := parseJoinsUptoRow.holds Try.pinned (OpenSpec.upto parseJoinsSpec)

/-- 'templelaw3.ParseWrong', WHERE WHAT IT READS IS OF BULK AT MOST 1048576: true; the input reads as it did. -/
def parseWrongUptoRow : OpenClaim := { program := "ytkkmjgohjaedkaa", sum := "9e899a8cd81a910081ae3e038c67c44c1c581f2e729772e91a7afdbcd028de86", func := "temple/templelaw3.ParseWrong", spec := "parseWrong", apart := false, narrowed := true }
def ParseWrongUptoSaid : Prop := parseWrongUptoRow.holds Try.pinned (OpenSpec.upto parseWrongSpec)

/-- 'templelaw3.ParseMade', WHERE WHAT IT READS IS OF BULK AT MOST 1048576: true; the input reads as it did. -/
def parseMadeUptoRow : OpenClaim := { program := "ytkkmjgohjaedkaa", sum := "9e899a8cd81a910081ae3e038c67c44c1c581f2e729772e91a7afdbcd028de86", func := "temple/templelaw3.ParseMade", spec := "parseMade", apart := false, narrowed := true }
def ParseMadeUptoSaid : Prop := parseMadeUptoRow.holds Try.pinned (OpenSpec.upto parseMadeSpec)

/-- 'templelaw3.ParseCuts', WHERE WHAT IT READS IS OF BULK AT MOST 1048576: true; the input reads as it did. -/
def parseCutsUptoRow : OpenClaim := { program := "ytkkmjgohjaedkaa", sum := "9e899a8cd81a910081ae3e038c67c44c1c581f2e729772e91a7afdbcd028de86", func := "temple/templelaw3.ParseCuts", spec := "parseCuts", apart := false, narrowed := true }
def ParseCutsUptoSaid : Prop := parseCutsUptoRow.holds Try.pinned (OpenSpec.upto parseCutsSpec)

/-- 'templelaw3.ParseStarts', WHERE WHAT IT READS IS OF BULK AT MOST 1048576: true; the input reads as it did. -/
def parseStartsUptoRow : OpenClaim := { program := "ytkkmjgohjaedkaa", sum := "9e899a8cd81a910081ae3e038c67c44c1c581f2e729772e91a7afdbcd028de86", func := "temple/templelaw3.ParseStarts", spec := "parseStarts", apart := false, narrowed := true }
def ParseStartsUptoSaid : Prop := parseStartsUptoRow.holds Try.pinned (OpenSpec.upto parseStartsSpec)

/-- 'templelaw4.Builds', WHERE WHAT IT READS IS OF BULK AT MOST 1048576: true; the input reads as it did. -/
def buildsUptoRow : OpenClaim := { program := "ytkkmjgohjaedkaa", sum := "9e899a8cd81a910081ae3e038c67c44c1c581f2e729772e91a7afdbcd028de86", func := "temple/templelaw4.Builds", spec := "builds", unfollowed := true, recurses := true, apart := false, narrowed := true }
def BuildsUptoSaid : Prop := buildsUptoRow.holds Try.pinned (OpenSpec.upto buildsSpec)

/-- 'templelaw4.BuildTells', WHERE WHAT IT READS IS OF BULK AT MOST 1048576: true; the input reads as it did. -/
def buildTellsUptoRow : OpenClaim := { program := "ytkkmjgohjaedkaa", sum := "9e899a8cd81a910081ae3e038c67c44c1c581f2e729772e91a7afdbcd028de86", func := "temple/templelaw4.BuildTells", spec := "buildTells", unfollowed := true, recurses := true, apart := false, narrowed := true }
def BuildTellsUptoSaid : Prop := buildTellsUptoRow.holds Try.pinned (OpenSpec.upto buildTellsSpec)

/-- 'templelaw4.GramForms', WHERE WHAT IT READS IS OF BULK AT MOST 1048576: true; the input reads as it did. -/
def gramFormsUptoRow : OpenClaim := { program := "ytkkmjgohjaedkaa", sum := "9e899a8cd81a910081ae3e038c67c44c1c581f2e729772e91a7afdbcd028de86", func := "temple/templelaw4.GramForms", spec := "gramForms", unfollowed := true, recurses := true, apart := false, narrowed := true }
def GramFormsUptoSaid : Prop := gramFormsUptoRow.holds Try.pinned (OpenSpec.upto gramFormsSpec)

/-- 'templelaw4.GramLimits', WHERE WHAT IT READS IS OF BULK AT MOST 1048576: true; the input reads as it did. -/
def gramLimitsUptoRow : OpenClaim := { program := "ytkkmjgohjaedkaa", sum := "9e899a8cd81a910081ae3e038c67c44c1c581f2e729772e91a7afdbcd028de86", func := "temple/templelaw4.GramLimits", spec := "gramLimits", unfollowed := true, recurses := true, apart := false, narrowed := true }
def GramLimitsUptoSaid : Prop := gramLimitsUptoRow.holds Try.pinned (OpenSpec.upto gramLimitsSpec)

/-- 'templelaw4.BuildRows', WHERE WHAT IT READS IS OF BULK AT MOST 1048576: true; the input reads as it did. -/
def buildRowsUptoRow : OpenClaim := { program := "ytkkmjgohjaedkaa", sum := "9e899a8cd81a910081ae3e038c67c44c1c581f2e729772e91a7afdbcd028de86", func := "temple/templelaw4.BuildRows", spec := "buildRows", unfollowed := true, recurses := true, apart := false, narrowed := true }
def BuildRowsUptoSaid : Prop := buildRowsUptoRow.holds Try.pinned (OpenSpec.upto buildRowsSpec)

/-- 'templelaw4.BuildWrong', WHERE WHAT IT READS IS OF BULK AT MOST 1048576: true; the input reads as it did. -/
def buildWrongUptoRow : OpenClaim := { program := "ytkkmjgohjaedkaa", sum := "9e899a8cd81a910081ae3e038c67c44c1c581f2e729772e91a7afdbcd028de86", func := "temple/templelaw4.BuildWrong", spec := "buildWrong", unfollowed := true, recurses := true, apart := false, narrowed := true }
def BuildWrongUptoSaid : Prop := buildWrongUptoRow.holds Try.pinned (OpenSpec.upto buildWrongSpec)

/-- 'templelaw4.BuildLong', WHERE WHAT IT READS IS OF BULK AT MOST 1048576: true; the input reads as it did. -/
def buildLongUptoRow : OpenClaim := { program := "ytkkmjgohjaedkaa", sum := "9e899a8cd81a910081ae3e038c67c44c1c581f2e729772e91a7afdbcd028de86", func := "temple/templelaw4.BuildLong", spec := "buildLong", unfollowed := true, recurses := true, apart := false, narrowed := true }
def BuildLongUptoSaid : Prop := buildLongUptoRow.holds Try.pinned (OpenSpec.upto buildLongSpec)

/-- 'templelaw5.Shows', WHERE WHAT IT READS IS OF BULK AT MOST 1048576: true; the input reads as it did. -/
def showsUptoRow : OpenClaim := { program := "ytkkmjgohjaedkaa", sum := "9e899a8cd81a910081ae3e038c67c44c1c581f2e729772e91a7afdbcd028de86", func := "temple/templelaw5.Shows", spec := "shows", inPlace := ["internal/abi.NoEscape"], unfollowed := true, recurses := true, apart := false, narrowed := true }
def ShowsUptoSaid : Prop := showsUptoRow.holds Try.pinned (OpenSpec.upto showsSpec)

/-- 'templelaw5.ShowBack', WHERE WHAT IT READS IS OF BULK AT MOST 1048576: true; the input reads as it did. -/
def showBackUptoRow : OpenClaim := { program := "ytkkmjgohjaedkaa", sum := "9e899a8cd81a910081ae3e038c67c44c1c581f2e729772e91a7afdbcd028de86", func := "temple/templelaw5.ShowBack", spec := "showBack", inPlace := ["internal/abi.NoEscape"], unfollowed := true, recurses := true, apart := false, narrowed := true }
def ShowBackUptoSaid : Prop := showBackUptoRow.holds Try.pinned (OpenSpec.upto showBackSpec)

/-- 'templelaw5.ShowBytes', WHERE WHAT IT READS IS OF BULK AT MOST 1048576: true; the input reads as it did. -/
def showBytesUptoRow : OpenClaim := { program := "ytkkmjgohjaedkaa", sum := "9e899a8cd81a910081ae3e038c67c44c1c581f2e729772e91a7afdbcd028de86", func := "temple/templelaw5.ShowBytes", spec := "showBytes", inPlace := ["internal/abi.NoEscape"], unfollowed := true, recurses := true, apart := false, narrowed := true }
def ShowBytesUptoSaid : Prop := showBytesUptoRow.holds Try.pinned (OpenSpec.upto showBytesSpec)

/-- 'templelaw5.ShowRuns', WHERE WHAT IT READS IS OF BULK AT MOST 1048576: true; the input reads as it did. -/
def showRunsUptoRow : OpenClaim := { program := "ytkkmjgohjaedkaa", sum := "9e899a8cd81a910081ae3e038c67c44c1c581f2e729772e91a7afdbcd028de86", func := "temple/templelaw5.ShowRuns", spec := "showRuns", inPlace := ["internal/abi.NoEscape"], unfollowed := true, recurses := true, apart := false, narrowed := true }
def ShowRunsUptoSaid : Prop := showRunsUptoRow.holds Try.pinned (OpenSpec.upto showRunsSpec)

/-- 'templelaw5.ShowUnlike', WHERE WHAT IT READS IS OF BULK AT MOST 1048576: true; the input reads as it did. -/
def showUnlikeUptoRow : OpenClaim := { program := "ytkkmjgohjaedkaa", sum := "9e899a8cd81a910081ae3e038c67c44c1c581f2e729772e91a7afdbcd028de86", func := "temple/templelaw5.ShowUnlike", spec := "showUnlike", inPlace := ["internal/abi.NoEscape"], unfollowed := true, recurses := true, apart := false, narrowed := true }
def ShowUnlikeUptoSaid : Prop := showUnlikeUptoRow.holds Try.pinned (OpenSpec.upto showUnlikeSpec)

/-- 'templelaw5.ShowRows', WHERE WHAT IT READS IS OF BULK AT MOST 1048576: true; the input reads as it did. -/
def showRowsUptoRow : OpenClaim := { program := "ytkkmjgohjaedkaa", sum := "9e899a8cd81a910081ae3e038c67c44c1c581f2e729772e91a7afdbcd028de86", func := "temple/templelaw5.ShowRows", spec := "showRows", inPlace := ["internal/abi.NoEscape"], unfollowed := true, recurses := true, apart := false, narrowed := true }
def ShowRowsUptoSaid : Prop := showRowsUptoRow.holds Try.pinned (OpenSpec.upto showRowsSpec)

end Rows
end Go.Proofs.Ytkkmjgohjaedkaa
