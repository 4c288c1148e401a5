/- The document's test of a grammar, as a plain function. No program in sight. -/
import Derived.Test.YtopnhbgialbicaaGramPl
import Derived.PlainAid
namespace Go.Proofs.Ytopnhbgialbicaa
set_option linter.unusedVariables false

/-- The number of a name, as the document's find tells it. -/
def findT (l : List ByteArray) (s : ByteArray) : Int := match place l s with | some k => (k : Int) | none => -1
/-- A name, by its bytes. -/
def nameMayD (s : ByteArray) : Bool := decide (1 ≤ s.size) && (decide (s.size ≤ 32) && (!(s.toList == [115, 116, 97, 114, 116]) && (letB (PlainAid.bt s 0) && (List.range s.size).all fun j => letB (PlainAid.bt s j) || digB (PlainAid.bt s j))))
def rowsOk (K : Nat) (l : List Cn) : Bool := l.all fun c => mayRow K c.seq
def rowsSum (l : List Cn) : Nat := (l.map fun c => c.seq.length).sum
def ruleOk (K : Nat) (l : List Cn) : Bool := decide (1 ≤ l.length) && (decide (l.length ≤ 8) && rowsOk K l)
def ruleEnd (K : Nat) (l : List Cn) : Value := .tuple #[.int .i64 (if ruleOk K l then (rowsSum l : Int) else 0), .bool (ruleOk K l)]
def nameAt (l : List ByteArray) (i : Nat) : Bool := nameMayD (l.getD i ⟨#[]⟩) && decide (findT l (l.getD i ⟨#[]⟩) = (i : Int))
def namesOk (l : List ByteArray) : Bool := (List.range l.length).all (nameAt l)
def headOk (K : Nat) (h : Int) (r : Ru) : Bool := decide (0 ≤ r.head) && ((decide (r.head = h) || decide (r.head = h + 1)) && decide (r.head < (K : Int)))
def ruGo (K : Nat) : Int → Nat → List Ru → Bool
  | h, m, [] => decide (h = (K : Int) - 1) && decide (m ≤ 1024)
  | h, m, r :: l => headOk K h r && (ruleOk K r.conj && ruGo K r.head (m + rowsSum r.conj) l)
def sizesOk (g : Gr) : Bool := decide (1 ≤ g.names.length) && (decide (g.names.length ≤ 64) && (isNum g.start g.names.length && (decide (1 ≤ g.rules.length) && decide (g.rules.length ≤ 256))))
def refMayT (g : Gr) : Bool := sizesOk g && (namesOk g.names && ruGo g.names.length (-1) 0 g.rules)
end Go.Proofs.Ytopnhbgialbicaa
