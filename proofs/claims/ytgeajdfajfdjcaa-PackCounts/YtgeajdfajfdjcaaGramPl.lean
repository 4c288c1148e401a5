/- Which grammars may be, and what declarations make, as plain functions. No program in sight. -/
import Derived.Test.YtgeajdfajfdjcaaNotePl
namespace Go.Proofs.Ytgeajdfajfdjcaa
set_option linter.unusedVariables false

structure Sy where
  name : Int
  lo : Int
  hi : Int
structure Cn where
  neg : Bool
  seq : List Sy
structure Ru where
  head : Int
  conj : List Cn
structure Gr where
  start : Int
  names : List ByteArray
  rules : List Ru

def isNum (n : Int) (k : Nat) : Bool := decide (0 ≤ n) && decide (n < (k : Int))
def maySym (k : Nat) (s : Sy) : Bool := if s.name = -1 then decide (0 ≤ s.lo) && (decide (s.lo ≤ s.hi) && decide (s.hi ≤ 255)) else isNum s.name k && (decide (s.lo = 0) && decide (s.hi = 0))
def mayRow (k : Nat) (l : List Sy) : Bool := decide (l.length ≤ 64) && l.all (maySym k)
def mayHeads (k : Nat) : Int → List Ru → Bool
  | last, [] => decide (last = (k : Int) - 1)
  | last, r :: l => isNum r.head k && ((decide (r.head = last) || decide (r.head = last + 1)) && mayHeads k r.head l)
def mayCs (k : Nat) : Nat → List Cn → Option Nat
  | n, [] => some n
  | n, c :: l => if n + c.seq.length ≤ 1024 ∧ mayRow k c.seq = true then mayCs k (n + c.seq.length) l else none
def mayRs (k : Nat) : Nat → List Ru → Bool
  | _, [] => true
  | n, r :: l => if 1 ≤ r.conj.length ∧ r.conj.length ≤ 8 then (match mayCs k n r.conj with | none => false | some m => mayRs k m l) else false
def mayRules (k : Nat) (l : List Ru) : Bool := decide (1 ≤ l.length) && (decide (l.length ≤ 256) && mayRs k 0 l)
def nameL (s : ByteArray) : Res → Bool
  | .ok [t] => decide (t.kind = 0) && decide (t.text = s)
  | _ => false
def isNameT (s : ByteArray) : Bool := decide (s.size ≤ 32) && nameL s (lexT s)
def place : List ByteArray → ByteArray → Option Nat
  | [], _ => none
  | a :: l, s => if a = s then some 0 else (place l s).map (· + 1)
def known (l : List ByteArray) (s : ByteArray) : Bool := (place l s).isSome
def againT : List ByteArray → List ByteArray → Nat → Nat
  | _, [], i => i
  | seen, s :: l, i => if known seen s = true then i else againT (seen ++ [s]) l (i + 1)
def again (l : List ByteArray) : Nat := againT [] l 0
def mayNames (l : List ByteArray) : Bool := decide (1 ≤ l.length) && (decide (l.length ≤ 64) && (l.all isNameT && decide (again l = l.length)))
def mayG (g : Gr) : Bool := mayNames g.names && (isNum g.start g.names.length && (mayHeads g.names.length (-1) g.rules && mayRules g.names.length g.rules))

def numOf (l : List ByteArray) (s : ByteArray) : Int := (((place l s).getD 0 : Nat) : Int)
/-- The first that is wanted, going on with a state. -/
def findS {σ : Type} (stop : σ → It → Bool) (step : σ → It → σ) : σ → List (ByteArray × It) → Option (ByteArray × It)
  | _, [] => none
  | s, x :: l => if stop s x.2 = true then some x else findS stop step (step s x.2) l
def endS {σ : Type} (step : σ → It → σ) : σ → List (ByteArray × It) → σ
  | s, [] => s
  | s, x :: l => endS step (step s x.2) l
def flatC (n : ByteArray) (c : Cj) : List (ByteArray × It) := c.items.map fun i => (n, i)
def flatA (n : ByteArray) (a : List Cj) : List (ByteArray × It) := a.flatMap (flatC n)
def flatD (d : Df) : List (ByteArray × It) := d.alts.flatMap (flatA d.name)
def flat (l : List Df) : List (ByteArray × It) := l.flatMap flatD
theorem findS_append {σ : Type} {stop : σ → It → Bool} {step : σ → It → σ} : ∀ (l m : List (ByteArray × It)) (s : σ), findS stop step s l = none → findS stop step s (l ++ m) = findS stop step (endS step s l) m
  | [], m, s, _ => rfl
  | x :: l, m, s, h => by
    simp only [findS, List.cons_append] at h ⊢
    split at h
    · cases h
    · next hn => rw [if_neg hn, findS_append l m _ h]; rfl
theorem endS_append {σ : Type} {step : σ → It → σ} : ∀ (l m : List (ByteArray × It)) (s : σ), endS step s (l ++ m) = endS step (endS step s l) m
  | [], m, s => rfl
  | x :: l, m, s => endS_append l m _
def stopN (names : List ByteArray) (_ : Unit) (i : It) : Bool := decide (i.kind = 0) && !known names i.text
def stopR (_ : Unit) (i : It) : Bool := decide (i.kind = 2) && decide (i.hi < i.lo)
def width (i : It) : Nat := if i.kind = 1 then i.text.size else 1
def stopL (n : Nat) (i : It) : Bool := decide (1024 < n + width i)
def stepL (n : Nat) (i : It) : Nat := n + width i
def unknownT (r : Rw) (names : List ByteArray) : Option ByteArray :=
  match r.starts.find? (fun s => !known names s) with
  | some s => some s
  | none => (findS (stopN names) (fun _ _ => ()) () (flat r.defs)).map fun x => x.2.text
def crossedT (l : List Df) : Option ByteArray := (findS stopR (fun _ _ => ()) () (flat l)).map fun x => x.1
def tooLongT (l : List Df) : Bool := (findS stopL stepL 0 (flat l)).isSome
def bytesT (s : ByteArray) : List Sy := s.data.toList.map fun c => ⟨-1, (c.toNat : Int), (c.toNat : Int)⟩
def symT (names : List ByteArray) (i : It) : List Sy := if i.kind = 0 then [⟨numOf names i.text, 0, 0⟩] else if i.kind = 1 then bytesT i.text else if i.kind = 2 then [⟨-1, i.lo, i.hi⟩] else [⟨-2, 0, 0⟩]
def rowT (names : List ByteArray) (l : List It) : List Sy := l.flatMap (symT names)
def cnT (names : List ByteArray) (c : Cj) : Cn := ⟨c.neg, rowT names c.items⟩
def ruleT (names : List ByteArray) (n : ByteArray) (a : List Cj) : Ru := ⟨numOf names n, a.map (cnT names)⟩
def rulesD (names : List ByteArray) (d : Df) : List Ru := d.alts.map (ruleT names d.name)
def rulesT (names : List ByteArray) (l : List Df) : List Ru := l.flatMap (rulesD names)
def namesT (l : List Df) : List ByteArray := l.map Df.name
def startT (r : Rw) : ByteArray := r.starts.headD ⟨#[]⟩
def gramT (r : Rw) : Gr := ⟨numOf (namesT r.defs) (startT r), namesT r.defs, rulesT (namesT r.defs) r.defs⟩
abbrev Bres := Except (ByteArray × Nat) Gr
def buildT (r : Rw) : Bres :=
  if again (namesT r.defs) < (namesT r.defs).length then .error ((namesT r.defs).getD (again (namesT r.defs)) ⟨#[]⟩, 401)
  else if r.starts.length ≠ 1 then .error (⟨#[]⟩, 400)
  else match unknownT r (namesT r.defs) with
    | some n => .error (n, 402)
    | none => match crossedT r.defs with
      | some n => .error (n, 403)
      | none => if tooLongT r.defs then .error (⟨#[]⟩, 404) else if mayG (gramT r) then .ok (gramT r) else .error (⟨#[]⟩, 404)
end Go.Proofs.Ytgeajdfajfdjcaa
