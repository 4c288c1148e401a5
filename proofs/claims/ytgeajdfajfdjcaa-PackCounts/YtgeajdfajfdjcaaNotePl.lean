/- The notation, as plain functions of tokens: a parser without recursion. No program in sight. -/
import Derived.Test.YtgeajdfajfdjcaaLexTok
namespace Go.Proofs.Ytgeajdfajfdjcaa

structure It where
  kind : Int
  text : ByteArray
  lo : Int
  hi : Int
structure Cj where
  neg : Bool
  items : List It
structure Df where
  name : ByteArray
  alts : List (List Cj)
structure Rw where
  starts : List ByteArray
  defs : List Df
structure Pm where
  st : Nat
  starts : List ByteArray
  defs : List Df
  start : ByteArray
  name : ByteArray
  alts : List (List Cj)
  alt : List Cj
  neg : Bool
  items : List It

def tItem (p : Pm) (t : Tok) : Option Pm := if t.kind ≤ 2 then some ⟨6, p.starts, p.defs, p.start, p.name, p.alts, p.alt, p.neg, p.items ++ [⟨(t.kind : Int), t.text, t.lo, t.hi⟩]⟩ else none
def sConj (p : Pm) : Pm := ⟨p.st, p.starts, p.defs, p.start, p.name, p.alts, p.alt ++ [⟨p.neg, p.items⟩], false, []⟩
def sAlt (p : Pm) : Pm := ⟨p.st, p.starts, p.defs, p.start, p.name, p.alts ++ [p.alt ++ [⟨p.neg, p.items⟩]], [], false, []⟩
def sDef (p : Pm) : Pm := ⟨p.st, p.starts, p.defs ++ [⟨p.name, p.alts ++ [p.alt ++ [⟨p.neg, p.items⟩]]⟩], p.start, ⟨#[]⟩, [], [], false, []⟩
def Pm.to (p : Pm) (k : Nat) : Pm := ⟨k, p.starts, p.defs, p.start, p.name, p.alts, p.alt, p.neg, p.items⟩
def take0 (p : Pm) (t : Tok) : Option Pm := if t.kind = 3 then some (p.to 1) else if t.kind = 0 then some ⟨3, p.starts, p.defs, p.start, t.text, p.alts, p.alt, p.neg, p.items⟩ else none
def take1 (p : Pm) (t : Tok) : Option Pm := if t.kind = 0 then some ⟨2, p.starts, p.defs, t.text, p.name, p.alts, p.alt, p.neg, p.items⟩ else none
def take2 (p : Pm) (t : Tok) : Option Pm := if t.kind = 8 then some ⟨0, p.starts ++ [p.start], p.defs, p.start, p.name, p.alts, p.alt, p.neg, p.items⟩ else none
def take3 (p : Pm) (t : Tok) : Option Pm := if t.kind = 4 then some (p.to 4) else none
def take4 (p : Pm) (t : Tok) : Option Pm := if t.kind = 7 then some ⟨5, p.starts, p.defs, p.start, p.name, p.alts, p.alt, true, p.items⟩ else tItem p t
def take6 (p : Pm) (t : Tok) : Option Pm := if t.kind = 6 then some ((sConj p).to 4) else if t.kind = 5 then some ((sAlt p).to 4) else if t.kind = 8 then some ((sDef p).to 0) else tItem p t
def takeS : Nat → Pm → Tok → Option Pm
  | 0 => take0
  | 1 => take1
  | 2 => take2
  | 3 => take3
  | 4 => take4
  | 5 => tItem
  | _ => take6
def take (p : Pm) (t : Tok) : Option Pm := takeS p.st p t
def pm0 : Pm := ⟨0, [], [], ⟨#[]⟩, ⟨#[]⟩, [], [], false, []⟩
def feed (p : Pm) : List Tok → Except Nat Pm
  | [] => .ok p
  | t :: l => match take p t with
    | none => .error t.pl
    | some q => feed q l
abbrev Pres := Except (Nat × Nat) Rw
def shutP (n : Nat) : Except Nat Pm → Pres
  | .error k => .error (k, 300)
  | .ok p => if p.st = 0 then .ok ⟨p.starts, p.defs⟩ else .error (n, 300)
def parseL (n : Nat) : Res → Pres
  | .error (p, _) => .error (p, 300)
  | .ok l => shutP n (feed pm0 l)
def parseT (s : ByteArray) : Pres := if 65536 < s.size then .error (0, 301) else parseL s.size (lexT s)

/-- How much there is at most behind k tokens. -/
structure Fits (p : Pm) (k : Nat) : Prop where
  st : p.st ≤ 6
  starts : p.starts.length ≤ k
  defs : p.defs.length ≤ k
  alts : p.alts.length ≤ k
  alt : p.alt.length ≤ k
  items : p.items.length ≤ k
theorem fits0 : Fits pm0 0 := ⟨by decide, by decide, by decide, by decide, by decide, by decide⟩
theorem tItem_fits {p q : Pm} {t : Tok} {k : Nat} (h : Fits p k) (e : tItem p t = some q) : Fits q (k + 1) := by
  have h1 := h.starts; have h2 := h.defs; have h3 := h.alts; have h4 := h.alt; have h5 := h.items
  unfold tItem at e
  split at e
  · injection e with e; subst e
    exact ⟨by show 6 ≤ 6; omega, by show p.starts.length ≤ _; omega, by show p.defs.length ≤ _; omega, by show p.alts.length ≤ _; omega, by show p.alt.length ≤ _; omega, by simp; omega⟩
  · cases e
theorem take_fits {p q : Pm} {t : Tok} {k : Nat} (h : Fits p k) (e : take p t = some q) : Fits q (k + 1) := by
  have h1 := h.starts; have h2 := h.defs; have h3 := h.alts; have h4 := h.alt; have h5 := h.items
  unfold take at e
  match hs : p.st with
  | 0 =>
    rw [hs] at e
    have e' : take0 p t = some q := e
    unfold take0 at e'
    split at e'
    · injection e' with e'; subst e'
      exact ⟨by show 1 ≤ 6; omega, by show p.starts.length ≤ _; omega, by show p.defs.length ≤ _; omega, by show p.alts.length ≤ _; omega, by show p.alt.length ≤ _; omega, by show p.items.length ≤ _; omega⟩
    · split at e'
      · injection e' with e'; subst e'
        exact ⟨by show 3 ≤ 6; omega, by show p.starts.length ≤ _; omega, by show p.defs.length ≤ _; omega, by show p.alts.length ≤ _; omega, by show p.alt.length ≤ _; omega, by show p.items.length ≤ _; omega⟩
      · cases e'
  | 1 =>
    rw [hs] at e
    have e' : take1 p t = some q := e
    unfold take1 at e'
    split at e'
    · injection e' with e'; subst e'
      exact ⟨by show 2 ≤ 6; omega, by show p.starts.length ≤ _; omega, by show p.defs.length ≤ _; omega, by show p.alts.length ≤ _; omega, by show p.alt.length ≤ _; omega, by show p.items.length ≤ _; omega⟩
    · cases e'
  | 2 =>
    rw [hs] at e
    have e' : take2 p t = some q := e
    unfold take2 at e'
    split at e'
    · injection e' with e'; subst e'
      exact ⟨by show 0 ≤ 6; omega, by simp; omega, by show p.defs.length ≤ _; omega, by show p.alts.length ≤ _; omega, by show p.alt.length ≤ _; omega, by show p.items.length ≤ _; omega⟩
    · cases e'
  | 3 =>
    rw [hs] at e
    have e' : take3 p t = some q := e
    unfold take3 at e'
    split at e'
    · injection e' with e'; subst e'
      exact ⟨by show 4 ≤ 6; omega, by show p.starts.length ≤ _; omega, by show p.defs.length ≤ _; omega, by show p.alts.length ≤ _; omega, by show p.alt.length ≤ _; omega, by show p.items.length ≤ _; omega⟩
    · cases e'
  | 4 =>
    rw [hs] at e
    have e' : take4 p t = some q := e
    unfold take4 at e'
    split at e'
    · injection e' with e'; subst e'
      exact ⟨by show 5 ≤ 6; omega, by show p.starts.length ≤ _; omega, by show p.defs.length ≤ _; omega, by show p.alts.length ≤ _; omega, by show p.alt.length ≤ _; omega, by show p.items.length ≤ _; omega⟩
    · exact tItem_fits h e'
  | 5 =>
    rw [hs] at e
    exact tItem_fits h e
  | m + 6 =>
    rw [hs] at e
    have e' : take6 p t = some q := e
    unfold take6 at e'
    split at e'
    · injection e' with e'; subst e'
      exact ⟨by show 4 ≤ 6; omega, by show p.starts.length ≤ _; omega, by show p.defs.length ≤ _; omega, by show p.alts.length ≤ _; omega, by show (p.alt ++ [_]).length ≤ _; simp; omega, Nat.zero_le _⟩
    · split at e'
      · injection e' with e'; subst e'
        exact ⟨by show 4 ≤ 6; omega, by show p.starts.length ≤ _; omega, by show p.defs.length ≤ _; omega, by show (p.alts ++ [_]).length ≤ _; simp; omega, Nat.zero_le _, Nat.zero_le _⟩
      · split at e'
        · injection e' with e'; subst e'
          exact ⟨by show 0 ≤ 6; omega, by show p.starts.length ≤ _; omega, by show (p.defs ++ [_]).length ≤ _; simp; omega, Nat.zero_le _, Nat.zero_le _, Nat.zero_le _⟩
        · exact tItem_fits h e'
end Go.Proofs.Ytgeajdfajfdjcaa
