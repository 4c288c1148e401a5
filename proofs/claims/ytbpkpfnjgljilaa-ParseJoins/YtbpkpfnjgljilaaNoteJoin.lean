/- Two texts, one behind the other: their declarations one behind the other, or the second one's error, so many places on. No program in sight. -/
import Derived.Test.YtbpkpfnjgljilaaNoteCut2
import Derived.Test.YtbpkpfnjgljilaaShowBackT
namespace Go.Proofs.Ytbpkpfnjgljilaa
set_option linter.unusedVariables false

/-- q is p with S and D ahead of what has been declared; what is yet to be written may be anything. -/
def Sim (S : List ByteArray) (D : List Df) (p q : Pm) : Prop := ∃ a b, q = ⟨p.st, S ++ p.starts, D ++ p.defs, a, b, p.alts, p.alt, p.neg, p.items⟩ ∧ (p.st = 2 → a = p.start) ∧ (3 ≤ p.st → b = p.name)
def SimO (S : List ByteArray) (D : List Df) : Option Pm → Option Pm → Prop
  | some p, some q => Sim S D p q
  | none, none => True
  | _, _ => False
section
variable {S : List ByteArray} {D : List Df} {starts : List ByteArray} {defs : List Df} {start name a b : ByteArray} {alts : List (List Cj)} {alt : List Cj} {neg : Bool} {items : List It}
theorem tItem_sim (st : Nat) (t : Tok) (d : Nat) (hb : b = name) : SimO S D (tItem ⟨st, starts, defs, start, name, alts, alt, neg, items⟩ t) (tItem ⟨st, S ++ starts, D ++ defs, a, b, alts, alt, neg, items⟩ (t.sh d)) := by
  unfold tItem
  by_cases h1 : t.kind ≤ 2
  · rw [if_pos h1, if_pos (show (t.sh d).kind ≤ 2 from h1)]
    exact ⟨a, b, rfl, fun h => absurd h (by show ¬ (6 = 2); decide), fun _ => hb⟩
  · rw [if_neg h1, if_neg (show ¬ (t.sh d).kind ≤ 2 from h1)]
    exact trivial
theorem take0_sim (t : Tok) (d : Nat) : SimO S D (take0 ⟨0, starts, defs, start, name, alts, alt, neg, items⟩ t) (take0 ⟨0, S ++ starts, D ++ defs, a, b, alts, alt, neg, items⟩ (t.sh d)) := by
  unfold take0
  by_cases h1 : t.kind = 3
  · rw [if_pos h1, if_pos (show (t.sh d).kind = 3 from h1)]
    exact ⟨a, b, rfl, fun h => absurd h (by show ¬ (1 = 2); decide), fun h => absurd h (by show ¬ (3 ≤ 1); decide)⟩
  · rw [if_neg h1, if_neg (show ¬ (t.sh d).kind = 3 from h1)]
    by_cases h2 : t.kind = 0
    · rw [if_pos h2, if_pos (show (t.sh d).kind = 0 from h2)]
      exact ⟨a, t.text, rfl, fun h => absurd h (by show ¬ (3 = 2); decide), fun h => rfl⟩
    · rw [if_neg h2, if_neg (show ¬ (t.sh d).kind = 0 from h2)]
      exact trivial
theorem take1_sim (t : Tok) (d : Nat) : SimO S D (take1 ⟨1, starts, defs, start, name, alts, alt, neg, items⟩ t) (take1 ⟨1, S ++ starts, D ++ defs, a, b, alts, alt, neg, items⟩ (t.sh d)) := by
  unfold take1
  by_cases h1 : t.kind = 0
  · rw [if_pos h1, if_pos (show (t.sh d).kind = 0 from h1)]
    exact ⟨t.text, b, rfl, fun h => rfl, fun h => absurd h (by show ¬ (3 ≤ 2); decide)⟩
  · rw [if_neg h1, if_neg (show ¬ (t.sh d).kind = 0 from h1)]
    exact trivial
theorem take2_sim (t : Tok) (d : Nat) (ha : a = start) : SimO S D (take2 ⟨2, starts, defs, start, name, alts, alt, neg, items⟩ t) (take2 ⟨2, S ++ starts, D ++ defs, a, b, alts, alt, neg, items⟩ (t.sh d)) := by
  subst ha
  unfold take2
  by_cases h1 : t.kind = 8
  · rw [if_pos h1, if_pos (show (t.sh d).kind = 8 from h1)]
    refine ⟨a, b, ?_, fun h => absurd h (by show ¬ (0 = 2); decide), fun h => absurd h (by show ¬ (3 ≤ 0); decide)⟩
    simp
  · rw [if_neg h1, if_neg (show ¬ (t.sh d).kind = 8 from h1)]
    exact trivial
theorem take3_sim (t : Tok) (d : Nat) (hb : b = name) : SimO S D (take3 ⟨3, starts, defs, start, name, alts, alt, neg, items⟩ t) (take3 ⟨3, S ++ starts, D ++ defs, a, b, alts, alt, neg, items⟩ (t.sh d)) := by
  unfold take3
  by_cases h1 : t.kind = 4
  · rw [if_pos h1, if_pos (show (t.sh d).kind = 4 from h1)]
    exact ⟨a, b, rfl, fun h => absurd h (by show ¬ (4 = 2); decide), fun h => hb⟩
  · rw [if_neg h1, if_neg (show ¬ (t.sh d).kind = 4 from h1)]
    exact trivial
theorem take4_sim (t : Tok) (d : Nat) (hb : b = name) : SimO S D (take4 ⟨4, starts, defs, start, name, alts, alt, neg, items⟩ t) (take4 ⟨4, S ++ starts, D ++ defs, a, b, alts, alt, neg, items⟩ (t.sh d)) := by
  unfold take4
  by_cases h1 : t.kind = 7
  · rw [if_pos h1, if_pos (show (t.sh d).kind = 7 from h1)]
    exact ⟨a, b, rfl, fun h => absurd h (by show ¬ (5 = 2); decide), fun h => hb⟩
  · rw [if_neg h1, if_neg (show ¬ (t.sh d).kind = 7 from h1)]
    exact tItem_sim 4 t d hb
theorem take6_sim (n : Nat) (t : Tok) (d : Nat) (hb : b = name) : SimO S D (take6 ⟨n, starts, defs, start, name, alts, alt, neg, items⟩ t) (take6 ⟨n, S ++ starts, D ++ defs, a, b, alts, alt, neg, items⟩ (t.sh d)) := by
  unfold take6
  by_cases h1 : t.kind = 6
  · rw [if_pos h1, if_pos (show (t.sh d).kind = 6 from h1)]
    exact ⟨a, b, rfl, fun h => absurd h (by show ¬ (4 = 2); decide), fun h => hb⟩
  · rw [if_neg h1, if_neg (show ¬ (t.sh d).kind = 6 from h1)]
    by_cases h2 : t.kind = 5
    · rw [if_pos h2, if_pos (show (t.sh d).kind = 5 from h2)]
      exact ⟨a, b, rfl, fun h => absurd h (by show ¬ (4 = 2); decide), fun h => hb⟩
    · rw [if_neg h2, if_neg (show ¬ (t.sh d).kind = 5 from h2)]
      by_cases h3 : t.kind = 8
      · rw [if_pos h3, if_pos (show (t.sh d).kind = 8 from h3)]
        subst hb
        refine ⟨a, ⟨#[]⟩, ?_, fun h => absurd h (by show ¬ (0 = 2); decide), fun h => absurd h (by show ¬ (3 ≤ 0); decide)⟩
        simp [Pm.to, sDef]
      · rw [if_neg h3, if_neg (show ¬ (t.sh d).kind = 8 from h3)]
        exact tItem_sim n t d hb
end
theorem take_sim {S : List ByteArray} {D : List Df} {p q : Pm} (h : Sim S D p q) (t : Tok) (d : Nat) : SimO S D (take p t) (take q (t.sh d)) := by
  obtain ⟨st, starts, defs, start, name, alts, alt, neg, items⟩ := p
  obtain ⟨a, b, rfl, h2, h3⟩ := h
  simp only at h2 h3
  match st, h2, h3 with
  | 0, _, _ => exact take0_sim t d
  | 1, _, _ => exact take1_sim t d
  | 2, h2, _ => exact take2_sim t d (h2 rfl)
  | 3, _, h3 => exact take3_sim t d (h3 (by decide))
  | 4, _, h3 => exact take4_sim t d (h3 (by decide))
  | 5, _, h3 => exact tItem_sim 5 t d (h3 (by decide))
  | n + 6, _, h3 => exact take6_sim (n + 6) t d (h3 (by omega))
theorem feed_sim {S : List ByteArray} {D : List Df} (d : Nat) : ∀ (m : List Tok) (p q : Pm), Sim S D p q → (∀ k, feed p m = .error k → feed q (m.map (Tok.sh d)) = .error (k + d)) ∧ (∀ p', feed p m = .ok p' → ∃ q', feed q (m.map (Tok.sh d)) = .ok q' ∧ Sim S D p' q')
  | [], p, q, h => ⟨fun k e => (by cases e), fun p' e => (by injection e with e; subst e; exact ⟨q, rfl, h⟩)⟩
  | t :: m, p, q, h => by
    have hs := take_sim h t d
    have e1 : feed p (t :: m) = match take p t with
      | none => .error t.pl
      | some r => feed r m := rfl
    have e2 : feed q ((t :: m).map (Tok.sh d)) = match take q (t.sh d) with
      | none => .error (t.pl + d)
      | some r => feed r (m.map (Tok.sh d)) := rfl
    rw [e1, e2]
    cases hp : take p t with
    | none =>
      rw [hp] at hs
      cases hq : take q (t.sh d) with
      | none => exact ⟨fun k e => (by injection e with e; subst e; rfl), fun p' e => (by cases e)⟩
      | some q' => rw [hq] at hs; exact hs.elim
    | some p1 =>
      rw [hp] at hs
      cases hq : take q (t.sh d) with
      | none => rw [hq] at hs; exact hs.elim
      | some q1 => rw [hq] at hs; exact feed_sim d m p1 q1 hs
/-- Nothing is begun that is not of this definition. -/
def Clean (p : Pm) : Prop := p.st ≤ 3 → p.alts = [] ∧ p.alt = [] ∧ p.neg = false ∧ p.items = []
theorem take_clean {p q : Pm} {t : Tok} (h : Clean p) (e : take p t = some q) : Clean q := by
  obtain ⟨st, starts, defs, start, name, alts, alt, neg, items⟩ := p
  have hit : ∀ {st : Nat} {q : Pm}, tItem ⟨st, starts, defs, start, name, alts, alt, neg, items⟩ t = some q → Clean q := fun {st} {q} e => by
    unfold tItem at e
    split at e
    · injection e with e; subst e; exact fun hh => absurd hh (by show ¬ (6 ≤ 3); decide)
    · cases e
  match st, h, e with
  | 0, h, e =>
    have e' : take0 _ t = some q := e
    unfold take0 at e'
    split at e'
    · injection e' with e'; subst e'; exact fun _ => h (by show 0 ≤ 3; decide)
    · split at e'
      · injection e' with e'; subst e'; exact fun _ => h (by show 0 ≤ 3; decide)
      · cases e'
  | 1, h, e =>
    have e' : take1 _ t = some q := e
    unfold take1 at e'
    split at e'
    · injection e' with e'; subst e'; exact fun _ => h (by show 1 ≤ 3; decide)
    · cases e'
  | 2, h, e =>
    have e' : take2 _ t = some q := e
    unfold take2 at e'
    split at e'
    · injection e' with e'; subst e'; exact fun _ => h (by show 2 ≤ 3; decide)
    · cases e'
  | 3, h, e =>
    have e' : take3 _ t = some q := e
    unfold take3 at e'
    split at e'
    · injection e' with e'; subst e'; exact fun hh => absurd hh (by show ¬ (4 ≤ 3); decide)
    · cases e'
  | 4, h, e =>
    have e' : take4 _ t = some q := e
    unfold take4 at e'
    split at e'
    · injection e' with e'; subst e'; exact fun hh => absurd hh (by show ¬ (5 ≤ 3); decide)
    · exact hit e'
  | 5, h, e => exact hit (st := 5) e
  | n + 6, h, e =>
    have e' : take6 _ t = some q := e
    unfold take6 at e'
    split at e'
    · injection e' with e'; subst e'; exact fun hh => absurd hh (by show ¬ (4 ≤ 3); decide)
    · split at e'
      · injection e' with e'; subst e'; exact fun hh => absurd hh (by show ¬ (4 ≤ 3); decide)
      · split at e'
        · injection e' with e'; subst e'; exact fun _ => ⟨rfl, rfl, rfl, rfl⟩
        · exact hit e'
theorem feed_clean : ∀ (l : List Tok) (p q : Pm), Clean p → feed p l = .ok q → Clean q
  | [], p, q, h, e => by injection e with e; subst e; exact h
  | t :: l, p, q, h, e => by
    have e' : (match take p t with
      | none => Except.error t.pl
      | some r => feed r l) = .ok q := e
    cases ht : take p t with
    | none => rw [ht] at e'; cases e'
    | some r => rw [ht] at e'; exact feed_clean l r q (take_clean h ht) e'
def joinP (ra : Rw) (d : Nat) : Pres → Pres
  | .ok rb => .ok ⟨ra.starts ++ rb.starts, ra.defs ++ rb.defs⟩
  | .error (q, x) => .error (q + d, x)
theorem parse_join {s t : ByteArray} {ra : Rw} (h : parseT s = .ok ra) (hz : s.size + 1 + t.size ≤ 65536) : parseT ((s ++ ⟨#[10]⟩) ++ t) = joinP ra (s.size + 1) (parseT t) := by
  obtain ⟨-, l, p, h1, h2, h3, rfl⟩ := parseT_ok h
  have hc := feed_clean l pm0 p (fun _ => ⟨rfl, rfl, rfl, rfl⟩) h2
  have hz2 : ((s ++ ⟨#[10]⟩) ++ t : ByteArray).size = t.size + (s.size + 1) := by rw [ByteArray.size_append, ByteArray.size_append]; show s.size + 1 + t.size = _; omega
  have hj := lex_join s t 10 (Or.inr (Or.inl rfl)) (Or.inl rfl) l h1 hz
  have hsim : Sim p.starts p.defs pm0 p := by
    obtain ⟨c1, c2, c3, c4⟩ := hc (by omega)
    obtain ⟨st, starts, defs, start, name, alts, alt, neg, items⟩ := p
    simp only at h3 c1 c2 c3 c4
    subst h3 c1 c2 c3 c4
    exact ⟨start, name, (by simp [pm0]), fun h => absurd h (by show ¬ (0 = 2); decide), fun h => absurd h (by show ¬ (3 ≤ 0); decide)⟩
  unfold parseT
  rw [if_neg (by omega), if_neg (by omega), hj, hz2]
  cases ht : lexT t with
  | error e =>
    obtain ⟨q, x⟩ := e
    rfl
  | ok m =>
    show shutP (t.size + (s.size + 1)) (feed pm0 (l ++ m.map (Tok.sh (s.size + 1)))) = joinP _ _ (shutP t.size (feed pm0 m))
    rw [feed_app l _ pm0 p h2]
    obtain ⟨f1, f2⟩ := feed_sim (s.size + 1) m pm0 p hsim
    cases hf : feed pm0 m with
    | error k => rw [f1 k hf]; rfl
    | ok p' =>
      obtain ⟨q', e1, a, b, rfl, -, -⟩ := f2 p' hf
      rw [e1]
      by_cases h0 : p'.st = 0
      · show (if p'.st = 0 then _ else _) = joinP _ _ (if p'.st = 0 then _ else _)
        rw [if_pos h0, if_pos h0]; rfl
      · show (if p'.st = 0 then _ else _) = joinP _ _ (if p'.st = 0 then _ else _)
        rw [if_neg h0, if_neg h0]; rfl
end Go.Proofs.Ytbpkpfnjgljilaa
