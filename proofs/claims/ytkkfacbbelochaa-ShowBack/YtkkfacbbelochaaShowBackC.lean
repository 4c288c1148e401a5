/- ShowBack: what each of its calls says. -/
import Derived.Test.YtkkfacbbelochaaNoteParse
import Derived.Test.YtkkfacbbelochaaNoteSize
import Derived.Test.YtkkfacbbelochaaGramBuild
import Derived.Test.YtkkfacbbelochaaShowUnlW
namespace Go.Proofs.Ytkkfacbbelochaa
set_option linter.unusedVariables false
open Go.ChangeShapes Go.WideShapes Go.ChangeAt Go.RowKit

def RawOk (w : World) (v1 v2 : Value) (r : Rw) : Prop := ∃ F : Nat → Prop, RawIs w F v1 v2 r
def GrOk (w : World) (v1 v2 : Value) (g : Gr) : Prop := ∃ F : Nat → Prop, GrIs w F v1 v2 g
theorem RawOk.any {w w' : World} {v1 v2 : Value} {r : Rw} (h : RawOk w v1 v2 r) (hb : Below w.heap.size w w') : RawOk w' v1 v2 r := by
  obtain ⟨F, h1, h2⟩ := h
  exact ⟨F, h1.any hb, h2.any hb⟩
theorem GrOk.any {w w' : World} {v1 v2 : Value} {g : Gr} (h : GrOk w v1 v2 g) (hb : Below w.heap.size w w') : GrOk w' v1 v2 g := by
  obtain ⟨F, h⟩ := h
  exact ⟨F, h.any hb⟩
/-- A call of Parse that says r. -/
def ParsesTo (t : ByteArray) (r : Rw) : Prop := ∀ w : World, Calls Try.prog 8 #[.string t] w fun e w' => ∃ p1 n1 c1 p2 n2 c2, e = .returned (.tuple #[.agg #[.slice p1 n1 c1, .slice p2 n2 c2], .int .i64 0, .int .i64 0]) ∧ Hid (RawOk w' (.slice p1 n1 c1) (.slice p2 n2 c2) r) ∧ Hid (Below w.heap.size w w')
def ParsesNo (t : ByteArray) (p k : Nat) : Prop := ∀ w : World, Calls Try.prog 8 #[.string t] w fun e w' => ∃ p1 n1 c1 p2 n2 c2, e = .returned (.tuple #[.agg #[.slice p1 n1 c1, .slice p2 n2 c2], .int .i64 (p : Int), .int .i64 (k : Int)]) ∧ Hid (Below w.heap.size w w')
def BuildsTo (r : Rw) (g : Gr) : Prop := ∀ (v1 v2 : Value) (w : World), RawOk w v1 v2 r → Calls Try.prog 9 #[.agg #[v1, v2]] w fun e w' => ∃ p1 n1 c1 p2 n2 c2, e = .returned (.tuple #[.agg #[.int .i64 g.start, .slice p1 n1 c1, .slice p2 n2 c2], .string ⟨#[]⟩, .int .i64 0]) ∧ Hid (GrOk w' (.slice p1 n1 c1) (.slice p2 n2 c2) g) ∧ Hid (Below w.heap.size w w')
def BuildsNo (r : Rw) (n : ByteArray) (k : Nat) : Prop := ∀ (v1 v2 : Value) (w : World), RawOk w v1 v2 r → Calls Try.prog 9 #[.agg #[v1, v2]] w fun e w' => e = .returned (.tuple #[.agg #[.int .i64 0, .slice none 0 0, .slice none 0 0], .string n, .int .i64 (k : Int)]) ∧ Hid (Below w.heap.size w w')
def ShowsTo (g : Gr) (t : ByteArray) : Prop := ∀ (v1 v2 : Value) (w : World), GrOk w v1 v2 g → Calls Try.prog 5 #[.agg #[.int .i64 g.start, v1, v2]] w fun e w' => e = .returned (.tuple #[.string t, .int .i64 0]) ∧ Hid (Below w.heap.size w w')
def SameTo (g : Gr) : Prop := ∀ (a1 a2 b1 b2 : Value) (w : World), GrOk w a1 a2 g → GrOk w b1 b2 g → Calls Try.prog 10 #[.agg #[.int .i64 g.start, a1, a2], .agg #[.int .i64 g.start, b1, b2]] w fun e w' => e = .returned (.bool true) ∧ Hid (Below w.heap.size w w')

theorem parses_to {t : ByteArray} {r : Rw} (h : parseT t = .ok r) (hs : t.size ≤ maxLen) : ParsesTo t r := by
  intro w
  refine (parse_any t w hs).mono ?_
  rintro e w1 ⟨v1, v2, F, rfl, hF, hR, hb⟩
  rw [h] at hR ⊢
  obtain ⟨p1, c1, e1, _⟩ := id hR.1
  obtain ⟨vs, ⟨p2, c2, e2, _⟩, _⟩ := id hR.2
  subst e1 e2
  exact ⟨_, _, _, _, _, _, rfl, ⟨F, hR⟩, hb⟩
theorem parses_no {t : ByteArray} {p k : Nat} (h : parseT t = .error (p, k)) (hs : t.size ≤ maxLen) : ParsesNo t p k := by
  intro w
  refine (parse_any t w hs).mono ?_
  rintro e w1 ⟨v1, v2, F, rfl, hF, hR, hb⟩
  rw [h] at hR ⊢
  obtain ⟨p1, c1, e1, _⟩ := id hR.1
  obtain ⟨vs, ⟨p2, c2, e2, _⟩, _⟩ := id hR.2
  subst e1 e2
  exact ⟨_, _, _, _, _, _, rfl, hb⟩
theorem builds_to {r : Rw} {g : Gr} (h : buildT r = .ok g) (hS : Sized r) : BuildsTo r g := by
  rintro v1 v2 w ⟨F, h1, h2⟩
  refine (build_any r v1 v2 w h1 h2 hS).mono ?_
  rw [h]
  rintro e w' ⟨p1, c1, p2, c2, F', rfl, hF, hg, hb⟩
  exact ⟨_, _, _, _, _, _, rfl, ⟨F', hg⟩, hb⟩
theorem builds_no {r : Rw} {n : ByteArray} {k : Nat} (h : buildT r = .error (n, k)) (hS : Sized r) : BuildsNo r n k := by
  rintro v1 v2 w ⟨F, h1, h2⟩
  refine (build_any r v1 v2 w h1 h2 hS).mono ?_
  rw [h]
  rintro e w' ⟨rfl, hb⟩
  exact ⟨rfl, hb⟩
theorem same_to (g : Gr) : SameTo g := by
  rintro a1 a2 b1 b2 w ⟨Fa, ha⟩ ⟨Fb, hb⟩
  exact sameGram_yes g a1 a2 b1 b2 w ha hb
theorem shows_to {g : Gr} (hM : mayG g = true) (hl : ∀ s, s ∈ g.names → s.size ≤ maxLen) (hS : Short g.rules) : ShowsTo g (showT g) := by
  rintro v1 v2 w ⟨F, hg⟩
  exact show_ok g v1 v2 w hg hl hS hM (by have := show_len hM; omega)
theorem back_parses {g : Gr} (hM : mayG g = true) : ParsesTo (showT g) (rawOf g) := by
  have hz : (showT g).size ≤ maxLen := by
    show (ba (showL g)).size ≤ _
    rw [ba_size]
    have := show_len hM
    unfold maxLen; omega
  exact parses_to (parse_back hM) hz
theorem back_builds {g : Gr} (hM : mayG g = true) : BuildsTo (rawOf g) g := builds_to (build_back hM) (parse_sized (parse_back hM))
theorem parse_code {t : ByteArray} {p k : Nat} (h : parseT t = .error (p, k)) : k = 300 ∨ k = 301 := by
  unfold parseT at h
  split at h
  · injection h with h; injection h with _ h; exact Or.inr h.symm
  · cases hA : lexT t with
    | error e => rw [hA] at h; obtain ⟨a, b⟩ := e; injection h with h; injection h with _ h; exact Or.inl h.symm
    | ok l =>
      rw [hA] at h
      have h' : shutP t.size (feed pm0 l) = .error (p, k) := h
      cases hF : feed pm0 l with
      | error e => rw [hF] at h'; injection h' with h'; injection h' with _ h'; exact Or.inl h'.symm
      | ok q =>
        rw [hF] at h'
        have h2 : (if q.st = 0 then Except.ok ⟨q.starts, q.defs⟩ else .error (t.size, 300)) = (.error (p, k) : Pres) := h'
        split at h2
        · cases h2
        · injection h2 with h2; injection h2 with _ h2; exact Or.inl h2.symm
theorem build_code {r : Rw} {n : ByteArray} {k : Nat} (h : buildT r = .error (n, k)) : k = 400 ∨ k = 401 ∨ k = 402 ∨ k = 403 ∨ k = 404 := by
  unfold buildT at h
  split at h
  · injection h with h; injection h with _ h; omega
  · split at h
    · injection h with h; injection h with _ h; omega
    · split at h
      · injection h with h; injection h with _ h; omega
      · split at h
        · injection h with h; injection h with _ h; omega
        · split at h
          · injection h with h; injection h with _ h; omega
          · split at h
            · cases h
            · injection h with h; injection h with _ h; omega
/-- What becomes of a text. -/
def After (s : ByteArray) : Prop :=
  (∃ p k : Nat, ((k : Int) != 0) = true ∧ ParsesNo s p k) ∨
  (∃ r, ParsesTo s r ∧ ((∃ n k, (((k : Nat) : Int) != 0) = true ∧ BuildsNo r n k) ∨ (∃ g, BuildsTo r g ∧ SameTo g ∧ ∃ t r2, ShowsTo g t ∧ ParsesTo t r2 ∧ BuildsTo r2 g)))
theorem after (s : ByteArray) (hs : s.size ≤ maxLen) : After s := by
  cases hp : parseT s with
  | error e =>
    obtain ⟨p, k⟩ := e
    exact Or.inl ⟨p, k, by rcases parse_code hp with h | h <;> subst h <;> rfl, parses_no hp hs⟩
  | ok r =>
    have hS := parse_sized hp
    refine Or.inr ⟨r, parses_to hp hs, ?_⟩
    cases hb : buildT r with
    | error e =>
      obtain ⟨n, k⟩ := e
      exact Or.inl ⟨n, k, by rcases build_code hb with h | h | h | h | h <;> subst h <;> rfl, builds_no hb hS⟩
    | ok g =>
      have hM := (build_may hb).1
      obtain ⟨h1, h2⟩ := build_short hS hb
      exact Or.inr ⟨g, builds_to hb hS, same_to g, showT g, rawOf g, shows_to hM h2 h1, back_parses hM, back_builds hM⟩
/-- What becomes of a grammar. -/
def Before (W : World) (g : Gr) (a1 a2 : Value) (b : Bool) : Prop :=
  ∃ (t : ByteArray) (k : Int), (∀ w2, Below W.heap.size W w2 → Calls Try.prog 5 #[.agg #[.int .i64 g.start, a1, a2]] w2 fun e w' => e = .returned (.tuple #[.string t, .int .i64 k]) ∧ Hid (Below w2.heap.size w2 w')) ∧
    (∀ w2, Below W.heap.size W w2 → Calls Try.prog 7 #[.agg #[.int .i64 g.start, a1, a2]] w2 fun e w' => e = .returned (.bool b) ∧ Hid (Below w2.heap.size w2 w')) ∧
    SameTo g ∧ GrOk W a1 a2 g ∧ (b = true ∧ k = 0 ∧ (∃ r, ParsesTo t r ∧ BuildsTo r g) ∨ b = false ∧ k = 500)
theorem before (W : World) (g : Gr) (a1 a2 : Value) (ga : GrIs W Any a1 a2 g) (gn : ∀ s, s ∈ g.names → s.size ≤ maxLen ∧ s.size ≤ reachBytes) (gs : ∀ r, r ∈ g.rules → ∀ c, c ∈ r.conj → c.seq.length * 24 ≤ reachBytes) : ∃ b, Before W g a1 a2 b := by
  have hS : Short g.rules := fun r hr c hc => by have := gs r hr c hc; unfold reachBytes at this; omega
  have hn : ∀ s, s ∈ g.names → s.size ≤ maxLen := fun s h => (gn s h).1
  refine ⟨mayG g, ?_⟩
  have KM : ∀ w2, Below W.heap.size W w2 → Calls Try.prog 7 #[.agg #[.int .i64 g.start, a1, a2]] w2 fun e w' => e = .returned (.bool (mayG g)) ∧ Hid (Below w2.heap.size w2 w') := fun w2 hb => may_any g a1 a2 w2 (ga.any hb) hn hS
  cases hM : mayG g with
  | true =>
    rw [hM] at KM
    exact ⟨showT g, 0, fun w2 hb => shows_to hM hn hS a1 a2 w2 ⟨_, ga.any hb⟩, KM, same_to g, ⟨_, ga⟩, Or.inl ⟨rfl, rfl, rawOf g, back_parses hM, back_builds hM⟩⟩
  | false =>
    rw [hM] at KM
    exact ⟨⟨#[]⟩, 500, fun w2 hb => show_no g a1 a2 w2 (ga.any hb) hn hS hM, KM, same_to g, ⟨_, ga⟩, Or.inr ⟨rfl, rfl⟩⟩
end Go.Proofs.Ytkkfacbbelochaa
