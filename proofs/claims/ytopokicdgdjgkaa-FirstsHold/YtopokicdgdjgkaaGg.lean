import Derived.Test.YtopokicdgdjgkaaGd
import Derived.Test.YtopokicdgdjgkaaGf
import Derived.Deep.RegionHeld3
import Derived.Test.YtopokicdgdjgkaaGa
import Derived.Maps.OwnSet
/- Two rows of the same texts, items, conjuncts; two of the same declarations: held against one another. -/
namespace Go.Proofs.Ytopokicdgdjgkaa
set_option linter.unusedVariables false
open Go.ChangeShapes Go.WideShapes Go.ChangeAt Go.RowKit

theorem stay_below {F : Nat → Prop} {w w' : World} (hb : Below w.heap.size w w') (hF : ∀ b, F b → b < w.heap.size) : Stay F w w' := ⟨hb.size, fun b h => hb.block b (hF b h)⟩
/-- A row that is read, whatever its blocks. -/
abbrev Any : Nat → Prop := fun _ => True
theorem Reads.any {w : World} {F : Nat → Prop} {v : Value} {n : Nat} {cs : List Value} (h : Reads w F v n cs) {w' : World} (hb : Below w.heap.size w w') : Reads w' F v n cs := by
  obtain ⟨p, cap, hv, hm, hc⟩ := h
  refine ⟨p, cap, hv, hm, fun hn => ?_⟩
  obtain ⟨g, o, hp, hF, hg, hx, hz⟩ := hc hn
  exact ⟨g, o, hp, hF, Nat.lt_of_lt_of_le hg hb.size, fun j c hj => (hb.cell (p := ⟨g, _, none⟩) hg).trans (hx j c hj), fun j hj => (hb.frozen (p := ⟨g, _, none⟩) hg).trans (hz j hj)⟩
section
variable {w w' : World} {F : Nat → Prop}
theorem IsIts.any {v : Value} {l : List It} (h : IsIts w F v l) (hb : Below w.heap.size w w') : IsIts w' F v l := Reads.any h hb
theorem IsCjs.any {v : Value} {l : List Cj} (h : IsCjs w F v l) (hb : Below w.heap.size w w') : IsCjs w' F v l := by
  obtain ⟨vs, h1, h2, h3⟩ := h
  exact ⟨vs, h1.any hb, h2, fun k c u e1 e2 => (h3 k c u e1 e2).any hb⟩
theorem IsAlts.any {v : Value} {l : List (List Cj)} (h : IsAlts w F v l) (hb : Below w.heap.size w w') : IsAlts w' F v l := by
  obtain ⟨vs, h1, h2, h3⟩ := h
  exact ⟨vs, h1.any hb, h2, fun k c u e1 e2 => (h3 k c u e1 e2).any hb⟩
theorem IsDefs.any {v : Value} {l : List Df} (h : IsDefs w F v l) (hb : Below w.heap.size w w') : IsDefs w' F v l := by
  obtain ⟨vs, h1, h2, h3⟩ := h
  exact ⟨vs, h1.any hb, h2, fun k c u e1 e2 => (h3 k c u e1 e2).any hb⟩
theorem IsTexts.any {v : Value} {l : List ByteArray} (h : IsTexts w F v l) (hb : Below w.heap.size w w') : IsTexts w' F v l := Reads.any h hb
end
theorem drewN_below (w : World) (n : Nat) : Below w.heap.size w (w.drewN n) := ⟨rfl, rfl, rfl, Nat.le_refl _, fun _ _ => rfl⟩

theorem box2_cells {w w1 : World} {c1 c2 : Array Value} {t t' : TypeId} (hb : Below ((w.alloc (.cells c1 t)).alloc (.cells c2 t')).heap.size ((w.alloc (.cells c1 t)).alloc (.cells c2 t')) w1) :
    (∀ j, w1.cell? ⟨w.heap.size, j, none⟩ = c1[j]?) ∧ (∀ j, w1.cell? ⟨w.heap.size + 1, j, none⟩ = c2[j]?) ∧ w.heap.size + 1 < w1.heap.size ∧ Below w.heap.size w w1 := by
  have hz : ((w.alloc (.cells c1 t)).alloc (.cells c2 t')).heap.size = w.heap.size + 2 := by simp
  have hs := hb.size
  rw [hz] at hs
  refine ⟨fun j => ?_, fun j => ?_, by omega, (bel2 w _ _).trans (hb.mono (by rw [hz]; omega))⟩
  · exact (hb.cell (p := ⟨_, _, none⟩) (by rw [hz]; show w.heap.size < _; omega)).trans ((World.cell?_alloc_past _ _ _ (by simp)).trans (World.cell?_alloc_at _ _ _ _ rfl))
  · exact (hb.cell (p := ⟨_, _, none⟩) (by rw [hz]; show w.heap.size + 1 < _; omega)).trans (World.cell?_alloc_at _ _ _ _ (by simp))
end Go.Proofs.Ytopokicdgdjgkaa
/- Grammars in memory; a map from names to their places. No program in sight. -/
namespace Go.Proofs.Ytopokicdgdjgkaa
set_option linter.unusedVariables false
open Go.RowKit Go.Maps

def syV (s : Sy) : List Value := [.int .i64 s.name, .int .i64 s.lo, .int .i64 s.hi]
def sysV : List Sy → List Value
  | [] => []
  | s :: l => syV s ++ sysV l
theorem sysV_append : ∀ l m : List Sy, sysV (l ++ m) = sysV l ++ sysV m
  | [], _ => rfl
  | i :: l, m => by simp [sysV, sysV_append l m]
theorem sysV_length : ∀ l : List Sy, (sysV l).length = l.length * 3
  | [] => rfl
  | i :: l => by simp [sysV, syV, sysV_length l]; omega
theorem sysV_at : ∀ (l : List Sy) (k : Nat) (s : Sy), l[k]? = some s → (sysV l)[k * 3]? = some (.int .i64 s.name) ∧ (sysV l)[k * 3 + 1]? = some (.int .i64 s.lo) ∧ (sysV l)[k * 3 + 2]? = some (.int .i64 s.hi)
  | [], k, i, h => by simp at h
  | q :: l, 0, i, h => by
    obtain rfl : q = i := by simpa using h
    exact ⟨rfl, rfl, rfl⟩
  | q :: l, k + 1, i, h => by
    have := sysV_at l k i (by simpa using h)
    rw [show (k + 1) * 3 = k * 3 + 1 + 1 + 1 by omega]
    simpa [sysV, syV] using this
def cnsV : List Cn → List Value → List Value
  | c :: l, v :: vs => .bool c.neg :: v :: cnsV l vs
  | _, _ => []
theorem cnsV_append : ∀ (l : List Cn) (vs : List Value) (c : Cn) (v : Value), vs.length = l.length → cnsV (l ++ [c]) (vs ++ [v]) = cnsV l vs ++ [.bool c.neg, v]
  | [], [], c, v, _ => rfl
  | [], _ :: _, _, _, h => by simp at h
  | _ :: _, [], _, _, h => by simp at h
  | d :: l, u :: vs, c, v, h => by
    show .bool d.neg :: u :: cnsV (l ++ [c]) (vs ++ [v]) = _
    rw [cnsV_append l vs c v (by simpa using h)]; rfl
theorem cnsV_length : ∀ (l : List Cn) (vs : List Value), vs.length = l.length → (cnsV l vs).length = l.length * 2
  | [], [], _ => rfl
  | [], _ :: _, h => by simp at h
  | _ :: _, [], h => by simp at h
  | d :: l, u :: vs, h => by
    show (_ :: _ :: cnsV l vs).length = _
    simp only [List.length_cons, cnsV_length l vs (by simpa using h)]; omega
theorem cnsV_at : ∀ (l : List Cn) (vs : List Value) (k : Nat) (c : Cn) (u : Value), l[k]? = some c → vs[k]? = some u → (cnsV l vs)[k * 2]? = some (.bool c.neg) ∧ (cnsV l vs)[k * 2 + 1]? = some u
  | [], _, k, c, u, h, _ => by simp at h
  | _ :: _, [], k, c, u, _, h => by simp at h
  | d :: l, v :: vs, 0, c, u, h, h' => by
    obtain rfl : d = c := by simpa using h
    obtain rfl : v = u := by simpa using h'
    exact ⟨rfl, rfl⟩
  | d :: l, v :: vs, k + 1, c, u, h, h' => by
    have := cnsV_at l vs k c u (by simpa using h) (by simpa using h')
    rw [show (k + 1) * 2 = k * 2 + 1 + 1 by omega]
    simpa [cnsV] using this
def rusV : List Ru → List Value → List Value
  | r :: l, v :: vs => .int .i64 r.head :: v :: rusV l vs
  | _, _ => []
theorem rusV_append : ∀ (l : List Ru) (vs : List Value) (c : Ru) (v : Value), vs.length = l.length → rusV (l ++ [c]) (vs ++ [v]) = rusV l vs ++ [.int .i64 c.head, v]
  | [], [], c, v, _ => rfl
  | [], _ :: _, _, _, h => by simp at h
  | _ :: _, [], _, _, h => by simp at h
  | d :: l, u :: vs, c, v, h => by
    show .int .i64 d.head :: u :: rusV (l ++ [c]) (vs ++ [v]) = _
    rw [rusV_append l vs c v (by simpa using h)]; rfl
theorem rusV_length : ∀ (l : List Ru) (vs : List Value), vs.length = l.length → (rusV l vs).length = l.length * 2
  | [], [], _ => rfl
  | [], _ :: _, h => by simp at h
  | _ :: _, [], h => by simp at h
  | d :: l, u :: vs, h => by
    show (_ :: _ :: rusV l vs).length = _
    simp only [List.length_cons, rusV_length l vs (by simpa using h)]; omega
theorem rusV_at : ∀ (l : List Ru) (vs : List Value) (k : Nat) (c : Ru) (u : Value), l[k]? = some c → vs[k]? = some u → (rusV l vs)[k * 2]? = some (.int .i64 c.head) ∧ (rusV l vs)[k * 2 + 1]? = some u
  | [], _, k, c, u, h, _ => by simp at h
  | _ :: _, [], k, c, u, _, h => by simp at h
  | d :: l, v :: vs, 0, c, u, h, h' => by
    obtain rfl : d = c := by simpa using h
    obtain rfl : v = u := by simpa using h'
    exact ⟨rfl, rfl⟩
  | d :: l, v :: vs, k + 1, c, u, h, h' => by
    have := rusV_at l vs k c u (by simpa using h) (by simpa using h')
    rw [show (k + 1) * 2 = k * 2 + 1 + 1 by omega]
    simpa [rusV] using this

def IsSys (w : World) (F : Nat → Prop) (v : Value) (l : List Sy) : Prop := Reads w F v l.length (sysV l)
def CnsIn (w : World) (F : Nat → Prop) (l : List Cn) (vs : List Value) : Prop := vs.length = l.length ∧ ∀ (k : Nat) (c : Cn) (u : Value), l[k]? = some c → vs[k]? = some u → IsSys w F u c.seq
def IsCns (w : World) (F : Nat → Prop) (v : Value) (l : List Cn) : Prop := ∃ vs, Reads w F v l.length (cnsV l vs) ∧ CnsIn w F l vs
def RusIn (w : World) (F : Nat → Prop) (l : List Ru) (vs : List Value) : Prop := vs.length = l.length ∧ ∀ (k : Nat) (c : Ru) (u : Value), l[k]? = some c → vs[k]? = some u → IsCns w F u c.conj
def IsRus (w : World) (F : Nat → Prop) (v : Value) (l : List Ru) : Prop := ∃ vs, Reads w F v l.length (rusV l vs) ∧ RusIn w F l vs
/-- The two slices of a grammar. -/
def GrIs (w : World) (F : Nat → Prop) (v1 v2 : Value) (g : Gr) : Prop := IsTexts w F v1 g.names ∧ IsRus w F v2 g.rules
section
variable {w w' : World} {F F' : Nat → Prop}
theorem IsSys.keep {v : Value} {l : List Sy} (h : IsSys w F v l) (hs : Stay F w w') (hm : ∀ b, F b → F' b) : IsSys w' F' v l := Reads.keep h hs hm
theorem CnsIn.keep {l : List Cn} {vs : List Value} (h : CnsIn w F l vs) (hs : Stay F w w') (hm : ∀ b, F b → F' b) : CnsIn w' F' l vs := ⟨h.1, fun k c u h1 h2 => (h.2 k c u h1 h2).keep hs hm⟩
theorem IsCns.keep {v : Value} {l : List Cn} (h : IsCns w F v l) (hs : Stay F w w') (hm : ∀ b, F b → F' b) : IsCns w' F' v l := by
  obtain ⟨vs, h1, h2⟩ := h
  exact ⟨vs, h1.keep hs hm, h2.keep hs hm⟩
theorem RusIn.keep {l : List Ru} {vs : List Value} (h : RusIn w F l vs) (hs : Stay F w w') (hm : ∀ b, F b → F' b) : RusIn w' F' l vs := ⟨h.1, fun k c u h1 h2 => (h.2 k c u h1 h2).keep hs hm⟩
theorem IsRus.keep {v : Value} {l : List Ru} (h : IsRus w F v l) (hs : Stay F w w') (hm : ∀ b, F b → F' b) : IsRus w' F' v l := by
  obtain ⟨vs, h1, h2⟩ := h
  exact ⟨vs, h1.keep hs hm, h2.keep hs hm⟩
theorem IsSys.any {v : Value} {l : List Sy} (h : IsSys w F v l) (hb : Below w.heap.size w w') : IsSys w' F v l := Reads.any h hb
theorem IsCns.any {v : Value} {l : List Cn} (h : IsCns w F v l) (hb : Below w.heap.size w w') : IsCns w' F v l := by
  obtain ⟨vs, h1, h2, h3⟩ := h
  exact ⟨vs, h1.any hb, h2, fun k c u e1 e2 => (h3 k c u e1 e2).any hb⟩
theorem IsRus.any {v : Value} {l : List Ru} (h : IsRus w F v l) (hb : Below w.heap.size w w') : IsRus w' F v l := by
  obtain ⟨vs, h1, h2, h3⟩ := h
  exact ⟨vs, h1.any hb, h2, fun k c u e1 e2 => (h3 k c u e1 e2).any hb⟩
theorem GrIs.any {v1 v2 : Value} {g : Gr} (h : GrIs w F v1 v2 g) (hb : Below w.heap.size w w') : GrIs w' F v1 v2 g := ⟨h.1.any hb, h.2.any hb⟩
theorem CnsIn.nil (w : World) (F : Nat → Prop) : CnsIn w F [] [] := ⟨rfl, fun k c u e => by simp at e⟩
theorem CnsIn.snoc {l : List Cn} {vs : List Value} {c : Cn} {v : Value} (h : CnsIn w F l vs) (hi : IsSys w F v c.seq) : CnsIn w F (l ++ [c]) (vs ++ [v]) := in_snoc (P := fun (c : Cn) (u : Value) => IsSys w F u c.seq) h.1 h.2 hi
theorem RusIn.nil (w : World) (F : Nat → Prop) : RusIn w F [] [] := ⟨rfl, fun k c u e => by simp at e⟩
theorem RusIn.snoc {l : List Ru} {vs : List Value} {c : Ru} {v : Value} (h : RusIn w F l vs) (hi : IsCns w F v c.conj) : RusIn w F (l ++ [c]) (vs ++ [v]) := in_snoc (P := fun (c : Ru) (u : Value) => IsCns w F u c.conj) h.1 h.2 hi
end

def litS (s : ByteArray) : Lit := .string s.data.toList
theorem ba_inj {s t : ByteArray} (h : s.toList = t.toList) : s = t := by
  cases s with | mk a => cases t with | mk b =>
  rw [ByteArray.toList_mk, ByteArray.toList_mk] at h
  cases a; cases b; simp_all
theorem litS_inj {s t : ByteArray} (h : litS s = litS t) : s = t := by
  cases s with | mk a => cases t with | mk b =>
  unfold litS at h
  injection h with h
  cases a; cases b; simp_all
/-- Block B is the map from the names l to their places. -/
def NumMap (P : Program) (K E : TypeId) (w : World) (B : Nat) (l : List ByteArray) : Prop :=
  ∃ D : DataW Unit, w.ownsMap P K (plainElem P E) B l.length D ∧ IsMap D ∧ ∀ s : ByteArray, Maps.has D (litS s) = known l s ∧ D.atKey (litS s) (.lit (.int .i64 0)) = .lit (.int .i64 (numOf l s))
theorem NumMap.new (P : Program) (K E : TypeId) (w : World) : NumMap P K E (w.alloc (.map #[] 0)) w.heap.size [] :=
  ⟨.map [], World.ownsMap_made _ _ _ _, isMap_empty, fun s => ⟨rfl, rfl⟩⟩
theorem place_snoc : ∀ (l : List ByteArray) (s t : ByteArray), place (l ++ [s]) t = match place l t with | some k => some k | none => if s = t then some l.length else none
  | [], s, t => by simp [place]
  | a :: l, s, t => by
    simp only [List.cons_append, place]
    by_cases h : a = t
    · simp [h]
    · rw [if_neg h, if_neg h, place_snoc l s t]
      cases place l t with
      | some k => rfl
      | none =>
        show Option.map _ (if s = t then some l.length else none) = if s = t then some (l.length + 1) else none
        by_cases e : s = t
        · rw [if_pos e, if_pos e]; rfl
        · rw [if_neg e, if_neg e]; rfl
theorem known_snoc (l : List ByteArray) (s t : ByteArray) : known (l ++ [s]) t = (known l t || decide (s = t)) := by
  unfold known
  rw [place_snoc]
  cases place l t with
  | some k => rfl
  | none =>
    by_cases e : s = t
    · simp [e]
    · simp [e]
theorem NumMap.put {P : Program} {K E : TypeId} {w' : World} {B : Nat} {l : List ByteArray} {s : ByteArray} {D : DataW Unit} (hm : IsMap D)
    (hd : ∀ s : ByteArray, Maps.has D (litS s) = known l s ∧ D.atKey (litS s) (.lit (.int .i64 0)) = .lit (.int .i64 (numOf l s))) (hk : known l s = false)
    (hown : w'.ownsMap P K (plainElem P E) B (l.length + 1) (D.put (litS s) (.lit (.int .i64 (l.length : Int))))) : NumMap P K E w' B (l ++ [s]) := by
  refine ⟨_, by rw [List.length_append]; exact hown, hm.put _ _, fun t => ?_⟩
  have hn : place l s = none := by
    unfold known at hk
    cases h : place l s with
    | none => rfl
    | some k => rw [h] at hk; cases hk
  by_cases e : s = t
  · subst e
    refine ⟨(has_put_same hm (k := litS s) (by unfold litS; trivial) _).trans ?_, (atKey_put_same hm (k := litS s) (by unfold litS; trivial) _ _).trans ?_⟩
    · rw [known_snoc]; simp
    · unfold numOf; rw [place_snoc, hn]; simp
  · have ne : litS t ≠ litS s := fun h => e (litS_inj h).symm
    refine ⟨(has_put_other ne _).trans ((hd t).1.trans ?_), (atKey_put_other ne _ _).trans ((hd t).2.trans ?_)⟩
    · rw [known_snoc]; simp [e]
    · unfold numOf; rw [place_snoc]
      cases place l t with
      | some k => rfl
      | none => simp [e]
theorem NumMap.keep {P : Program} {K E : TypeId} {w w' : World} {B B' : Nat} {l : List ByteArray} (h : NumMap P K E w B l) (hb : Below B' w w') (hB : B < B') : NumMap P K E w' B l := by
  obtain ⟨D, ⟨es, clock, h1, h2⟩, h3⟩ := h
  exact ⟨D, ⟨es, clock, (hb.block B hB).trans h1, h2⟩, h3⟩
end Go.Proofs.Ytopokicdgdjgkaa
/- Rows within a grammar in memory. No program in sight. -/
namespace Go.Proofs.Ytopokicdgdjgkaa
set_option linter.unusedVariables false
open Go.RowKit

theorem IsRus.row {w : World} {F : Nat → Prop} {p : Option Addr} {n c : Nat} {l : List Ru} (h : IsRus w F (.slice p n c) l) {k : Nat} {r : Ru} (hk : l[k]? = some r) : ∃ g o u, p = some ⟨g, o, none⟩ ∧ w.cell? ⟨g, o + k * 2, none⟩ = some (.int .i64 r.head) ∧ w.cell? ⟨g, o + k * 2 + 1, none⟩ = some u ∧ IsCns w F u r.conj := by
  obtain ⟨vs, ⟨p2, c2, e2, _, hc⟩, hl, hi⟩ := h
  injection e2 with e3
  subst e3
  have hlt := (List.getElem?_eq_some_iff.1 hk).1
  obtain ⟨g, o, e, _, _, cc, _⟩ := hc (by omega)
  obtain ⟨u, hu⟩ : ∃ u, vs[k]? = some u := ⟨_, List.getElem?_eq_getElem (by omega)⟩
  obtain ⟨a0, a1⟩ := rusV_at l vs k r u hk hu
  exact ⟨g, o, u, e, cc _ _ a0, by rw [Nat.add_assoc]; exact cc _ _ a1, hi k r u hk hu⟩
theorem IsCns.row {w : World} {F : Nat → Prop} {p : Option Addr} {n c : Nat} {l : List Cn} (h : IsCns w F (.slice p n c) l) {k : Nat} {r : Cn} (hk : l[k]? = some r) : ∃ g o u, p = some ⟨g, o, none⟩ ∧ w.cell? ⟨g, o + k * 2, none⟩ = some (.bool r.neg) ∧ w.cell? ⟨g, o + k * 2 + 1, none⟩ = some u ∧ IsSys w F u r.seq := by
  obtain ⟨vs, ⟨p2, c2, e2, _, hc⟩, hl, hi⟩ := h
  injection e2 with e3
  subst e3
  have hlt := (List.getElem?_eq_some_iff.1 hk).1
  obtain ⟨g, o, e, _, _, cc, _⟩ := hc (by omega)
  obtain ⟨u, hu⟩ : ∃ u, vs[k]? = some u := ⟨_, List.getElem?_eq_getElem (by omega)⟩
  obtain ⟨a0, a1⟩ := cnsV_at l vs k r u hk hu
  exact ⟨g, o, u, e, cc _ _ a0, by rw [Nat.add_assoc]; exact cc _ _ a1, hi k r u hk hu⟩
theorem IsSys.slc {w : World} {F : Nat → Prop} {v : Value} {l : List Sy} (h : IsSys w F v l) : ∃ p c, v = .slice p l.length c := by
  obtain ⟨p, c, e, _⟩ := h
  exact ⟨p, c, e⟩
theorem Reads.low {w : World} {F F' : Nat → Prop} {v : Value} {n : Nat} {cs : List Value} (h : Reads w F v n cs) (hm : ∀ b, F b → b < w.heap.size → F' b) : Reads w F' v n cs := by
  obtain ⟨p, c, e, hn, hc⟩ := h
  exact ⟨p, c, e, hn, fun h0 => by obtain ⟨g, o, e1, e2, e3, e4⟩ := hc h0; exact ⟨g, o, e1, hm g e2 e3, e3, e4⟩⟩
theorem IsCns.low {w : World} {F F' : Nat → Prop} {v : Value} {l : List Cn} (h : IsCns w F v l) (hm : ∀ b, F b → b < w.heap.size → F' b) : IsCns w F' v l := by
  obtain ⟨vs, h1, h2, h3⟩ := h
  exact ⟨vs, Reads.low h1 hm, h2, fun k c u e1 e2 => Reads.low (h3 k c u e1 e2) hm⟩
theorem IsRus.low {w : World} {F F' : Nat → Prop} {v : Value} {l : List Ru} (h : IsRus w F v l) (hm : ∀ b, F b → b < w.heap.size → F' b) : IsRus w F' v l := by
  obtain ⟨vs, h1, h2, h3⟩ := h
  exact ⟨vs, Reads.low h1 hm, h2, fun k c u e1 e2 => (h3 k c u e1 e2).low hm⟩
theorem own_neL {w : World} {B s n c : Nat} {v : Value} {e t : TypeId} {cs : Array Value} {fr : Nat × Nat} {xs : List Value} (h : w.ownsRow B e s v n xs) (hc : w.heap[c]? = some (.cells cs t fr)) (hne : e ≠ t) : v.ownBlock ≠ some c := by
  intro hk
  obtain ⟨_, ⟨h1, _⟩ | ⟨g, cap, cur, h1, _, h3, _⟩⟩ := h
  · rw [h1] at hk; cases hk
  · rw [h1] at hk
    injection hk with hk
    have hk : g = c := hk
    subst hk
    rw [hc] at h3
    injection h3 with h3
    injection h3 with _ h4
    exact hne h4.symm
end Go.Proofs.Ytopokicdgdjgkaa
/- awake answers true. -/
namespace Go.Proofs.Ytopokicdgdjgkaa
set_option linter.unusedVariables false
open Go.ChangeShapes Go.WideShapes Go.ChangeAt Go.RowKit

def awS : ByteArray := ⟨#[115, 116, 97, 114, 116, 32, 65, 98, 95, 49, 59, 32, 35, 32, 120, 10, 61, 32, 34, 97, 92, 120, 48, 97, 92, 34, 34, 32, 39, 97, 39, 46, 46, 39, 92, 39, 39, 32, 39, 98, 39, 32, 38, 32, 124, 32, 126]⟩
def awL : List Tok := [⟨3, 0, ⟨#[]⟩, 0, 0⟩, ⟨0, 6, ⟨#[65, 98, 95, 49]⟩, 0, 0⟩, ⟨8, 10, ⟨#[]⟩, 0, 0⟩, ⟨4, 16, ⟨#[]⟩, 0, 0⟩, ⟨1, 18, ⟨#[97, 10, 34]⟩, 0, 0⟩, ⟨2, 28, ⟨#[]⟩, 97, 39⟩, ⟨2, 38, ⟨#[]⟩, 98, 98⟩, ⟨6, 42, ⟨#[]⟩, 0, 0⟩, ⟨5, 44, ⟨#[]⟩, 0, 0⟩, ⟨7, 46, ⟨#[]⟩, 0, 0⟩]
theorem aw1 : lexT awS = .ok awL := by kernel_rfl
theorem aw2 : lexT ⟨#[97, 32, 36]⟩ = .error (2, 200) := by kernel_rfl
theorem aw3 : lexT ⟨#[97, 32, 34, 98]⟩ = .error (2, 201) := by kernel_rfl

theorem aw_len : awL.length ≤ 65536 := by decide
theorem aw_cells : #[Value.int IntKind.i64 3, Value.int IntKind.i64 0, Value.string { data := #[] }, Value.int IntKind.i64 0,
          Value.int IntKind.i64 0, Value.int IntKind.i64 0, Value.int IntKind.i64 6,
          Value.string { data := #[65, 98, 95, 49] }, Value.int IntKind.i64 0, Value.int IntKind.i64 0,
          Value.int IntKind.i64 8, Value.int IntKind.i64 10, Value.string { data := #[] }, Value.int IntKind.i64 0,
          Value.int IntKind.i64 0, Value.int IntKind.i64 4, Value.int IntKind.i64 16, Value.string { data := #[] },
          Value.int IntKind.i64 0, Value.int IntKind.i64 0, Value.int IntKind.i64 1, Value.int IntKind.i64 18,
          Value.string { data := #[97, 10, 34] }, Value.int IntKind.i64 0, Value.int IntKind.i64 0,
          Value.int IntKind.i64 2, Value.int IntKind.i64 28, Value.string { data := #[] }, Value.int IntKind.i64 97,
          Value.int IntKind.i64 39, Value.int IntKind.i64 2, Value.int IntKind.i64 38, Value.string { data := #[] },
          Value.int IntKind.i64 98, Value.int IntKind.i64 98, Value.int IntKind.i64 6, Value.int IntKind.i64 42,
          Value.string { data := #[] }, Value.int IntKind.i64 0, Value.int IntKind.i64 0, Value.int IntKind.i64 5,
          Value.int IntKind.i64 44, Value.string { data := #[] }, Value.int IntKind.i64 0, Value.int IntKind.i64 0,
          Value.int IntKind.i64 7, Value.int IntKind.i64 46, Value.string { data := #[] }, Value.int IntKind.i64 0,
          Value.int IntKind.i64 0] = (toksV awL).toArray := by kernel_rfl

/-- A call of Lex whose answer is known: of tokens. -/
theorem lex_ok {s : ByteArray} {l : List Tok} (h : lexT s = .ok l) (hs : s.size ≤ maxLen) (w : World) :
    Calls Try.prog 50 #[.string s] w fun e w' => ∃ p cap, e = .returned (.tuple #[.slice p l.length cap, .int .i64 0, .int .i64 0]) ∧ TRow w' (.slice p l.length cap) l ∧ Below w.heap.size w w' := by
  refine (lex_any s w hs).mono ?_
  rintro e w1 ⟨v, rfl, hown, hb⟩
  rw [h] at hown ⊢
  obtain ⟨p, cap, hv⟩ := row_slice hown
  subst hv
  exact ⟨p, cap, rfl, TRow.of hown, hb⟩
/-- Of an error. -/
theorem lex_err {s : ByteArray} {p k : Nat} (h : lexT s = .error (p, k)) (hs : s.size ≤ maxLen) (w : World) :
    Calls Try.prog 50 #[.string s] w fun e w' => ∃ q cap, e = .returned (.tuple #[.slice q 0 cap, .int .i64 (p : Int), .int .i64 (k : Int)]) ∧ Below w.heap.size w w' := by
  refine (lex_any s w hs).mono ?_
  rintro e w1 ⟨v, rfl, hown, hb⟩
  rw [h] at hown ⊢
  obtain ⟨q, cap, hv⟩ := row_slice hown
  subst hv
  exact ⟨q, cap, rfl, hb⟩

end Go.Proofs.Ytopokicdgdjgkaa
/- The program's tests of a grammar's parts: each against its plain function. -/
namespace Go.Proofs.Ytopokicdgdjgkaa
set_option linter.unusedVariables false
open Go.ChangeShapes Go.WideShapes Go.ChangeAt Go.RowKit

theorem isNumber_any (n : Int) (k : Nat) (w : World) : Calls Try.prog 28 #[.int .i64 n, .int .i64 (k : Int)] w fun e w' => e = .returned (.bool (isNum n k)) ∧ w = w' := by
  by_cases h1 : 0 ≤ n
  · by_cases h2 : n < (k : Int)
    · rw [show isNum n k = true by simp [isNum, h1, h2]]
      go_enter Try.func28, Try.ntmps28
      go_wp2
      go_ret
      exact ⟨rfl, rfl⟩
    · rw [show isNum n k = false by simp [isNum, h1, h2]]
      go_enter Try.func28, Try.ntmps28
      go_wp2
      go_ret
      exact ⟨rfl, rfl⟩
  · rw [show isNum n k = false by simp [isNum, h1]]
    go_enter Try.func28, Try.ntmps28
    go_wp2
    go_ret
    exact ⟨rfl, rfl⟩

set_option maxHeartbeats 2000000 in
theorem maySymbol_any (nm lo hi : Int) (k : Nat) (w : World) : Calls Try.prog 51 #[.agg #[.int .i64 nm, .int .i64 lo, .int .i64 hi], .int .i64 (k : Int)] w fun e w' => e = .returned (.bool (maySym k ⟨nm, lo, hi⟩)) ∧ Below w.heap.size w w' := by
  by_cases h0 : nm = -1
  · subst h0
    have E : maySym k ⟨-1, lo, hi⟩ = (decide (0 ≤ lo) && (decide (lo ≤ hi) && decide (hi ≤ 255))) := rfl
    rw [E]
    by_cases h1 : 0 ≤ lo
    · by_cases h2 : lo ≤ hi
      · by_cases h3 : hi ≤ 255
        · rw [show (decide (0 ≤ lo) && (decide (lo ≤ hi) && decide (hi ≤ 255))) = true by simp [h1, h2, h3]]
          go_enter Try.func51, Try.ntmps51
          go_wp2
          go_ret
          exact ⟨rfl, bel1 _ _⟩
        · rw [show (decide (0 ≤ lo) && (decide (lo ≤ hi) && decide (hi ≤ 255))) = false by simp [h1, h2, h3]]
          go_enter Try.func51, Try.ntmps51
          go_wp2
          go_ret
          exact ⟨rfl, bel1 _ _⟩
      · rw [show (decide (0 ≤ lo) && (decide (lo ≤ hi) && decide (hi ≤ 255))) = false by simp [h1, h2]]
        go_enter Try.func51, Try.ntmps51
        go_wp2
        go_ret
        exact ⟨rfl, bel1 _ _⟩
    · rw [show (decide (0 ≤ lo) && (decide (lo ≤ hi) && decide (hi ≤ 255))) = false by simp [h1]]
      go_enter Try.func51, Try.ntmps51
      go_wp2
      go_ret
      exact ⟨rfl, bel1 _ _⟩
  · have E : maySym k ⟨nm, lo, hi⟩ = (isNum nm k && (decide (lo = 0) && decide (hi = 0))) := by unfold maySym; rw [if_neg h0]
    rw [E]
    have NU := fun w => isNumber_any nm k w
    cases hn : isNum nm k with
    | false =>
      rw [hn] at NU
      rw [show (false && (decide (lo = 0) && decide (hi = 0))) = false from rfl]
      go_enter Try.func51, Try.ntmps51
      go_wp2_with (go_at_call 28; refine (NU _).mono ?_; rintro e wn ⟨rfl, rfl⟩)
      go_ret
      exact ⟨rfl, bel1 _ _⟩
    | true =>
      rw [hn] at NU
      by_cases h1 : lo = 0
      · by_cases h2 : hi = 0
        · rw [show (true && (decide (lo = 0) && decide (hi = 0))) = true by simp [h1, h2]]
          go_enter Try.func51, Try.ntmps51
          go_wp2_with (go_at_call 28; refine (NU _).mono ?_; rintro e wn ⟨rfl, rfl⟩)
          go_ret
          exact ⟨rfl, bel1 _ _⟩
        · have h2' : (hi == 0) = false := by simp [h2]
          rw [show (true && (decide (lo = 0) && decide (hi = 0))) = false by simp [h1, h2]]
          go_enter Try.func51, Try.ntmps51
          go_wp2_with (go_at_call 28; refine (NU _).mono ?_; rintro e wn ⟨rfl, rfl⟩)
          go_ret
          exact ⟨rfl, bel1 _ _⟩
      · have h1' : (lo == 0) = false := by simp [h1]
        rw [show (true && (decide (lo = 0) && decide (hi = 0))) = false by simp [h1]]
        go_enter Try.func51, Try.ntmps51
        go_wp2_with (go_at_call 28; refine (NU _).mono ?_; rintro e wn ⟨rfl, rfl⟩)
        go_ret
        exact ⟨rfl, bel1 _ _⟩

theorem take_all {α : Type} {p : α → Bool} {l : List α} {k : Nat} {a : α} (h : l[k]? = some a) : (l.take (k + 1)).all p = ((l.take k).all p && p a) := by
  rw [List.take_add_one, h]
  simp
theorem all_false {α : Type} {p : α → Bool} {l : List α} {k : Nat} {a : α} (h : l[k]? = some a) (hp : p a = false) : l.all p = false := by
  rw [List.all_eq_false]
  exact ⟨a, List.mem_of_getElem? h, by rw [hp]; decide⟩
set_option maxHeartbeats 2000000 in
theorem mayRow_any (K : Nat) (v : Value) (l : List Sy) (w : World) {F : Nat → Prop} (ha : IsSys w F v l) : Calls Try.prog 45 #[v, .int .i64 (K : Int)] w fun e w' => e = .returned (.bool (mayRow K l)) ∧ Below w.heap.size w w' := by
  obtain ⟨p, cp, rfl, hm, hca⟩ := ha
  replace hm := hm.1
  unfold maxLen at hm
  have HA : Hid (0 < l.length → ∃ g o, p = some ⟨g, o, none⟩ ∧ F g ∧ g < w.heap.size ∧ (∀ j c, (sysV l)[j]? = some c → w.cell? ⟨g, o + j, none⟩ = some c) ∧ ∀ j, j < ((sysV l)).length → w.frozen? ⟨g, o + j, none⟩ = false) := hca
  clear hca
  by_cases h64 : l.length ≤ 64
  · rw [show mayRow K l = l.all (maySym K) by simp [mayRow, h64]]
    obtain ⟨R, hR⟩ : ∃ R, R = l.all (maySym K) := ⟨_, rfl⟩
    have HR : Hid (R = l.all (maySym K)) := hR
    rw [← hR]
    clear hR
    go_enter Try.func45, Try.ntmps45
    go_wp2
    go_loopw [12] (fun i wr => ∃ k : Nat, k ≤ l.length ∧ i = .int .i64 k ∧ Hid (Below w.heap.size w wr) ∧ Hid ((l.take k).all (maySym K) = true)) (fun i _ => l.length - (intOf i).toNat)
    case atStart => exact ⟨0, by omega, rfl, Below.refl _ _, rfl⟩
    case round =>
      obtain ⟨k, hk, rfl, HW, HT⟩ := hrel
      by_cases hlt : k < l.length
      · obtain ⟨t, ht⟩ : ∃ t, l[k]? = some t := ⟨_, List.getElem?_eq_getElem hlt⟩
        obtain ⟨g1, o1, hp, -, hg1, ca, -⟩ := HA.out (by omega)
        subst hp
        obtain ⟨i0, i1, i2⟩ := sysV_at l k t ht
        have a0 := (HW.out.cell (p := ⟨_, _, none⟩) hg1).trans (ca _ _ i0)
        have a1 := (HW.out.cell (p := ⟨_, _, none⟩) hg1).trans (reas (ca _ _ i1))
        have a2 := (HW.out.cell (p := ⟨_, _, none⟩) hg1).trans (reas (ca _ _ i2))
        obtain ⟨nm, lo, hi⟩ := t
        simp only at a0 a1 a2
        have MS := fun w => maySymbol_any nm lo hi K w
        cases hs : maySym K ⟨nm, lo, hi⟩ with
        | true =>
          rw [hs] at MS
          have HN : Hid ((l.take (k + 1)).all (maySym K) = true) := by show _ = _; rw [take_all ht, hs, HT.out]; rfl
          clear ca ht hg1 i0 i1 i2 hs
          go_wp2_with (go_at_call 51; refine (MS _).mono ?_; rintro e w2 ⟨rfl, b2⟩)
          go_roundw
          case rel => exact ⟨k + 1, by omega, by go_num, HW.out.trans (((Below.refl _ _).alloc (Nat.le_refl _) _).mono HW.out.size |>.trans (b2.mono (Nat.le_trans HW.out.size (le_alloc _ _)))), HN⟩
          case measure => simp [intOf]; omega
        | false =>
          rw [hs] at MS
          have HN : Hid (R = false) := by show _ = _; rw [HR.out]; exact all_false ht hs
          clear ca ht hg1 i0 i1 i2 hs
          go_wp2_with (go_at_call 51; refine (MS _).mono ?_; rintro e w2 ⟨rfl, b2⟩)
          go_ret
          exact ⟨by rw [HN.out]; rfl, HW.out.trans (((Below.refl _ _).alloc (Nat.le_refl _) _).mono HW.out.size |>.trans (b2.mono (Nat.le_trans HW.out.size (le_alloc _ _))))⟩
      · obtain rfl : k = l.length := by omega
        have HN : Hid (R = true) := by show _ = _; rw [HR.out]; have := HT.out; rwa [List.take_length] at this
        go_wp2
        go_ret
        exact ⟨by rw [HN.out]; rfl, HW.out⟩
  · rw [show mayRow K l = false by simp [mayRow, h64]]
    go_enter Try.func45, Try.ntmps45
    go_wp2
    go_ret
    exact ⟨rfl, Below.refl _ _⟩
end Go.Proofs.Ytopokicdgdjgkaa
/- Where tokens begin, and with which byte. No program in sight. -/
namespace Go.Proofs.Ytopokicdgdjgkaa

/-- A token that begins at lo or behind it, in the text, with a byte of its kind. -/
structure Begun (b : Nat → Int) (n lo : Nat) (t : Tok) : Prop where
  lo : lo ≤ t.pl
  hi : t.pl < n
  kd : t.kind ≤ 8
  h0 : t.kind = 0 → 0 < t.text.size ∧ PlainAid.bt t.text 0 = b t.pl
  h1 : t.kind = 1 → b t.pl = 34
  h2 : t.kind = 2 → b t.pl = 39
  h3 : t.kind = 3 → b t.pl = 115
  h4 : t.kind = 4 → b t.pl = 61
  h5 : t.kind = 5 → b t.pl = 124
  h6 : t.kind = 6 → b t.pl = 38
  h7 : t.kind = 7 → b t.pl = 126
  h8 : t.kind = 8 → b t.pl = 59
def Row (b : Nat → Int) (n : Nat) : Nat → List Tok → Prop
  | _, [] => True
  | lo, t :: l => Begun b n lo t ∧ Row b n (t.pl + 1) l

theorem strOf_head (c : Int) (l : List Int) (h : 0 ≤ c ∧ c ≤ 255) : 0 < (strOf (c :: l)).size ∧ PlainAid.bt (strOf (c :: l)) 0 = c := by
  have hs : (strOf (c :: l)).size = l.length + 1 := by simp [strOf, ByteArray.size]
  refine ⟨by omega, ?_⟩
  unfold PlainAid.bt
  rw [dif_pos (by omega)]
  show ((UInt8.ofNat c.toNat).toNat : Int) = c
  rw [UInt8.toNat_ofNat']
  omega
theorem start_head (c : Int) (l : List Int) (h : 0 ≤ c ∧ c ≤ 255) (hs : isStart (c :: l) = true) : c = 115 := by
  unfold isStart at hs
  have e : (strOf (c :: l)).toList = startB.toList := by simpa using hs
  unfold strOf startB at e
  rw [ByteArray.toList_mk, ByteArray.toList_mk] at e
  have e' : UInt8.ofNat c.toNat :: l.map (fun n => UInt8.ofNat n.toNat) = [115, 116, 97, 114, 116] := by simpa using e
  injection e' with e1 _
  have := congrArg UInt8.toNat e1
  rw [UInt8.toNat_ofNat'] at this
  have h5 : (115 : UInt8).toNat = 115 := rfl
  omega
theorem tokF_begun {b : Nat → Int} {n k : Nat} {t : Tok} {to : Nat} (hb : ∀ j, 0 ≤ b j ∧ b j ≤ 255) (hk : k < n) (h : tokF b n k = .ok (t, to)) : t.pl = k ∧ Begun b n k t := by
  unfold tokF at h
  by_cases h1 : letB (b k) = true
  · rw [if_pos h1] at h
    unfold nameG at h
    by_cases h32 : 32 < nameE b n k - k
    · rw [if_pos h32] at h; cases h
    · rw [if_neg h32] at h
      obtain ⟨e1, e2⟩ := got_inj h
      have hgt := nameE_gt hk h1
      rw [cut_cons b k _ hgt] at e1
      subst e1
      unfold nameT
      by_cases hs : isStart (b k :: cut b (k + 1) (nameE b n k)) = true
      · rw [if_pos hs]
        have := start_head _ _ (hb k) hs
        exact ⟨rfl, by refine ⟨Nat.le_refl _, hk, by simp, ?_, ?_, ?_, ?_, ?_, ?_, ?_, ?_, ?_⟩ <;> simp [this]⟩
      · rw [if_neg hs]
        have := strOf_head (b k) (cut b (k + 1) (nameE b n k)) (hb k)
        exact ⟨rfl, by refine ⟨Nat.le_refl _, hk, by simp, fun _ => this, ?_, ?_, ?_, ?_, ?_, ?_, ?_, ?_⟩ <;> simp⟩
  · rw [if_neg h1] at h
    by_cases h2 : b k = 34
    · rw [if_pos h2] at h
      unfold textG at h
      split at h
      · cases h
      · obtain ⟨e1, e2⟩ := got_inj h
        subst e1
        exact ⟨rfl, by refine ⟨Nat.le_refl _, hk, by simp, ?_, ?_, ?_, ?_, ?_, ?_, ?_, ?_, ?_⟩ <;> simp [h2]⟩
    · rw [if_neg h2] at h
      by_cases h3 : b k = 39
      · rw [if_pos h3] at h
        unfold rangeG at h
        split at h
        · cases h
        · obtain ⟨e1, e2⟩ := got_inj h
          subst e1
          exact ⟨rfl, by refine ⟨Nat.le_refl _, hk, by simp, ?_, ?_, ?_, ?_, ?_, ?_, ?_, ?_, ?_⟩ <;> simp [h3]⟩
      · rw [if_neg h3] at h
        by_cases h4 : 0 < markF (b k)
        · rw [if_pos h4] at h
          obtain ⟨e1, e2⟩ := got_inj h
          subst e1
          refine ⟨rfl, ?_⟩
          unfold markF at h4 ⊢
          by_cases c1 : b k = 61
          · rw [if_pos c1]; refine ⟨Nat.le_refl _, hk, by simp, ?_, ?_, ?_, ?_, ?_, ?_, ?_, ?_, ?_⟩ <;> simp [c1]
          · rw [if_neg c1] at h4 ⊢
            by_cases c2 : b k = 124
            · rw [if_pos c2]; refine ⟨Nat.le_refl _, hk, by simp, ?_, ?_, ?_, ?_, ?_, ?_, ?_, ?_, ?_⟩ <;> simp [c2]
            · rw [if_neg c2] at h4 ⊢
              by_cases c3 : b k = 38
              · rw [if_pos c3]; refine ⟨Nat.le_refl _, hk, by simp, ?_, ?_, ?_, ?_, ?_, ?_, ?_, ?_, ?_⟩ <;> simp [c3]
              · rw [if_neg c3] at h4 ⊢
                by_cases c4 : b k = 126
                · rw [if_pos c4]; refine ⟨Nat.le_refl _, hk, by simp, ?_, ?_, ?_, ?_, ?_, ?_, ?_, ?_, ?_⟩ <;> simp [c4]
                · rw [if_neg c4] at h4 ⊢
                  by_cases c5 : b k = 59
                  · rw [if_pos c5]; refine ⟨Nat.le_refl _, hk, by simp, ?_, ?_, ?_, ?_, ?_, ?_, ?_, ?_, ?_⟩ <;> simp [c5]
                  · rw [if_neg c5] at h4; omega
        · rw [if_neg h4] at h; cases h
theorem Row.mono {b : Nat → Int} {n lo lo' : Nat} {l : List Tok} (h : Row b n lo l) (hl : lo' ≤ lo) : Row b n lo' l := by
  cases l with
  | nil => trivial
  | cons t l => exact ⟨⟨Nat.le_trans hl h.1.lo, h.1.hi, h.1.kd, h.1.h0, h.1.h1, h.1.h2, h.1.h3, h.1.h4, h.1.h5, h.1.h6, h.1.h7, h.1.h8⟩, h.2⟩
theorem lexS_row (b : Nat → Int) (n : Nat) (hb : ∀ j, 0 ≤ b j ∧ b j ≤ 255) : ∀ f k l, lexS b n f k = .ok l → k ≤ n → Row b n k l
  | 0, k, l, h, _ => by injection h with h; subst h; trivial
  | f + 1, k, l, h, hk => by
    have h' : (if n ≤ skp b n false k then Except.ok [] else match tokF b n (skp b n false k) with
      | .ok (t, to) => Res.cons t (lexS b n f to)
      | .error true => .error (skp b n false k, 201)
      | .error false => .error (skp b n false k, 200)) = .ok l := h
    by_cases h1 : n ≤ skp b n false k
    · rw [if_pos h1] at h'; injection h' with h'; subst h'; trivial
    · rw [if_neg h1] at h'
      have hge := skp_ge b n false k
      rcases hg : tokF b n (skp b n false k) with (_ | _) | ⟨t, to⟩
      · rw [hg] at h'; cases h'
      · rw [hg] at h'; cases h'
      · rw [hg] at h'
        have hto := tokF_to (by omega) hg
        have h2 : Res.cons t (lexS b n f to) = .ok l := h'
        cases hg2 : lexS b n f to with
        | error e => rw [hg2] at h2; cases h2
        | ok l2 =>
          rw [hg2] at h2
          obtain rfl : t :: l2 = l := by injection h2
          obtain ⟨e1, e2⟩ := tokF_begun hb (by omega) hg
          refine ⟨⟨by omega, e2.hi, e2.kd, e2.h0, e2.h1, e2.h2, e2.h3, e2.h4, e2.h5, e2.h6, e2.h7, e2.h8⟩, ?_⟩
          exact (lexS_row b n hb f to l2 hg2 hto.2).mono (by omega)
theorem lexS_at (b : Nat → Int) (n : Nat) : ∀ f k p x, lexS b n f k = .error (p, x) → k ≤ n → p ≤ n
  | 0, k, p, x, h, _ => by cases h
  | f + 1, k, p, x, h, hk => by
    have h' : (if n ≤ skp b n false k then Except.ok [] else match tokF b n (skp b n false k) with
      | .ok (t, to) => Res.cons t (lexS b n f to)
      | .error true => .error (skp b n false k, 201)
      | .error false => .error (skp b n false k, 200)) = .error (p, x) := h
    by_cases h1 : n ≤ skp b n false k
    · rw [if_pos h1] at h'; cases h'
    · rw [if_neg h1] at h'
      rcases hg : tokF b n (skp b n false k) with (_ | _) | ⟨t, to⟩
      · rw [hg] at h'; injection h' with h'; injection h' with h' _; omega
      · rw [hg] at h'; injection h' with h'; injection h' with h' _; omega
      · rw [hg] at h'
        have hto := tokF_to (by omega) hg
        have h2 : Res.cons t (lexS b n f to) = .error (p, x) := h'
        cases hg2 : lexS b n f to with
        | ok l2 => rw [hg2] at h2; cases h2
        | error e =>
          rw [hg2] at h2
          obtain ⟨p', x'⟩ := e
          injection h2 with h2; injection h2 with e1 e2
          exact lexS_at b n f to p x (by rw [hg2, e1, e2]) hto.2
theorem lexT_at {s : ByteArray} {p x : Nat} (h : lexT s = .error (p, x)) : p ≤ s.size ∧ p ≤ 65536 := by
  by_cases hs : 65536 < s.size
  · rw [lexT, lexB, if_pos hs] at h; injection h with h; injection h with h _; omega
  · rw [lexT, lexB, if_neg hs] at h
    have := lexS_at _ _ _ _ _ _ h (Nat.zero_le _)
    omega
theorem lexT_row {s : ByteArray} {l : List Tok} (h : lexT s = .ok l) : Row (PlainAid.bt s) s.size 0 l ∧ s.size ≤ 65536 := by
  by_cases hs : 65536 < s.size
  · rw [lexT, lexB, if_pos hs] at h; cases h
  · rw [lexT, lexB, if_neg hs] at h
    exact ⟨lexS_row _ _ (fun j => ⟨PlainAid.bt_nonneg s j, PlainAid.bt_le s j⟩) _ _ _ h (Nat.zero_le _), by omega⟩
/-- The places rise. -/
theorem Row.at {b : Nat → Int} {n : Nat} : ∀ {l : List Tok} {lo k : Nat} {t : Tok}, Row b n lo l → l[k]? = some t → Begun b n lo t ∧ (∀ u, l[k + 1]? = some u → t.pl < u.pl)
  | [], _, _, _, _, h => by simp at h
  | a :: l, lo, 0, t, hr, h => by
    obtain rfl : a = t := by simpa using h
    refine ⟨hr.1, fun u hu => ?_⟩
    cases l with
    | nil => simp at hu
    | cons c l =>
      obtain rfl : c = u := by simpa using hu
      have := hr.2.1.lo
      omega
  | a :: l, lo, k + 1, t, hr, h => by
    have h' : l[k]? = some t := by simpa using h
    obtain ⟨e, f⟩ := Row.at hr.2 h'
    have := hr.1.lo
    have := e.lo
    exact ⟨⟨by omega, e.hi, e.kd, e.h0, e.h1, e.h2, e.h3, e.h4, e.h5, e.h6, e.h7, e.h8⟩, fun u hu => f u (by simpa using hu)⟩
end Go.Proofs.Ytopokicdgdjgkaa
