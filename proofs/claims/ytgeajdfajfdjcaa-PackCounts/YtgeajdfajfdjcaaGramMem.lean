/- Grammars in memory; a map from names to their places. No program in sight. -/
import Derived.Test.YtgeajdfajfdjcaaGramPl
import Derived.Test.YtgeajdfajfdjcaaNoteSame
import Derived.Maps.OwnSet
namespace Go.Proofs.Ytgeajdfajfdjcaa
set_option linter.unusedVariables false
open Go.RowKit Go.Maps

def syV (s : Sy) : List Value := [.int .i64 s.name, .int .i64 s.lo, .int .i64 s.hi]
def sysV : List Sy → List Value
  | [] => []
  | s :: l => syV s ++ sysV l
theorem sysV_append : ∀ l m : List Sy, sysV (l ++ m) = sysV l ++ sysV m
  | [], _ => rfl
  | i :: l, m => by simp [sysV, sysV_append l m]
theorem sysV_length : ∀ l : List Sy, (sysV l).length = l.length * 3
  | [] => rfl
  | i :: l => by simp [sysV, syV, sysV_length l]; omega
theorem sysV_at : ∀ (l : List Sy) (k : Nat) (s : Sy), l[k]? = some s → (sysV l)[k * 3]? = some (.int .i64 s.name) ∧ (sysV l)[k * 3 + 1]? = some (.int .i64 s.lo) ∧ (sysV l)[k * 3 + 2]? = some (.int .i64 s.hi)
  | [], k, i, h => by simp at h
  | q :: l, 0, i, h => by
    obtain rfl : q = i := by simpa using h
    exact ⟨rfl, rfl, rfl⟩
  | q :: l, k + 1, i, h => by
    have := sysV_at l k i (by simpa using h)
    rw [show (k + 1) * 3 = k * 3 + 1 + 1 + 1 by omega]
    simpa [sysV, syV] using this
def cnsV : List Cn → List Value → List Value
  | c :: l, v :: vs => .bool c.neg :: v :: cnsV l vs
  | _, _ => []
theorem cnsV_append : ∀ (l : List Cn) (vs : List Value) (c : Cn) (v : Value), vs.length = l.length → cnsV (l ++ [c]) (vs ++ [v]) = cnsV l vs ++ [.bool c.neg, v]
  | [], [], c, v, _ => rfl
  | [], _ :: _, _, _, h => by simp at h
  | _ :: _, [], _, _, h => by simp at h
  | d :: l, u :: vs, c, v, h => by
    show .bool d.neg :: u :: cnsV (l ++ [c]) (vs ++ [v]) = _
    rw [cnsV_append l vs c v (by simpa using h)]; rfl
theorem cnsV_length : ∀ (l : List Cn) (vs : List Value), vs.length = l.length → (cnsV l vs).length = l.length * 2
  | [], [], _ => rfl
  | [], _ :: _, h => by simp at h
  | _ :: _, [], h => by simp at h
  | d :: l, u :: vs, h => by
    show (_ :: _ :: cnsV l vs).length = _
    simp only [List.length_cons, cnsV_length l vs (by simpa using h)]; omega
theorem cnsV_at : ∀ (l : List Cn) (vs : List Value) (k : Nat) (c : Cn) (u : Value), l[k]? = some c → vs[k]? = some u → (cnsV l vs)[k * 2]? = some (.bool c.neg) ∧ (cnsV l vs)[k * 2 + 1]? = some u
  | [], _, k, c, u, h, _ => by simp at h
  | _ :: _, [], k, c, u, _, h => by simp at h
  | d :: l, v :: vs, 0, c, u, h, h' => by
    obtain rfl : d = c := by simpa using h
    obtain rfl : v = u := by simpa using h'
    exact ⟨rfl, rfl⟩
  | d :: l, v :: vs, k + 1, c, u, h, h' => by
    have := cnsV_at l vs k c u (by simpa using h) (by simpa using h')
    rw [show (k + 1) * 2 = k * 2 + 1 + 1 by omega]
    simpa [cnsV] using this
def rusV : List Ru → List Value → List Value
  | r :: l, v :: vs => .int .i64 r.head :: v :: rusV l vs
  | _, _ => []
theorem rusV_append : ∀ (l : List Ru) (vs : List Value) (c : Ru) (v : Value), vs.length = l.length → rusV (l ++ [c]) (vs ++ [v]) = rusV l vs ++ [.int .i64 c.head, v]
  | [], [], c, v, _ => rfl
  | [], _ :: _, _, _, h => by simp at h
  | _ :: _, [], _, _, h => by simp at h
  | d :: l, u :: vs, c, v, h => by
    show .int .i64 d.head :: u :: rusV (l ++ [c]) (vs ++ [v]) = _
    rw [rusV_append l vs c v (by simpa using h)]; rfl
theorem rusV_length : ∀ (l : List Ru) (vs : List Value), vs.length = l.length → (rusV l vs).length = l.length * 2
  | [], [], _ => rfl
  | [], _ :: _, h => by simp at h
  | _ :: _, [], h => by simp at h
  | d :: l, u :: vs, h => by
    show (_ :: _ :: rusV l vs).length = _
    simp only [List.length_cons, rusV_length l vs (by simpa using h)]; omega
theorem rusV_at : ∀ (l : List Ru) (vs : List Value) (k : Nat) (c : Ru) (u : Value), l[k]? = some c → vs[k]? = some u → (rusV l vs)[k * 2]? = some (.int .i64 c.head) ∧ (rusV l vs)[k * 2 + 1]? = some u
  | [], _, k, c, u, h, _ => by simp at h
  | _ :: _, [], k, c, u, _, h => by simp at h
  | d :: l, v :: vs, 0, c, u, h, h' => by
    obtain rfl : d = c := by simpa using h
    obtain rfl : v = u := by simpa using h'
    exact ⟨rfl, rfl⟩
  | d :: l, v :: vs, k + 1, c, u, h, h' => by
    have := rusV_at l vs k c u (by simpa using h) (by simpa using h')
    rw [show (k + 1) * 2 = k * 2 + 1 + 1 by omega]
    simpa [rusV] using this

def IsSys (w : World) (F : Nat → Prop) (v : Value) (l : List Sy) : Prop := Reads w F v l.length (sysV l)
def CnsIn (w : World) (F : Nat → Prop) (l : List Cn) (vs : List Value) : Prop := vs.length = l.length ∧ ∀ (k : Nat) (c : Cn) (u : Value), l[k]? = some c → vs[k]? = some u → IsSys w F u c.seq
def IsCns (w : World) (F : Nat → Prop) (v : Value) (l : List Cn) : Prop := ∃ vs, Reads w F v l.length (cnsV l vs) ∧ CnsIn w F l vs
def RusIn (w : World) (F : Nat → Prop) (l : List Ru) (vs : List Value) : Prop := vs.length = l.length ∧ ∀ (k : Nat) (c : Ru) (u : Value), l[k]? = some c → vs[k]? = some u → IsCns w F u c.conj
def IsRus (w : World) (F : Nat → Prop) (v : Value) (l : List Ru) : Prop := ∃ vs, Reads w F v l.length (rusV l vs) ∧ RusIn w F l vs
/-- The two slices of a grammar. -/
def GrIs (w : World) (F : Nat → Prop) (v1 v2 : Value) (g : Gr) : Prop := IsTexts w F v1 g.names ∧ IsRus w F v2 g.rules
section
variable {w w' : World} {F F' : Nat → Prop}
theorem IsSys.keep {v : Value} {l : List Sy} (h : IsSys w F v l) (hs : Stay F w w') (hm : ∀ b, F b → F' b) : IsSys w' F' v l := Reads.keep h hs hm
theorem CnsIn.keep {l : List Cn} {vs : List Value} (h : CnsIn w F l vs) (hs : Stay F w w') (hm : ∀ b, F b → F' b) : CnsIn w' F' l vs := ⟨h.1, fun k c u h1 h2 => (h.2 k c u h1 h2).keep hs hm⟩
theorem IsCns.keep {v : Value} {l : List Cn} (h : IsCns w F v l) (hs : Stay F w w') (hm : ∀ b, F b → F' b) : IsCns w' F' v l := by
  obtain ⟨vs, h1, h2⟩ := h
  exact ⟨vs, h1.keep hs hm, h2.keep hs hm⟩
theorem RusIn.keep {l : List Ru} {vs : List Value} (h : RusIn w F l vs) (hs : Stay F w w') (hm : ∀ b, F b → F' b) : RusIn w' F' l vs := ⟨h.1, fun k c u h1 h2 => (h.2 k c u h1 h2).keep hs hm⟩
theorem IsRus.keep {v : Value} {l : List Ru} (h : IsRus w F v l) (hs : Stay F w w') (hm : ∀ b, F b → F' b) : IsRus w' F' v l := by
  obtain ⟨vs, h1, h2⟩ := h
  exact ⟨vs, h1.keep hs hm, h2.keep hs hm⟩
theorem IsSys.any {v : Value} {l : List Sy} (h : IsSys w F v l) (hb : Below w.heap.size w w') : IsSys w' F v l := Reads.any h hb
theorem IsCns.any {v : Value} {l : List Cn} (h : IsCns w F v l) (hb : Below w.heap.size w w') : IsCns w' F v l := by
  obtain ⟨vs, h1, h2, h3⟩ := h
  exact ⟨vs, h1.any hb, h2, fun k c u e1 e2 => (h3 k c u e1 e2).any hb⟩
theorem IsRus.any {v : Value} {l : List Ru} (h : IsRus w F v l) (hb : Below w.heap.size w w') : IsRus w' F v l := by
  obtain ⟨vs, h1, h2, h3⟩ := h
  exact ⟨vs, h1.any hb, h2, fun k c u e1 e2 => (h3 k c u e1 e2).any hb⟩
theorem GrIs.any {v1 v2 : Value} {g : Gr} (h : GrIs w F v1 v2 g) (hb : Below w.heap.size w w') : GrIs w' F v1 v2 g := ⟨h.1.any hb, h.2.any hb⟩
theorem CnsIn.nil (w : World) (F : Nat → Prop) : CnsIn w F [] [] := ⟨rfl, fun k c u e => by simp at e⟩
theorem CnsIn.snoc {l : List Cn} {vs : List Value} {c : Cn} {v : Value} (h : CnsIn w F l vs) (hi : IsSys w F v c.seq) : CnsIn w F (l ++ [c]) (vs ++ [v]) := in_snoc (P := fun (c : Cn) (u : Value) => IsSys w F u c.seq) h.1 h.2 hi
theorem RusIn.nil (w : World) (F : Nat → Prop) : RusIn w F [] [] := ⟨rfl, fun k c u e => by simp at e⟩
theorem RusIn.snoc {l : List Ru} {vs : List Value} {c : Ru} {v : Value} (h : RusIn w F l vs) (hi : IsCns w F v c.conj) : RusIn w F (l ++ [c]) (vs ++ [v]) := in_snoc (P := fun (c : Ru) (u : Value) => IsCns w F u c.conj) h.1 h.2 hi
end

def litS (s : ByteArray) : Lit := .string s.data.toList
theorem ba_inj {s t : ByteArray} (h : s.toList = t.toList) : s = t := by
  cases s with | mk a => cases t with | mk b =>
  rw [ByteArray.toList_mk, ByteArray.toList_mk] at h
  cases a; cases b; simp_all
theorem litS_inj {s t : ByteArray} (h : litS s = litS t) : s = t := by
  cases s with | mk a => cases t with | mk b =>
  unfold litS at h
  injection h with h
  cases a; cases b; simp_all
/-- Block B is the map from the names l to their places. -/
def NumMap (P : Program) (K E : TypeId) (w : World) (B : Nat) (l : List ByteArray) : Prop :=
  ∃ D : DataW Unit, w.ownsMap P K (plainElem P E) B l.length D ∧ IsMap D ∧ ∀ s : ByteArray, Maps.has D (litS s) = known l s ∧ D.atKey (litS s) (.lit (.int .i64 0)) = .lit (.int .i64 (numOf l s))
theorem NumMap.new (P : Program) (K E : TypeId) (w : World) : NumMap P K E (w.alloc (.map #[] 0)) w.heap.size [] :=
  ⟨.map [], World.ownsMap_made _ _ _ _, isMap_empty, fun s => ⟨rfl, rfl⟩⟩
theorem place_snoc : ∀ (l : List ByteArray) (s t : ByteArray), place (l ++ [s]) t = match place l t with | some k => some k | none => if s = t then some l.length else none
  | [], s, t => by simp [place]
  | a :: l, s, t => by
    simp only [List.cons_append, place]
    by_cases h : a = t
    · simp [h]
    · rw [if_neg h, if_neg h, place_snoc l s t]
      cases place l t with
      | some k => rfl
      | none =>
        show Option.map _ (if s = t then some l.length else none) = if s = t then some (l.length + 1) else none
        by_cases e : s = t
        · rw [if_pos e, if_pos e]; rfl
        · rw [if_neg e, if_neg e]; rfl
theorem known_snoc (l : List ByteArray) (s t : ByteArray) : known (l ++ [s]) t = (known l t || decide (s = t)) := by
  unfold known
  rw [place_snoc]
  cases place l t with
  | some k => rfl
  | none =>
    by_cases e : s = t
    · simp [e]
    · simp [e]
theorem NumMap.put {P : Program} {K E : TypeId} {w' : World} {B : Nat} {l : List ByteArray} {s : ByteArray} {D : DataW Unit} (hm : IsMap D)
    (hd : ∀ s : ByteArray, Maps.has D (litS s) = known l s ∧ D.atKey (litS s) (.lit (.int .i64 0)) = .lit (.int .i64 (numOf l s))) (hk : known l s = false)
    (hown : w'.ownsMap P K (plainElem P E) B (l.length + 1) (D.put (litS s) (.lit (.int .i64 (l.length : Int))))) : NumMap P K E w' B (l ++ [s]) := by
  refine ⟨_, by rw [List.length_append]; exact hown, hm.put _ _, fun t => ?_⟩
  have hn : place l s = none := by
    unfold known at hk
    cases h : place l s with
    | none => rfl
    | some k => rw [h] at hk; cases hk
  by_cases e : s = t
  · subst e
    refine ⟨(has_put_same hm (k := litS s) (by unfold litS; trivial) _).trans ?_, (atKey_put_same hm (k := litS s) (by unfold litS; trivial) _ _).trans ?_⟩
    · rw [known_snoc]; simp
    · unfold numOf; rw [place_snoc, hn]; simp
  · have ne : litS t ≠ litS s := fun h => e (litS_inj h).symm
    refine ⟨(has_put_other ne _).trans ((hd t).1.trans ?_), (atKey_put_other ne _ _).trans ((hd t).2.trans ?_)⟩
    · rw [known_snoc]; simp [e]
    · unfold numOf; rw [place_snoc]
      cases place l t with
      | some k => rfl
      | none => simp [e]
theorem NumMap.keep {P : Program} {K E : TypeId} {w w' : World} {B B' : Nat} {l : List ByteArray} (h : NumMap P K E w B l) (hb : Below B' w w') (hB : B < B') : NumMap P K E w' B l := by
  obtain ⟨D, ⟨es, clock, h1, h2⟩, h3⟩ := h
  exact ⟨D, ⟨es, clock, (hb.block B hB).trans h1, h2⟩, h3⟩
end Go.Proofs.Ytgeajdfajfdjcaa
