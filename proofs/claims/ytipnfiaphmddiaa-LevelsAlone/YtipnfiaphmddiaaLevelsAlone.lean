import Derived.Test.YtipnfiaphmddiaaStrT
import Derived.Test.YtipnfiaphmddiaaStrTop
import Derived.Test.YtipnfiaphmddiaaCopyGrW
import Derived.Test.YtipnfiaphmddiaaGramOpen
import Derived.Test.YtipnfiaphmddiaaLawOpen
/- A grammar whose negations are being struck: each write is of false onto a Boolean, so all else stays. No program in sight. -/
namespace Go.Proofs.Ytipnfiaphmddiaa
set_option linter.unusedVariables false
open Go.ChangeShapes Go.WideShapes Go.ChangeAt Go.RowKit

/-- All cells stay but one that was a Boolean and is false now. -/
structure Struck (w w' : World) : Prop where
  size : w'.heap.size = w.heap.size
  cell : ∀ a v, w.cell? a = some v → (∀ b, v ≠ .bool b) → w'.cell? a = some v
  neg : ∀ a b, w.cell? a = some (.bool b) → w'.cell? a = some (.bool b) ∨ w'.cell? a = some (.bool false)
  frz : ∀ a, w'.frozen? a = w.frozen? a
theorem Struck.refl (w : World) : Struck w w := ⟨rfl, fun _ _ h _ => h, fun _ _ h => Or.inl h, fun _ => rfl⟩
theorem Struck.trans {a b c : World} (h : Struck a b) (k : Struck b c) : Struck a c :=
  ⟨k.size.trans h.size, fun x v e n => k.cell x v (h.cell x v e n) n, fun x y e => by
    rcases h.neg x y e with h1 | h1
    · exact k.neg x y h1
    · rcases k.neg x false h1 with h2 | h2 <;> exact Or.inr h2, fun x => (k.frz x).trans (h.frz x)⟩
theorem struck_set {w : World} {g o : Nat} {b : Bool} (h : w.cell? ⟨g, o, none⟩ = some (.bool b)) : Struck w (w.setCell ⟨g, o, none⟩ (.bool false)) := by
  refine ⟨Go.Deep.nblk_setCell _ _ _, fun a v e hn => ?_, fun a b' e => ?_, fun a => World.frozen?_setCell _ _ _ _⟩
  · by_cases x : (⟨g, o, none⟩ : Addr) = a
    · subst x
      rw [h] at e
      exact absurd (Option.some.inj e).symm (hn b)
    · rw [World.cell?_setCell_other _ _ _ _ x]; exact e
  · by_cases x : (⟨g, o, none⟩ : Addr) = a
    · subst x
      exact Or.inr (World.cell?_setCell_same _ _ _ h)
    · left
      rw [World.cell?_setCell_other _ _ _ _ x]; exact e
theorem Reads.struck {w w' : World} {F : Nat → Prop} {v : Value} {n : Nat} {cs : List Value} (h : Reads w F v n cs) (s : Struck w w') (hc : ∀ c, c ∈ cs → ∀ b, c ≠ .bool b) : Reads w' F v n cs := by
  obtain ⟨p, c, e, hm, hx⟩ := h
  refine ⟨p, c, e, hm, fun h0 => ?_⟩
  obtain ⟨g, o, e1, e2, e3, e4, e5⟩ := hx h0
  exact ⟨g, o, e1, e2, by rw [s.size]; exact e3, fun j x hj => s.cell _ _ (e4 j x hj) (hc x (List.mem_of_getElem? hj)), fun j hj => (s.frz _).trans (e5 j hj)⟩
theorem slice_not_bool {p : Option Addr} {n c : Nat} (b : Bool) : Value.slice p n c ≠ .bool b := fun h => by cases h
theorem sysV_not_bool : ∀ (l : List Sy) (c : Value), c ∈ sysV l → ∀ b, c ≠ .bool b
  | [], c, h, _ => by simp [sysV] at h
  | s :: l, c, h, b => by
    simp only [sysV, syV, List.mem_append, List.mem_cons, List.not_mem_nil, or_false] at h
    rcases h with (rfl | rfl | rfl) | h
    · intro h; cases h
    · intro h; cases h
    · intro h; cases h
    · exact sysV_not_bool l c h b
theorem txV_not_bool (l : List ByteArray) (c : Value) (h : c ∈ txV l) (b : Bool) : c ≠ .bool b := by
  obtain ⟨s, _, rfl⟩ := List.mem_map.1 h
  intro h; cases h
theorem rusV_not_bool : ∀ (l : List Ru) (vs : List Value), (∀ u, u ∈ vs → ∀ b, u ≠ .bool b) → ∀ c, c ∈ rusV l vs → ∀ b, c ≠ .bool b
  | [], _, _, c, h, _ => by simp [rusV] at h
  | _ :: _, [], _, c, h, _ => by simp [rusV] at h
  | r :: l, v :: vs, hv, c, h, b => by
    simp only [rusV, List.mem_cons] at h
    rcases h with rfl | rfl | h
    · intro h; cases h
    · exact hv _ List.mem_cons_self b
    · exact rusV_not_bool l vs (fun u hu => hv u (List.mem_cons_of_mem _ hu)) c h b
/-- The neg cell of the conjunct j of the row u is false. -/
def NegF (w : World) (u : Value) (j : Nat) : Prop := ∀ g o n c, u = .slice (some ⟨g, o, none⟩) n c → w.cell? ⟨g, o + j * 2, none⟩ = some (.bool false)
theorem NegF.struck {w w' : World} {u : Value} {j : Nat} (h : NegF w u j) (s : Struck w w') : NegF w' u j := fun g o n c e => by
  rcases s.neg _ _ (h g o n c e) with h1 | h1 <;> exact h1
/-- A row of conjuncts, all of whose negations are struck. -/
theorem cns_pos {w w' : World} {F : Nat → Prop} {u : Value} {l : List Cn} (h : IsCns w F u l) (s : Struck w w') (hd : ∀ j, j < l.length → NegF w' u j) : IsCns w' F u (l.map posC) := by
  obtain ⟨vs, ⟨p, c, e, hm, hx⟩, hl, hi⟩ := h
  have hsl : ∀ (k : Nat) (c0 : Cn) (v0 : Value), l[k]? = some c0 → vs[k]? = some v0 → ∀ b, v0 ≠ Value.bool b := fun k c0 v0 h1 h2 b => by
    obtain ⟨p', c', e', _⟩ := hi k c0 v0 h1 h2
    rw [e']; exact slice_not_bool b
  refine ⟨vs, ⟨p, c, by rw [List.length_map]; exact e, by rw [List.length_map]; exact hm, fun h0 => ?_⟩, by rw [List.length_map]; exact hl, fun k c0 v0 h1 h2 => ?_⟩
  · rw [List.length_map] at h0
    obtain ⟨g, o, e1, e2, e3, e4, e5⟩ := hx h0
    refine ⟨g, o, e1, e2, by rw [s.size]; exact e3, fun j x hj => ?_, fun j hj => (s.frz _).trans (e5 j (by rw [cnsV_length _ _ (by rw [List.length_map]; exact hl), List.length_map] at hj; rw [cnsV_length _ _ hl]; exact hj))⟩
    have hjl := (List.getElem?_eq_some_iff.1 hj).1
    rw [cnsV_length _ _ (by rw [List.length_map]; exact hl), List.length_map] at hjl
    have hk : j / 2 < l.length := by omega
    obtain ⟨c0, hc0⟩ : ∃ c0, l[j / 2]? = some c0 := ⟨_, List.getElem?_eq_getElem hk⟩
    obtain ⟨v0, hv0⟩ : ∃ v0, vs[j / 2]? = some v0 := ⟨_, List.getElem?_eq_getElem (by omega)⟩
    obtain ⟨a1, a2⟩ := cnsV_at (l.map posC) vs (j / 2) (posC c0) v0 (by rw [List.getElem?_map, hc0]; rfl) hv0
    obtain ⟨b1, b2⟩ := cnsV_at l vs (j / 2) c0 v0 hc0 hv0
    have hr : j % 2 = 0 ∨ j % 2 = 1 := by omega
    rcases hr with hr | hr
    · have ej : j / 2 * 2 = j := by omega
      rw [ej] at a1
      rw [a1] at hj
      obtain rfl := Option.some.inj hj
      have := hd (j / 2) hk g o l.length c (by rw [e, e1])
      rw [ej] at this
      exact this
    · have ej : j / 2 * 2 + 1 = j := by omega
      rw [ej] at a2 b2
      rw [a2] at hj
      obtain rfl := Option.some.inj hj
      exact s.cell _ _ (e4 j _ b2) (hsl _ _ _ hc0 hv0)
  · rw [List.getElem?_map] at h1
    obtain ⟨c1, hc1, rfl⟩ := Option.map_eq_some_iff.1 h1
    exact Reads.struck (hi k c1 v0 hc1 h2) s (sysV_not_bool _)
theorem rusV_pos : ∀ (l : List Ru) (vs : List Value), rusV (l.map posR) vs = rusV l vs
  | [], _ => rfl
  | _ :: _, [] => rfl
  | r :: l, v :: vs => by
    show .int .i64 r.head :: v :: rusV (l.map posR) vs = _
    rw [rusV_pos l vs]; rfl
theorem gr_pos {w w' : World} {F : Nat → Prop} {u1 u2 : Value} {g : Gr} {us : List Value} (ht : IsTexts w F u1 g.names) (hr : Reads w F u2 g.rules.length (rusV g.rules us)) (hi : RusIn w F g.rules us) (s : Struck w w') (hd : ∀ (i : Nat) (r : Ru) (u : Value), g.rules[i]? = some r → us[i]? = some u → ∀ j, j < r.conj.length → NegF w' u j) : GrIs w' F u1 u2 (posG g) := by
  refine ⟨Reads.struck ht s (txV_not_bool _), us, ?_, by show us.length = (g.rules.map posR).length; rw [List.length_map]; exact hi.1, fun k c u h1 h2 => ?_⟩
  · show Reads w' F u2 (g.rules.map posR).length (rusV (g.rules.map posR) us)
    rw [List.length_map, rusV_pos]
    refine Reads.struck hr s (rusV_not_bool _ _ fun u hu b => ?_)
    obtain ⟨k, hk⟩ := List.mem_iff_getElem?.1 hu
    have hkl := (List.getElem?_eq_some_iff.1 hk).1
    obtain ⟨vs, ⟨p, c, e, _⟩, _⟩ := hi.2 k _ u (List.getElem?_eq_getElem (by rw [← hi.1]; exact hkl)) hk
    rw [e]; exact slice_not_bool b
  · have h3 : (g.rules.map posR)[k]? = some c := h1
    rw [List.getElem?_map] at h3
    obtain ⟨r, hr1, rfl⟩ := Option.map_eq_some_iff.1 h3
    exact cns_pos (hi.2 k r u hr1 h2) s (hd k r u hr1 h2)
end Go.Proofs.Ytipnfiaphmddiaa
/- LevelsAlone: walked. -/
namespace Go.Proofs.Ytipnfiaphmddiaa
set_option linter.unusedVariables false
open Go.ChangeShapes Go.WideShapes Go.ChangeAt Go.RowKit

/-- A grammar in a block of its own, and what is behind it. -/
def Bx (W : World) (s : Int) (v1 v2 : Value) (w : World) : Prop := Below W.heap.size W w ∧ W.heap.size < w.heap.size ∧ w.cell? ⟨W.heap.size, 0, none⟩ = some (.int .i64 s) ∧ w.cell? ⟨W.heap.size, 1, none⟩ = some v1 ∧ w.cell? ⟨W.heap.size, 2, none⟩ = some v2
theorem Bx.new (W : World) (s : Int) (v1 v2 : Value) : Bx W s v1 v2 (W.alloc (.cells #[.int .i64 s, v1, v2] 25)) :=
  ⟨bel1 _ _, by simp, World.cell?_alloc_at _ _ _ _ rfl, World.cell?_alloc_at _ _ _ _ rfl, World.cell?_alloc_at _ _ _ _ rfl⟩
theorem Bx.any {W : World} {s : Int} {v1 v2 : Value} {w w' : World} (h : Bx W s v1 v2 w) (hb : Below w.heap.size w w') : Bx W s v1 v2 w' :=
  ⟨h.1.trans (hb.mono h.1.size), Nat.lt_of_lt_of_le h.2.1 hb.size, (hb.cell (p := ⟨_, _, none⟩) h.2.1).trans h.2.2.1, (hb.cell (p := ⟨_, _, none⟩) h.2.1).trans h.2.2.2.1, (hb.cell (p := ⟨_, _, none⟩) h.2.1).trans h.2.2.2.2⟩
theorem hid_of {p : Prop} (h : p) : Hid p := h
/-- What is struck so far. -/
def Dn (g : Gr) (us : List Value) (i0 j0 : Nat) (w : World) : Prop := ∀ (i j : Nat) (r : Ru) (u : Value), (i < i0 ∨ i = i0 ∧ j < j0) → g.rules[i]? = some r → us[i]? = some u → j < r.conj.length → NegF w u j
set_option maxHeartbeats 8000000 in
set_option maxRecDepth 100000 in
theorem levelsAlone_core (W : World) (g : Gr) (v1 v2 : Value) (E : Int) (n : Nat) (hn : n ≤ 64 ∨ E = 800) (hE : E = 800 ∨ E = 0 ∨ E = 801) (k1 : Option Addr × Nat) (k2 : Option Addr × Nat × Nat) (e1 : v1 = .slice k1.1 n k1.2) (e2 : v2 = .slice k2.1 k2.2.1 k2.2.2) (hrl : g.rules.length ≤ 9223372036854775807) (hcl : ∀ r, r ∈ g.rules → r.conj.length ≤ 9223372036854775807)
    (KS0 : ∀ w, Below W.heap.size W w → Calls Try.prog 9 #[.agg #[.int .i64 g.start, v1, v2]] w fun e w' => ∃ p n c q m d, e = .returned (.tuple #[.slice p n c, .slice q m d, .int .i64 E]) ∧ Hid (Below w.heap.size w w'))
    (KC0 : ∀ w, Below W.heap.size W w → Calls Try.prog 14 #[.agg #[.int .i64 g.start, v1, v2]] w fun e w' => ∃ u1 u2, e = .returned (.agg #[.int .i64 g.start, u1, u2]) ∧ Hid (GrIs w' (fun i => w.heap.size ≤ i) u1 u2 g) ∧ Hid (Below w.heap.size w w'))
    (KH0 : ∀ (u1 u2 : Value) (F : Nat → Prop) w, GrIs w F u1 u2 (posG g) → Calls Try.prog 9 #[.agg #[.int .i64 g.start, u1, u2]] w fun e w' => (E = 800 ∧ e = .returned (.tuple #[.slice none 0 0, .slice none 0 0, .int .i64 800]) ∨ E ≠ 800 ∧ ∃ p c, e = .returned (.tuple #[.slice p n c, .slice none 0 0, .int .i64 0]) ∧ Hid (IsInts w' Any (.slice p n c) (levL n fun _ => 0))) ∧ Hid (Below w.heap.size w w')) :
    Calls Try.prog 6 #[.agg #[.int .i64 g.start, v1, v2]] W fun e W' => e = .returned (.bool true) ∧ Below W.heap.size W W' := by
  have HX1 : Hid (Bx W g.start v1 v2 (W.alloc (.cells #[.int .i64 g.start, v1, v2] 25))) := Bx.new _ _ _ _
  have KS := hid_of KS0
  have KC := hid_of KC0
  have KH := hid_of KH0
  have HCL := hid_of hcl
  subst e1 e2
  clear KS0 KC0 KH0 hcl
  go_enter Try.func6, Try.ntmps6
  go_upto_region 4 with (first
    | (go_at_call 8; refine (awake8_any _).mono ?_; rintro e wa ⟨rfl, ba⟩; have XA : Hid (Bx _ _ _ _ wa) := HX1.out.any ba.out; obtain ⟨-, z1, c0, c1, c2⟩ := XA.out)
    | (go_at_call 14; refine (KC.out _ XA.out.1).mono ?_; rintro e wc ⟨u1, u2, rfl, gx, bc⟩; obtain ⟨q1, d1, m1, hu1⟩ : ∃ p n c, u1 = .slice p n c := (by obtain ⟨p, c, e, _⟩ := gx.out.1; exact ⟨_, _, _, e⟩); obtain ⟨q2, d2, hu2⟩ := gx.out.2.slc; subst hu1 hu2; clear z1 c0 c1 c2))
  obtain ⟨Y, hY⟩ : ∃ Y, Y = wc.alloc (.cells #[.int .i64 g.start, .slice q1 d1 m1, .slice q2 g.rules.length d2] 25) := ⟨_, rfl⟩
  rw [← hY]
  have bY : Below wc.heap.size wc Y := by rw [hY]; exact bel1 _ _
  have XY : Hid (Bx _ _ _ _ Y) := (XA.out.any bc.out).any bY
  obtain ⟨gt, us, hrd, hri⟩ := gx.out.any bY
  have HGT : Hid (IsTexts Y (fun i => wa.heap.size ≤ i) (.slice q1 d1 m1) g.names) := gt
  have HRD : Hid (Reads Y (fun i => wa.heap.size ≤ i) (.slice q2 g.rules.length d2) g.rules.length (rusV g.rules us)) := hrd
  have HRI : Hid (RusIn Y (fun i => wa.heap.size ≤ i) g.rules us) := hri
  have f0 : Y.cell? ⟨wc.heap.size, 0, none⟩ = some (.int .i64 g.start) := by rw [hY]; exact World.cell?_alloc_at _ _ _ _ rfl
  have f1 : Y.cell? ⟨wc.heap.size, 1, none⟩ = some (.slice q1 d1 m1) := by rw [hY]; exact World.cell?_alloc_at _ _ _ _ rfl
  have f2 : Y.cell? ⟨wc.heap.size, 2, none⟩ = some (.slice q2 g.rules.length d2) := by rw [hY]; exact World.cell?_alloc_at _ _ _ _ rfl
  obtain ⟨hb, hhb⟩ : ∃ b, b = wc.heap.size := ⟨_, rfl⟩
  rw [← hhb] at f0 f1 f2 ⊢
  have HW : Hid (W.heap.size ≤ wa.heap.size) := XA.out.1.size
  have HFB : Hid (∀ w', Struck Y w' → w'.cell? ⟨hb, 0, none⟩ = some (.int .i64 g.start) ∧ w'.cell? ⟨hb, 1, none⟩ = some (.slice q1 d1 m1) ∧ w'.cell? ⟨hb, 2, none⟩ = some (.slice q2 g.rules.length d2)) := fun w' s => ⟨s.cell _ _ f0 (fun b h => by cases h), s.cell _ _ f1 (fun b h => by cases h), s.cell _ _ f2 (fun b h => by cases h)⟩
  have HSB : Hid (hb < Y.heap.size) := by show _ < _; rw [hhb, hY]; simp
  obtain ⟨N, hN⟩ : ∃ N, N = g.rules.length := ⟨_, rfl⟩
  have HN := hid_of hN
  rw [← hN] at HFB HRD hrl ⊢
  clear hY hhb gt hrd hri gx bY f0 f1 f2 hN
  go_wp2
  go_loopw [4] (fun x wr => ∃ i : Nat, i ≤ N ∧ x = .int .i64 i ∧ Hid (Struck Y wr) ∧ Hid (Below W.heap.size W wr) ∧ Hid (Dn g us i 0 wr)) (fun x _ => N - (intOf x).toNat)
  case atStart => exact ⟨0, Nat.zero_le _, rfl, Struck.refl _, XY.out.1, fun i j r u h => by omega⟩
  case round =>
    obtain ⟨i, hi, rfl, HST, HB, HD⟩ := hrel
    obtain ⟨-, -, t2⟩ := HFB.out wr HST.out
    by_cases hlt : i < N
    · obtain ⟨r, hr⟩ : ∃ r, g.rules[i]? = some r := ⟨_, List.getElem?_eq_getElem (by rw [← HN.out]; exact hlt)⟩
      obtain ⟨u, hu⟩ : ∃ u, us[i]? = some u := ⟨_, List.getElem?_eq_getElem (by rw [HRI.out.1, ← HN.out]; exact hlt)⟩
      obtain ⟨a0, a1⟩ := rusV_at g.rules us i r u hr hu
      obtain ⟨p9, c9, e9, _, hx9⟩ := HRD.out
      simp only [Value.slice.injEq] at e9
      obtain ⟨rfl, _, rfl⟩ := e9
      obtain ⟨gr, or, hq2, _, _, hc9, _⟩ := hx9 (by omega)
      subst hq2
      have icn := HRI.out.2 i r u hr hu
      have hcl := HCL.out r (List.mem_of_getElem? hr)
      obtain ⟨vs, ⟨p8, c8, e8, hm8, hx8⟩, hl8, _⟩ := id icn
      subst e8
      have y1 : Y.cell? ⟨gr, or + i * 2 + 1, none⟩ = some (.slice p8 r.conj.length c8) := by rw [Nat.add_assoc]; exact hc9 _ _ a1
      have HY1 : Hid (∀ w', Struck Y w' → w'.cell? ⟨hb, 2, none⟩ = some (.slice (some ⟨gr, or, none⟩) N d2) ∧ w'.cell? ⟨gr, or + i * 2 + 1, none⟩ = some (.slice p8 r.conj.length c8)) := fun w' s => ⟨(HFB.out w' s).2.2, s.cell _ _ y1 (fun b h => by cases h)⟩
      have HCJ : Hid (∀ j, j < r.conj.length → ∃ gc oc, p8 = some ⟨gc, oc, none⟩ ∧ wa.heap.size ≤ gc ∧ (∃ b, Y.cell? ⟨gc, oc + j * 2, none⟩ = some (.bool b)) ∧ Y.frozen? ⟨gc, oc + j * 2, none⟩ = false) := fun j hj => by
        obtain ⟨gc, oc, e1, e2, e3, e4, e5⟩ := hx8 (by omega)
        obtain ⟨c0, hc0⟩ : ∃ c0, r.conj[j]? = some c0 := ⟨_, List.getElem?_eq_getElem hj⟩
        obtain ⟨v0, hv0⟩ : ∃ v0, vs[j]? = some v0 := ⟨_, List.getElem?_eq_getElem (by omega)⟩
        obtain ⟨b1, b2⟩ := cnsV_at r.conj vs j c0 v0 hc0 hv0
        exact ⟨gc, oc, e1, e2, ⟨_, e4 _ _ b1⟩, e5 _ (by rw [cnsV_length _ _ hl8]; omega)⟩
      obtain ⟨M, hM⟩ : ∃ M, M = r.conj.length := ⟨_, rfl⟩
      have HM := hid_of hM
      rw [← hM] at HY1 HCJ hcl
      have HRU : Hid (g.rules[i]? = some r ∧ us[i]? = some (.slice p8 M c8)) := ⟨hr, by rw [hM]; exact hu⟩
      have t3 := (HY1.out wr HST.out).2
      clear hr hu a0 a1 hx9 hc9 icn hm8 hx8 hl8 y1 hM
      go_wp2
      go_loopw [5] (fun x wr => ∃ j : Nat, j ≤ M ∧ x = .int .i64 j ∧ Hid (Struck Y wr) ∧ Hid (Below W.heap.size W wr) ∧ Hid (Dn g us i j wr)) (fun x _ => M - (intOf x).toNat)
      case atStart => exact ⟨0, Nat.zero_le _, rfl, HST, HB, HD⟩
      case round =>
        clear t2 t3 HST HB HD
        obtain ⟨j, hj, rfl, HST, HB, HD⟩ := hrel
        obtain ⟨t2, t3⟩ := HY1.out wr HST.out
        by_cases hlj : j < M
        · obtain ⟨gc, oc, hp8, hgc, ⟨b, hcb⟩, hfz⟩ := HCJ.out j hlj
          subst hp8
          obtain ⟨b', hcb'⟩ : ∃ b', wr.cell? ⟨gc, oc + j * 2, none⟩ = some (.bool b') := by
            rcases HST.out.neg _ _ hcb with h | h
            · exact ⟨_, h⟩
            · exact ⟨_, h⟩
          have hfz' : wr.frozen? ⟨gc, oc + j * 2, none⟩ = false := (HST.out.frz _).trans hfz
          have s1 := struck_set hcb'
          have HST2 : Hid (Struck Y (wr.setCell ⟨gc, oc + j * 2, none⟩ (.bool false))) := HST.out.trans s1
          have HB2 : Hid (Below W.heap.size W (wr.setCell ⟨gc, oc + j * 2, none⟩ (.bool false))) := bel_set HB.out (by have := HW.out; omega)
          have HD2 : Hid (Dn g us i (j + 1) (wr.setCell ⟨gc, oc + j * 2, none⟩ (.bool false))) := fun i' j' r' u' h h1 h2 h3 => by
            by_cases x : i' = i ∧ j' = j
            · obtain ⟨rfl, rfl⟩ := x
              rw [HRU.out.2] at h2
              obtain rfl := Option.some.inj h2
              intro g' o' n' c' e'
              simp only [Value.slice.injEq, Option.some.injEq, Addr.mk.injEq] at e'
              obtain ⟨⟨rfl, rfl, _⟩, _, _⟩ := e'
              exact World.cell?_setCell_same _ _ _ hcb'
            · exact (HD.out i' j' r' u' (by omega) h1 h2 h3).struck s1
          clear hcb hfz s1
          go_wp2
          go_roundw
          case rel => exact ⟨j + 1, by omega, by go_num, HST2, HB2, HD2⟩
          case measure => simp [intOf]; omega
        · obtain rfl : j = M := by omega
          have HD2 : Hid (Dn g us (i + 1) 0 wr) := fun i' j' r' u' h h1 h2 h3 => by
            by_cases x : i' = i
            · subst x
              rw [HRU.out.1] at h1
              obtain rfl := Option.some.inj h1
              exact HD.out i' j' r u' (Or.inr ⟨rfl, by rw [HM.out]; exact h3⟩) HRU.out.1 h2 h3
            · exact HD.out i' j' r' u' (Or.inl (by omega)) h1 h2 h3
          go_wp2
          go_roundw
          case rel => exact ⟨i + 1, by omega, by go_num, HST, HB, HD2⟩
          case measure => simp [intOf]; omega
    · obtain rfl : i = N := by omega
      have GP : Hid (GrIs wr (fun i => wa.heap.size ≤ i) (.slice q1 d1 m1) (.slice q2 i d2) (posG g)) := by
        have h9 := HRD.out
        refine gr_pos HGT.out (by rw [HN.out] at h9 ⊢; exact h9) HRI.out HST.out fun i' r' u' h1 h2 j' h3 => HD.out i' j' r' u' (Or.inl ?_) h1 h2 h3
        have := (List.getElem?_eq_some_iff.1 h1).1
        rw [HN.out]; exact this
      have XW : Hid (Bx _ _ _ _ wr) := ⟨HB.out, by rw [HST.out.size]; exact XY.out.2.1, HST.out.cell _ _ XY.out.2.2.1 (fun b h => by cases h), HST.out.cell _ _ XY.out.2.2.2.1 (fun b h => by cases h), HST.out.cell _ _ XY.out.2.2.2.2 (fun b h => by cases h)⟩
      obtain ⟨-, z1, c0, c1, c2⟩ := XW.out
      have hzb : hb < wr.heap.size := by rw [HST.out.size]; exact HSB.out
      obtain ⟨t0, t1, -⟩ := HFB.out wr HST.out
      go_upto_region 12 with (go_at_call 9; refine (KS.out _ XW.out.1).mono ?_; rintro e wd ⟨pa, na, ca, pb, nb, cb, rfl, bd⟩)
      have XD : Hid (Bx _ _ _ _ wd) := XW.out.any bd.out
      have s0 := (bd.out.cell (p := ⟨hb, 0, none⟩) hzb).trans t0
      have s1 := (bd.out.cell (p := ⟨hb, 1, none⟩) hzb).trans t1
      have s2 := (bd.out.cell (p := ⟨hb, 2, none⟩) hzb).trans t2
      have KG := KH.out _ _ _ _ (GP.out.any bd.out)
      clear t0 t1 t2 z1 c0 c1 c2
      have hEE : E = 800 ∨ (E ≠ 800 ∧ (E = 0 ∨ E = 801)) := by omega
      rcases hEE with h8 | ⟨hne, hEE⟩
      · have KG2 := KG.mono (R' := fun e w' => e = .returned (.tuple #[.slice none 0 0, .slice none 0 0, .int .i64 800]) ∧ Hid (Below wd.heap.size wd w')) (fun e w' ⟨h1, h2⟩ => by
          rcases h1 with ⟨_, h1⟩ | ⟨h1, _⟩
          · exact ⟨h1, h2⟩
          · exact absurd h8 h1)
        subst h8
        clear KG hE hn
        go_wp2_with (first
          | (go_at_call 9; refine KG2.mono ?_; rintro e we ⟨rfl, be⟩)
          | (go_at_call 11; refine (num_any _ _).mono ?_; rintro e wn ⟨rfl, rfl⟩))
        go_ret
        exact ⟨rfl, XD.out.1.trans (be.out.mono XD.out.1.size)⟩
      · have KG2 := KG.mono (R' := fun e w' => ∃ p c, e = .returned (.tuple #[.slice p n c, .slice none 0 0, .int .i64 0]) ∧ Hid (IsInts w' Any (.slice p n c) (levL n fun _ => 0)) ∧ Hid (Below wd.heap.size wd w')) (fun e w' ⟨h1, h2⟩ => by
          rcases h1 with ⟨h1, _⟩ | ⟨_, p, c, h1, h3⟩
          · exact absurd h1 hne
          · exact ⟨p, c, h1, h3, h2⟩)
        have hn64 : n ≤ 64 := by omega
        have HMK := hid_of (fun w => make_ints n hn64 w)
        clear KG hE hn hne
        rcases hEE with rfl | rfl
        all_goals
          go_upto_region 13 with (go_at_call 9; refine KG2.mono ?_; rintro e we ⟨p7, c7, rfl, I7, be⟩)
          have XE : Hid (Bx _ _ _ _ we) := XD.out.any be.out
          obtain ⟨-, z1, c0, c1, c2⟩ := XE.out
          have hmk := HMK.out we
          have I8 : Hid (IsInts (we.alloc (.cells (intsA (levL n fun _ => 0)) 3)) Any (.slice p7 n c7) (levL n fun _ => 0)) := I7.out.any (bel1 _ _)
          have I9 : Hid (IsInts (we.alloc (.cells (intsA (levL n fun _ => 0)) 3)) Any (.slice (some ⟨we.heap.size, 0, none⟩) n n) (levL n fun _ => 0)) := (ZAt.new we _).ints trivial (levL_length _ _).symm (by unfold maxLen; omega)
          go_wp2_with (first
            | (go_at_call 13; refine (sameInts_yes _ _ (levL n fun _ => 0) _ I8.out I9.out (by rw [levL_length]; omega)).mono ?_; rintro e wf ⟨rfl, bf⟩)
            | (go_at_call 11; refine (num_any _ _).mono ?_; rintro e wn ⟨rfl, rfl⟩))
          go_ret
          exact ⟨rfl, XE.out.1.trans (((bel1 we _).trans (bf.out.mono (bel1 we _).size)).mono XE.out.1.size)⟩
theorem levelsAlone_walk (W : World) (g : Gr) (v1 v2 : Value) (ga : GrIs W Any v1 v2 g) (gn : ∀ s, s ∈ g.names → s.size ≤ maxLen ∧ s.size ≤ reachBytes) (gz : g.names.length * 16 ≤ reachBytes ∧ g.rules.length * 32 ≤ reachBytes ∧ ∀ r, r ∈ g.rules → r.conj.length * 32 ≤ reachBytes ∧ ∀ c, c ∈ r.conj → c.seq.length * 24 ≤ reachBytes) (w0 : (Lit.int .i64 g.start).wf = true) :
    Calls Try.prog 6 #[.agg #[.int .i64 g.start, v1, v2]] W fun e W' => e = .returned (.bool true) ∧ Below W.heap.size W W' := by
  have hS : Short g.rules := fun r hr c hc => by have := (gz.2.2 r hr).2 c hc; unfold reachBytes at this; omega
  have hN : ∀ s, s ∈ g.names → s.size ≤ maxLen := fun s h => (gn s h).1
  have gz' : GSz reachBytes g := gz
  have hrl : g.rules.length ≤ 9223372036854775807 := by have := gz.2.1; unfold reachBytes at this; omega
  have hcl : ∀ r, r ∈ g.rules → r.conj.length ≤ 9223372036854775807 := fun r hr => by have := (gz.2.2 r hr).1; unfold reachBytes at this; omega
  have hS2 : Short (posG g).rules := fun r hr c hc => by
    obtain ⟨r', hr', rfl⟩ := List.mem_map.1 hr
    obtain ⟨c', hc', rfl⟩ := List.mem_map.1 hc
    exact hS r' hr' c' hc'
  have hN2 : ∀ s, s ∈ (posG g).names → s.size ≤ maxLen := hN
  obtain ⟨p1, l1, hv1⟩ : ∃ p c, v1 = .slice p g.names.length c := by obtain ⟨p, c, e, _⟩ := ga.1; exact ⟨_, _, e⟩
  obtain ⟨p2, c2, hv2⟩ := ga.2.slc
  have KC : ∀ w, Below W.heap.size W w → Calls Try.prog 14 #[.agg #[.int .i64 g.start, v1, v2]] w fun e w' => ∃ u1 u2, e = .returned (.agg #[.int .i64 g.start, u1, u2]) ∧ Hid (GrIs w' (fun i => w.heap.size ≤ i) u1 u2 g) ∧ Hid (Below w.heap.size w w') := fun w hb => copyGr_any g v1 v2 w (ga.any hb) gz'
  cases hM : mayG g with
  | false =>
    refine levelsAlone_core W g v1 v2 800 g.names.length (Or.inr rfl) (Or.inl rfl) (p1, l1) (p2, g.rules.length, c2) hv1 hv2 hrl hcl (fun w hb => (strata_no g v1 v2 w (ga.any hb) hN hS hM).mono fun e w' h => ⟨_, _, _, _, _, _, h.1, h.2⟩) KC (fun u1 u2 F w hg => ?_)
    exact (strata_no (posG g) u1 u2 w hg hN2 hS2 (by rw [pos_may]; exact hM)).mono fun e w' h => ⟨Or.inl ⟨rfl, h.1⟩, h.2⟩
  | true =>
    have hM2 : mayG (posG g) = true := by rw [pos_may]; exact hM
    obtain ⟨_, _, hl2⟩ := mayE_all (mayE_edges hM2)
    have hlz : levL g.names.length (levT g.names.length (edgesT (posG g))) = levL g.names.length fun _ => 0 := by
      congr 1
      funext i
      exact pos_lev g _ i
    have KH : ∀ (E : Int), E ≠ 800 → ∀ (u1 u2 : Value) (F : Nat → Prop) w, GrIs w F u1 u2 (posG g) → Calls Try.prog 9 #[.agg #[.int .i64 g.start, u1, u2]] w fun e w' => (E = 800 ∧ e = .returned (.tuple #[.slice none 0 0, .slice none 0 0, .int .i64 800]) ∨ E ≠ 800 ∧ ∃ p c, e = .returned (.tuple #[.slice p g.names.length c, .slice none 0 0, .int .i64 0]) ∧ Hid (IsInts w' Any (.slice p g.names.length c) (levL g.names.length fun _ => 0))) ∧ Hid (Below w.heap.size w w') := fun E hE u1 u2 F w hg => by
      refine (strata_ok (posG g) u1 u2 w hg hN2 hS2 hM2 (not_bad hl2 (pos_clean g))).mono ?_
      rintro e w' ⟨u, h1, h2, h3⟩
      have h4 : IsInts w' (fun i => w.heap.size ≤ i) u (levL g.names.length fun _ => 0) := by
        have := h2.out
        rw [show (posG g).names.length = g.names.length from rfl, hlz] at this
        exact this
      obtain ⟨p, c, hu⟩ := h4.slc
      rw [levL_length] at hu
      subst hu
      exact ⟨Or.inr ⟨hE, p, c, h1, Reads.low h4 (fun _ _ _ => trivial)⟩, h3⟩
    cases hc : (edgesT g).find? (badE g.names.length (edgesT g)) with
    | none =>
      refine levelsAlone_core W g v1 v2 0 g.names.length (Or.inl (mayG_names hM)) (Or.inr (Or.inl rfl)) (p1, l1) (p2, g.rules.length, c2) hv1 hv2 hrl hcl (fun w hb => (strata_ok g v1 v2 w (ga.any hb) hN hS hM hc).mono ?_) KC (KH 0 (by decide))
      rintro e w' ⟨u, h1, h2, h3⟩
      obtain ⟨p, c, hu⟩ := h2.out.slc
      subst hu
      exact ⟨_, _, _, _, _, _, h1, h3⟩
    | some t =>
      refine levelsAlone_core W g v1 v2 801 g.names.length (Or.inl (mayG_names hM)) (Or.inr (Or.inr rfl)) (p1, l1) (p2, g.rules.length, c2) hv1 hv2 hrl hcl (fun w hb => (strata_cyc g v1 v2 w (ga.any hb) hN hS hM t hc).mono ?_) KC (KH 801 (by decide))
      rintro e w' ⟨u, f, h1, _, h2, h3⟩
      obtain ⟨p, c, hu⟩ := h2.out.slc
      subst hu
      exact ⟨_, _, _, _, _, _, h1, h3⟩
end Go.Proofs.Ytipnfiaphmddiaa
/- LevelsAlone: a grammar without negations has one level, 0: at every argument, with no condition. -/
namespace Go.Proofs.Ytipnfiaphmddiaa
set_option linter.unusedVariables false
open Go.ChangeShapes Go.WideShapes Go.ChangeAt Go.RowKit


set_option linter.unusedVariables false
theorem levelsAlone_own : ownKnob Try.prog.godebug = none := by kernel_rfl
set_option maxRecDepth 100000 in
theorem levelsAlone_lifted (os : Os) (started : os.Started) (H : Type) (enc : TypeId × Value → H) :
    ReturnsInHanded {} Try.checked os 6 .any (Rows.levelsAloneSpec.pre6 enc Try.prog Try.f6 Rows.levelsAloneRow.domain false) (Rows.levelsAloneSpec.post enc Try.prog Try.f6 false true false false) := by
  refine returnsInHanded_of_change_sized (C := Try.checked) levelsAlone_own started (by kernel_rfl) Try.func6
    (ChangeSpec.witness6 (enc := enc) (C := Try.checked) false ⟨#[], #[.agg #[.int .i64 0, .slice none 0 0, .slice none 0 0]], []⟩ 8 (by kernel_rfl) (by kernel_rfl) (by kernel_rfl) (by kernel_rfl)) ?_
  intro W base args ds gs before hval0 hW hcnd hsz0 _
  have hsz : (DataW.weightsEach Try.prog (Try.f6.params.toList ++ Rows.levelsAloneSpec.plain.varTypes Try.prog) (ds ++ gs)).all (· ≤ reachBytes) = true := hsz0
  have hval : ∀ (j : Nat) t v, Try.f6.params[j]? = some t → args[j]? = some v → Value.okWide Try.prog W .any base t v := hval0
  have hW' := hW
  obtain ⟨p, q, hA0, hV, rfl, hfz, hnd⟩ := hW
  have hA : DataW.TrodAll enc Try.prog W 0 (fun _ => true) true Try.f6.params.toList args.toList ds p := hA0
  rw [Try.params6] at hA hval hsz
  obtain ⟨v0, vs0, d0, ds0, p0, q0, hargs, rfl, rfl, h0, r0⟩ := trodAll_cons hA
  obtain ⟨rfl, rfl, rfl⟩ := trodAll_nil r0
  obtain rfl : args = #[v0] := by cases args; simp_all
  obtain ⟨rfl, rfl⟩ := trodVars_none hV
  clear hA0 hval0 hsz0
  have k0 := h0
  have lt0 : ∀ x ∈ p0, x.block < W.heap.size := fun x hx => by have := hW'.lt x (by simp [hx]); simpa using this
  obtain ⟨cs0, rfl, op0⟩ := open_agg (j := 0) Try.structGr (hval 0 25 v0 rfl rfl) h0 (fun b o hm => hfz b o (by simp [hm])) hsz rfl rfl
  obtain ⟨g0, ga0, gb0, rfl, gi0, gn0, gs0, w0⟩ := op_gramZ op0
  refine (levelsAlone_walk W g0 ga0 gb0 gi0 gn0 gs0 w0).mono fun e W' ⟨he, bel⟩ => ?_
  subst he
  exact ⟨_, rfl, _, _, _, [], _, [], hW', trodAll_mk1 (shut_bool Try.underlying4 _), (trodAll_cons_mk (Below.trod Try.laidOutB (by kernel_rfl) (of_decide_eq_true (by kernel_rfl)) k0 bel lt0) trodAll_mk0), rfl, bel.frame _, fun h => by cases h⟩

set_option maxHeartbeats 8000000 in
theorem levelsAlone_closed : joinedFacts Try.checked.prog 6 Try.f6 Rows.levelsAloneSpec Rows.levelsAloneRow = true := by
  unfold joinedFacts
  iterate 31 (refine and_ok ?_ ?_)
  all_goals first | (with_reducible exact enter_ok) | (rw [lifts_no]; rfl) | (rw [make_cut]; rfl) | as_aux_lemma => kernel_rfl
theorem levelsAlone_holds : Rows.LevelsAloneSaid :=
  OpenClaim.holds_of_wide 6 Try.f6 rfl rfl rfl rfl rfl rfl rfl ⟨rfl, rfl, rfl, rfl, rfl⟩ rfl rfl rfl rfl rfl (by kernel_rfl) Try.func6 levelsAlone_closed
    (of_decide_eq_true (by kernel_rfl)) (by unfold Func.isWrapper; first | (rw [if_pos (by decide +kernel)]; kernel_rfl) | (rw [if_neg (by decide +kernel)]; exact ⟨rfl, rfl⟩))
    (fun os started H enc _ => levelsAlone_lifted os started H enc)
#print axioms levelsAlone_holds
end Go.Proofs.Ytipnfiaphmddiaa
