/- ParseCuts: a text that is cut is told within it, or parses to a beginning of what it declares: at every argument, with no condition. -/
import Derived.Test.YtjfdgdjfgiifeaaNoteAwake
import Derived.Test.YtjfdgdjfgiifeaaNoteCut2
import Derived.Test.YtjfdgdjfgiifeaaLawOpen
import Derived.Test.YtjfdgdjfgiifeaaLexJoins
namespace Go.Proofs.Ytjfdgdjfgiifeaa
set_option linter.unusedVariables false
open Go.ChangeShapes Go.WideShapes Go.ChangeAt Go.RowKit

theorem tmodn (x : Int) (n : Nat) (hn : n ≤ 3000) : ∃ k : Nat, k ≤ n ∧ wrap64 ((IntKind.u64.wrap x).tmod (IntKind.u64.wrap ((n : Int) + 1))) = (k : Int) ∧ wrap64 ((IntKind.u64.wrap x).tmod ((n : Int) + 1)) = (k : Int) := by
  have h1 : 0 ≤ IntKind.u64.wrap x := by rw [IntKind.wrap_u64]; omega
  have h2 : IntKind.u64.wrap ((n : Int) + 1) = (n : Int) + 1 := by rw [IntKind.wrap_u64]; omega
  have h3 : 0 ≤ IntKind.u64.wrap x % ((n : Int) + 1) := Int.emod_nonneg _ (by omega)
  have h4 : IntKind.u64.wrap x % ((n : Int) + 1) < (n : Int) + 1 := Int.emod_lt_of_pos _ (by omega)
  have e : wrap64 ((IntKind.u64.wrap x).tmod ((n : Int) + 1)) = ((IntKind.u64.wrap x % ((n : Int) + 1)).toNat : Int) := by
    rw [Int.tmod_eq_emod_of_nonneg h1, ← PlainAid.i64_is, IntKind.wrap_i64]; omega
  exact ⟨(IntKind.u64.wrap x % ((n : Int) + 1)).toNat, by omega, by rw [h2]; exact e, e⟩
/-- A beginning of a row. -/
theorem Reads.pre {w : World} {F : Nat → Prop} {p p' : Option Addr} {n m c : Nat} {cs ds : List Value} (h : Reads w F (.slice p n c) n cs) (hm : m ≤ n) (hp : ∀ g, p = some ⟨g, 0, none⟩ → p' = p) (hd : ∃ x, cs = ds ++ x) : Reads w F (.slice p' m c) m ds := by
  obtain ⟨q, cap, e, ⟨h1, h2⟩, hc⟩ := h
  injection e with e1 _ e3
  subst e1 e3
  refine ⟨p', c, rfl, ⟨by omega, by omega⟩, fun hn => ?_⟩
  obtain ⟨g, hg, hF, hl, hx, hz⟩ := hc (by omega)
  obtain ⟨x, rfl⟩ := hd
  exact ⟨g, (hp g hg).trans hg, hF, hl, fun j c hj => hx j c (by rw [List.getElem?_append_left (List.getElem?_eq_some_iff.1 hj).1]; exact hj), hz⟩
theorem IsTexts.pre {w : World} {F : Nat → Prop} {p p' : Option Addr} {c : Nat} {l m x : List ByteArray} (h : IsTexts w F (.slice p l.length c) l) (hp : ∀ g, p = some ⟨g, 0, none⟩ → p' = p) (hd : l = m ++ x) : IsTexts w F (.slice p' m.length c) m := by
  subst hd
  exact Reads.pre h (by simp) hp ⟨txV x, by simp [txV]⟩
theorem dfsV_pre : ∀ (m x : List Df) (vs : List Value), vs.length = (m ++ x).length → ∃ y, dfsV (m ++ x) vs = dfsV m (vs.take m.length) ++ y
  | [], x, vs, _ => ⟨_, rfl⟩
  | d :: m, x, [], h => by simp at h
  | d :: m, x, v :: vs, h => by
    obtain ⟨y, hy⟩ := dfsV_pre m x vs (by simpa using h)
    exact ⟨y, by show Value.string d.name :: v :: dfsV (m ++ x) vs = _; rw [hy]; rfl⟩
theorem IsDefs.pre {w : World} {F : Nat → Prop} {p p' : Option Addr} {c : Nat} {l m x : List Df} (h : IsDefs w F (.slice p l.length c) l) (hp : ∀ g, p = some ⟨g, 0, none⟩ → p' = p) (hd : l = m ++ x) : IsDefs w F (.slice p' m.length c) m := by
  subst hd
  obtain ⟨vs, h1, h2, h3⟩ := h
  refine ⟨vs.take m.length, Reads.pre h1 (by simp) hp (dfsV_pre m x vs h2), by simp [h2], fun k d u e1 e2 => ?_⟩
  have hk : k < m.length := (List.getElem?_eq_some_iff.1 e1).1
  exact h3 k d u (by rw [List.getElem?_append_left hk]; exact e1) (by rw [List.getElem?_take_of_lt hk] at e2; exact e2)
theorem RawIs.caps {w : World} {F : Nat → Prop} {p1 p2 : Option Addr} {n1 n2 c1 c2 : Nat} {r : Rw} (h : RawIs w F (.slice p1 n1 c1) (.slice p2 n2 c2) r) : n1 ≤ c1 ∧ n2 ≤ c2 ∧ n1 ≤ maxLen ∧ n2 ≤ maxLen := by
  obtain ⟨⟨_, _, e, ⟨h1, h2⟩, _⟩, ⟨_, ⟨_, _, e', ⟨h3, h4⟩, _⟩, _⟩⟩ := h
  injection e with _ e1 e2
  injection e' with _ e3 e4
  omega
def addr0 (p : Option Addr) (c : Nat) : Option Addr := if c = 0 then p else Option.map (fun x => x.add 0) p
theorem addr0_is (p : Option Addr) (c : Nat) : ∀ g, p = some ⟨g, 0, none⟩ → addr0 p c = p := fun g h => by
  subst h; unfold addr0; split
  · rfl
  · rfl

set_option maxHeartbeats 4000000 in
set_option maxRecDepth 100000 in
theorem cuts_ok (w : World) (s : ByteArray) (hs : s.size ≤ 3000) (a1 : Int) (k : Nat) (hk : k ≤ s.size) (ek : wrap64 ((IntKind.u64.wrap a1).tmod ((s.size : Int) + 1)) = (k : Int)) (g r : Rw) (hw : parseT s = .ok g) (hr : parseT (s.extract 0 k) = .ok r) :
    Calls Try.prog 15 #[.string s, .int .i64 a1] w fun e w' => e = .returned (.bool true) ∧ Below w.heap.size w w' := by
  have P1 := fun w => parse_ok hw (by unfold maxLen; omega) w
  have P2 := fun w => parse_ok hr (by rw [size_take s k hk]; unfold maxLen; omega) w
  obtain ⟨⟨x1, e1⟩, ⟨x2, e2⟩⟩ := parse_cut s k hk hw hr
  have l1 : r.starts.length ≤ g.starts.length := by rw [e1]; simp
  have l2 : r.defs.length ≤ g.defs.length := by rw [e2]; simp
  have E1 : Hid (g.starts = r.starts ++ x1) := e1
  have E2 : Hid (g.defs = r.defs ++ x2) := e2
  clear hw hr e1 e2
  go_enter Try.func15, Try.ntmps15
  go_wp2_with (first | (go_at_call 26; refine (awake3_any _).mono ?_; rintro e wa ⟨rfl, ha⟩; have B0 : Hid (Below w.heap.size w wa) := ha; clear ha) | (go_at_call 22; first | (have hh := B1; clear hh; refine (P2 _).mono ?_; rintro e w2 ⟨p3, c3, p4, c4, F2, rfl, hF2, hR2, b2⟩; have B2 : Hid (Below w.heap.size w w2) := (B1.out.alloc B1.out.size _).trans (b2.mono (Nat.le_trans B1.out.size (le_alloc _ _))); have Q2 : Hid (RawIs w2 F2 (.slice p3 r.starts.length c3) (.slice p4 r.defs.length c4) r) := hR2; have Q3 : Hid (RawIs w2 F1 (.slice p1 g.starts.length c1) (.slice p2 g.defs.length c2) g) := (Q1.out.any (bel1 _ _)).any b2; obtain ⟨y0, y1, hv⟩ := var2 b2; clear b2 hR2 hF2) | (refine (P1 _).mono ?_; rintro e w1 ⟨p1, c1, p2, c2, F1, rfl, hF1, hR1, b1⟩; have B1 : Hid (Below w.heap.size w w1) := B0.out.trans (b1.mono B0.out.size); have Q1 : Hid (RawIs w1 F1 (.slice p1 g.starts.length c1) (.slice p2 g.defs.length c2) g) := hR1; clear b1 hR1 hF1)) | (go_at_call 20; refine (num_any _ _).mono ?_; rintro e wn ⟨rfl, rfl⟩))
  obtain ⟨k1, k2, k3, k4⟩ := Q3.out.caps
  obtain ⟨k5, k6, k7, k8⟩ := Q2.out.caps
  unfold maxLen at k3 k4 k7 k8
  have m1 : (r.starts.length : Int) ≤ (g.starts.length : Int) := by omega
  have m2 : (r.defs.length : Int) ≤ (g.defs.length : Int) := by omega
  have m3 : (r.starts.length : Int) ≤ (c1 : Int) := by omega
  have m4 : (r.defs.length : Int) ≤ (c2 : Int) := by omega
  have m5 : (0 : Int) ≤ (r.starts.length : Int) := by omega
  have m6 : (0 : Int) ≤ (r.defs.length : Int) := by omega
  have z0 : (w2.alloc (.cells #[.slice p3 r.starts.length c3, .slice p4 r.defs.length c4] 45)).cell? ⟨w1.heap.size, 0, none⟩ = some (.slice p1 g.starts.length c1) := (World.cell?_alloc_past _ _ _ hv).trans y0
  have z1 : (w2.alloc (.cells #[.slice p3 r.starts.length c3, .slice p4 r.defs.length c4] 45)).cell? ⟨w1.heap.size, 1, none⟩ = some (.slice p2 g.defs.length c2) := (World.cell?_alloc_past _ _ _ hv).trans y1
  have v0 : (w2.alloc (.cells #[.slice p3 r.starts.length c3, .slice p4 r.defs.length c4] 45)).cell? ⟨w2.heap.size, 0, none⟩ = some (.slice p3 r.starts.length c3) := World.cell?_alloc_at _ _ _ _ rfl
  have v1 : (w2.alloc (.cells #[.slice p3 r.starts.length c3, .slice p4 r.defs.length c4] 45)).cell? ⟨w2.heap.size, 1, none⟩ = some (.slice p4 r.defs.length c4) := World.cell?_alloc_at _ _ _ _ rfl
  have Q4 : Hid (RawIs (w2.alloc (.cells #[.slice p3 r.starts.length c3, .slice p4 r.defs.length c4] 45)) F2 (.slice p3 r.starts.length c3) (.slice p4 r.defs.length c4) r) := Q2.out.any (bel1 _ _)
  have Q5 : Hid (RawIs (w2.alloc (.cells #[.slice p3 r.starts.length c3, .slice p4 r.defs.length c4] 45)) F1 (.slice p1 g.starts.length c1) (.slice p2 g.defs.length c2) g) := Q3.out.any (bel1 _ _)
  have B3 : Hid (Below w.heap.size w (w2.alloc (.cells #[.slice p3 r.starts.length c3, .slice p4 r.defs.length c4] 45))) := B2.out.alloc B2.out.size _
  have hz3 : w2.heap.size < (w2.alloc (.cells #[.slice p3 r.starts.length c3, .slice p4 r.defs.length c4] 45)).heap.size := by simp
  generalize w2.alloc (.cells #[.slice p3 r.starts.length c3, .slice p4 r.defs.length c4] 45) = w3 at z0 z1 v0 v1 Q4 Q5 B3 hz3 ⊢
  have hz4 : w1.heap.size < w3.heap.size := by omega
  have SI : ∀ (q1 q2 : Option Addr) (w' : World), Below w3.heap.size w3 w' → (∀ g, p1 = some ⟨g, 0, none⟩ → q1 = p1) → (∀ g, p2 = some ⟨g, 0, none⟩ → q2 = p2) → Calls Try.prog 24 #[.agg #[.slice p3 r.starts.length c3, .slice p4 r.defs.length c4], .agg #[.slice q1 r.starts.length c1, .slice q2 r.defs.length c2]] w' fun e w'' => e = .returned (.bool true) ∧ Below w'.heap.size w' w'' := fun q1 q2 w' hb h1 h2 =>
    sameRaw_yes r _ _ _ _ w' (Q4.out.any hb).1 (Q4.out.any hb).2 ((Q5.out.any hb).1.pre h1 E1.out) ((Q5.out.any hb).2.pre h2 E2.out)
  clear y0 y1 Q2 Q3 hv B2 P1 P2 l1 l2 k1 k2 k5 k6
  generalize r.starts.length = n1 at *
  generalize r.defs.length = n2 at *
  generalize g.starts.length = n3 at *
  generalize g.defs.length = n4 at *
  go_region_held3 (fun w' => w'.cell? ⟨w1.heap.size, 0, none⟩ = some (.slice p1 n3 c1) ∧ w'.cell? ⟨w1.heap.size, 1, none⟩ = some (.slice p2 n4 c2) ∧ w'.cell? ⟨w2.heap.size, 0, none⟩ = some (.slice p3 n1 c3) ∧ w'.cell? ⟨w2.heap.size, 1, none⟩ = some (.slice p4 n2 c4)) (first | go_keep | (exact ⟨(b5.cell (p := ⟨_, _, none⟩) hz4).trans z0, (b5.cell (p := ⟨_, _, none⟩) hz4).trans z1, (b5.cell (p := ⟨_, _, none⟩) hz3).trans v0, (b5.cell (p := ⟨_, _, none⟩) hz3).trans v1⟩))
    (first | (go_at_call 24; refine (SI _ _ _ ?_ ?_ ?_).mono ?_; (focus (exact (Below.refl _ _).drew)); (focus (intro gg hgg; simp [hgg]; done)); (focus (intro gg hgg; simp [hgg]; done)); rintro e w5 ⟨rfl, b5⟩))
  all_goals go_wp2
  all_goals go_ret
  all_goals exact ⟨rfl, B3.out.trans (((Below.refl _ _).drew.trans (b5.mono (Nat.le_refl _))).mono B3.out.size)⟩

set_option maxHeartbeats 4000000 in
set_option maxRecDepth 100000 in
theorem cuts_no (w : World) (s : ByteArray) (hs : s.size ≤ 3000) (a1 : Int) (k : Nat) (hk : k ≤ s.size) (ek : wrap64 ((IntKind.u64.wrap a1).tmod ((s.size : Int) + 1)) = (k : Int)) (g : Rw) (hw : parseT s = .ok g) (p : Nat) (hp : p ≤ k) (hr : parseT (s.extract 0 k) = .error (p, 300)) :
    Calls Try.prog 15 #[.string s, .int .i64 a1] w fun e w' => e = .returned (.bool true) ∧ Below w.heap.size w w' := by
  have P1 := fun w => parse_ok hw (by unfold maxLen; omega) w
  have P2 := fun w => parse_err hr (by rw [size_take s k hk]; unfold maxLen; omega) w
  have hp' : (p : Int) ≤ (k : Int) := by omega
  clear hw hr
  go_enter Try.func15, Try.ntmps15
  go_wp2_with (first | (go_at_call 26; refine (awake3_any _).mono ?_; rintro e wa ⟨rfl, ha⟩; have B0 : Hid (Below w.heap.size w wa) := ha; clear ha) | (go_at_call 22; first | (have hh := B1; clear hh; refine (P2 _).mono ?_; rintro e w2 ⟨p3, c3, p4, c4, rfl, b2⟩; have B2 : Hid (Below w.heap.size w w2) := (B1.out.alloc B1.out.size _).trans (b2.mono (Nat.le_trans B1.out.size (le_alloc _ _))); clear b2) | (refine (P1 _).mono ?_; rintro e w1 ⟨p1, c1, p2, c2, F1, rfl, hF1, hR1, b1⟩; have B1 : Hid (Below w.heap.size w w1) := B0.out.trans (b1.mono B0.out.size); clear b1 hR1 hF1)) | (go_at_call 20; refine (num_any _ _).mono ?_; rintro e wn ⟨rfl, rfl⟩))
  all_goals go_ret
  all_goals exact ⟨rfl, B2.out.alloc B2.out.size _⟩

set_option maxHeartbeats 4000000 in
set_option maxRecDepth 100000 in
theorem cuts_long (w : World) (s : ByteArray) (hs : s.size ≤ 140737488351232) (hl : 3000 < s.size) (a1 : Int) (g : Rw) (hw : parseT s = .ok g) :
    Calls Try.prog 15 #[.string s, .int .i64 a1] w fun e w' => e = .returned (.bool true) ∧ Below w.heap.size w w' := by
  have P1 := fun w => parse_ok hw (by unfold maxLen; omega) w
  clear hw
  go_enter Try.func15, Try.ntmps15
  go_wp2_with (first | (go_at_call 26; refine (awake3_any _).mono ?_; rintro e wa ⟨rfl, ha⟩; have B0 : Hid (Below w.heap.size w wa) := ha; clear ha) | (go_at_call 22; refine (P1 _).mono ?_; rintro e w1 ⟨p1, c1, p2, c2, F1, rfl, hF1, hR1, b1⟩; have B1 : Hid (Below w.heap.size w w1) := B0.out.trans (b1.mono B0.out.size); clear b1 hR1 hF1) | (go_at_call 20; refine (num_any _ _).mono ?_; rintro e wn ⟨rfl, rfl⟩))
  all_goals go_ret
  all_goals exact ⟨rfl, B1.out.alloc B1.out.size _⟩

set_option maxHeartbeats 4000000 in
set_option maxRecDepth 100000 in
theorem cuts_bad (w : World) (s : ByteArray) (hs : s.size ≤ 140737488351232) (a1 : Int) (p x : Nat) (hw : parseT s = .error (p, x)) :
    Calls Try.prog 15 #[.string s, .int .i64 a1] w fun e w' => e = .returned (.bool true) ∧ Below w.heap.size w w' := by
  have hx : ((x : Int) != 0) = true := by rcases parse_long hw with e | e <;> subst e <;> rfl
  have P1 := fun w => parse_err hw (by unfold maxLen; omega) w
  clear hw
  go_enter Try.func15, Try.ntmps15
  go_wp2_with (first | (go_at_call 26; refine (awake3_any _).mono ?_; rintro e wa ⟨rfl, ha⟩; have B0 : Hid (Below w.heap.size w wa) := ha; clear ha) | (go_at_call 22; refine (P1 _).mono ?_; rintro e w1 ⟨p1, c1, p2, c2, rfl, b1⟩; have B1 : Hid (Below w.heap.size w w1) := B0.out.trans (b1.mono B0.out.size); clear b1) | (go_at_call 20; refine (num_any _ _).mono ?_; rintro e wn ⟨rfl, rfl⟩))
  all_goals go_ret
  all_goals exact ⟨rfl, B1.out.alloc B1.out.size _⟩
theorem parseCuts_walk (w : World) (s : ByteArray) (hs : s.size ≤ 140737488351232) (a1 : Int) (w1 : (Lit.int .i64 a1).wf = true) :
    Calls Try.prog 15 #[.string s, .int .i64 a1] w fun e w' => e = .returned (.bool true) ∧ Below w.heap.size w w' := by
  cases hw : parseT s with
  | error e => exact cuts_bad w s hs a1 e.1 e.2 hw
  | ok g =>
    by_cases hl : 3000 < s.size
    · exact cuts_long w s hs hl a1 g hw
    · obtain ⟨k, hk, -, ek⟩ := tmodn a1 s.size (by omega)
      cases hr : parseT (s.extract 0 k) with
      | ok r => exact cuts_ok w s (by omega) a1 k hk ek g r hw hr
      | error e =>
        obtain ⟨p, x⟩ := e
        have hz := size_take s k hk
        obtain ⟨rfl, h2⟩ := parse_bad (by omega) hr
        exact cuts_no w s (by omega) a1 k hk ek g hw p (by omega) hr

set_option linter.unusedVariables false
theorem parseCuts_own : ownKnob Try.prog.godebug = none := by kernel_rfl
set_option maxRecDepth 100000 in
theorem parseCuts_lifted (os : Os) (started : os.Started) (H : Type) (enc : TypeId × Value → H) :
    ReturnsInHanded {} Try.checked os 15 .any (Rows.parseCutsSpec.pre6 enc Try.prog Try.f15 Rows.parseCutsRow.domain false) (Rows.parseCutsSpec.post enc Try.prog Try.f15 false true false false) := by
  refine returnsInHanded_of_change_sized (C := Try.checked) parseCuts_own started (by kernel_rfl) Try.func15
    (ChangeSpec.witness6 (enc := enc) (C := Try.checked) false ⟨#[], #[.string ⟨#[]⟩, .int .i64 0], []⟩ 8 (by kernel_rfl) (by kernel_rfl) (by kernel_rfl) (by kernel_rfl)) ?_
  intro W base args ds gs before hval0 hW hcnd hsz0 _
  have hsz : (DataW.weightsEach Try.prog (Try.f15.params.toList ++ Rows.parseCutsSpec.plain.varTypes Try.prog) (ds ++ gs)).all (· ≤ reachBytes) = true := hsz0
  have hval : ∀ (j : Nat) t v, Try.f15.params[j]? = some t → args[j]? = some v → Value.okWide Try.prog W .any base t v := hval0
  have hW' := hW
  obtain ⟨p, q, hA0, hV, rfl, hfz, hnd⟩ := hW
  have hA : DataW.TrodAll enc Try.prog W 0 (fun _ => true) true Try.f15.params.toList args.toList ds p := hA0
  rw [Try.params15] at hA hval hsz
  obtain ⟨v0, vs0, d0, ds0, p0, q0, hargs, rfl, rfl, h0, r0⟩ := trodAll_cons hA
  obtain ⟨v1, vs1, d1, ds1, p1, q1, rfl, rfl, rfl, h1, r1⟩ := trodAll_cons r0
  obtain ⟨rfl, rfl, rfl⟩ := trodAll_nil r1
  obtain rfl : args = #[v0, v1] := by cases args; simp_all
  obtain ⟨rfl, rfl⟩ := trodVars_none hV
  clear hA0 hval0 hsz0
  have k0 := h0
  have lt0 : ∀ x ∈ p0, x.block < W.heap.size := fun x hx => by have := hW'.lt x (by simp [hx]); simpa using this
  have k1 := h1
  have lt1 : ∀ x ∈ p1, x.block < W.heap.size := fun x hx => by have := hW'.lt x (by simp [hx]); simpa using this
  obtain ⟨a0, rfl, rfl, rfl, -⟩ := ChangeMaps.open_string Try.underlying9 (hval 0 9 v0 rfl rfl) h0
  have w0 := str_reach hsz (j := 0) (t := 9) (s := a0) rfl rfl
  obtain ⟨a1, rfl, rfl, rfl, w1⟩ := open_int Try.underlying3 (hval 1 3 v1 rfl rfl) h1
  refine (parseCuts_walk W a0 w0 a1 w1).mono fun e W' ⟨he, bel⟩ => ?_
  subst he
  exact ⟨_, rfl, _, _, _, [], _, [], hW', trodAll_mk1 (shut_bool Try.underlying4 _), (trodAll_cons_mk (Below.trod Try.laidOutB (by kernel_rfl) (of_decide_eq_true (by kernel_rfl)) k0 bel lt0) (trodAll_cons_mk (Below.trod Try.laidOutB (by kernel_rfl) (of_decide_eq_true (by kernel_rfl)) k1 bel lt1) trodAll_mk0)), rfl, bel.frame _, fun h => by cases h⟩

theorem parseCuts_holds : Rows.ParseCutsSaid :=
  OpenClaim.holds_of_wide 15 Try.f15 rfl rfl rfl rfl rfl rfl rfl ⟨rfl, rfl, rfl, rfl, rfl⟩ rfl rfl rfl rfl rfl (by kernel_rfl) Try.func15 (by kernel_rfl)
    (of_decide_eq_true (by kernel_rfl)) (by unfold Func.isWrapper; first | (rw [if_pos (by decide +kernel)]; kernel_rfl) | (rw [if_neg (by decide +kernel)]; exact ⟨rfl, rfl⟩))
    (fun os started H enc _ => parseCuts_lifted os started H enc)
#print axioms parseCuts_holds
end Go.Proofs.Ytjfdgdjfgiifeaa
