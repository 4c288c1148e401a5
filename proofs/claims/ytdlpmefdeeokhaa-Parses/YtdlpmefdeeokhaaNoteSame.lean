/- Two rows of the same texts, items, conjuncts; two of the same declarations: held against one another. -/
import Derived.Test.YtdlpmefdeeokhaaNoteMem
import Derived.Test.YtdlpmefdeeokhaaLexSame
import Derived.Deep.RegionHeld3
namespace Go.Proofs.Ytdlpmefdeeokhaa
set_option linter.unusedVariables false
open Go.ChangeShapes Go.WideShapes Go.ChangeAt Go.RowKit

theorem Try.eqItem (a : Int) (s : ByteArray) (c d : Int) (w : World) : (Op.equalIn 10000 63 (.agg #[.int .i64 a, .string s, .int .i64 c, .int .i64 d]) (.agg #[.int .i64 a, .string s, .int .i64 c, .int .i64 d])).run Try.prog w = .ok true w := by
  have u3 := Try.underlying3
  have a3 := Try.isAgg3
  have z3 := Try.sizeOf3
  have u9 := Try.underlying9
  have a9 := Try.isAgg9
  have z9 := Try.sizeOf9
  have F : (Try.prog.fieldsOf 63).toList.map (fun f => (f.name, f.type, f.offset)) = [("Kind", 3, 0), ("Text", 9, 1), ("Lo", 3, 2), ("Hi", 3, 3)] := by kernel_rfl
  rw [show (10000 : Nat) = 9999 + 1 from rfl, run_equalIn_agg w 9999 _ _ _ (by kernel_rfl) (by kernel_rfl)]
  generalize (Try.prog.fieldsOf 63).toList = fs at F
  have hl : fs.length = 4 := by simpa using congrArg List.length F
  match fs, hl, F with
  | [f0, f1, f2, f3], _, F =>
    simp at F
    obtain ⟨⟨n0, t0, o0⟩, ⟨n1, t1, o1⟩, ⟨n2, t2, o2⟩, ⟨n3, t3, o3⟩⟩ := F
    simp only [Op.eqFields, n0, t0, o0, n1, t1, o1, n2, t2, o2, n3, t3, o3]
    go_simp
theorem stay_below {F : Nat → Prop} {w w' : World} (hb : Below w.heap.size w w') (hF : ∀ b, F b → b < w.heap.size) : Stay F w w' := ⟨hb.size, fun b h => hb.block b (hF b h)⟩
/-- A row that is read, whatever its blocks. -/
abbrev Any : Nat → Prop := fun _ => True
theorem Reads.any {w : World} {F : Nat → Prop} {v : Value} {n : Nat} {cs : List Value} (h : Reads w F v n cs) {w' : World} (hb : Below w.heap.size w w') : Reads w' F v n cs := by
  obtain ⟨p, cap, hv, hm, hc⟩ := h
  refine ⟨p, cap, hv, hm, fun hn => ?_⟩
  obtain ⟨g, o, hp, hF, hg, hx, hz⟩ := hc hn
  exact ⟨g, o, hp, hF, Nat.lt_of_lt_of_le hg hb.size, fun j c hj => (hb.cell (p := ⟨g, _, none⟩) hg).trans (hx j c hj), fun j hj => (hb.frozen (p := ⟨g, _, none⟩) hg).trans (hz j hj)⟩
section
variable {w w' : World} {F : Nat → Prop}
theorem IsIts.any {v : Value} {l : List It} (h : IsIts w F v l) (hb : Below w.heap.size w w') : IsIts w' F v l := Reads.any h hb
theorem IsCjs.any {v : Value} {l : List Cj} (h : IsCjs w F v l) (hb : Below w.heap.size w w') : IsCjs w' F v l := by
  obtain ⟨vs, h1, h2, h3⟩ := h
  exact ⟨vs, h1.any hb, h2, fun k c u e1 e2 => (h3 k c u e1 e2).any hb⟩
theorem IsAlts.any {v : Value} {l : List (List Cj)} (h : IsAlts w F v l) (hb : Below w.heap.size w w') : IsAlts w' F v l := by
  obtain ⟨vs, h1, h2, h3⟩ := h
  exact ⟨vs, h1.any hb, h2, fun k c u e1 e2 => (h3 k c u e1 e2).any hb⟩
theorem IsDefs.any {v : Value} {l : List Df} (h : IsDefs w F v l) (hb : Below w.heap.size w w') : IsDefs w' F v l := by
  obtain ⟨vs, h1, h2, h3⟩ := h
  exact ⟨vs, h1.any hb, h2, fun k c u e1 e2 => (h3 k c u e1 e2).any hb⟩
theorem IsTexts.any {v : Value} {l : List ByteArray} (h : IsTexts w F v l) (hb : Below w.heap.size w w') : IsTexts w' F v l := Reads.any h hb
end
theorem drewN_below (w : World) (n : Nat) : Below w.heap.size w (w.drewN n) := ⟨rfl, rfl, rfl, Nat.le_refl _, fun _ _ => rfl⟩

set_option maxHeartbeats 2000000 in
theorem sameTexts_yes (va vb : Value) (l : List ByteArray) (w : World) {Fa Fb : Nat → Prop} (ha : IsTexts w Fa va l) (hb : IsTexts w Fb vb l) :
    Calls Try.prog 14 #[va, vb] w fun e w' => e = .returned (.bool true) ∧ ∃ n, w' = w.drewN n := by
  obtain ⟨p, cp, rfl, hm, hca⟩ := ha
  obtain ⟨q, cq, rfl, -, hcb⟩ := hb
  replace hm := hm.1
  unfold maxLen at hm
  have HA : Hid (0 < l.length → ∃ g o, p = some ⟨g, o, none⟩ ∧ Fa g ∧ g < w.heap.size ∧ (∀ j c, (txV l)[j]? = some c → w.cell? ⟨g, o + j, none⟩ = some c) ∧ ∀ j, j < ((txV l)).length → w.frozen? ⟨g, o + j, none⟩ = false) := hca
  have HB : Hid (0 < l.length → ∃ g o, q = some ⟨g, o, none⟩ ∧ Fb g ∧ g < w.heap.size ∧ (∀ j c, (txV l)[j]? = some c → w.cell? ⟨g, o + j, none⟩ = some c) ∧ ∀ j, j < ((txV l)).length → w.frozen? ⟨g, o + j, none⟩ = false) := hcb
  clear hca hcb
  go_enter Try.func14, Try.ntmps14
  go_wp2
  go_loopw [5] (fun i wr => ∃ k n : Nat, k ≤ l.length ∧ i = .int .i64 k ∧ wr = w.drewN n) (fun i _ => l.length - (intOf i).toNat)
  case atStart => exact ⟨0, 0, by omega, rfl, rfl⟩
  case round =>
    obtain ⟨k, n, hk, rfl, rfl⟩ := hrel
    by_cases hlt : k < l.length
    · obtain ⟨t, ht⟩ : ∃ t, l[k]? = some t := ⟨_, List.getElem?_eq_getElem hlt⟩
      obtain ⟨g1, o1, hp, -, hg1, ca, -⟩ := HA.out (by omega)
      obtain ⟨g2, o2, hq, -, hg2, cb, -⟩ := HB.out (by omega)
      subst hp hq
      have a0 := ca k (.string t) (by simp [txV, ht])
      have b0 := cb k (.string t) (by simp [txV, ht])
      clear ca cb ht hg1 hg2
      go_wp2
      go_quiet (fail)
      go_wp2
      go_roundw
      case rel => exact ⟨k + 1, _, by omega, by go_num, rfl⟩
      case measure => simp [intOf]; omega
    · obtain rfl : k = l.length := by omega
      go_wp2
      go_ret
      exact ⟨rfl, _, rfl⟩

set_option maxHeartbeats 2000000 in
theorem sameItems_yes (va vb : Value) (l : List It) (w : World) {Fa Fb : Nat → Prop} (ha : IsIts w Fa va l) (hb : IsIts w Fb vb l) :
    Calls Try.prog 51 #[va, vb] w fun e w' => e = .returned (.bool true) ∧ ∃ n, w' = w.drewN n := by
  obtain ⟨p, cp, rfl, hm, hca⟩ := ha
  obtain ⟨q, cq, rfl, -, hcb⟩ := hb
  replace hm := hm.1
  unfold maxLen at hm
  have HA : Hid (0 < l.length → ∃ g o, p = some ⟨g, o, none⟩ ∧ Fa g ∧ g < w.heap.size ∧ (∀ j c, (itsV l)[j]? = some c → w.cell? ⟨g, o + j, none⟩ = some c) ∧ ∀ j, j < ((itsV l)).length → w.frozen? ⟨g, o + j, none⟩ = false) := hca
  have HB : Hid (0 < l.length → ∃ g o, q = some ⟨g, o, none⟩ ∧ Fb g ∧ g < w.heap.size ∧ (∀ j c, (itsV l)[j]? = some c → w.cell? ⟨g, o + j, none⟩ = some c) ∧ ∀ j, j < ((itsV l)).length → w.frozen? ⟨g, o + j, none⟩ = false) := hcb
  clear hca hcb
  go_enter Try.func51, Try.ntmps51
  go_wp2
  go_loopw [5] (fun i wr => ∃ k n : Nat, k ≤ l.length ∧ i = .int .i64 k ∧ wr = w.drewN n) (fun i _ => l.length - (intOf i).toNat)
  case atStart => exact ⟨0, 0, by omega, rfl, rfl⟩
  case round =>
    obtain ⟨k, n, hk, rfl, rfl⟩ := hrel
    by_cases hlt : k < l.length
    · obtain ⟨t, ht⟩ : ∃ t, l[k]? = some t := ⟨_, List.getElem?_eq_getElem hlt⟩
      obtain ⟨g1, o1, hp, -, hg1, ca, -⟩ := HA.out (by omega)
      obtain ⟨g2, o2, hq, -, hg2, cb, -⟩ := HB.out (by omega)
      subst hp hq
      obtain ⟨i0, i1, i2, i3⟩ := itsV_at l k t ht
      have a0 := ca _ _ i0
      have a1 := reas (ca _ _ i1)
      have a2 := reas (ca _ _ i2)
      have a3 := reas (ca _ _ i3)
      have b0 := cb _ _ i0
      have b1 := reas (cb _ _ i1)
      have b2 := reas (cb _ _ i2)
      have b3 := reas (cb _ _ i3)
      have heq := Try.eqItem
      generalize t.kind = x0 at a0 b0
      generalize t.text = x1 at a1 b1
      generalize t.lo = x2 at a2 b2
      generalize t.hi = x3 at a3 b3
      clear ca cb ht hg1 hg2 i0 i1 i2 i3
      go_wp2
      go_quiet (fail)
      go_wp2
      go_roundw
      case rel => exact ⟨k + 1, _, by omega, by go_num, rfl⟩
      case measure => simp [intOf]; omega
    · obtain rfl : k = l.length := by omega
      go_wp2
      go_ret
      exact ⟨rfl, _, rfl⟩

set_option maxHeartbeats 2000000 in
theorem sameConjs_yes (va vb : Value) (l : List Cj) (w : World) {Fa Fb : Nat → Prop} (ha : IsCjs w Fa va l) (hb : IsCjs w Fb vb l) :
    Calls Try.prog 36 #[va, vb] w fun e w' => e = .returned (.bool true) ∧ ∃ n, w' = w.drewN n := by
  obtain ⟨us, ⟨p, cp, rfl, hm, hca⟩, hla, hia⟩ := ha
  obtain ⟨vs, ⟨q, cq, rfl, -, hcb⟩, hlb, hib⟩ := hb
  replace hm := hm.1
  unfold maxLen at hm
  have HA : Hid (0 < l.length → ∃ g o, p = some ⟨g, o, none⟩ ∧ Fa g ∧ g < w.heap.size ∧ (∀ j c, (cjsV l us)[j]? = some c → w.cell? ⟨g, o + j, none⟩ = some c) ∧ ∀ j, j < ((cjsV l us)).length → w.frozen? ⟨g, o + j, none⟩ = false) := hca
  have HB : Hid (0 < l.length → ∃ g o, q = some ⟨g, o, none⟩ ∧ Fb g ∧ g < w.heap.size ∧ (∀ j c, (cjsV l vs)[j]? = some c → w.cell? ⟨g, o + j, none⟩ = some c) ∧ ∀ j, j < ((cjsV l vs)).length → w.frozen? ⟨g, o + j, none⟩ = false) := hcb
  have IA : Hid (us.length = l.length ∧ ∀ (k : Nat) (c : Cj) (u : Value), l[k]? = some c → us[k]? = some u → IsIts w Fa u c.items) := ⟨hla, hia⟩
  have IB : Hid (vs.length = l.length ∧ ∀ (k : Nat) (c : Cj) (u : Value), l[k]? = some c → vs[k]? = some u → IsIts w Fb u c.items) := ⟨hlb, hib⟩
  clear hca hcb hla hia hlb hib
  go_enter Try.func36, Try.ntmps36
  go_wp2
  go_loopw [5] (fun i wr => ∃ k n : Nat, k ≤ l.length ∧ i = .int .i64 k ∧ wr = w.drewN n) (fun i _ => l.length - (intOf i).toNat)
  case atStart => exact ⟨0, 0, by omega, rfl, rfl⟩
  case round =>
    obtain ⟨k, n, hk, rfl, hwr⟩ := hrel
    have HWR : Hid (wr = w.drewN n) := hwr
    have hcl : ∀ a, wr.cell? a = w.cell? a := fun a => by rw [hwr]; rfl
    have hbw : Below w.heap.size w wr := by rw [hwr]; exact drewN_below w n
    have hsw : wr.heap.size = w.heap.size := by rw [hwr]; rfl
    clear hwr
    by_cases hlt : k < l.length
    · obtain ⟨t, ht⟩ : ∃ t, l[k]? = some t := ⟨_, List.getElem?_eq_getElem hlt⟩
      obtain ⟨u, hu⟩ : ∃ u, us[k]? = some u := ⟨_, List.getElem?_eq_getElem (by rw [IA.out.1]; exact hlt)⟩
      obtain ⟨v, hv⟩ : ∃ v, vs[k]? = some v := ⟨_, List.getElem?_eq_getElem (by rw [IB.out.1]; exact hlt)⟩
      obtain ⟨g1, o1, hp, -, hg1, ca, -⟩ := HA.out (by omega)
      obtain ⟨g2, o2, hq, -, hg2, cb, -⟩ := HB.out (by omega)
      subst hp hq
      obtain ⟨i0, i1⟩ := cjsV_at l us k t u ht hu
      obtain ⟨j0, j1⟩ := cjsV_at l vs k t v ht hv
      have a0 := (hcl _).trans (ca _ _ i0)
      have a1 := (hcl _).trans (reas (ca _ _ i1))
      have b0 := (hcl _).trans (cb _ _ j0)
      have b1 := (hcl _).trans (reas (cb _ _ j1))
      have SI : ∀ m, Calls Try.prog 51 #[u, v] (wr.drewN m) fun e w' => e = .returned (.bool true) ∧ ∃ n, w' = (wr.drewN m).drewN n := fun m => sameItems_yes u v t.items (wr.drewN m) (((IA.out.2 k t u ht hu).any hbw).any (drewN_below wr m)) (((IB.out.2 k t v ht hv).any hbw).any (drewN_below wr m))
      obtain ⟨x1, x2, x3, hx⟩ : ∃ x1 x2 x3, u = .slice x1 x2 x3 := by
        obtain ⟨x1, x3, e, _⟩ := IA.out.2 k t u ht hu
        exact ⟨_, _, _, e⟩
      obtain ⟨y1, y2, y3, hy⟩ : ∃ y1 y2 y3, v = .slice y1 y2 y3 := by
        obtain ⟨y1, y3, e, _⟩ := IB.out.2 k t v ht hv
        exact ⟨_, _, _, e⟩
      subst hx hy
      generalize t.neg = b at a0 b0
      clear ca cb ht hg1 hg2 i0 i1 j0 j1 hu hv hcl hbw hsw
      cases b
      all_goals
        go_wp2
        go_quiet ((go_at_call 51; exact Calls.quiet_of (SI _)))
        go_wp2
        go_roundw
        case rel => exact ⟨k + 1, _, by omega, by go_num, by rw [HWR.out, World.drewN_drewN]⟩
        case measure => simp [intOf]; omega
    · obtain rfl : k = l.length := by omega
      go_wp2
      go_ret
      exact ⟨rfl, _, HWR.out⟩

set_option maxHeartbeats 2000000 in
theorem sameDef_yes (n : ByteArray) (va vb : Value) (l : List (List Cj)) (w : World) {Fa Fb : Nat → Prop} (ha : IsAlts w Fa va l) (hb : IsAlts w Fb vb l) :
    Calls Try.prog 15 #[.agg #[.string n, va], .agg #[.string n, vb]] w fun e w' => e = .returned (.bool true) ∧ Below w.heap.size w w' := by
  have hA2 := fun o o' => (ha.any (bel1 w o)).any (bel1 _ o')
  have hB2 := fun o o' => (hb.any (bel1 w o)).any (bel1 _ o')
  obtain ⟨us, ⟨p, cp, rfl, hm, hca⟩, hla, hia⟩ := id ha
  obtain ⟨vs, ⟨q, cq, rfl, -, hcb⟩, hlb, hib⟩ := id hb
  replace hm := hm.1
  unfold maxLen at hm
  have HA : Hid (IsAlts w Fa (.slice p l.length cp) l) := ha
  have HB : Hid (IsAlts w Fb (.slice q l.length cq) l) := hb
  clear hca hcb hla hia hlb hib ha hb hA2 hB2
  go_enter Try.func15, Try.ntmps15
  go_wp2
  have B0 : Hid (Below w.heap.size w ((w.alloc (.cells #[.string n, .slice p l.length cp] 41)).alloc (.cells #[.string n, .slice q l.length cq] 41))) := bel2 w _ _
  have HA0 : Hid (IsAlts ((w.alloc (.cells #[.string n, .slice p l.length cp] 41)).alloc (.cells #[.string n, .slice q l.length cq] 41)) Fa (.slice p l.length cp) l) := HA.out.any B0.out
  have HB0 : Hid (IsAlts ((w.alloc (.cells #[.string n, .slice p l.length cp] 41)).alloc (.cells #[.string n, .slice q l.length cq] 41)) Fb (.slice q l.length cq) l) := HB.out.any B0.out
  have x1 : ((w.alloc (.cells #[.string n, .slice p l.length cp] 41)).alloc (.cells #[.string n, .slice q l.length cq] 41)).cell? ⟨w.heap.size, 1, none⟩ = some (.slice p l.length cp) := (World.cell?_alloc_past _ _ _ (by simp)).trans (World.cell?_alloc_at _ _ _ _ rfl)
  have y1 : ((w.alloc (.cells #[.string n, .slice p l.length cp] 41)).alloc (.cells #[.string n, .slice q l.length cq] 41)).cell? ⟨w.heap.size + 1, 1, none⟩ = some (.slice q l.length cq) := World.cell?_alloc_at _ _ _ _ (by simp)
  generalize (w.alloc (.cells #[.string n, .slice p l.length cp] 41)).alloc (.cells #[.string n, .slice q l.length cq] 41) = W0 at B0 HA0 HB0 x1 y1 ⊢
  clear HA HB
  go_loopw [5] (fun i wr => ∃ k n : Nat, k ≤ l.length ∧ i = .int .i64 k ∧ wr = W0.drewN n) (fun i _ => l.length - (intOf i).toNat)
  case atStart => exact ⟨0, 0, by omega, rfl, rfl⟩
  case round =>
    obtain ⟨k, n, hk, rfl, hwr⟩ := hrel
    have HWR : Hid (wr = W0.drewN n) := hwr
    have hcl : ∀ a, wr.cell? a = W0.cell? a := fun a => by rw [hwr]; rfl
    have hbw : Below W0.heap.size W0 wr := by rw [hwr]; exact drewN_below W0 n
    have x1' := (hcl _).trans x1
    have y1' := (hcl _).trans y1
    clear hwr
    by_cases hlt : k < l.length
    · obtain ⟨us, ⟨p', cp', e1, -, hca⟩, hla, hia⟩ := id HA0.out
      obtain ⟨vs, ⟨q', cq', e2, -, hcb⟩, hlb, hib⟩ := id HB0.out
      injection e1 with e1 _ e1c
      injection e2 with e2 _ e2c
      subst e1 e2 e1c e2c
      obtain ⟨t, ht⟩ : ∃ t, l[k]? = some t := ⟨_, List.getElem?_eq_getElem hlt⟩
      obtain ⟨u, hu⟩ : ∃ u, us[k]? = some u := ⟨_, List.getElem?_eq_getElem (by rw [hla]; exact hlt)⟩
      obtain ⟨v, hv⟩ : ∃ v, vs[k]? = some v := ⟨_, List.getElem?_eq_getElem (by rw [hlb]; exact hlt)⟩
      obtain ⟨g1, o1, hp, -, hg1, ca, -⟩ := hca (by omega)
      obtain ⟨g2, o2, hq, -, hg2, cb, -⟩ := hcb (by omega)
      subst hp hq
      have a0 := (hcl _).trans (ca _ _ hu)
      have b0 := (hcl _).trans (cb _ _ hv)
      have SI : ∀ m, Calls Try.prog 36 #[u, v] (wr.drewN m) fun e w' => e = .returned (.bool true) ∧ ∃ n, w' = (wr.drewN m).drewN n := fun m => sameConjs_yes u v t (wr.drewN m) (((hia k t u ht hu).any hbw).any (drewN_below wr m)) (((hib k t v ht hv).any hbw).any (drewN_below wr m))
      obtain ⟨z1, z2, z3, hx⟩ : ∃ x1 x2 x3, u = .slice x1 x2 x3 := by
        obtain ⟨_, ⟨x1, x3, e, _⟩, _⟩ := hia k t u ht hu
        exact ⟨_, _, _, e⟩
      obtain ⟨r1, r2, r3, hy⟩ : ∃ y1 y2 y3, v = .slice y1 y2 y3 := by
        obtain ⟨_, ⟨y1, y3, e, _⟩, _⟩ := hib k t v ht hv
        exact ⟨_, _, _, e⟩
      subst hx hy
      clear ca cb ht hg1 hg2 hu hv hcl hbw hca hcb hla hlb hia hib x1 y1
      go_wp2
      go_quiet ((go_at_call 36; exact Calls.quiet_of (SI _)))
      go_wp2
      go_roundw
      case rel => exact ⟨k + 1, _, by omega, by go_num, by rw [HWR.out, World.drewN_drewN]⟩
      case measure => simp [intOf]; omega
    · obtain rfl : k = l.length := by omega
      go_wp2
      go_ret
      exact ⟨rfl, by rw [HWR.out]; exact below_drewN B0.out _⟩

theorem box2_cells {w w1 : World} {c1 c2 : Array Value} {t t' : TypeId} (hb : Below ((w.alloc (.cells c1 t)).alloc (.cells c2 t')).heap.size ((w.alloc (.cells c1 t)).alloc (.cells c2 t')) w1) :
    (∀ j, w1.cell? ⟨w.heap.size, j, none⟩ = c1[j]?) ∧ (∀ j, w1.cell? ⟨w.heap.size + 1, j, none⟩ = c2[j]?) ∧ w.heap.size + 1 < w1.heap.size ∧ Below w.heap.size w w1 := by
  have hz : ((w.alloc (.cells c1 t)).alloc (.cells c2 t')).heap.size = w.heap.size + 2 := by simp
  have hs := hb.size
  rw [hz] at hs
  refine ⟨fun j => ?_, fun j => ?_, by omega, (bel2 w _ _).trans (hb.mono (by rw [hz]; omega))⟩
  · exact (hb.cell (p := ⟨_, _, none⟩) (by rw [hz]; show w.heap.size < _; omega)).trans ((World.cell?_alloc_past _ _ _ (by simp)).trans (World.cell?_alloc_at _ _ _ _ rfl))
  · exact (hb.cell (p := ⟨_, _, none⟩) (by rw [hz]; show w.heap.size + 1 < _; omega)).trans (World.cell?_alloc_at _ _ _ _ (by simp))
set_option maxHeartbeats 2000000 in
theorem sameRaw_yes (r : Rw) (a1 a2 b1 b2 : Value) (w : World) {Fa Fb : Nat → Prop} (ha1 : IsTexts w Fa a1 r.starts) (ha : IsDefs w Fa a2 r.defs) (hb1 : IsTexts w Fb b1 r.starts) (hb : IsDefs w Fb b2 r.defs) :
    Calls Try.prog 6 #[.agg #[a1, a2], .agg #[b1, b2]] w fun e w' => e = .returned (.bool true) ∧ Below w.heap.size w w' := by
  obtain ⟨starts, l⟩ := r
  simp only at ha1 ha hb1 hb
  obtain ⟨us, ⟨p, cp, rfl, hm, -⟩, -⟩ := id ha
  obtain ⟨vs, ⟨q, cq, rfl, -, -⟩, -⟩ := id hb
  obtain ⟨p0, cp0, rfl, -, -⟩ := id ha1
  obtain ⟨q0, cq0, rfl, -, -⟩ := id hb1
  replace hm := hm.1
  unfold maxLen at hm
  have HA : Hid (IsDefs w Fa (.slice p l.length cp) l) := ha
  have HB : Hid (IsDefs w Fb (.slice q l.length cq) l) := hb
  have ST : ∀ o o', Calls Try.prog 14 #[.slice p0 starts.length cp0, .slice q0 starts.length cq0] ((w.alloc o).alloc o') fun e w' => e = .returned (.bool true) ∧ Below ((w.alloc o).alloc o').heap.size ((w.alloc o).alloc o') w' := fun o o' => (sameTexts_yes _ _ starts ((w.alloc o).alloc o') (ha1.any (bel2 w o o')) (hb1.any (bel2 w o o'))).mono (by
    rintro e w1 ⟨rfl, n, rfl⟩
    exact ⟨rfl, drewN_below _ _⟩)
  clear ha1 ha hb1 hb
  go_enter Try.func6, Try.ntmps6
  go_wp2_with (go_at_call 14; refine (ST _ _).mono ?_; rintro e w1 ⟨rfl, hb1⟩; obtain ⟨q1, q2, hs1, hbw⟩ := box2_cells hb1; have x0 : w1.cell? ⟨w.heap.size, 0, none⟩ = some (.slice p0 starts.length cp0) := q1 0; have x1 : w1.cell? ⟨w.heap.size, 1, none⟩ = some (.slice p l.length cp) := q1 1; have y0 : w1.cell? ⟨w.heap.size + 1, 0, none⟩ = some (.slice q0 starts.length cq0) := q2 0; have y1 : w1.cell? ⟨w.heap.size + 1, 1, none⟩ = some (.slice q l.length cq) := q2 1; have B0 : Hid (Below w.heap.size w w1) := hbw; clear hb1 q1 q2 hbw)
  have HA0 : Hid (IsDefs w1 Fa (.slice p l.length cp) l) := HA.out.any B0.out
  have HB0 : Hid (IsDefs w1 Fb (.slice q l.length cq) l) := HB.out.any B0.out
  clear HA HB ST x0 y0
  go_loopw [5] (fun i wr => ∃ k : Nat, k ≤ l.length ∧ i = .int .i64 k ∧ Below w1.heap.size w1 wr) (fun i _ => l.length - (intOf i).toNat)
  case atStart => exact ⟨0, by omega, rfl, Below.refl _ _⟩
  case round =>
    obtain ⟨k, hk, rfl, hW⟩ := hrel
    have HW : Hid (Below w1.heap.size w1 wr) := hW
    have x1' := (hW.cell (p := ⟨w.heap.size, 1, none⟩) (by show w.heap.size < _; omega)).trans x1
    have y1' := (hW.cell (p := ⟨w.heap.size + 1, 1, none⟩) hs1).trans y1
    by_cases hlt : k < l.length
    · obtain ⟨us, ⟨p', cp', e1, -, hca⟩, hla, hia⟩ := HA0.out.any hW
      obtain ⟨vs, ⟨q', cq', e2, -, hcb⟩, hlb, hib⟩ := HB0.out.any hW
      injection e1 with e1 _ e1c
      injection e2 with e2 _ e2c
      subst e1 e2 e1c e2c
      obtain ⟨⟨nm, t⟩, ht⟩ : ∃ t, l[k]? = some t := ⟨_, List.getElem?_eq_getElem hlt⟩
      obtain ⟨u, hu⟩ : ∃ u, us[k]? = some u := ⟨_, List.getElem?_eq_getElem (by rw [hla]; exact hlt)⟩
      obtain ⟨v, hv⟩ : ∃ v, vs[k]? = some v := ⟨_, List.getElem?_eq_getElem (by rw [hlb]; exact hlt)⟩
      obtain ⟨g1, o1, hp, -, hg1, ca, -⟩ := hca (by omega)
      obtain ⟨g2, o2, hq, -, hg2, cb, -⟩ := hcb (by omega)
      subst hp hq
      obtain ⟨i0, i1⟩ := dfsV_at l us k _ u ht hu
      obtain ⟨j0, j1⟩ := dfsV_at l vs k _ v ht hv
      have a0 := ca _ _ i0
      have a1 := reas (ca _ _ i1)
      have b0 := cb _ _ j0
      have b1 := reas (cb _ _ j1)
      simp only at a0 b0
      have SI : ∀ w', Below wr.heap.size wr w' → Calls Try.prog 15 #[.agg #[.string nm, u], .agg #[.string nm, v]] w' fun e w'' => e = .returned (.bool true) ∧ Below w'.heap.size w' w'' := fun w' hb => sameDef_yes nm u v t w' ((hia k _ u ht hu).any hb) ((hib k _ v ht hv).any hb)
      obtain ⟨z1, z2, z3, hx⟩ : ∃ x1 x2 x3, u = .slice x1 x2 x3 := by
        obtain ⟨_, ⟨x1, x3, e, _⟩, _⟩ := hia k _ u ht hu
        exact ⟨_, _, _, e⟩
      obtain ⟨r1, r2, r3, hy⟩ : ∃ y1 y2 y3, v = .slice y1 y2 y3 := by
        obtain ⟨_, ⟨y1, y3, e, _⟩, _⟩ := hib k _ v ht hv
        exact ⟨_, _, _, e⟩
      subst hx hy
      have kk0 : (0 : Int) ≤ (k : Int) := by omega
      have kk1 : (k : Int) < (l.length : Int) := by omega
      clear ca cb ht hg1 hg2 hu hv hca hcb hla hlb hia hib x1 y1 i0 i1 j0 j1
      go_wp2
      go_region_with (first | (go_at_call 15; refine (SI _ ?_).mono ?_; exact (Below.refl _ _).drew; rintro e w2 ⟨rfl, hb2⟩))
      all_goals go_wp2
      all_goals
        go_roundw
        case rel => exact ⟨k + 1, by omega, by go_num, HW.out.trans (((Below.refl _ _).drew.trans (hb2.mono (Nat.le_refl _))).mono HW.out.size)⟩
        case measure => simp [intOf]; omega
    · obtain rfl : k = l.length := by omega
      go_wp2
      go_ret
      exact ⟨rfl, B0.out.trans (HW.out.mono B0.out.size)⟩
end Go.Proofs.Ytdlpmefdeeokhaa
