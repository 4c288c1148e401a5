import Derived.Test.YtopnhbgialbicaaGramMem
import Derived.Test.YtopnhbgialbicaaLexTokens
/- Two of the same grammar: held against one another. -/
namespace Go.Proofs.Ytopnhbgialbicaa
set_option linter.unusedVariables false
open Go.ChangeShapes Go.WideShapes Go.ChangeAt Go.RowKit

theorem Try.eqSym (a c d : Int) (w : World) : (Op.equalIn 10000 47 (.agg #[.int .i64 a, .int .i64 c, .int .i64 d]) (.agg #[.int .i64 a, .int .i64 c, .int .i64 d])).run Try.prog w = .ok true w := by
  have u3 := Try.underlying3
  have a3 := Try.isAgg3
  have z3 := Try.sizeOf3
  have F : (Try.prog.fieldsOf 47).toList.map (fun f => (f.name, f.type, f.offset)) = [("Name", 3, 0), ("Lo", 3, 1), ("Hi", 3, 2)] := by kernel_rfl
  rw [show (10000 : Nat) = 9999 + 1 from rfl, run_equalIn_agg w 9999 _ _ _ (by kernel_rfl) (by kernel_rfl)]
  generalize (Try.prog.fieldsOf 47).toList = fs at F
  have hl : fs.length = 3 := by simpa using congrArg List.length F
  match fs, hl, F with
  | [f0, f1, f2], _, F =>
    simp at F
    obtain ⟨⟨n0, t0, o0⟩, ⟨n1, t1, o1⟩, ⟨n2, t2, o2⟩⟩ := F
    simp only [Op.eqFields, n0, t0, o0, n1, t1, o1, n2, t2, o2]
    go_simp
set_option maxHeartbeats 2000000 in
theorem sameSyms_yes (va vb : Value) (l : List Sy) (w : World) {Fa Fb : Nat → Prop} (ha : IsSys w Fa va l) (hb : IsSys w Fb vb l) :
    Calls Try.prog 37 #[va, vb] w fun e w' => e = .returned (.bool true) ∧ ∃ n, w' = w.drewN n := by
  obtain ⟨p, cp, rfl, hm, hca⟩ := ha
  obtain ⟨q, cq, rfl, -, hcb⟩ := hb
  replace hm := hm.1
  unfold maxLen at hm
  have HA : Hid (0 < l.length → ∃ g o, p = some ⟨g, o, none⟩ ∧ Fa g ∧ g < w.heap.size ∧ (∀ j c, (sysV l)[j]? = some c → w.cell? ⟨g, o + j, none⟩ = some c) ∧ ∀ j, j < ((sysV l)).length → w.frozen? ⟨g, o + j, none⟩ = false) := hca
  have HB : Hid (0 < l.length → ∃ g o, q = some ⟨g, o, none⟩ ∧ Fb g ∧ g < w.heap.size ∧ (∀ j c, (sysV l)[j]? = some c → w.cell? ⟨g, o + j, none⟩ = some c) ∧ ∀ j, j < ((sysV l)).length → w.frozen? ⟨g, o + j, none⟩ = false) := hcb
  clear hca hcb
  go_enter Try.func37, Try.ntmps37
  go_wp2
  go_loopw [5] (fun i wr => ∃ k n : Nat, k ≤ l.length ∧ i = .int .i64 k ∧ wr = w.drewN n) (fun i _ => l.length - (intOf i).toNat)
  case atStart => exact ⟨0, 0, by omega, rfl, rfl⟩
  case round =>
    obtain ⟨k, n, hk, rfl, rfl⟩ := hrel
    by_cases hlt : k < l.length
    · obtain ⟨t, ht⟩ : ∃ t, l[k]? = some t := ⟨_, List.getElem?_eq_getElem hlt⟩
      obtain ⟨g1, o1, hp, -, hg1, ca, -⟩ := HA.out (by omega)
      obtain ⟨g2, o2, hq, -, hg2, cb, -⟩ := HB.out (by omega)
      subst hp hq
      obtain ⟨i0, i1, i2⟩ := sysV_at l k t ht
      have a0 := ca _ _ i0
      have a1 := reas (ca _ _ i1)
      have a2 := reas (ca _ _ i2)
      have b0 := cb _ _ i0
      have b1 := reas (cb _ _ i1)
      have b2 := reas (cb _ _ i2)
      have heq := Try.eqSym
      generalize t.name = x0 at a0 b0
      generalize t.lo = x2 at a1 b1
      generalize t.hi = x3 at a2 b2
      clear ca cb ht hg1 hg2 i0 i1 i2
      go_wp2
      go_quiet (fail)
      go_wp2
      go_roundw
      case rel => exact ⟨k + 1, _, by omega, by go_num, rfl⟩
      case measure => simp [intOf]; omega
    · obtain rfl : k = l.length := by omega
      go_wp2
      go_ret
      exact ⟨rfl, _, rfl⟩

set_option maxRecDepth 100000 in
set_option maxHeartbeats 4000000 in
theorem sameRule_yes (h : Int) (va vb : Value) (l : List Cn) (w : World) {Fa Fb : Nat → Prop} (ha : IsCns w Fa va l) (hb : IsCns w Fb vb l) :
    Calls Try.prog 24 #[.agg #[.int .i64 h, va], .agg #[.int .i64 h, vb]] w fun e w' => e = .returned (.bool true) ∧ Below w.heap.size w w' := by
  obtain ⟨us, ⟨p, cp, rfl, hm, hca⟩, hla, hia⟩ := id ha
  obtain ⟨vs, ⟨q, cq, rfl, -, hcb⟩, hlb, hib⟩ := id hb
  replace hm := hm.1
  unfold maxLen at hm
  have HA : Hid (IsCns w Fa (.slice p l.length cp) l) := ha
  have HB : Hid (IsCns w Fb (.slice q l.length cq) l) := hb
  clear hca hcb hla hia hlb hib ha hb
  go_enter Try.func24, Try.ntmps24
  go_wp2
  have B0 : Hid (Below w.heap.size w ((w.alloc (.cells #[.int .i64 h, .slice p l.length cp] 53)).alloc (.cells #[.int .i64 h, .slice q l.length cq] 53))) := bel2 w _ _
  have HA0 : Hid (IsCns ((w.alloc (.cells #[.int .i64 h, .slice p l.length cp] 53)).alloc (.cells #[.int .i64 h, .slice q l.length cq] 53)) Fa (.slice p l.length cp) l) := HA.out.any B0.out
  have HB0 : Hid (IsCns ((w.alloc (.cells #[.int .i64 h, .slice p l.length cp] 53)).alloc (.cells #[.int .i64 h, .slice q l.length cq] 53)) Fb (.slice q l.length cq) l) := HB.out.any B0.out
  have x1 : ((w.alloc (.cells #[.int .i64 h, .slice p l.length cp] 53)).alloc (.cells #[.int .i64 h, .slice q l.length cq] 53)).cell? ⟨w.heap.size, 1, none⟩ = some (.slice p l.length cp) := (World.cell?_alloc_past _ _ _ (by simp)).trans (World.cell?_alloc_at _ _ _ _ rfl)
  have y1 : ((w.alloc (.cells #[.int .i64 h, .slice p l.length cp] 53)).alloc (.cells #[.int .i64 h, .slice q l.length cq] 53)).cell? ⟨w.heap.size + 1, 1, none⟩ = some (.slice q l.length cq) := World.cell?_alloc_at _ _ _ _ (by simp)
  generalize (w.alloc (.cells #[.int .i64 h, .slice p l.length cp] 53)).alloc (.cells #[.int .i64 h, .slice q l.length cq] 53) = W0 at B0 HA0 HB0 x1 y1 ⊢
  clear HA HB
  go_loopw [5] (fun i wr => ∃ k n : Nat, k ≤ l.length ∧ i = .int .i64 k ∧ wr = W0.drewN n) (fun i _ => l.length - (intOf i).toNat)
  case atStart => exact ⟨0, 0, by omega, rfl, rfl⟩
  case round =>
    obtain ⟨k, n, hk, rfl, hwr⟩ := hrel
    have HWR : Hid (wr = W0.drewN n) := hwr
    have hcl : ∀ a, wr.cell? a = W0.cell? a := fun a => by rw [hwr]; rfl
    have hbw : Below W0.heap.size W0 wr := by rw [hwr]; exact drewN_below W0 n
    have x1' := (hcl _).trans x1
    have y1' := (hcl _).trans y1
    clear hwr
    by_cases hlt : k < l.length
    · obtain ⟨us, ⟨p', cp', e1, -, hca⟩, hla, hia⟩ := id HA0.out
      obtain ⟨vs, ⟨q', cq', e2, -, hcb⟩, hlb, hib⟩ := id HB0.out
      injection e1 with e1 _ e1c
      injection e2 with e2 _ e2c
      subst e1 e2 e1c e2c
      obtain ⟨t, ht⟩ : ∃ t, l[k]? = some t := ⟨_, List.getElem?_eq_getElem hlt⟩
      obtain ⟨u, hu⟩ : ∃ u, us[k]? = some u := ⟨_, List.getElem?_eq_getElem (by rw [hla]; exact hlt)⟩
      obtain ⟨v, hv⟩ : ∃ v, vs[k]? = some v := ⟨_, List.getElem?_eq_getElem (by rw [hlb]; exact hlt)⟩
      obtain ⟨g1, o1, hp, -, hg1, ca, -⟩ := hca (by omega)
      obtain ⟨g2, o2, hq, -, hg2, cb, -⟩ := hcb (by omega)
      subst hp hq
      obtain ⟨i0, i1⟩ := cnsV_at l us k t u ht hu
      obtain ⟨j0, j1⟩ := cnsV_at l vs k t v ht hv
      have a0 := (hcl _).trans (ca _ _ i0)
      have a1 := (hcl _).trans (reas (ca _ _ i1))
      have b0 := (hcl _).trans (cb _ _ j0)
      have b1 := (hcl _).trans (reas (cb _ _ j1))
      have SI : ∀ m, Calls Try.prog 37 #[u, v] (wr.drewN m) fun e w' => e = .returned (.bool true) ∧ ∃ n, w' = (wr.drewN m).drewN n := fun m => sameSyms_yes u v t.seq (wr.drewN m) (((hia k t u ht hu).any hbw).any (drewN_below wr m)) (((hib k t v ht hv).any hbw).any (drewN_below wr m))
      obtain ⟨z1, z2, z3, hx⟩ : ∃ x1 x2 x3, u = .slice x1 x2 x3 := by
        obtain ⟨x1, x3, e, _⟩ := hia k t u ht hu
        exact ⟨_, _, _, e⟩
      obtain ⟨r1, r2, r3, hy⟩ : ∃ y1 y2 y3, v = .slice y1 y2 y3 := by
        obtain ⟨y1, y3, e, _⟩ := hib k t v ht hv
        exact ⟨_, _, _, e⟩
      subst hx hy
      generalize t.neg = b at a0 b0
      clear ca cb ht hg1 hg2 hu hv hcl hbw hca hcb hla hlb hia hib x1 y1 i0 i1 j0 j1
      cases b
      all_goals
        go_wp2
        go_quiet ((go_at_call 37; exact Calls.quiet_of (SI _)))
        go_wp2
        go_roundw
        case rel => exact ⟨k + 1, _, by omega, by go_num, by rw [HWR.out, World.drewN_drewN]⟩
        case measure => simp [intOf]; omega
    · obtain rfl : k = l.length := by omega
      go_wp2
      go_ret
      exact ⟨rfl, by rw [HWR.out]; exact below_drewN B0.out _⟩

set_option maxRecDepth 100000 in
set_option maxHeartbeats 4000000 in
theorem sameGram_yes (g : Gr) (a1 a2 b1 b2 : Value) (w : World) {Fa Fb : Nat → Prop} (ha : GrIs w Fa a1 a2 g) (hb : GrIs w Fb b1 b2 g) :
    Calls Try.prog 9 #[.agg #[.int .i64 g.start, a1, a2], .agg #[.int .i64 g.start, b1, b2]] w fun e w' => e = .returned (.bool true) ∧ Below w.heap.size w w' := by
  obtain ⟨st, names, l⟩ := g
  obtain ⟨ha1, ha⟩ := ha
  obtain ⟨hb1, hb⟩ := hb
  simp only at ha1 ha hb1 hb
  obtain ⟨us, ⟨p, cp, rfl, hm, -⟩, -⟩ := id ha
  obtain ⟨vs, ⟨q, cq, rfl, -, -⟩, -⟩ := id hb
  obtain ⟨p0, cp0, rfl, -, -⟩ := id ha1
  obtain ⟨q0, cq0, rfl, -, -⟩ := id hb1
  replace hm := hm.1
  unfold maxLen at hm
  have HA : Hid (IsRus w Fa (.slice p l.length cp) l) := ha
  have HB : Hid (IsRus w Fb (.slice q l.length cq) l) := hb
  have ST : ∀ o o', Calls Try.prog 23 #[.slice p0 names.length cp0, .slice q0 names.length cq0] ((w.alloc o).alloc o') fun e w' => e = .returned (.bool true) ∧ Below ((w.alloc o).alloc o').heap.size ((w.alloc o).alloc o') w' := fun o o' => (sameTexts_yes _ _ names ((w.alloc o).alloc o') (ha1.any (bel2 w o o')) (hb1.any (bel2 w o o'))).mono (by
    rintro e w1 ⟨rfl, n, rfl⟩
    exact ⟨rfl, drewN_below _ _⟩)
  clear ha1 ha hb1 hb
  go_enter Try.func9, Try.ntmps9
  go_wp2_with (go_at_call 23; refine (ST _ _).mono ?_; rintro e w1 ⟨rfl, hb1⟩; obtain ⟨q1, q2, hs1, hbw⟩ := box2_cells hb1; have x1 : w1.cell? ⟨w.heap.size, 2, none⟩ = some (.slice p l.length cp) := q1 2; have y1 : w1.cell? ⟨w.heap.size + 1, 2, none⟩ = some (.slice q l.length cq) := q2 2; have B0 : Hid (Below w.heap.size w w1) := hbw; clear hb1 q1 q2 hbw)
  have HA0 : Hid (IsRus w1 Fa (.slice p l.length cp) l) := HA.out.any B0.out
  have HB0 : Hid (IsRus w1 Fb (.slice q l.length cq) l) := HB.out.any B0.out
  clear HA HB ST
  go_loopw [5] (fun i wr => ∃ k : Nat, k ≤ l.length ∧ i = .int .i64 k ∧ Below w1.heap.size w1 wr) (fun i _ => l.length - (intOf i).toNat)
  case atStart => exact ⟨0, by omega, rfl, Below.refl _ _⟩
  case round =>
    obtain ⟨k, hk, rfl, hW⟩ := hrel
    have HW : Hid (Below w1.heap.size w1 wr) := hW
    have x1' := (hW.cell (p := ⟨w.heap.size, 2, none⟩) (by show w.heap.size < _; omega)).trans x1
    have y1' := (hW.cell (p := ⟨w.heap.size + 1, 2, none⟩) hs1).trans y1
    by_cases hlt : k < l.length
    · obtain ⟨us, ⟨p', cp', e1, -, hca⟩, hla, hia⟩ := HA0.out.any hW
      obtain ⟨vs, ⟨q', cq', e2, -, hcb⟩, hlb, hib⟩ := HB0.out.any hW
      injection e1 with e1 _ e1c
      injection e2 with e2 _ e2c
      subst e1 e2 e1c e2c
      obtain ⟨⟨nm, t⟩, ht⟩ : ∃ t, l[k]? = some t := ⟨_, List.getElem?_eq_getElem hlt⟩
      obtain ⟨u, hu⟩ : ∃ u, us[k]? = some u := ⟨_, List.getElem?_eq_getElem (by rw [hla]; exact hlt)⟩
      obtain ⟨v, hv⟩ : ∃ v, vs[k]? = some v := ⟨_, List.getElem?_eq_getElem (by rw [hlb]; exact hlt)⟩
      obtain ⟨g1, o1, hp, -, hg1, ca, -⟩ := hca (by omega)
      obtain ⟨g2, o2, hq, -, hg2, cb, -⟩ := hcb (by omega)
      subst hp hq
      obtain ⟨i0, i1⟩ := rusV_at l us k _ u ht hu
      obtain ⟨j0, j1⟩ := rusV_at l vs k _ v ht hv
      have a0 := ca _ _ i0
      have a1 := reas (ca _ _ i1)
      have b0 := cb _ _ j0
      have b1 := reas (cb _ _ j1)
      simp only at a0 b0
      have SI : ∀ w', Below wr.heap.size wr w' → Calls Try.prog 24 #[.agg #[.int .i64 nm, u], .agg #[.int .i64 nm, v]] w' fun e w'' => e = .returned (.bool true) ∧ Below w'.heap.size w' w'' := fun w' hb => sameRule_yes nm u v t w' ((hia k _ u ht hu).any hb) ((hib k _ v ht hv).any hb)
      obtain ⟨z1, z2, z3, hx⟩ : ∃ x1 x2 x3, u = .slice x1 x2 x3 := by
        obtain ⟨_, ⟨x1, x3, e, _⟩, _⟩ := hia k _ u ht hu
        exact ⟨_, _, _, e⟩
      obtain ⟨r1, r2, r3, hy⟩ : ∃ y1 y2 y3, v = .slice y1 y2 y3 := by
        obtain ⟨_, ⟨y1, y3, e, _⟩, _⟩ := hib k _ v ht hv
        exact ⟨_, _, _, e⟩
      subst hx hy
      have kk0 : (0 : Int) ≤ (k : Int) := by omega
      have kk1 : (k : Int) < (l.length : Int) := by omega
      clear ca cb ht hg1 hg2 hu hv hca hcb hla hlb hia hib x1 y1 i0 i1 j0 j1
      go_wp2
      go_region_with (first | (go_at_call 24; refine (SI _ ?_).mono ?_; exact (Below.refl _ _).drew; rintro e w2 ⟨rfl, hb2⟩))
      all_goals go_wp2
      all_goals
        go_roundw
        case rel => exact ⟨k + 1, by omega, by go_num, HW.out.trans (((Below.refl _ _).drew.trans (hb2.mono (Nat.le_refl _))).mono HW.out.size)⟩
        case measure => simp [intOf]; omega
    · obtain rfl : k = l.length := by omega
      go_wp2
      go_ret
      exact ⟨rfl, B0.out.trans (HW.out.mono B0.out.size)⟩
end Go.Proofs.Ytopnhbgialbicaa
/- Two grammars that are not the same: held against one another. -/
namespace Go.Proofs.Ytopnhbgialbicaa
set_option linter.unusedVariables false
open Go.ChangeShapes Go.WideShapes Go.ChangeAt Go.RowKit

theorem first_diff {α : Type} : ∀ (l m : List α), l.length = m.length → l ≠ m → ∃ (k : Nat) (a b : α), l[k]? = some a ∧ m[k]? = some b ∧ a ≠ b ∧ ∀ i, i < k → l[i]? = m[i]?
  | [], [], _, h => absurd rfl h
  | [], _ :: _, h, _ => by simp at h
  | _ :: _, [], h, _ => by simp at h
  | a :: l, b :: m, hl, hne => by
    by_cases e : a = b
    · subst e
      obtain ⟨k, x, y, h1, h2, h3, h4⟩ := first_diff l m (by simpa using hl) (fun e => hne (by rw [e]))
      refine ⟨k + 1, x, y, by simpa using h1, by simpa using h2, h3, fun i hi => ?_⟩
      match i, hi with
      | 0, _ => rfl
      | i + 1, hi => simpa using h4 i (by omega)
    · exact ⟨0, a, b, rfl, rfl, e, fun i hi => by omega⟩
theorem ba_ne {s t : ByteArray} (h : s ≠ t) : ¬ s.toList = t.toList := fun e => h (ba_inj e)
set_option maxHeartbeats 4000000 in
theorem sameTexts_no (va vb : Value) (l m : List ByteArray) (w : World) {Fa Fb : Nat → Prop} (ha : IsTexts w Fa va l) (hb : IsTexts w Fb vb m) (hne : l ≠ m) :
    Calls Try.prog 23 #[va, vb] w fun e w' => e = .returned (.bool false) ∧ ∃ n, w' = w.drewN n := by
  obtain ⟨p, cp, rfl, hm, hca⟩ := ha
  obtain ⟨q, cq, rfl, hm', hcb⟩ := hb
  replace hm := hm.1
  replace hm' := hm'.1
  unfold maxLen at hm hm'
  by_cases hlen : l.length = m.length
  · obtain ⟨k0, x, y, hx, hy, hxy, hpre⟩ := first_diff l m hlen hne
    have hk0 : k0 < l.length := (List.getElem?_eq_some_iff.1 hx).1
    have HA : Hid (0 < l.length → ∃ g o, p = some ⟨g, o, none⟩ ∧ Fa g ∧ g < w.heap.size ∧ (∀ j c, (txV l)[j]? = some c → w.cell? ⟨g, o + j, none⟩ = some c) ∧ ∀ j, j < ((txV l)).length → w.frozen? ⟨g, o + j, none⟩ = false) := hca
    have HB : Hid (0 < m.length → ∃ g o, q = some ⟨g, o, none⟩ ∧ Fb g ∧ g < w.heap.size ∧ (∀ j c, (txV m)[j]? = some c → w.cell? ⟨g, o + j, none⟩ = some c) ∧ ∀ j, j < ((txV m)).length → w.frozen? ⟨g, o + j, none⟩ = false) := hcb
    have HP : Hid (∀ i, i < k0 → l[i]? = m[i]?) := hpre
    have HX : Hid (l[k0]? = some x ∧ m[k0]? = some y ∧ ¬ x.toList = y.toList) := ⟨hx, hy, ba_ne hxy⟩
    have HL : Hid (l.length = m.length) := hlen
    rw [← hlen]
    rw [← hlen] at hm' HB
    clear hca hcb hx hy hxy hpre hne hlen
    go_enter Try.func23, Try.ntmps23
    go_wp2
    go_loopw [5] (fun i wr => ∃ k n : Nat, k ≤ k0 ∧ i = .int .i64 k ∧ wr = w.drewN n) (fun i _ => l.length - (intOf i).toNat)
    case atStart => exact ⟨0, 0, by omega, rfl, rfl⟩
    case round =>
      obtain ⟨k, n, hk, rfl, rfl⟩ := hrel
      have hlt : k < l.length := by omega
      obtain ⟨g1, o1, hp, -, hg1, ca, -⟩ := HA.out (by omega)
      obtain ⟨g2, o2, hq, -, hg2, cb, -⟩ := HB.out (by omega)
      subst hp hq
      by_cases hlk : k < k0
      · obtain ⟨t, ht⟩ : ∃ t, l[k]? = some t := ⟨_, List.getElem?_eq_getElem hlt⟩
        have ht2 := ht
        rw [HP.out k hlk] at ht2
        have a0 := ca k (.string t) (by simp [txV, ht])
        have b0 := cb k (.string t) (by simp [txV, ht2])
        clear ca cb ht hg1 hg2 ht2
        go_wp2
        go_quiet (fail)
        go_wp2
        go_roundw
        case rel => exact ⟨k + 1, _, by omega, by go_num, rfl⟩
        case measure => simp [intOf]; omega
      · obtain rfl : k = k0 := by omega
        have a0 := ca k (.string x) (by simp [txV, HX.out.1])
        have b0 := cb k (.string y) (by simp [txV, HX.out.2.1])
        have hne := HX.out.2.2
        have hne' : (x.toList == y.toList) = false := by rw [beq_eq_false_iff_ne]; exact hne
        clear ca cb hg1 hg2
        go_wp2
        go_quiet (fail)
        go_wp2
        go_ret
        exact ⟨rfl, _, by rw [World.drewN_drewN]⟩
  · have hb : ((l.length : Int) != (m.length : Int)) = true := by rw [bne_iff_ne]; omega
    clear hca hcb hne
    go_enter Try.func23, Try.ntmps23
    go_wp2
    go_ret
    exact ⟨rfl, 0, rfl⟩
theorem Try.neSym (a c d a' c' d' : Int) (h : ¬ (a = a' ∧ c = c' ∧ d = d')) (w : World) : (Op.equalIn 10000 47 (.agg #[.int .i64 a, .int .i64 c, .int .i64 d]) (.agg #[.int .i64 a', .int .i64 c', .int .i64 d'])).run Try.prog w = .ok false w := by
  have u3 := Try.underlying3
  have a3 := Try.isAgg3
  have z3 := Try.sizeOf3
  have F : (Try.prog.fieldsOf 47).toList.map (fun f => (f.name, f.type, f.offset)) = [("Name", 3, 0), ("Lo", 3, 1), ("Hi", 3, 2)] := by kernel_rfl
  rw [show (10000 : Nat) = 9999 + 1 from rfl, run_equalIn_agg w 9999 _ _ _ (by kernel_rfl) (by kernel_rfl)]
  generalize (Try.prog.fieldsOf 47).toList = fs at F
  have hl : fs.length = 3 := by simpa using congrArg List.length F
  match fs, hl, F with
  | [f0, f1, f2], _, F =>
    simp at F
    obtain ⟨⟨n0, t0, o0⟩, ⟨n1, t1, o1⟩, ⟨n2, t2, o2⟩⟩ := F
    simp only [Op.eqFields, n0, t0, o0, n1, t1, o1, n2, t2, o2]
    by_cases e1 : a = a'
    · subst e1
      by_cases e2 : c = c'
      · subst e2
        have e3 : ¬ d = d' := fun e => h ⟨rfl, rfl, e⟩
        have e3' : (d == d') = false := by rw [beq_eq_false_iff_ne]; exact e3
        clear h
        go_simp
      · have e2' : (c == c') = false := by rw [beq_eq_false_iff_ne]; exact e2
        clear h
        go_simp
    · have e1' : (a == a') = false := by rw [beq_eq_false_iff_ne]; exact e1
      clear h
      go_simp
set_option maxHeartbeats 4000000 in
theorem sameSyms_no (va vb : Value) (l m : List Sy) (w : World) {Fa Fb : Nat → Prop} (ha : IsSys w Fa va l) (hb : IsSys w Fb vb m) (hne : l ≠ m) :
    Calls Try.prog 37 #[va, vb] w fun e w' => e = .returned (.bool false) ∧ ∃ n, w' = w.drewN n := by
  obtain ⟨p, cp, rfl, hm, hca⟩ := ha
  obtain ⟨q, cq, rfl, hm', hcb⟩ := hb
  replace hm := hm.1
  replace hm' := hm'.1
  unfold maxLen at hm hm'
  by_cases hlen : l.length = m.length
  · obtain ⟨k0, x, y, hx, hy, hxy, hpre⟩ := first_diff l m hlen hne
    have hk0 : k0 < l.length := (List.getElem?_eq_some_iff.1 hx).1
    have HA : Hid (0 < l.length → ∃ g o, p = some ⟨g, o, none⟩ ∧ Fa g ∧ g < w.heap.size ∧ (∀ j c, (sysV l)[j]? = some c → w.cell? ⟨g, o + j, none⟩ = some c) ∧ ∀ j, j < (sysV l).length → w.frozen? ⟨g, o + j, none⟩ = false) := hca
    have HB : Hid (0 < m.length → ∃ g o, q = some ⟨g, o, none⟩ ∧ Fb g ∧ g < w.heap.size ∧ (∀ j c, (sysV m)[j]? = some c → w.cell? ⟨g, o + j, none⟩ = some c) ∧ ∀ j, j < (sysV m).length → w.frozen? ⟨g, o + j, none⟩ = false) := hcb
    have HP : Hid (∀ i, i < k0 → l[i]? = m[i]?) := hpre
    have HX : Hid (l[k0]? = some x ∧ m[k0]? = some y ∧ ¬ (x.name = y.name ∧ x.lo = y.lo ∧ x.hi = y.hi)) := ⟨hx, hy, fun h => hxy (by obtain ⟨a, b, c⟩ := x; obtain ⟨d, e, f⟩ := y; obtain ⟨h1, h2, h3⟩ := h; simp only at h1 h2 h3; subst h1 h2 h3; rfl)⟩
    rw [← hlen]
    rw [← hlen] at hm' HB
    clear hca hcb hx hy hxy hpre hne hlen
    go_enter Try.func37, Try.ntmps37
    go_wp2
    go_loopw [5] (fun i wr => ∃ k n : Nat, k ≤ k0 ∧ i = .int .i64 k ∧ wr = w.drewN n) (fun i _ => l.length - (intOf i).toNat)
    case atStart => exact ⟨0, 0, by omega, rfl, rfl⟩
    case round =>
      obtain ⟨k, n, hk, rfl, rfl⟩ := hrel
      have hlt : k < l.length := by omega
      obtain ⟨g1, o1, hp, -, hg1, ca, -⟩ := HA.out (by omega)
      obtain ⟨g2, o2, hq, -, hg2, cb, -⟩ := HB.out (by omega)
      subst hp hq
      by_cases hlk : k < k0
      · obtain ⟨t, ht⟩ : ∃ t, l[k]? = some t := ⟨_, List.getElem?_eq_getElem hlt⟩
        have ht2 := ht
        rw [HP.out k hlk] at ht2
        obtain ⟨i0, i1, i2⟩ := sysV_at l k t ht
        obtain ⟨j0, j1, j2⟩ := sysV_at m k t ht2
        have a0 := ca _ _ i0
        have a1 := reas (ca _ _ i1)
        have a2 := reas (ca _ _ i2)
        have b0 := cb _ _ j0
        have b1 := reas (cb _ _ j1)
        have b2 := reas (cb _ _ j2)
        have heq := Try.eqSym
        generalize t.name = x0 at a0 b0
        generalize t.lo = x2 at a1 b1
        generalize t.hi = x3 at a2 b2
        clear ca cb ht ht2 hg1 hg2 i0 i1 i2 j0 j1 j2
        go_wp2
        go_quiet (fail)
        go_wp2
        go_roundw
        case rel => exact ⟨k + 1, _, by omega, by go_num, rfl⟩
        case measure => simp [intOf]; omega
      · obtain rfl : k = k0 := by omega
        obtain ⟨i0, i1, i2⟩ := sysV_at l k x HX.out.1
        obtain ⟨j0, j1, j2⟩ := sysV_at m k y HX.out.2.1
        have a0 := ca _ _ i0
        have a1 := reas (ca _ _ i1)
        have a2 := reas (ca _ _ i2)
        have b0 := cb _ _ j0
        have b1 := reas (cb _ _ j1)
        have b2 := reas (cb _ _ j2)
        have heq := Try.neSym x.name x.lo x.hi y.name y.lo y.hi HX.out.2.2
        generalize x.name = x0 at a0 heq
        generalize x.lo = x2 at a1 heq
        generalize x.hi = x3 at a2 heq
        generalize y.name = y0 at b0 heq
        generalize y.lo = y2 at b1 heq
        generalize y.hi = y3 at b2 heq
        clear ca cb hg1 hg2 i0 i1 i2 j0 j1 j2
        go_wp2
        go_quiet (fail)
        go_wp2
        go_ret
        exact ⟨rfl, _, by rw [World.drewN_drewN]⟩
  · have hb : ((l.length : Int) != (m.length : Int)) = true := by rw [bne_iff_ne]; omega
    clear hca hcb hne
    go_enter Try.func37, Try.ntmps37
    go_wp2
    go_ret
    exact ⟨rfl, 0, rfl⟩
set_option maxRecDepth 100000 in
set_option maxHeartbeats 8000000 in
theorem sameRule_no (h h' : Int) (va vb : Value) (l m : List Cn) (w : World) {Fa Fb : Nat → Prop} (ha : IsCns w Fa va l) (hb : IsCns w Fb vb m) (hne : ¬ (h = h' ∧ l = m)) :
    Calls Try.prog 24 #[.agg #[.int .i64 h, va], .agg #[.int .i64 h', vb]] w fun e w' => e = .returned (.bool false) ∧ Below w.heap.size w w' := by
  obtain ⟨us, ⟨p, cp, rfl, hm, hca⟩, hla, hia⟩ := id ha
  obtain ⟨vs, ⟨q, cq, rfl, hm', hcb⟩, hlb, hib⟩ := id hb
  replace hm := hm.1
  replace hm' := hm'.1
  unfold maxLen at hm hm'
  by_cases eh : h = h'
  · subst eh
    by_cases hlen : l.length = m.length
    · have hne' : l ≠ m := fun e => hne ⟨rfl, e⟩
      obtain ⟨k0, x, y, hx, hy, hxy, hpre⟩ := first_diff l m hlen hne'
      have hk0 : k0 < l.length := (List.getElem?_eq_some_iff.1 hx).1
      have HA : Hid (IsCns w Fa (.slice p l.length cp) l) := ha
      have HB : Hid (IsCns w Fb (.slice q m.length cq) m) := hb
      have HP : Hid (∀ i, i < k0 → l[i]? = m[i]?) := hpre
      have HX : Hid (l[k0]? = some x ∧ m[k0]? = some y ∧ x ≠ y) := ⟨hx, hy, hxy⟩
      have HL : Hid (l.length = m.length) := hlen
      rw [← hlen]
      rw [← hlen] at hm' HB
      clear hca hcb hla hia hlb hib ha hb hx hy hxy hpre hne hne' hlen
      go_enter Try.func24, Try.ntmps24
      go_wp2
      have B0 : Hid (Below w.heap.size w ((w.alloc (.cells #[.int .i64 h, .slice p l.length cp] 53)).alloc (.cells #[.int .i64 h, .slice q l.length cq] 53))) := bel2 w _ _
      have HA0 : Hid (IsCns ((w.alloc (.cells #[.int .i64 h, .slice p l.length cp] 53)).alloc (.cells #[.int .i64 h, .slice q l.length cq] 53)) Fa (.slice p l.length cp) l) := HA.out.any B0.out
      have HB0 : Hid (IsCns ((w.alloc (.cells #[.int .i64 h, .slice p l.length cp] 53)).alloc (.cells #[.int .i64 h, .slice q l.length cq] 53)) Fb (.slice q l.length cq) m) := HB.out.any B0.out
      have x1 : ((w.alloc (.cells #[.int .i64 h, .slice p l.length cp] 53)).alloc (.cells #[.int .i64 h, .slice q l.length cq] 53)).cell? ⟨w.heap.size, 1, none⟩ = some (.slice p l.length cp) := (World.cell?_alloc_past _ _ _ (by simp)).trans (World.cell?_alloc_at _ _ _ _ rfl)
      have y1 : ((w.alloc (.cells #[.int .i64 h, .slice p l.length cp] 53)).alloc (.cells #[.int .i64 h, .slice q l.length cq] 53)).cell? ⟨w.heap.size + 1, 1, none⟩ = some (.slice q l.length cq) := World.cell?_alloc_at _ _ _ _ (by simp)
      generalize (w.alloc (.cells #[.int .i64 h, .slice p l.length cp] 53)).alloc (.cells #[.int .i64 h, .slice q l.length cq] 53) = W0 at B0 HA0 HB0 x1 y1 ⊢
      clear HA HB
      go_loopw [5] (fun i wr => ∃ k n : Nat, k ≤ k0 ∧ i = .int .i64 k ∧ wr = W0.drewN n) (fun i _ => l.length - (intOf i).toNat)
      case atStart => exact ⟨0, 0, by omega, rfl, rfl⟩
      case round =>
        obtain ⟨k, n, hk, rfl, hwr⟩ := hrel
        have HWR : Hid (wr = W0.drewN n) := hwr
        have hcl : ∀ a, wr.cell? a = W0.cell? a := fun a => by rw [hwr]; rfl
        have hbw : Below W0.heap.size W0 wr := by rw [hwr]; exact drewN_below W0 n
        have x1' := (hcl _).trans x1
        have y1' := (hcl _).trans y1
        clear hwr
        have hlt : k < l.length := by omega
        obtain ⟨us, ⟨p', cp', e1, -, hca⟩, hla, hia⟩ := id HA0.out
        obtain ⟨vs, ⟨q', cq', e2, -, hcb⟩, hlb, hib⟩ := id HB0.out
        injection e1 with e1 e1n e1c
        injection e2 with e2 e2n e2c
        subst e1 e2 e1c e2c
        clear e1n e2n
        obtain ⟨u, hu⟩ : ∃ u, us[k]? = some u := ⟨_, List.getElem?_eq_getElem (by rw [hla]; exact hlt)⟩
        obtain ⟨v, hv⟩ : ∃ v, vs[k]? = some v := ⟨_, List.getElem?_eq_getElem (by rw [hlb, ← HL.out]; exact hlt)⟩
        obtain ⟨g1, o1, hp, -, hg1, ca, -⟩ := hca (by omega)
        obtain ⟨g2, o2, hq, -, hg2, cb, -⟩ := hcb (by rw [← HL.out]; omega)
        subst hp hq
        by_cases hlk : k < k0
        · obtain ⟨t, ht⟩ : ∃ t, l[k]? = some t := ⟨_, List.getElem?_eq_getElem hlt⟩
          have ht2 := ht
          rw [HP.out k hlk] at ht2
          obtain ⟨i0, i1⟩ := cnsV_at l us k t u ht hu
          obtain ⟨j0, j1⟩ := cnsV_at m vs k t v ht2 hv
          have a0 := (hcl _).trans (ca _ _ i0)
          have a1 := (hcl _).trans (reas (ca _ _ i1))
          have b0 := (hcl _).trans (cb _ _ j0)
          have b1 := (hcl _).trans (reas (cb _ _ j1))
          have SI : ∀ m, Calls Try.prog 37 #[u, v] (wr.drewN m) fun e w' => e = .returned (.bool true) ∧ ∃ n, w' = (wr.drewN m).drewN n := fun m => sameSyms_yes u v t.seq (wr.drewN m) (((hia k t u ht hu).any hbw).any (drewN_below wr m)) (((hib k t v ht2 hv).any hbw).any (drewN_below wr m))
          obtain ⟨z1, z2, z3, hx⟩ : ∃ x1 x2 x3, u = .slice x1 x2 x3 := by
            obtain ⟨x1, x3, e, _⟩ := hia k t u ht hu
            exact ⟨_, _, _, e⟩
          obtain ⟨r1, r2, r3, hy⟩ : ∃ y1 y2 y3, v = .slice y1 y2 y3 := by
            obtain ⟨y1, y3, e, _⟩ := hib k t v ht2 hv
            exact ⟨_, _, _, e⟩
          subst hx hy
          generalize t.neg = b at a0 b0
          clear ca cb ht ht2 hg1 hg2 hu hv hcl hbw hca hcb hla hlb hia hib x1 y1 i0 i1 j0 j1 HX HP HL x y
          cases b
          all_goals
            go_wp2
            go_quiet ((go_at_call 37; exact Calls.quiet_of (SI _)))
            go_wp2
            go_roundw
            case rel => exact ⟨k + 1, _, by omega, by go_num, by rw [HWR.out, World.drewN_drewN]⟩
            case measure => simp [intOf]; omega
        · obtain rfl : k = k0 := by omega
          have hx := HX.out.1
          have hy := HX.out.2.1
          obtain ⟨i0, i1⟩ := cnsV_at l us k x u hx hu
          obtain ⟨j0, j1⟩ := cnsV_at m vs k y v hy hv
          have a0 := (hcl _).trans (ca _ _ i0)
          have a1 := (hcl _).trans (reas (ca _ _ i1))
          have b0 := (hcl _).trans (cb _ _ j0)
          have b1 := (hcl _).trans (reas (cb _ _ j1))
          obtain ⟨z1, z2, z3, hxx⟩ : ∃ x1 x2 x3, u = .slice x1 x2 x3 := by
            obtain ⟨x1, x3, e, _⟩ := hia k x u hx hu
            exact ⟨_, _, _, e⟩
          obtain ⟨r1, r2, r3, hyy⟩ : ∃ y1 y2 y3, v = .slice y1 y2 y3 := by
            obtain ⟨y1, y3, e, _⟩ := hib k y v hy hv
            exact ⟨_, _, _, e⟩
          have IX := (hia k x u hx hu).any hbw
          have IY := (hib k y v hy hv).any hbw
          have hxy := HX.out.2.2
          obtain ⟨nx, sx⟩ := x
          obtain ⟨ny, sy⟩ := y
          simp only at a0 b0 IX IY
          subst hxx hyy
          have HF : Hid (∀ n, Below w.heap.size w (wr.drewN n)) := fun n => by
            rw [HWR.out, World.drewN_drewN]; exact below_drewN B0.out _
          by_cases hn : nx = ny
          · subst hn
            have hs : sx ≠ sy := fun e => hxy (by rw [e])
            have SI : ∀ m, Calls Try.prog 37 #[.slice z1 z2 z3, .slice r1 r2 r3] (wr.drewN m) fun e w' => e = .returned (.bool false) ∧ ∃ n, w' = (wr.drewN m).drewN n := fun m => sameSyms_no _ _ sx sy (wr.drewN m) (IX.any (drewN_below wr m)) (IY.any (drewN_below wr m)) hs
            clear ca cb hx hy hg1 hg2 hu hv hcl hbw hca hcb hla hlb hia hib x1 y1 i0 i1 j0 j1 IX IY hxy hs HX
            cases nx
            all_goals
              go_wp2
              go_quiet ((go_at_call 37; exact Calls.quiet_of (SI _)))
              go_wp2
              go_ret
              exact ⟨rfl, HF.out _⟩
          · clear ca cb hx hy hg1 hg2 hu hv hcl hbw hca hcb hla hlb hia hib x1 y1 i0 i1 j0 j1 IX IY hxy HX
            cases nx <;> cases ny
            case false.false => exact absurd rfl hn
            case true.true => exact absurd rfl hn
            all_goals
              go_wp2
              go_quiet (fail)
              go_wp2
              go_ret
              exact ⟨rfl, HF.out _⟩
    · have hb : ((l.length : Int) != (m.length : Int)) = true := by rw [bne_iff_ne]; omega
      clear hca hcb hne hla hia hlb hib ha hlen
      go_enter Try.func24, Try.ntmps24
      go_wp2
      go_ret
      exact ⟨rfl, bel2 _ _ _⟩
  · have hb' : (h != h') = true := by rw [bne_iff_ne]; exact eh
    clear hca hcb hne hla hia hlb hib ha hb
    go_enter Try.func24, Try.ntmps24
    go_wp2
    go_ret
    exact ⟨rfl, bel2 _ _ _⟩
set_option maxRecDepth 100000 in
set_option maxHeartbeats 8000000 in
theorem sameGram_no (g g' : Gr) (a1 a2 b1 b2 : Value) (w : World) {Fa Fb : Nat → Prop} (ha : GrIs w Fa a1 a2 g) (hb : GrIs w Fb b1 b2 g') (hne : g ≠ g') :
    Calls Try.prog 9 #[.agg #[.int .i64 g.start, a1, a2], .agg #[.int .i64 g'.start, b1, b2]] w fun e w' => e = .returned (.bool false) ∧ Below w.heap.size w w' := by
  obtain ⟨st, names, l⟩ := g
  obtain ⟨st', names', m⟩ := g'
  obtain ⟨ha1, ha⟩ := ha
  obtain ⟨hb1, hb⟩ := hb
  simp only at ha1 ha hb1 hb
  obtain ⟨us, ⟨p, cp, rfl, hm, -⟩, -⟩ := id ha
  obtain ⟨vs, ⟨q, cq, rfl, hm', -⟩, -⟩ := id hb
  obtain ⟨p0, cp0, rfl, -, -⟩ := id ha1
  obtain ⟨q0, cq0, rfl, -, -⟩ := id hb1
  replace hm := hm.1
  replace hm' := hm'.1
  unfold maxLen at hm hm'
  show Calls Try.prog 9 #[.agg #[.int .i64 st, .slice p0 names.length cp0, .slice p l.length cp], .agg #[.int .i64 st', .slice q0 names'.length cq0, .slice q m.length cq]] w _
  by_cases es : st = st'
  · subst es
    by_cases en : names = names'
    · subst en
      have ST : ∀ o o', Calls Try.prog 23 #[.slice p0 names.length cp0, .slice q0 names.length cq0] ((w.alloc o).alloc o') fun e w' => e = .returned (.bool true) ∧ Below ((w.alloc o).alloc o').heap.size ((w.alloc o).alloc o') w' := fun o o' => (sameTexts_yes _ _ names ((w.alloc o).alloc o') (ha1.any (bel2 w o o')) (hb1.any (bel2 w o o'))).mono (by
        rintro e w1 ⟨rfl, n, rfl⟩
        exact ⟨rfl, drewN_below _ _⟩)
      by_cases hlen : l.length = m.length
      · have hne' : l ≠ m := fun e => hne (by rw [e])
        obtain ⟨k0, x, y, hx, hy, hxy, hpre⟩ := first_diff l m hlen hne'
        have hk0 : k0 < l.length := (List.getElem?_eq_some_iff.1 hx).1
        have HA : Hid (IsRus w Fa (.slice p l.length cp) l) := ha
        have HB : Hid (IsRus w Fb (.slice q m.length cq) m) := hb
        have HP : Hid (∀ i, i < k0 → l[i]? = m[i]?) := hpre
        have HX : Hid (l[k0]? = some x ∧ m[k0]? = some y ∧ x ≠ y) := ⟨hx, hy, hxy⟩
        have HL : Hid (l.length = m.length) := hlen
        rw [← hlen]
        rw [← hlen] at hm' HB
        clear ha1 ha hb1 hb hx hy hxy hpre hne hne' hlen
        go_enter Try.func9, Try.ntmps9
        go_wp2_with (go_at_call 23; refine (ST _ _).mono ?_; rintro e w1 ⟨rfl, hb1⟩; obtain ⟨q1, q2, hs1, hbw⟩ := box2_cells hb1; have x1 : w1.cell? ⟨w.heap.size, 2, none⟩ = some (.slice p l.length cp) := q1 2; have y1 : w1.cell? ⟨w.heap.size + 1, 2, none⟩ = some (.slice q l.length cq) := q2 2; have B0 : Hid (Below w.heap.size w w1) := hbw; clear hb1 q1 q2 hbw)
        have HA0 : Hid (IsRus w1 Fa (.slice p l.length cp) l) := HA.out.any B0.out
        have HB0 : Hid (IsRus w1 Fb (.slice q l.length cq) m) := HB.out.any B0.out
        clear HA HB ST
        go_loopw [5] (fun i wr => ∃ k : Nat, k ≤ k0 ∧ i = .int .i64 k ∧ Below w1.heap.size w1 wr) (fun i _ => l.length - (intOf i).toNat)
        case atStart => exact ⟨0, by omega, rfl, Below.refl _ _⟩
        case round =>
          obtain ⟨k, hk, rfl, hW⟩ := hrel
          have HW : Hid (Below w1.heap.size w1 wr) := hW
          have x1' := (hW.cell (p := ⟨w.heap.size, 2, none⟩) (by show w.heap.size < _; omega)).trans x1
          have y1' := (hW.cell (p := ⟨w.heap.size + 1, 2, none⟩) hs1).trans y1
          have hlt : k < l.length := by omega
          obtain ⟨us, ⟨p', cp', e1, -, hca⟩, hla, hia⟩ := HA0.out.any hW
          obtain ⟨vs, ⟨q', cq', e2, -, hcb⟩, hlb, hib⟩ := HB0.out.any hW
          injection e1 with e1 e1n e1c
          injection e2 with e2 e2n e2c
          subst e1 e2 e1c e2c
          clear e1n e2n
          obtain ⟨u, hu⟩ : ∃ u, us[k]? = some u := ⟨_, List.getElem?_eq_getElem (by rw [hla]; exact hlt)⟩
          obtain ⟨v, hv⟩ : ∃ v, vs[k]? = some v := ⟨_, List.getElem?_eq_getElem (by rw [hlb, ← HL.out]; exact hlt)⟩
          obtain ⟨g1, o1, hp, -, hg1, ca, -⟩ := hca (by omega)
          obtain ⟨g2, o2, hq, -, hg2, cb, -⟩ := hcb (by rw [← HL.out]; omega)
          subst hp hq
          have kk0 : (0 : Int) ≤ (k : Int) := by omega
          have kk1 : (k : Int) < (l.length : Int) := by omega
          by_cases hlk : k < k0
          · obtain ⟨⟨nm, t⟩, ht⟩ : ∃ t, l[k]? = some t := ⟨_, List.getElem?_eq_getElem hlt⟩
            have ht2 := ht
            rw [HP.out k hlk] at ht2
            obtain ⟨i0, i1⟩ := rusV_at l us k _ u ht hu
            obtain ⟨j0, j1⟩ := rusV_at m vs k _ v ht2 hv
            have a0 := ca _ _ i0
            have a1 := reas (ca _ _ i1)
            have b0 := cb _ _ j0
            have b1 := reas (cb _ _ j1)
            simp only at a0 b0
            have SI : ∀ w', Below wr.heap.size wr w' → Calls Try.prog 24 #[.agg #[.int .i64 nm, u], .agg #[.int .i64 nm, v]] w' fun e w'' => e = .returned (.bool true) ∧ Below w'.heap.size w' w'' := fun w' hb => sameRule_yes nm u v t w' ((hia k _ u ht hu).any hb) ((hib k _ v ht2 hv).any hb)
            obtain ⟨z1, z2, z3, hx⟩ : ∃ x1 x2 x3, u = .slice x1 x2 x3 := by
              obtain ⟨_, ⟨x1, x3, e, _⟩, _⟩ := hia k _ u ht hu
              exact ⟨_, _, _, e⟩
            obtain ⟨r1, r2, r3, hy⟩ : ∃ y1 y2 y3, v = .slice y1 y2 y3 := by
              obtain ⟨_, ⟨y1, y3, e, _⟩, _⟩ := hib k _ v ht2 hv
              exact ⟨_, _, _, e⟩
            subst hx hy
            clear ca cb ht ht2 hg1 hg2 hu hv hca hcb hla hlb hia hib x1 y1 i0 i1 j0 j1
            go_wp2
            go_region_with (first | (go_at_call 24; refine (SI _ ?_).mono ?_; exact (Below.refl _ _).drew; rintro e w2 ⟨rfl, hb2⟩))
            all_goals go_wp2
            all_goals
              go_roundw
              case rel => exact ⟨k + 1, by omega, by go_num, HW.out.trans (((Below.refl _ _).drew.trans (hb2.mono (Nat.le_refl _))).mono HW.out.size)⟩
              case measure => simp [intOf]; omega
          · obtain rfl : k = k0 := by omega
            obtain ⟨nx, sx⟩ := x
            obtain ⟨ny, sy⟩ := y
            have ht := HX.out.1
            have ht2 := HX.out.2.1
            have hxy := HX.out.2.2
            have hxy' : ¬ (nx = ny ∧ sx = sy) := fun h => hxy (by rw [h.1, h.2])
            obtain ⟨i0, i1⟩ := rusV_at l us k _ u ht hu
            obtain ⟨j0, j1⟩ := rusV_at m vs k _ v ht2 hv
            have a0 := ca _ _ i0
            have a1 := reas (ca _ _ i1)
            have b0 := cb _ _ j0
            have b1 := reas (cb _ _ j1)
            simp only at a0 b0
            have SI : ∀ w', Below wr.heap.size wr w' → Calls Try.prog 24 #[.agg #[.int .i64 nx, u], .agg #[.int .i64 ny, v]] w' fun e w'' => e = .returned (.bool false) ∧ Below w'.heap.size w' w'' := fun w' hb => sameRule_no nx ny u v sx sy w' ((hia k _ u ht hu).any hb) ((hib k _ v ht2 hv).any hb) hxy'
            obtain ⟨z1, z2, z3, hx⟩ : ∃ x1 x2 x3, u = .slice x1 x2 x3 := by
              obtain ⟨_, ⟨x1, x3, e, _⟩, _⟩ := hia k _ u ht hu
              exact ⟨_, _, _, e⟩
            obtain ⟨r1, r2, r3, hy⟩ : ∃ y1 y2 y3, v = .slice y1 y2 y3 := by
              obtain ⟨_, ⟨y1, y3, e, _⟩, _⟩ := hib k _ v ht2 hv
              exact ⟨_, _, _, e⟩
            subst hx hy
            have HF : Hid (∀ w2, Below wr.heap.size wr w2 → Below w.heap.size w w2) := fun w2 h => (B0.out.trans (HW.out.mono B0.out.size)).trans (h.mono (B0.out.trans (HW.out.mono B0.out.size)).size)
            clear ca cb ht ht2 hg1 hg2 hu hv hca hcb hla hlb hia hib x1 y1 i0 i1 j0 j1 hxy hxy' HX
            go_wp2
            go_region_with (first | (go_at_call 24; refine (SI _ ?_).mono ?_; exact (Below.refl _ _).drew; rintro e w2 ⟨rfl, hb2⟩))
            all_goals go_wp2
            all_goals
              go_ret
              exact ⟨rfl, HF.out _ ((Below.refl _ _).drew.trans (hb2.mono (Nat.le_refl _)))⟩
      · have hbl : ((l.length : Int) != (m.length : Int)) = true := by rw [bne_iff_ne]; omega
        clear ha1 ha hb1 hb hne
        go_enter Try.func9, Try.ntmps9
        go_wp2_with (go_at_call 23; refine (ST _ _).mono ?_; rintro e w1 ⟨rfl, hb1⟩; obtain ⟨q1, q2, hs1, hbw⟩ := box2_cells hb1; have x1 : w1.cell? ⟨w.heap.size, 2, none⟩ = some (.slice p l.length cp) := q1 2; have y1 : w1.cell? ⟨w.heap.size + 1, 2, none⟩ = some (.slice q m.length cq) := q2 2; have B0 : Hid (Below w.heap.size w w1) := hbw; clear hb1 q1 q2 hbw)
        go_ret
        exact ⟨rfl, B0.out⟩
    · have ST : ∀ o o', Calls Try.prog 23 #[.slice p0 names.length cp0, .slice q0 names'.length cq0] ((w.alloc o).alloc o') fun e w' => e = .returned (.bool false) ∧ Below ((w.alloc o).alloc o').heap.size ((w.alloc o).alloc o') w' := fun o o' => (sameTexts_no _ _ names names' ((w.alloc o).alloc o') (ha1.any (bel2 w o o')) (hb1.any (bel2 w o o')) en).mono (by
        rintro e w1 ⟨rfl, n, rfl⟩
        exact ⟨rfl, drewN_below _ _⟩)
      clear ha1 ha hb1 hb hne
      go_enter Try.func9, Try.ntmps9
      go_wp2_with (go_at_call 23; refine (ST _ _).mono ?_; rintro e w1 ⟨rfl, hb1⟩; obtain ⟨q1, q2, hs1, hbw⟩ := box2_cells hb1; have B0 : Hid (Below w.heap.size w w1) := hbw; clear hb1 q1 q2 hbw)
      go_ret
      exact ⟨rfl, B0.out⟩
  · have hb' : (st != st') = true := by rw [bne_iff_ne]; exact es
    clear ha1 ha hb1 hb hne
    go_enter Try.func9, Try.ntmps9
    go_wp2
    go_ret
    exact ⟨rfl, bel2 _ _ _⟩
end Go.Proofs.Ytopnhbgialbicaa
