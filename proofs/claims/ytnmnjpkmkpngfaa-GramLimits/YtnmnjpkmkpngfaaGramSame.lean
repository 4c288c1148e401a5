/- Two of the same grammar: held against one another. -/
import Derived.Test.YtnmnjpkmkpngfaaGramMem
import Derived.Test.YtnmnjpkmkpngfaaLexTokens
namespace Go.Proofs.Ytnmnjpkmkpngfaa
set_option linter.unusedVariables false
open Go.ChangeShapes Go.WideShapes Go.ChangeAt Go.RowKit

theorem Try.eqSym (a c d : Int) (w : World) : (Op.equalIn 10000 84 (.agg #[.int .i64 a, .int .i64 c, .int .i64 d]) (.agg #[.int .i64 a, .int .i64 c, .int .i64 d])).run Try.prog w = .ok true w := by
  have u3 := Try.underlying3
  have a3 := Try.isAgg3
  have z3 := Try.sizeOf3
  have F : (Try.prog.fieldsOf 84).toList.map (fun f => (f.name, f.type, f.offset)) = [("Name", 3, 0), ("Lo", 3, 1), ("Hi", 3, 2)] := by kernel_rfl
  rw [show (10000 : Nat) = 9999 + 1 from rfl, run_equalIn_agg w 9999 _ _ _ (by kernel_rfl) (by kernel_rfl)]
  generalize (Try.prog.fieldsOf 84).toList = fs at F
  have hl : fs.length = 3 := by simpa using congrArg List.length F
  match fs, hl, F with
  | [f0, f1, f2], _, F =>
    simp at F
    obtain ⟨⟨n0, t0, o0⟩, ⟨n1, t1, o1⟩, ⟨n2, t2, o2⟩⟩ := F
    simp only [Op.eqFields, n0, t0, o0, n1, t1, o1, n2, t2, o2]
    go_simp
set_option maxHeartbeats 2000000 in
theorem sameSyms_yes (va vb : Value) (l : List Sy) (w : World) {Fa Fb : Nat → Prop} (ha : IsSys w Fa va l) (hb : IsSys w Fb vb l) :
    Calls Try.prog 104 #[va, vb] w fun e w' => e = .returned (.bool true) ∧ ∃ n, w' = w.drewN n := by
  obtain ⟨p, cp, rfl, hm, hca⟩ := ha
  obtain ⟨q, cq, rfl, -, hcb⟩ := hb
  replace hm := hm.1
  unfold maxLen at hm
  have HA : Hid (0 < l.length → ∃ g, p = some ⟨g, 0, none⟩ ∧ Fa g ∧ g < w.heap.size ∧ (∀ j c, (sysV l)[j]? = some c → w.cell? ⟨g, j, none⟩ = some c) ∧ ∀ j, w.frozen? ⟨g, j, none⟩ = false) := hca
  have HB : Hid (0 < l.length → ∃ g, q = some ⟨g, 0, none⟩ ∧ Fb g ∧ g < w.heap.size ∧ (∀ j c, (sysV l)[j]? = some c → w.cell? ⟨g, j, none⟩ = some c) ∧ ∀ j, w.frozen? ⟨g, j, none⟩ = false) := hcb
  clear hca hcb
  go_enter Try.func104, Try.ntmps104
  go_wp2
  go_loopw [5] (fun i wr => ∃ k n : Nat, k ≤ l.length ∧ i = .int .i64 k ∧ wr = w.drewN n) (fun i _ => l.length - (intOf i).toNat)
  case atStart => exact ⟨0, 0, by omega, rfl, rfl⟩
  case round =>
    obtain ⟨k, n, hk, rfl, rfl⟩ := hrel
    by_cases hlt : k < l.length
    · obtain ⟨t, ht⟩ : ∃ t, l[k]? = some t := ⟨_, List.getElem?_eq_getElem hlt⟩
      obtain ⟨g1, hp, -, hg1, ca, -⟩ := HA.out (by omega)
      obtain ⟨g2, hq, -, hg2, cb, -⟩ := HB.out (by omega)
      subst hp hq
      obtain ⟨i0, i1, i2⟩ := sysV_at l k t ht
      have a0 := ca _ _ i0
      have a1 := ca _ _ i1
      have a2 := ca _ _ i2
      have b0 := cb _ _ i0
      have b1 := cb _ _ i1
      have b2 := cb _ _ i2
      have heq := Try.eqSym
      generalize t.name = x0 at a0 b0
      generalize t.lo = x2 at a1 b1
      generalize t.hi = x3 at a2 b2
      clear ca cb ht hg1 hg2 i0 i1 i2
      go_wp2
      go_quiet (fail)
      go_wp2
      go_roundw
      case rel => exact ⟨k + 1, _, by omega, by go_num, rfl⟩
      case measure => simp [intOf]; omega
    · obtain rfl : k = l.length := by omega
      go_wp2
      go_ret
      exact ⟨rfl, _, rfl⟩

set_option maxRecDepth 100000 in
set_option maxHeartbeats 4000000 in
theorem sameRule_yes (h : Int) (va vb : Value) (l : List Cn) (w : World) {Fa Fb : Nat → Prop} (ha : IsCns w Fa va l) (hb : IsCns w Fb vb l) :
    Calls Try.prog 69 #[.agg #[.int .i64 h, va], .agg #[.int .i64 h, vb]] w fun e w' => e = .returned (.bool true) ∧ Below w.heap.size w w' := by
  obtain ⟨us, ⟨p, cp, rfl, hm, hca⟩, hla, hia⟩ := id ha
  obtain ⟨vs, ⟨q, cq, rfl, -, hcb⟩, hlb, hib⟩ := id hb
  replace hm := hm.1
  unfold maxLen at hm
  have HA : Hid (IsCns w Fa (.slice p l.length cp) l) := ha
  have HB : Hid (IsCns w Fb (.slice q l.length cq) l) := hb
  clear hca hcb hla hia hlb hib ha hb
  go_enter Try.func69, Try.ntmps69
  go_wp2
  have B0 : Hid (Below w.heap.size w ((w.alloc (.cells #[.int .i64 h, .slice p l.length cp] 79)).alloc (.cells #[.int .i64 h, .slice q l.length cq] 79))) := bel2 w _ _
  have HA0 : Hid (IsCns ((w.alloc (.cells #[.int .i64 h, .slice p l.length cp] 79)).alloc (.cells #[.int .i64 h, .slice q l.length cq] 79)) Fa (.slice p l.length cp) l) := HA.out.any B0.out
  have HB0 : Hid (IsCns ((w.alloc (.cells #[.int .i64 h, .slice p l.length cp] 79)).alloc (.cells #[.int .i64 h, .slice q l.length cq] 79)) Fb (.slice q l.length cq) l) := HB.out.any B0.out
  have x1 : ((w.alloc (.cells #[.int .i64 h, .slice p l.length cp] 79)).alloc (.cells #[.int .i64 h, .slice q l.length cq] 79)).cell? ⟨w.heap.size, 1, none⟩ = some (.slice p l.length cp) := (World.cell?_alloc_past _ _ _ (by simp)).trans (World.cell?_alloc_at _ _ _ _ rfl)
  have y1 : ((w.alloc (.cells #[.int .i64 h, .slice p l.length cp] 79)).alloc (.cells #[.int .i64 h, .slice q l.length cq] 79)).cell? ⟨w.heap.size + 1, 1, none⟩ = some (.slice q l.length cq) := World.cell?_alloc_at _ _ _ _ (by simp)
  generalize (w.alloc (.cells #[.int .i64 h, .slice p l.length cp] 79)).alloc (.cells #[.int .i64 h, .slice q l.length cq] 79) = W0 at B0 HA0 HB0 x1 y1 ⊢
  clear HA HB
  go_loopw [5] (fun i wr => ∃ k n : Nat, k ≤ l.length ∧ i = .int .i64 k ∧ wr = W0.drewN n) (fun i _ => l.length - (intOf i).toNat)
  case atStart => exact ⟨0, 0, by omega, rfl, rfl⟩
  case round =>
    obtain ⟨k, n, hk, rfl, hwr⟩ := hrel
    have HWR : Hid (wr = W0.drewN n) := hwr
    have hcl : ∀ a, wr.cell? a = W0.cell? a := fun a => by rw [hwr]; rfl
    have hbw : Below W0.heap.size W0 wr := by rw [hwr]; exact drewN_below W0 n
    have x1' := (hcl _).trans x1
    have y1' := (hcl _).trans y1
    clear hwr
    by_cases hlt : k < l.length
    · obtain ⟨us, ⟨p', cp', e1, -, hca⟩, hla, hia⟩ := id HA0.out
      obtain ⟨vs, ⟨q', cq', e2, -, hcb⟩, hlb, hib⟩ := id HB0.out
      injection e1 with e1 _ e1c
      injection e2 with e2 _ e2c
      subst e1 e2 e1c e2c
      obtain ⟨t, ht⟩ : ∃ t, l[k]? = some t := ⟨_, List.getElem?_eq_getElem hlt⟩
      obtain ⟨u, hu⟩ : ∃ u, us[k]? = some u := ⟨_, List.getElem?_eq_getElem (by rw [hla]; exact hlt)⟩
      obtain ⟨v, hv⟩ : ∃ v, vs[k]? = some v := ⟨_, List.getElem?_eq_getElem (by rw [hlb]; exact hlt)⟩
      obtain ⟨g1, hp, -, hg1, ca, -⟩ := hca (by omega)
      obtain ⟨g2, hq, -, hg2, cb, -⟩ := hcb (by omega)
      subst hp hq
      obtain ⟨i0, i1⟩ := cnsV_at l us k t u ht hu
      obtain ⟨j0, j1⟩ := cnsV_at l vs k t v ht hv
      have a0 := (hcl _).trans (ca _ _ i0)
      have a1 := (hcl _).trans (ca _ _ i1)
      have b0 := (hcl _).trans (cb _ _ j0)
      have b1 := (hcl _).trans (cb _ _ j1)
      have SI : ∀ m, Calls Try.prog 104 #[u, v] (wr.drewN m) fun e w' => e = .returned (.bool true) ∧ ∃ n, w' = (wr.drewN m).drewN n := fun m => sameSyms_yes u v t.seq (wr.drewN m) (((hia k t u ht hu).any hbw).any (drewN_below wr m)) (((hib k t v ht hv).any hbw).any (drewN_below wr m))
      obtain ⟨z1, z2, z3, hx⟩ : ∃ x1 x2 x3, u = .slice x1 x2 x3 := by
        obtain ⟨x1, x3, e, _⟩ := hia k t u ht hu
        exact ⟨_, _, _, e⟩
      obtain ⟨r1, r2, r3, hy⟩ : ∃ y1 y2 y3, v = .slice y1 y2 y3 := by
        obtain ⟨y1, y3, e, _⟩ := hib k t v ht hv
        exact ⟨_, _, _, e⟩
      subst hx hy
      generalize t.neg = b at a0 b0
      clear ca cb ht hg1 hg2 hu hv hcl hbw hca hcb hla hlb hia hib x1 y1 i0 i1 j0 j1
      cases b
      all_goals
        go_wp2
        go_quiet ((go_at_call 104; exact Calls.quiet_of (SI _)))
        go_wp2
        go_roundw
        case rel => exact ⟨k + 1, _, by omega, by go_num, by rw [HWR.out, World.drewN_drewN]⟩
        case measure => simp [intOf]; omega
    · obtain rfl : k = l.length := by omega
      go_wp2
      go_ret
      exact ⟨rfl, by rw [HWR.out]; exact below_drewN B0.out _⟩

set_option maxRecDepth 100000 in
set_option maxHeartbeats 4000000 in
theorem sameGram_yes (g : Gr) (a1 a2 b1 b2 : Value) (w : World) {Fa Fb : Nat → Prop} (ha : GrIs w Fa a1 a2 g) (hb : GrIs w Fb b1 b2 g) :
    Calls Try.prog 37 #[.agg #[.int .i64 g.start, a1, a2], .agg #[.int .i64 g.start, b1, b2]] w fun e w' => e = .returned (.bool true) ∧ Below w.heap.size w w' := by
  obtain ⟨st, names, l⟩ := g
  obtain ⟨ha1, ha⟩ := ha
  obtain ⟨hb1, hb⟩ := hb
  simp only at ha1 ha hb1 hb
  obtain ⟨us, ⟨p, cp, rfl, hm, -⟩, -⟩ := id ha
  obtain ⟨vs, ⟨q, cq, rfl, -, -⟩, -⟩ := id hb
  obtain ⟨p0, cp0, rfl, -, -⟩ := id ha1
  obtain ⟨q0, cq0, rfl, -, -⟩ := id hb1
  replace hm := hm.1
  unfold maxLen at hm
  have HA : Hid (IsRus w Fa (.slice p l.length cp) l) := ha
  have HB : Hid (IsRus w Fb (.slice q l.length cq) l) := hb
  have ST : ∀ o o', Calls Try.prog 55 #[.slice p0 names.length cp0, .slice q0 names.length cq0] ((w.alloc o).alloc o') fun e w' => e = .returned (.bool true) ∧ Below ((w.alloc o).alloc o').heap.size ((w.alloc o).alloc o') w' := fun o o' => (sameTexts_yes _ _ names ((w.alloc o).alloc o') (ha1.any (bel2 w o o')) (hb1.any (bel2 w o o'))).mono (by
    rintro e w1 ⟨rfl, n, rfl⟩
    exact ⟨rfl, drewN_below _ _⟩)
  clear ha1 ha hb1 hb
  go_enter Try.func37, Try.ntmps37
  go_wp2_with (go_at_call 55; refine (ST _ _).mono ?_; rintro e w1 ⟨rfl, hb1⟩; obtain ⟨q1, q2, hs1, hbw⟩ := box2_cells hb1; have x1 : w1.cell? ⟨w.heap.size, 2, none⟩ = some (.slice p l.length cp) := q1 2; have y1 : w1.cell? ⟨w.heap.size + 1, 2, none⟩ = some (.slice q l.length cq) := q2 2; have B0 : Hid (Below w.heap.size w w1) := hbw; clear hb1 q1 q2 hbw)
  have HA0 : Hid (IsRus w1 Fa (.slice p l.length cp) l) := HA.out.any B0.out
  have HB0 : Hid (IsRus w1 Fb (.slice q l.length cq) l) := HB.out.any B0.out
  clear HA HB ST
  go_loopw [5] (fun i wr => ∃ k : Nat, k ≤ l.length ∧ i = .int .i64 k ∧ Below w1.heap.size w1 wr) (fun i _ => l.length - (intOf i).toNat)
  case atStart => exact ⟨0, by omega, rfl, Below.refl _ _⟩
  case round =>
    obtain ⟨k, hk, rfl, hW⟩ := hrel
    have HW : Hid (Below w1.heap.size w1 wr) := hW
    have x1' := (hW.cell (p := ⟨w.heap.size, 2, none⟩) (by show w.heap.size < _; omega)).trans x1
    have y1' := (hW.cell (p := ⟨w.heap.size + 1, 2, none⟩) hs1).trans y1
    by_cases hlt : k < l.length
    · obtain ⟨us, ⟨p', cp', e1, -, hca⟩, hla, hia⟩ := HA0.out.any hW
      obtain ⟨vs, ⟨q', cq', e2, -, hcb⟩, hlb, hib⟩ := HB0.out.any hW
      injection e1 with e1 _ e1c
      injection e2 with e2 _ e2c
      subst e1 e2 e1c e2c
      obtain ⟨⟨nm, t⟩, ht⟩ : ∃ t, l[k]? = some t := ⟨_, List.getElem?_eq_getElem hlt⟩
      obtain ⟨u, hu⟩ : ∃ u, us[k]? = some u := ⟨_, List.getElem?_eq_getElem (by rw [hla]; exact hlt)⟩
      obtain ⟨v, hv⟩ : ∃ v, vs[k]? = some v := ⟨_, List.getElem?_eq_getElem (by rw [hlb]; exact hlt)⟩
      obtain ⟨g1, hp, -, hg1, ca, -⟩ := hca (by omega)
      obtain ⟨g2, hq, -, hg2, cb, -⟩ := hcb (by omega)
      subst hp hq
      obtain ⟨i0, i1⟩ := rusV_at l us k _ u ht hu
      obtain ⟨j0, j1⟩ := rusV_at l vs k _ v ht hv
      have a0 := ca _ _ i0
      have a1 := ca _ _ i1
      have b0 := cb _ _ j0
      have b1 := cb _ _ j1
      simp only at a0 b0
      have SI : ∀ w', Below wr.heap.size wr w' → Calls Try.prog 69 #[.agg #[.int .i64 nm, u], .agg #[.int .i64 nm, v]] w' fun e w'' => e = .returned (.bool true) ∧ Below w'.heap.size w' w'' := fun w' hb => sameRule_yes nm u v t w' ((hia k _ u ht hu).any hb) ((hib k _ v ht hv).any hb)
      obtain ⟨z1, z2, z3, hx⟩ : ∃ x1 x2 x3, u = .slice x1 x2 x3 := by
        obtain ⟨_, ⟨x1, x3, e, _⟩, _⟩ := hia k _ u ht hu
        exact ⟨_, _, _, e⟩
      obtain ⟨r1, r2, r3, hy⟩ : ∃ y1 y2 y3, v = .slice y1 y2 y3 := by
        obtain ⟨_, ⟨y1, y3, e, _⟩, _⟩ := hib k _ v ht hv
        exact ⟨_, _, _, e⟩
      subst hx hy
      have kk0 : (0 : Int) ≤ (k : Int) := by omega
      have kk1 : (k : Int) < (l.length : Int) := by omega
      clear ca cb ht hg1 hg2 hu hv hca hcb hla hlb hia hib x1 y1 i0 i1 j0 j1
      go_wp2
      go_region_with (first | (go_at_call 69; refine (SI _ ?_).mono ?_; exact (Below.refl _ _).drew; rintro e w2 ⟨rfl, hb2⟩))
      all_goals go_wp2
      all_goals
        go_roundw
        case rel => exact ⟨k + 1, by omega, by go_num, HW.out.trans (((Below.refl _ _).drew.trans (hb2.mono (Nat.le_refl _))).mono HW.out.size)⟩
        case measure => simp [intOf]; omega
    · obtain rfl : k = l.length := by omega
      go_wp2
      go_ret
      exact ⟨rfl, B0.out.trans (HW.out.mono B0.out.size)⟩
end Go.Proofs.Ytnmnjpkmkpngfaa
