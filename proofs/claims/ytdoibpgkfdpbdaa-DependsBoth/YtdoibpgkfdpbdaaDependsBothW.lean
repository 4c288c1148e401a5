/- DependsBoth, walked. -/
import Derived.Test.YtdoibpgkfdpbdaaBoS
import Derived.Test.YtdoibpgkfdpbdaaDepSame
import Derived.Deep.AppendLies
import Derived.Deep.RegionHeld3
import Derived.BigRegion
import Derived.Deep.CutRange
namespace Go.Proofs.Ytdoibpgkfdpbdaa
set_option linter.unusedVariables false
set_option linter.unusedSimpArgs false
open Go.ChangeShapes Go.WideShapes Go.ChangeAt Go.RowKit

theorem Try.infoStrO : (Try.prog.info? 9).map (fun i => (i.zero, i.size, i.bytes)) = some (some (.string ⟨#[]⟩), 1, 16) := by kernel_rfl
theorem Try.infoRuleO : (Try.prog.info? 36).map (fun i => (i.zero, i.size, i.bytes)) = some (some (.agg #[.int .i64 0, .slice none 0 0]), 2, 32) := by kernel_rfl
theorem Try.infoEdO : (Try.prog.info? 42).map (fun i => (i.zero, i.size, i.bytes)) = some (some (.agg #[.int .i64 0, .int .i64 0, .bool false]), 3, 24) := by kernel_rfl
theorem hid_ofO {p : Prop} (h : p) : Hid p := h
theorem cellO {w : World} {b : Nat} {arr : Array Value} {t : TypeId} (h : w.heap[b]? = some (.cells arr t)) (j : Nat) : w.cell? ⟨b, j, none⟩ = arr[j]? := Lib.cell_of_heap h j
theorem frzO {w : World} {b : Nat} {arr : Array Value} {t : TypeId} (h : w.heap[b]? = some (.cells arr t)) (j : Nat) : w.frozen? ⟨b, j, none⟩ = false := by unfold World.frozen?; rw [h]; simp
/-- An append that is known. -/
theorem wpList_run_appendO {P : Program} {w : World} {ops : Array Oper} {rest : List Oper} {o : Oper} {a : Act} {Q : Exit → Act → World → Prop} (hgd : o.guard = none) (s x : Operand) (t : TypeId)
    (ho : o.op = .call { callee := .builtin .append, args := #[s, x], argTypes := #[t, t] }) (v u : Value) (hs : a.eval s = v) (hx : a.eval x = u) {v' : Value} {w' : World} (hr : (Builtin.append_ #[t, t] o.type #[v, u]).run P w = .ok v' w') (h : wpList P ops Q rest (a.put o.dst v') w') :
    wpList P ops Q (o :: rest) a w := wpList_plain hgd fun K hK => by
  unfold Oper.wp execOp
  simp only [ho, resolve, invoke, builtin, Sem.run_bind, Sem.run_pure, Result.andThen_ok, List.map_toArray, List.map_cons, List.map_nil, hs, hx, hr]
  exact hK _ _ h
theorem edsV_oneO (l : List Ed) : ∀ x ∈ edsV l, x.oneCell' = true := by
  induction l with
  | nil => intro x hx; simp [edsV] at hx
  | cons e l ih =>
    intro x hx
    unfold edsV edV at hx
    simp only [List.cons_append, List.nil_append, List.mem_cons] at hx
    rcases hx with rfl | rfl | rfl | hx
    · rfl
    · rfl
    · rfl
    · exact ih x hx
/-- Both grammars in blocks of their own, and what is behind them. -/
def BxO (W : World) (gs hs : Int) (v1 v2 u1 u2 : Value) (w : World) : Prop := Below W.heap.size W w ∧ W.heap.size + 1 < w.heap.size ∧ (w.cell? ⟨W.heap.size, 0, none⟩ = some (.int .i64 gs) ∧ w.cell? ⟨W.heap.size, 1, none⟩ = some v1 ∧ w.cell? ⟨W.heap.size, 2, none⟩ = some v2) ∧ w.cell? ⟨W.heap.size + 1, 0, none⟩ = some (.int .i64 hs) ∧ w.cell? ⟨W.heap.size + 1, 1, none⟩ = some u1 ∧ w.cell? ⟨W.heap.size + 1, 2, none⟩ = some u2
theorem BxO.any {W : World} {gs hs : Int} {v1 v2 u1 u2 : Value} {w w' : World} (h : BxO W gs hs v1 v2 u1 u2 w) (hb : Below w.heap.size w w') : BxO W gs hs v1 v2 u1 u2 w' := by
  obtain ⟨h1, h2, ⟨c0, c1, c2⟩, d0, d1, d2⟩ := h
  exact ⟨h1.trans (hb.mono h1.size), Nat.lt_of_lt_of_le h2 hb.size, ⟨(hb.cell (p := ⟨_, _, none⟩) (Nat.lt_of_succ_lt h2)).trans c0, (hb.cell (p := ⟨_, _, none⟩) (Nat.lt_of_succ_lt h2)).trans c1, (hb.cell (p := ⟨_, _, none⟩) (Nat.lt_of_succ_lt h2)).trans c2⟩, (hb.cell (p := ⟨_, _, none⟩) h2).trans d0, (hb.cell (p := ⟨_, _, none⟩) h2).trans d1, (hb.cell (p := ⟨_, _, none⟩) h2).trans d2⟩
theorem BxO.new (W : World) (gs hs : Int) (v1 v2 u1 u2 : Value) : BxO W gs hs v1 v2 u1 u2 ((W.alloc (.cells #[.int .i64 gs, v1, v2] 25)).alloc (.cells #[.int .i64 hs, u1, u2] 25)) := by
  have e1 : (W.alloc (.cells #[.int .i64 gs, v1, v2] 25)).heap.size = W.heap.size + 1 := by simp
  have h1 := (heap_alloc_old (w := W.alloc (.cells #[.int .i64 gs, v1, v2] 25)) (.cells #[.int .i64 hs, u1, u2] 25) (b := W.heap.size) (by omega)).trans (heap_alloc_new W _)
  have h2 := heap_alloc_new (W.alloc (.cells #[.int .i64 gs, v1, v2] 25)) (.cells #[.int .i64 hs, u1, u2] 25)
  rw [e1] at h2
  exact ⟨(bel1 W _).alloc (by omega) _, by simp, ⟨cellO h1 0, cellO h1 1, cellO h1 2⟩, cellO h2 0, cellO h2 1, cellO h2 2⟩
theorem cpD_slc {w w' : World} {g : Gr} {u1 u2 : Value} {n r : Nat} (h : CpD w g u1 u2 w') (hn : n = g.names.length) (hr : r = g.rules.length) : ∃ p c q d, u1 = .slice p n c ∧ u2 = .slice q r d := by
  obtain ⟨B, F, us, hB, m0, on, nn, vss, dp⟩ := h
  obtain ⟨p, c, e1⟩ := row_slice on
  obtain ⟨q, d, e2⟩ := row_slice m0.oo
  exact ⟨p, c, q, d, by rw [hn]; exact e1, by rw [hr]; exact e2⟩
/-- What Edges answers. -/
def EnO (W : World) (s : Int) (v1 v2 : Value) : Prop := ∀ w, Below W.heap.size W w → Calls Try.prog 6 #[.agg #[.int .i64 s, v1, v2]] w fun e w' => e = .returned (.tuple #[.slice none 0 0, .int .i64 600]) ∧ Hid (Below w.heap.size w w')
def EyO (W : World) (s : Int) (v1 v2 : Value) (L : List Ed) : Prop := ∀ w, Below W.heap.size W w → Calls Try.prog 6 #[.agg #[.int .i64 s, v1, v2]] w fun e w' => ∃ p c, e = .returned (.tuple #[.slice p L.length c, .int .i64 0]) ∧ Hid (IsEds w' Any (.slice p L.length c) L) ∧ Hid (Below w.heap.size w w')
/-- Some answer of it. -/
def EaO (W : World) (s : Int) (v1 v2 : Value) : Prop := ∀ w, Below W.heap.size W w → Calls Try.prog 6 #[.agg #[.int .i64 s, v1, v2]] w fun e w' => ∃ p n c x, e = .returned (.tuple #[.slice p n c, .int .i64 x]) ∧ Hid (Below w.heap.size w w')
set_option maxHeartbeats 40000000 in
set_option maxRecDepth 100000 in
theorem dependsBoth_core (W : World) (g h : Gr) (v1 v2 u1 u2 : Value) (n1 n2 r1 r2 : Nat) (hn1 : n1 = g.names.length) (hn2 : n2 = h.names.length) (hr1 : r1 = g.rules.length) (hr2 : r2 = h.rules.length)
    (k1 k2 k3 k4 : Option Addr × Nat) (e1 : v1 = .slice k1.1 n1 k1.2) (e2 : v2 = .slice k2.1 r1 k2.2) (e3 : u1 = .slice k3.1 n2 k3.2) (e4 : u2 = .slice k4.1 r2 k4.2) (La Lb : List Ed)
    (KA : ∀ w, Calls Try.prog 5 #[] w fun e w' => e = .returned (.bool true) ∧ Hid (Below w.heap.size w w'))
    (KC1 : ∀ w, Below W.heap.size W w → Calls Try.prog 9 #[.agg #[.int .i64 g.start, v1, v2]] w fun e w' => ∃ o1 o2, e = .returned (.agg #[.int .i64 g.start, o1, o2]) ∧ Hid (Below w.heap.size w w') ∧ Hid (CpD w g o1 o2 w'))
    (KC2 : ∀ w, Below W.heap.size W w → Calls Try.prog 9 #[.agg #[.int .i64 h.start, u1, u2]] w fun e w' => ∃ o1 o2, e = .returned (.agg #[.int .i64 h.start, o1, o2]) ∧ Hid (Below w.heap.size w w') ∧ Hid (CpD w h o1 o2 w'))
    (KS : ∀ (va vb : Value) (l : List Ed) (w : World), IsEds w Any va l → IsEds w Any vb l → l.length ≤ 100000000 → Calls Try.prog 12 #[va, vb] w fun e w' => e = .returned (.bool true) ∧ Hid (Below w.heap.size w w'))
    (KH0 : (EnO W g.start v1 v2 ∧ EaO W h.start u1 u2) ∨ (EyO W g.start v1 v2 La ∧ EnO W h.start u1 u2) ∨ (EyO W g.start v1 v2 La ∧ EyO W h.start u1 u2 Lb ∧
      ((0 < n1 ∧ n1 ≤ 64 ∧ n2 ≤ 64 ∧ 0 < n2 ∧ r1 ≤ 256 ∧ r2 ≤ 256 ∧ La.length ≤ 100000 ∧ Lb.length ≤ 100000) ∧ (∀ r, r ∈ h.rules → 0 ≤ r.head ∧ r.head < 64 ∧ r.conj.length ≤ 8 ∧ ∀ c, c ∈ r.conj → c.seq.length ≤ 64 ∧ ∀ s, s ∈ c.seq → -1 ≤ s.name ∧ s.name < 64) ∧ ∀ e, e ∈ Lb → 0 ≤ e.1 ∧ e.1 < 64 ∧ 0 ≤ e.2.1 ∧ e.2.1 < 64) ∧
      (n1 + n2 ≤ 64 → r1 + r2 ≤ 256 → (∀ o1 o2 w, GrIs w Any o1 o2 (bothG g h) → EnO w g.start o1 o2) ∨ ∀ o1 o2 w, GrIs w Any o1 o2 (bothG g h) → EyO w g.start o1 o2 (La ++ Lb.map (shE n1))))) :
    Calls Try.prog 4 #[.agg #[.int .i64 g.start, v1, v2], .agg #[.int .i64 h.start, u1, u2]] W fun e W' => e = .returned (.bool true) ∧ Below W.heap.size W W' := by
  have HX1 : Hid (BxO W g.start h.start v1 v2 u1 u2 ((W.alloc (.cells #[.int .i64 g.start, v1, v2] 25)).alloc (.cells #[.int .i64 h.start, u1, u2] 25))) := BxO.new _ _ _ _ _ _ _
  have HA := hid_ofO KA
  have HC1 := hid_ofO KC1
  have HC2 := hid_ofO KC2
  have HS := hid_ofO KS
  have HN1 := hid_ofO hn1
  have HN2 := hid_ofO hn2
  have HR1 := hid_ofO hr1
  have HR2 := hid_ofO hr2
  subst e1 e2 e3 e4
  clear KA KC1 KC2 KS hn1 hn2 hr1 hr2
  rcases KH0 with ⟨B1, B2⟩ | ⟨B1, B2⟩ | ⟨B1, B2, ⟨hB, hHr, hHe⟩, KF⟩
  · --SA
    have H1 := hid_ofO B1
    have H2 := hid_ofO B2
    have T0 : Hid True := trivial
    clear B1 B2
    go_enter Try.func4, Try.ntmps4
    go_wp2_with (first
      | (go_at_call 5; refine (HA.out _).mono ?_; rintro e wa ⟨rfl, ba⟩; have XA : Hid (BxO _ _ _ _ _ _ _ wa) := HX1.out.any ba.out; obtain ⟨-, z1, ⟨c0, c1, c2⟩, d0, d1, d2⟩ := XA.out)
      | (go_at_call 7; refine (num_any _ _).mono ?_; rintro e wn ⟨rfl, rfl⟩)
      | (go_at_call 6; first
        | (have hh := T0; clear hh T0; refine (H1.out _ XA.out.1).mono ?_; rintro e w1 ⟨rfl, b1⟩; have XB : Hid (BxO _ _ _ _ _ _ _ w1) := XA.out.any b1.out; clear z1 c0 c1 c2 d0 d1 d2; obtain ⟨-, z1, ⟨c0, c1, c2⟩, d0, d1, d2⟩ := XB.out)
        | (refine (H2.out _ XB.out.1).mono ?_; rintro e w2 ⟨pb, nb, cb, xb, rfl, b2⟩; have XC : Hid (BxO _ _ _ _ _ _ _ w2) := XB.out.any b2.out; clear z1 c0 c1 c2 d0 d1 d2)))
    go_ret
    exact ⟨rfl, XC.out.1⟩
  · --SB
    have H1 := hid_ofO B1
    have H2 := hid_ofO B2
    have T0 : Hid True := trivial
    obtain ⟨na, hna⟩ : ∃ k, k = La.length := ⟨_, rfl⟩
    have HNA : Hid (na = La.length) := hna
    clear B1 B2 hna
    by_cases h0 : na = 0
    all_goals
      have h0I : (((na : Int) == 0) = true) ∨ (((na : Int) == 0) = false ∧ ¬ ((na : Int) = 0)) := by
        by_cases hh : na = 0
        · exact Or.inl (by simp [hh])
        · exact Or.inr ⟨by simp [hh], by omega⟩
    · subst h0
      clear h0I
      go_enter Try.func4, Try.ntmps4
      go_wp2_with (first
        | (go_at_call 5; refine (HA.out _).mono ?_; rintro e wa ⟨rfl, ba⟩; have XA : Hid (BxO _ _ _ _ _ _ _ wa) := HX1.out.any ba.out; obtain ⟨-, z1, ⟨c0, c1, c2⟩, d0, d1, d2⟩ := XA.out)
        | (go_at_call 7; refine (num_any _ _).mono ?_; rintro e wn ⟨rfl, rfl⟩)
        | (go_at_call 6; first
          | (have hh := T0; clear hh T0; refine (H1.out _ XA.out.1).mono ?_; rintro e w1 ⟨pa, ca, rfl, ia, b1⟩; rw [← HNA.out]; have XB : Hid (BxO _ _ _ _ _ _ _ w1) := XA.out.any b1.out; clear z1 c0 c1 c2 d0 d1 d2; obtain ⟨-, z1, ⟨c0, c1, c2⟩, d0, d1, d2⟩ := XB.out)
          | (refine (H2.out _ XB.out.1).mono ?_; rintro e w2 ⟨rfl, b2⟩; have XC : Hid (BxO _ _ _ _ _ _ _ w2) := XB.out.any b2.out; clear z1 c0 c1 c2 d0 d1 d2)))
      go_ret
      exact ⟨rfl, XC.out.1⟩
    · have h0J : ((na : Int) == 0) = false := by simp [h0]
      clear h0I
      go_enter Try.func4, Try.ntmps4
      go_wp2_with (first
        | (go_at_call 5; refine (HA.out _).mono ?_; rintro e wa ⟨rfl, ba⟩; have XA : Hid (BxO _ _ _ _ _ _ _ wa) := HX1.out.any ba.out; obtain ⟨-, z1, ⟨c0, c1, c2⟩, d0, d1, d2⟩ := XA.out)
        | (go_at_call 7; refine (num_any _ _).mono ?_; rintro e wn ⟨rfl, rfl⟩)
        | (go_at_call 6; first
          | (have hh := T0; clear hh T0; refine (H1.out _ XA.out.1).mono ?_; rintro e w1 ⟨pa, ca, rfl, ia, b1⟩; rw [← HNA.out]; have XB : Hid (BxO _ _ _ _ _ _ _ w1) := XA.out.any b1.out; clear z1 c0 c1 c2 d0 d1 d2; obtain ⟨-, z1, ⟨c0, c1, c2⟩, d0, d1, d2⟩ := XB.out)
          | (refine (H2.out _ XB.out.1).mono ?_; rintro e w2 ⟨rfl, b2⟩; have XC : Hid (BxO _ _ _ _ _ _ _ w2) := XB.out.any b2.out; clear z1 c0 c1 c2 d0 d1 d2)))
      go_ret
      exact ⟨rfl, XC.out.1⟩
  · have H1 := hid_ofO B1
    have H2 := hid_ofO B2
    have HHR := hid_ofO hHr
    have HHE := hid_ofO hHe
    have HF := hid_ofO KF
    have T0 : Hid True := trivial
    obtain ⟨q01, q02, q03, q04, q05, q06, q07, q08⟩ := hB
    obtain ⟨na, hna⟩ : ∃ k, k = La.length := ⟨_, rfl⟩
    have HNA : Hid (na = La.length) := hna
    rw [← hna] at q07
    obtain ⟨nb, hnb⟩ : ∃ k, k = Lb.length := ⟨_, rfl⟩
    have HNB : Hid (nb = Lb.length) := hnb
    rw [← hnb] at q08
    clear B1 B2 hna hnb hHr hHe KF
    go_enter Try.func4, Try.ntmps4
    go_upto_region 7 with (first
        | (go_at_call 5; refine (HA.out _).mono ?_; rintro e wa ⟨rfl, ba⟩; have XA : Hid (BxO _ _ _ _ _ _ _ wa) := HX1.out.any ba.out; obtain ⟨-, z1, ⟨c0, c1, c2⟩, d0, d1, d2⟩ := XA.out)
        | (go_at_call 7; refine (num_any _ _).mono ?_; rintro e wn ⟨rfl, rfl⟩)
        | (go_at_call 6; first
          | (have hh := T0; clear hh T0; refine (H1.out _ XA.out.1).mono ?_; rintro e w1 ⟨pa, ca, rfl, ia, b1⟩; rw [← HNA.out]; have XB : Hid (BxO _ _ _ _ _ _ _ w1) := XA.out.any b1.out; clear z1 c0 c1 c2 d0 d1 d2; obtain ⟨-, z1, ⟨c0, c1, c2⟩, d0, d1, d2⟩ := XB.out)
          | (refine (H2.out _ XB.out.1).mono ?_; rintro e w2 ⟨pb, cb, rfl, ib, b2⟩; rw [← HNB.out]; have XC : Hid (BxO _ _ _ _ _ _ _ w2) := XB.out.any b2.out; clear z1 c0 c1 c2 d0 d1 d2; obtain ⟨-, z1, ⟨c0, c1, c2⟩, d0, d1, d2⟩ := XC.out)))
    have IA : Hid (IsEds w2 Any (.slice pa na ca) La) := by show IsEds _ _ _ _; rw [HNA.out]; exact ia.out.any b2.out
    have IB : Hid (IsEds w2 Any (.slice pb nb cb) Lb) := by show IsEds _ _ _ _; rw [HNB.out]; exact ib.out
    clear ia ib XA XB H1 H2 HX1 HA ba b1 b2
    by_cases hbig : 64 < n1 + n2
    · have hbigI : (64 : Int) < (n1 : Int) + (n2 : Int) := by omega
      clear HF
      go_wp2
      go_ret
      exact ⟨rfl, XC.out.1⟩
    by_cases hbig2 : 256 < r1 + r2
    · have hbigI : ¬ (64 : Int) < (n1 : Int) + (n2 : Int) := by omega
      have hbigJ : (256 : Int) < (r1 : Int) + (r2 : Int) := by omega
      clear HF
      go_wp2
      go_ret
      exact ⟨rfl, XC.out.1⟩
    have hbigI : ¬ (64 : Int) < (n1 : Int) + (n2 : Int) := by omega
    have hbigJ : ¬ (256 : Int) < (r1 : Int) + (r2 : Int) := by omega
    have HFF := hid_ofO (HF.out (by omega) (by omega))
    clear HF
    have T1 : Hid True := trivial
    go_upto_region 12 with (go_at_call 9; first
      | (have hh := T1; clear hh T1; refine (HC1.out _ XC.out.1).mono ?_; rintro e w3 ⟨o1, o2, rfl, b3, CP1⟩; obtain ⟨p1, a1, p2, a2, e1, e2⟩ := cpD_slc CP1.out HN1.out HR1.out; subst e1 e2; have XD : Hid (BxO _ _ _ _ _ _ _ w3) := XC.out.any b3.out; have XE : Hid (BxO W g.start h.start (.slice k1.1 n1 k1.2) (.slice k2.1 r1 k2.2) (.slice k3.1 n2 k3.2) (.slice k4.1 r2 k4.2) (w3.alloc (.cells #[.int .i64 g.start, .slice p1 n1 a1, .slice p2 r1 a2] 25))) := XD.out.any (bel1 _ _); clear z1 c0 c1 c2 d0 d1 d2; obtain ⟨-, z1, ⟨c0, c1, c2⟩, d0, d1, d2⟩ := XE.out)
      | (refine (HC2.out _ XE.out.1).mono ?_; rintro e w4 ⟨o3, o4, rfl, b4, CP2⟩; obtain ⟨p3, a3, p4, a4, e3, e4⟩ := cpD_slc CP2.out HN2.out HR2.out; subst e3 e4; clear z1 c0 c1 c2 d0 d1 d2))
    obtain ⟨A, K, F, us1, us2, vss, HAB, hl1, hl2, hq3, M0⟩ := BoM.start CP1.out rfl CP2.out b4.out
    have HAB2 : Hid (Below w2.heap.size w2 A) := HAB
    have HM0 := hid_ofO M0
    have HL1 := hid_ofO hl1
    have HL2 := hid_ofO hl2
    have HWA : Hid (Below W.heap.size W A) := XC.out.1.trans (HAB.mono XC.out.1.size)
    obtain ⟨Y, hY⟩ : ∃ Y, Y = w4.alloc (.cells #[.int .i64 h.start, .slice p3 n2 a3, .slice p4 r2 a4] 25) := ⟨_, rfl⟩
    rw [← hY] at HM0 ⊢
    obtain ⟨ob, hob⟩ : ∃ b, b = w3.heap.size := ⟨_, rfl⟩
    rw [← hob] at HM0 ⊢
    obtain ⟨vb, hvb⟩ : ∃ b, b = w4.heap.size := ⟨_, rfl⟩
    rw [← hvb] at HM0 ⊢
    clear hY hob hvb HAB M0 hl1 hl2 CP1 CP2 b3 b4 XD XE HC1 HC2
    have IA2 : Hid (∀ w, Below A.heap.size A w → IsEds w Any (.slice pa na ca) La) := fun w hb => (IA.out.any HAB2.out).any hb
    have IB2 : Hid (∀ w, Below A.heap.size A w → IsEds w Any (.slice pb nb cb) Lb) := fun w hb => (IB.out.any HAB2.out).any hb
    clear IA IB HAB2 XC hbig hbig2 hbigI hbigJ
    -- the names' row
    have on0 := HM0.out.on
    rw [← HN1.out] at on0
    obtain ⟨nb0, nc0, hnv, -⟩ := row_at on0 (j := 0) (by omega)
    injection hnv with hnv hy1 hy2
    subst hnv
    clear hy1 hy2
    clear on0 hq3
    go_wp2
    go_loopw [12] (fun x wr => ∃ k : Nat, k ≤ n1 ∧ x = .int .i64 k ∧ Hid (BoM A K ob vb F g.start g.rules us1 h.start (.slice p3 n2 a3) (.slice p4 r2 a4) us2 vss (nmA k ++ g.names.drop k) (.slice (some ⟨nb0, 0, none⟩) n1 a1) g.rules us1 (.slice p2 r1 a2) h.rules wr)) (fun x _ => n1 - (intOf x).toNat)
    case atStart => exact ⟨0, Nat.zero_le _, rfl, HM0⟩
    case round =>
      obtain ⟨k, hk, rfl, HM⟩ := hrel
      obtain ⟨V, hV⟩ : ∃ V, V = wr := ⟨_, rfl⟩
      subst hV
      by_cases hlt : k < n1
      · --SC
        have hltI : (k : Int) < (n1 : Int) := by omega
        have hlen : (nmA k ++ g.names.drop k).length = n1 := by rw [nmA_mid _ _ (by rw [← HN1.out]; omega), HN1.out]
        have hol : ob < V.heap.size := block_lt HM.out.vo
        have f1 : V.cell? ⟨ob, 1, none⟩ = some (.slice (some ⟨nb0, 0, none⟩) n1 a1) := cellO HM.out.vo 1
        have on1 := HM.out.on
        rw [hlen] at on1
        obtain ⟨x0, x1, x2, x3, x4, x5, x6⟩ := row_at on1 (j := k) (by omega)
        obtain ⟨sx, hsx⟩ : ∃ y, (txV (nmA k ++ g.names.drop k))[k]? = some y := ⟨_, List.getElem?_eq_getElem (by rw [show (txV (nmA k ++ g.names.drop k)).length = n1 by simp only [txV, List.length_map]; exact hlen]; exact hlt)⟩
        rw [hsx] at x6
        injection x2 with x2 y2 y3
        injection x2 with x2
        injection x2 with x2
        subst x2
        clear y2 y3
        have MR : Calls Try.prog 11 #[.int .i64 (k : Int)] V.drew fun e w2 => e = .returned (.string (decT k)) ∧ Hid (Below V.heap.size V w2) ∧ w2.cell? ⟨ob, 1, none⟩ = some (.slice (some ⟨nb0, 0, none⟩) n1 a1) ∧ w2.frozen? ⟨nb0, k, none⟩ = false ∧ w2.cell? ⟨nb0, k, none⟩ = some sx := by
          refine (decimal_any k (by omega) _).mono ?_
          rintro e w2 ⟨rfl, hb⟩
          have hb1 := (Below.refl V.heap.size V).drew.trans hb
          exact ⟨rfl, hb1, (hb1.cell (p := ⟨_, _, none⟩) hol).trans f1, (hb1.frozen (p := ⟨_, _, none⟩) x4).trans x5, (hb1.cell (p := ⟨_, _, none⟩) x4).trans x6⟩
        have hds : ¬ 9223372036854775807 < 1 + (decT k).size := by have := dec_sizeO k; omega
        have HFIN : Hid (∀ w2, Below V.heap.size V w2 → BoM A K ob vb F g.start g.rules us1 h.start (.slice p3 n2 a3) (.slice p4 r2 a4) us2 vss (nmA (k + 1) ++ g.names.drop (k + 1)) (.slice (some ⟨nb0, 0, none⟩) n1 a1) g.rules us1 (.slice p2 r1 a2) h.rules (w2.setCell ⟨nb0, k, none⟩ (.string (⟨#[97]⟩ ++ decT k)))) := fun w2 hb => by
          have h1 := (HM.out.keep hb).name0 (nb := nb0) (nc := a1) (i := k) (by rw [hlen]) (by rw [hlen]; exact hlt) (⟨#[97]⟩ ++ decT k)
          rw [nmA_set _ _ (by rw [← HN1.out]; exact hlt)] at h1
          exact h1
        clear hlen on1 x4 x5 x6 hsx hlt hk
        go_wp2_with (fail)
        go_region_law (go_simp; refine MR.mono ?_; rintro e w2 ⟨rfl, b2, rr1, y1, y2⟩)
        all_goals
          have FIN := hid_ofO (HFIN.out w2 b2.out)
          clear HFIN
          go_wp2
          go_roundw
          case rel => exact ⟨k + 1, by omega, by go_num, FIN⟩
          case measure => simp [intOf]; omega
      · obtain rfl : n1 = k := by omega
        have HMA : Hid (BoM A K ob vb F g.start g.rules us1 h.start (.slice p3 n2 a3) (.slice p4 r2 a4) us2 vss (nmA n1) (.slice (some ⟨nb0, 0, none⟩) n1 a1) g.rules us1 (.slice p2 r1 a2) h.rules V) := by
          have h1 := HM.out
          rw [List.drop_eq_nil_of_le (by rw [← HN1.out]; omega), List.append_nil] at h1
          exact h1
        have hltI : ¬ (n1 : Int) < (n1 : Int) := by omega
        clear HM HM0 hlt hk
        go_wp2
        clear hltI
        go_loopw [13] (fun x wr => ∃ k : Nat, k ≤ n2 ∧ x = .int .i64 k ∧ ∃ gn cn, Hid (BoM A K ob vb F g.start g.rules us1 h.start (.slice p3 n2 a3) (.slice p4 r2 a4) us2 vss (nmA n1 ++ nmB k) (.slice (some ⟨gn, 0, none⟩) (n1 + k) cn) g.rules us1 (.slice p2 r1 a2) h.rules wr)) (fun x _ => n2 - (intOf x).toNat)
        case atStart => exact ⟨0, Nat.zero_le _, rfl, nb0, a1, by show BoM _ _ _ _ _ _ _ _ _ _ _ _ _ (nmA n1 ++ []) _ _ _ _ _ _; rw [List.append_nil]; exact HMA⟩
        case round =>
          obtain ⟨k, hk, rfl, gn, cn, HM⟩ := hrel
          clear HMA
          obtain ⟨V, hV⟩ : ∃ V, V = wr := ⟨_, rfl⟩
          subst hV
          have f0 : V.cell? ⟨vb, 1, none⟩ = some (.slice p3 n2 a3) := cellO HM.out.vp 1
          by_cases hlt : k < n2
          · --SD
            have hltI : (k : Int) < (n2 : Int) := by omega
            have hlen : (nmA n1 ++ nmB k).length = n1 + k := by rw [List.length_append, nmA_len, nmB_len]
            have hol : ob < V.heap.size := block_lt HM.out.vo
            have f1 : V.cell? ⟨ob, 1, none⟩ = some (.slice (some ⟨gn, 0, none⟩) (n1 + k) cn) := cellO HM.out.vo 1
            have on1 := HM.out.on
            rw [hlen] at on1
            have ON := hid_ofO on1
            obtain ⟨is, hs0, hs1, hs2, hs3⟩ := info_parts Try.infoStrO
            have HSI : Hid (Try.prog.info? 9 = some is ∧ is.zero = some (.string ⟨#[]⟩) ∧ is.size = 1 ∧ is.bytes = 16) := ⟨hs0, hs1, hs2, hs3⟩
            have MX : Hid (n1 + k + 1 ≤ maxLen) := by show _ ≤ _; unfold maxLen; omega
            have BY : Hid ((n1 + k + 1) * 16 ≤ 140737488355328) := by show _ ≤ _; omega
            have RN1 : Hid ((Value.slice (some ⟨gn, 0, none⟩) (n1 + k) cn).ownBlock ≠ some ob) := row_no on1 (by decide) HM.out.vo
            have hAV : A.heap.size ≤ V.heap.size := HM.out.bl.size
            have HLEN := hid_ofO hlen
            have MR : Calls Try.prog 11 #[.int .i64 (k : Int)] V.drew fun e w2 => e = .returned (.string (decT k)) ∧ Hid (Below V.heap.size V w2) ∧ w2.cell? ⟨ob, 1, none⟩ = some (.slice (some ⟨gn, 0, none⟩) (n1 + k) cn) ∧ w2.frozen? ⟨ob, 1, none⟩ = false ∧ A.heap.size ≤ w2.heap.size ∧ ob < w2.heap.size ∧ Hid (w2.ownsRow A.heap.size 9 1 (.slice (some ⟨gn, 0, none⟩) (n1 + k) cn) (n1 + k) (txV (nmA n1 ++ nmB k))) := by
              refine (decimal_any k (by omega) _).mono ?_
              rintro e w2 ⟨rfl, hb⟩
              have hb1 := (Below.refl V.heap.size V).drew.trans hb
              exact ⟨rfl, hb1, (hb1.cell (p := ⟨_, _, none⟩) hol).trans f1, (hb1.frozen (p := ⟨_, _, none⟩) hol).trans (frzO HM.out.vo 1), Nat.le_trans hAV hb1.size, Nat.lt_of_lt_of_le hol hb1.size, row_keep ON.out hb1⟩
            have hds : ¬ 9223372036854775807 < 1 + (decT k).size := by have := dec_sizeO k; omega
            clear on1 hlen hs0 hs1 hs2 hs3 hlt hk
            go_upto_region 19 with fail
            go_region_law (first | (refine step_append_lies _ (by rfl) _ _ _ (by rfl) A.heap.size 9 is _ 1 16 Try.underlying22 HSI.out.1 HSI.out.2.1 HSI.out.2.2.1 HSI.out.2.2.2 rfl (by omega) (.slice (some ⟨gn, 0, none⟩) (n1 + k) cn) (n1 + k) (txV (nmA n1 ++ nmB k)) (by rfl) (o1.out.alloc _) ⟨w2.heap.size, 0, none⟩ 1 1 [.string (⟨#[98]⟩ ++ decT k)] (by rfl) (by rfl) (World.news_of_block (cs := #[.string (⟨#[98]⟩ ++ decT k)]) (t := 9) (fr := (0, 0)) (heap_alloc_new w2 _)) (by simp [Value.oneCell']) (by omega) MX.out BY.out (Nat.le_trans hW1 (le_alloc _ _)) (w2.heap.size + 1) (by simp) ?_; intro gg cap1 w3 hown1 hgrow hat hltg; have x1 : w3.cell? ⟨ob, 1, none⟩ = some (.slice (some ⟨gn, 0, none⟩) (n1 + k) cn) := (hgrow.cell_far ⟨ob, 1, none⟩ (by simp; omega) (Ne.symm RN1.out)).trans ((World.cell?_alloc_past _ _ _ hR1).trans r1'); have y1 : w3.frozen? ⟨ob, 1, none⟩ = false := (hgrow.frozen_far ⟨ob, 1, none⟩ (by simp; omega) (Ne.symm RN1.out)).trans ((World.frozen?_alloc_past _ _ _ hR1).trans f1')) | (go_simp; refine MR.mono ?_; rintro e w2 ⟨rfl, b1, r1', f1', hW1, hR1, o1⟩))
            all_goals
              have FIN : Hid (BoM A K ob vb F g.start g.rules us1 h.start (.slice p3 n2 a3) (.slice p4 r2 a4) us2 vss (nmA n1 ++ nmB (k + 1)) (.slice (some ⟨gg, 0, none⟩) (n1 + (k + 1)) cap1) g.rules us1 (.slice p2 r1 a2) h.rules (w3.setCell ⟨ob, 1, none⟩ (.slice (some ⟨gg, 0, none⟩) (n1 + k + 1) cap1))) := by
                show BoM _ _ _ _ _ _ _ _ _ _ _ _ _ _ _ _ _ _ _ _
                rw [nmB_succ, ← List.append_assoc]
                exact HM.out.nameA b1.out HLEN.out hgrow hown1 hat
              clear hgrow hown1 hat x1 y1
              go_wp2
              go_roundw
              case rel => exact ⟨k + 1, by omega, by go_num, _, _, FIN⟩
              case measure => simp [intOf]; omega
          · obtain rfl : n2 = k := by omega
            have hltI : ¬ (n2 : Int) < (n2 : Int) := by omega
            obtain ⟨NS, hNS⟩ : ∃ NS, NS = nmA n1 ++ nmB n2 := ⟨_, rfl⟩
            have HNS : Hid (NS = nmA n1 ++ nmB n2) := hNS
            rw [← hNS] at HM
            clear hlt hk hNS
            go_wp2
            go_loopw [14] (fun x wr => ∃ i : Nat, i ≤ r2 ∧ x = .int .i64 i ∧ ∃ po co, Hid (BoM A K ob vb F g.start g.rules us1 h.start (.slice p3 n2 a3) (.slice p4 r2 a4) us2 vss NS (.slice (some ⟨gn, 0, none⟩) (n1 + n2) cn) (g.rules ++ (h.rules.take i).map (shR n1)) (us1 ++ us2.take i) (.slice po (r1 + i) co) (part (shK n1) h.rules i) wr)) (fun x _ => r2 - (intOf x).toNat)
            case atStart => exact ⟨0, Nat.zero_le _, rfl, p2, a2, by show BoM _ _ _ _ _ _ _ _ _ _ _ _ _ _ _ (g.rules ++ []) (us1 ++ []) _ _ _; rw [List.append_nil, List.append_nil, part_zero]; exact HM.out⟩
            case round =>
              clear HM
              obtain ⟨i, hi, rfl, po, co, HM⟩ := hrel
              obtain ⟨V, hV⟩ : ∃ V, V = wr := ⟨_, rfl⟩
              subst hV
              have fp : V.cell? ⟨vb, 2, none⟩ = some (.slice p4 r2 a4) := cellO HM.out.vp 2
              by_cases hlt : i < r2
              · --SF
                have hltI : (i : Int) < (r2 : Int) := by omega
                obtain ⟨Lo, hLo⟩ : ∃ Lo, Lo = g.rules ++ (h.rules.take i).map (shR n1) := ⟨_, rfl⟩
                obtain ⟨uo, huo⟩ : ∃ uo, uo = us1 ++ us2.take i := ⟨_, rfl⟩
                have HLO : Hid (Lo = g.rules ++ (h.rules.take i).map (shR n1)) := hLo
                have HUO : Hid (uo = us1 ++ us2.take i) := huo
                rw [← hLo, ← huo] at HM
                clear hLo huo
                obtain ⟨r, hr⟩ : ∃ r, h.rules[i]? = some r := ⟨_, List.getElem?_eq_getElem (by rw [← HR2.out]; exact hlt)⟩
                obtain ⟨hd0, hd1, hq8, hcs⟩ := HHR.out r (List.mem_of_getElem? hr)
                have HCS := hid_ofO hcs
                obtain ⟨cv, hcv⟩ : ∃ x, us2[i]? = some x := ⟨_, List.getElem?_eq_getElem (by rw [HL2.out, ← HR2.out]; exact hlt)⟩
                obtain ⟨vs, hvs⟩ : ∃ x, vss[i]? = some x := ⟨_, List.getElem?_eq_getElem (by rw [HM.out.dp.l2, part_len _ _ (by rw [← HR2.out]; omega), ← HR2.out]; exact hlt)⟩
                obtain ⟨rb4, c4, hp4, hb4, f2, f3⟩ := HM.out.atR hr hcv
                injection hp4 with hp4 hx hy
                subst hp4
                clear hx hy
                have hil : i < h.rules.length := by rw [← HR2.out]; exact hlt
                have RC := (HM.out.dp.row i _ _ _ ((part_get _ _ hil).trans hr) hcv hvs).1
                obtain ⟨pc, cc, hcv2⟩ := row_slice RC
                obtain ⟨q, hq⟩ : ∃ q, q = r.conj.length := ⟨_, rfl⟩
                have HQ : Hid (q = r.conj.length) := hq
                rw [← hq] at hcv2 hq8
                subst hcv2
                have HR := hid_ofO hr
                have HCV := hid_ofO hcv
                have HVS := hid_ofO hvs
                obtain ⟨hd, hhd⟩ : ∃ x, x = r.head := ⟨_, rfl⟩
                have HHD : Hid (hd = r.head) := hhd
                rw [← hhd] at hd0 hd1 f2
                have HILT := hid_ofO hlt
                clear hr hcs hcv hvs RC hq hhd hil hlt hi
                go_upto_region 25 with fail
                have XR : Hid ((V.alloc (.cells #[.int .i64 (hd + (n1 : Int)), .slice pc q cc] 36)).heap[V.heap.size]? = some (.cells #[.int .i64 (hd + (n1 : Int)), .slice pc q cc] 36)) := heap_alloc_new _ _
                have XM : Hid (BoM A K ob vb F g.start g.rules us1 h.start (.slice p3 n2 a3) (.slice (some ⟨rb4, 0, none⟩) r2 a4) us2 vss NS (.slice (some ⟨gn, 0, none⟩) (n1 + n2) cn) Lo uo (.slice po (r1 + i) co) (LpA n1 h.rules i r 0) (V.alloc (.cells #[.int .i64 (hd + (n1 : Int)), .slice pc q cc] 36))) := by show BoM _ _ _ _ _ _ _ _ _ _ _ _ _ _ _ _ _ _ _ _; rw [← LpA_open HR.out]; exact HM.out.keep (bel1 _ _)
                obtain ⟨X, hX⟩ : ∃ X, X = V.alloc (.cells #[.int .i64 (hd + (n1 : Int)), .slice pc q cc] 36) := ⟨_, rfl⟩
                obtain ⟨rb, hrb⟩ : ∃ b, b = V.heap.size := ⟨_, rfl⟩
                rw [← hX] at XR XM ⊢
                rw [← hrb] at XR ⊢
                clear hX hrb HM fp f2 f3 hltI hb4
                go_wp2
                go_loopw [16] (fun x wr => ∃ j : Nat, j ≤ q ∧ x = .int .i64 j ∧ Hid (BoM A K ob vb F g.start g.rules us1 h.start (.slice p3 n2 a3) (.slice (some ⟨rb4, 0, none⟩) r2 a4) us2 vss NS (.slice (some ⟨gn, 0, none⟩) (n1 + n2) cn) Lo uo (.slice po (r1 + i) co) (LpA n1 h.rules i r j) wr) ∧ Hid (wr.heap[rb]? = some (.cells #[.int .i64 (hd + (n1 : Int)), .slice pc q cc] 36))) (fun x _ => q - (intOf x).toNat)
                case atStart => exact ⟨0, Nat.zero_le _, rfl, XM, XR⟩
                case round =>
                  clear XM XR
                  obtain ⟨j, hj, rfl, HM, HRB⟩ := hrel
                  obtain ⟨V5, hV5⟩ : ∃ x, x = wr := ⟨_, rfl⟩
                  subst hV5
                  have g1 : V5.cell? ⟨rb, 1, none⟩ = some (.slice pc q cc) := cellO HRB.out 1
                  by_cases hjl : j < q
                  · --SG
                    have hjI : (j : Int) < (q : Int) := by omega
                    obtain ⟨c, hc⟩ : ∃ c, r.conj[j]? = some c := ⟨_, List.getElem?_eq_getElem (by rw [← HQ.out]; exact hjl)⟩
                    obtain ⟨hs8, hsy⟩ := HCS.out c (List.mem_of_getElem? hc)
                    have HSY := hid_ofO hsy
                    have HC := hid_ofO hc
                    have lvs : vs.length = r.conj.length := by
                      have h9 := (HM.out.dp.row i _ _ _ (LpA_at HR.out j) HCV.out HVS.out).2.len
                      rw [show (Ru.mk r.head (part (shC n1) r.conj j)).conj.length = (part (shC n1) r.conj j).length from rfl, part_len _ _ (by rw [← HQ.out]; exact hj)] at h9
                      exact h9
                    obtain ⟨u, hu⟩ : ∃ x, vs[j]? = some x := ⟨_, List.getElem?_eq_getElem (by rw [lvs, ← HQ.out]; exact hjl)⟩
                    have HM0' : Hid (BoM A K ob vb F g.start g.rules us1 h.start (.slice p3 n2 a3) (.slice (some ⟨rb4, 0, none⟩) r2 a4) us2 vss NS (.slice (some ⟨gn, 0, none⟩) (n1 + n2) cn) Lo uo (.slice po (r1 + i) co) (LpM n1 h.rules i r j c 0) V5) := by show BoM _ _ _ _ _ _ _ _ _ _ _ _ _ _ _ _ _ _ _ _; rw [← LpM_open HC.out]; exact HM.out
                    obtain ⟨⟨cb, cc', hcb, -, -⟩, s2⟩ := HM0'.out.atC HR.out HC.out (Nat.zero_le _) HCV.out HVS.out hu
                    injection hcb with hcb hx hy
                    subst hcb
                    obtain ⟨ps, cs, hu2⟩ := row_slice s2
                    obtain ⟨sn, hsn⟩ : ∃ x, x = c.seq.length := ⟨_, rfl⟩
                    have HSN : Hid (sn = c.seq.length) := hsn
                    rw [← hsn] at hu2 hs8
                    subst hu2
                    have HU := hid_ofO hu
                    clear hc hsy lvs hu hx hy s2 hsn HM hjl hj
                    go_wp2
                    go_loopw [17] (fun x wr => ∃ m : Nat, m ≤ sn ∧ x = .int .i64 m ∧ Hid (BoM A K ob vb F g.start g.rules us1 h.start (.slice p3 n2 a3) (.slice (some ⟨rb4, 0, none⟩) r2 a4) us2 vss NS (.slice (some ⟨gn, 0, none⟩) (n1 + n2) cn) Lo uo (.slice po (r1 + i) co) (LpM n1 h.rules i r j c m) wr) ∧ Hid (wr.heap[rb]? = some (.cells #[.int .i64 (hd + (n1 : Int)), .slice (some ⟨cb, 0, none⟩) q cc] 36))) (fun x _ => sn - (intOf x).toNat)
                    case atStart => exact ⟨0, Nat.zero_le _, rfl, HM0', HRB⟩
                    case round =>
                      clear HM0' HRB g1
                      obtain ⟨m, hm, rfl, HM, HRB⟩ := hrel
                      obtain ⟨V6, hV6⟩ : ∃ x, x = wr := ⟨_, rfl⟩
                      subst hV6
                      have g1 : V6.cell? ⟨rb, 1, none⟩ = some (.slice (some ⟨cb, 0, none⟩) q cc) := cellO HRB.out 1
                      obtain ⟨⟨cb', cc'', hcb, -, g2⟩, s2⟩ := HM.out.atC HR.out HC.out (by rw [← HSN.out]; exact hm) HCV.out HVS.out HU.out
                      injection hcb with hcb hx hy
                      injection hcb with hcb
                      injection hcb with hcb
                      subst hcb
                      clear hx hy
                      by_cases hml : m < sn
                      · have hmI : (m : Int) < (sn : Int) := by omega
                        obtain ⟨s, hs⟩ : ∃ s, c.seq[m]? = some s := ⟨_, List.getElem?_eq_getElem (by rw [← HSN.out]; exact hml)⟩
                        obtain ⟨hs1, hs2⟩ := HSY.out s (List.mem_of_getElem? hs)
                        have HSS := hid_ofO hs
                        obtain ⟨sb, sc', hsb, -, f5, f6⟩ := HM.out.atS HR.out HC.out hs HCV.out HVS.out HU.out
                        injection hsb with hsb hx hy
                        subst hsb
                        clear hx hy
                        have S2 : Hid (V6.ownsRow K 44 3 (.slice (some ⟨sb, 0, none⟩) sn cs) sn (sysV (part (shS n1) c.seq m))) := by show World.ownsRow _ _ _ _ _ _ _; rw [← HSN.out] at s2; exact s2
                        obtain ⟨nm, hnm⟩ : ∃ x, x = s.name := ⟨_, rfl⟩
                        have HNM : Hid (nm = s.name) := hnm
                        rw [← hnm] at f6 hs1 hs2
                        clear hnm hs s2 hml hm
                        by_cases hneg : 0 ≤ nm
                        · --SH
                          have hx : shS n1 s = ⟨nm + (n1 : Int), s.lo, s.hi⟩ := by
                            have h9 := HNM.out
                            show Sy.mk (if s.name ≥ 0 then s.name + n1 else s.name) s.lo s.hi = _
                            rw [← h9, if_pos hneg]
                          have HFIN : Hid (BoM A K ob vb F g.start g.rules us1 h.start (.slice p3 n2 a3) (.slice (some ⟨rb4, 0, none⟩) r2 a4) us2 vss NS (.slice (some ⟨gn, 0, none⟩) (n1 + n2) cn) Lo uo (.slice po (r1 + i) co) (LpM n1 h.rules i r j c (m + 1)) (V6.setCell ⟨sb, m * 3, none⟩ (.int .i64 (nm + (n1 : Int))))) := HM.out.turn HR.out HC.out HSS.out hx HCV.out HVS.out (by rw [← HSN.out]; exact HU.out)
                          have HFI2 : Hid ((V6.setCell ⟨sb, m * 3, none⟩ (.int .i64 (nm + (n1 : Int)))).heap[rb]? = some (.cells #[.int .i64 (hd + (n1 : Int)), .slice (some ⟨cb, 0, none⟩) q cc] 36)) := BoM.symBlk (K := K) S2.out HRB.out (by decide)
                          clear hx HM HRB S2
                          go_upto_region 32 with fail
                          go_region
                          go_wp2
                          go_roundw
                          case rel => exact ⟨m + 1, by omega, by go_num, HFIN.out.keep ((Below.refl _ _).drew), HFI2⟩
                          case measure => simp [intOf]; omega
                        · --SI
                          have hx : shS n1 s = s := by
                            have h9 := HNM.out
                            show Sy.mk (if s.name ≥ 0 then s.name + n1 else s.name) s.lo s.hi = _
                            rw [if_neg (by omega)]
                          have HFIN : Hid (BoM A K ob vb F g.start g.rules us1 h.start (.slice p3 n2 a3) (.slice (some ⟨rb4, 0, none⟩) r2 a4) us2 vss NS (.slice (some ⟨gn, 0, none⟩) (n1 + n2) cn) Lo uo (.slice po (r1 + i) co) (LpM n1 h.rules i r j c (m + 1)) V6) := by show BoM _ _ _ _ _ _ _ _ _ _ _ _ _ _ _ _ _ _ _ _; rw [← LpM_same HR.out HC.out HSS.out hx]; exact HM.out
                          clear hx HM S2
                          go_wp2
                          go_roundw
                          case rel => exact ⟨m + 1, by omega, by go_num, HFIN, HRB⟩
                          case measure => simp [intOf]; omega
                      · --SJ
                        obtain rfl : sn = m := by omega
                        have hmI : ¬ (sn : Int) < (sn : Int) := by omega
                        have HFIN : Hid (BoM A K ob vb F g.start g.rules us1 h.start (.slice p3 n2 a3) (.slice (some ⟨rb4, 0, none⟩) r2 a4) us2 vss NS (.slice (some ⟨gn, 0, none⟩) (n1 + n2) cn) Lo uo (.slice po (r1 + i) co) (LpA n1 h.rules i r (j + 1)) V6) := by show BoM _ _ _ _ _ _ _ _ _ _ _ _ _ _ _ _ _ _ _ _; rw [← LpM_shut HC.out, ← HSN.out]; exact HM.out
                        clear HM hml hm s2
                        go_wp2
                        go_roundw
                        case rel => exact ⟨j + 1, by omega, by go_num, HFIN, HRB⟩
                        case measure => simp [intOf]; omega
                  · --SK
                    obtain rfl : q = j := by omega
                    have hjI : ¬ (q : Int) < (q : Int) := by omega
                    clear hjl hj
                    have hLL : Lo.length = r1 + i := by rw [HLO.out, List.length_append, List.length_map, List.length_take, ← HR1.out, Nat.min_eq_left (by rw [← HR2.out]; have := HILT.out; omega)]
                    have HLL := hid_ofO hLL
                    have e2 : V5.cell? ⟨ob, 2, none⟩ = some (.slice po (r1 + i) co) := cellO HM.out.vo 2
                    have r5 : V5.cell? ⟨rb, 0, none⟩ = some (.int .i64 (hd + (n1 : Int))) := cellO HRB.out 0
                    have OR5 : Hid (V5.ownsRow A.heap.size 36 2 (.slice po (r1 + i) co) (r1 + i) (rusV Lo uo)) := by show World.ownsRow _ _ _ _ _ _ _; have h9 := HM.out.oo; rw [hLL] at h9; exact h9
                    have RN5 : Hid ((Value.slice po (r1 + i) co).ownBlock ≠ some ob) := row_no OR5.out (by decide) HM.out.vo
                    have gl5 : ob < V5.heap.size := block_lt HM.out.vo
                    have hw5 : A.heap.size ≤ V5.heap.size := HM.out.bl.size
                    have f5 : V5.frozen? ⟨ob, 2, none⟩ = false := frzO HM.out.vo 2
                    obtain ⟨i3, hj0, hj1, hj2, hj3⟩ := info_parts Try.infoRuleO
                    have HI3 : Hid (Try.prog.info? 36 = some i3 ∧ i3.zero = some (.agg #[.int .i64 0, .slice none 0 0]) ∧ i3.size = 2 ∧ i3.bytes = 32) := ⟨hj0, hj1, hj2, hj3⟩
                    have MX3 : Hid (r1 + i + 1 ≤ maxLen) := by show _ ≤ _; unfold maxLen; have := HILT.out; omega
                    have BY3 : Hid ((r1 + i + 1) * 32 ≤ 140737488355328) := by show _ ≤ _; have := HILT.out; omega
                    have HFIN : Hid (∀ (gg cap : Nat) (w6 : World), (V5.alloc (.cells #[.int .i64 (hd + (n1 : Int)), .slice pc q cc] 36)).grownBy w6 (Value.slice po (r1 + i) co).ownBlock → w6.ownsRow A.heap.size 36 2 (.slice (some ⟨gg, 0, none⟩) (r1 + i + 1) cap) (r1 + i + 1) (rusV Lo uo ++ [.int .i64 (hd + (n1 : Int)), .slice pc q cc]) → ((Value.slice po (r1 + i) co).ownBlock = some gg ∨ gg = V5.heap.size + 1) →
                        BoM A K ob vb F g.start g.rules us1 h.start (.slice p3 n2 a3) (.slice (some ⟨rb4, 0, none⟩) r2 a4) us2 vss NS (.slice (some ⟨gn, 0, none⟩) (n1 + n2) cn) (g.rules ++ (h.rules.take (i + 1)).map (shR n1)) (us1 ++ us2.take (i + 1)) (.slice (some ⟨gg, 0, none⟩) (r1 + (i + 1)) cap) (part (shK n1) h.rules (i + 1)) (w6.setCell ⟨ob, 2, none⟩ (.slice (some ⟨gg, 0, none⟩) (r1 + i + 1) cap))) := fun gg cap w6 hg hown hat => by
                      have h1 := HM.out.ruleA (cs := r.conj.map (shC n1)) HLL.out hg hown hat
                      rw [HQ.out, LpA_shut HR.out] at h1
                      have e1 : Lo ++ [(⟨hd + (n1 : Int), r.conj.map (shC n1)⟩ : Ru)] = g.rules ++ (h.rules.take (i + 1)).map (shR n1) := by
                        rw [HLO.out, List.take_add_one, HR.out, List.map_append, List.append_assoc, HHD.out]; rfl
                      have e2 : uo ++ [.slice pc r.conj.length cc] = us1 ++ us2.take (i + 1) := by
                        have h9 := HCV.out
                        rw [HQ.out] at h9
                        rw [HUO.out, List.take_add_one, h9, List.append_assoc]; rfl
                      rw [e1, e2] at h1
                      exact h1
                    clear hLL hj0 hj1 hj2 hj3
                    have hltI : (i : Int) < (r2 : Int) := by have := HILT.out; omega
                    go_upto_region 33 with fail
                    go_wp2_with (at_builtin; refine wpList_append_lies _ rfl _ _ 23 rfl A.heap.size 36 i3 (.agg #[.int .i64 0, .slice none 0 0]) 2 32 Try.underlying23 HI3.out.1 HI3.out.2.1 HI3.out.2.2.1 HI3.out.2.2.2 rfl (by decide) _ _ _ rfl (OR5.out.alloc _) ⟨V5.heap.size, 0, none⟩ 1 1 [.int .i64 (hd + (n1 : Int)), .slice pc q cc] rfl rfl (World.news_of_block (cs := #[.int .i64 (hd + (n1 : Int)), .slice pc q cc]) (t := 36) (fr := (0, 0)) (heap_alloc_new V5 _)) (fun x hx => by simp at hx; rcases hx with rfl | rfl <;> rfl) (by decide) MX3.out BY3.out (Nat.le_trans hw5 (le_alloc _ _)) (V5.heap.size + 1) (by simp) ?_; intro gg3 cap3 w6 hown3 hgrow3 hat3 hl3; have e6 : w6.cell? ⟨ob, 2, none⟩ = some (.slice po (r1 + i) co) := (hgrow3.cell_far ⟨ob, 2, none⟩ (by simp; omega) (Ne.symm RN5.out)).trans ((World.cell?_alloc_past _ _ _ gl5).trans e2); have f6 : w6.frozen? ⟨ob, 2, none⟩ = false := (hgrow3.frozen_far ⟨ob, 2, none⟩ (by simp; omega) (Ne.symm RN5.out)).trans ((World.frozen?_alloc_past _ _ _ gl5).trans f5))
                    have FIN := hid_ofO (HFIN.out gg3 cap3 w6 hgrow3 hown3 hat3)
                    clear HFIN hgrow3 hown3 hat3
                    go_roundw
                    case rel => exact ⟨i + 1, by have := HILT.out; omega, by go_num, _, _, FIN⟩
                    case measure => have := HILT.out; simp [intOf]; omega
              · --SL
                obtain rfl : r2 = i := by omega
                have hltI : ¬ (r2 : Int) < (r2 : Int) := by omega
                have HG : Hid (GrIs V Any (.slice (some ⟨gn, 0, none⟩) (n1 + n2) cn) (.slice po (r1 + r2) co) (bothG g h)) := by
                  have h1 := HM.out
                  rw [part_all _ _ HR2.out, List.take_of_length_le (by rw [← HR2.out]; exact Nat.le_refl _), List.take_of_length_le (by rw [HL2.out, ← HR2.out]; exact Nat.le_refl _)] at h1
                  have h2 := h1.fin
                  rw [HNS.out, HN1.out, HN2.out] at h2
                  rw [HN1.out, HN2.out]
                  exact h2
                have HBV : Hid (Below W.heap.size W V) := HWA.out.trans (HM.out.bl.mono HWA.out.size)
                have IA3 : Hid (∀ w, Below V.heap.size V w → IsEds w Any (.slice pa na ca) La) := fun w hb => IA2.out w (HM.out.bl.trans (hb.mono HM.out.bl.size))
                have IB3 : Hid (∀ w, Below V.heap.size V w → IsEds w Any (.slice pb nb cb) Lb) := fun w hb => IB2.out w (HM.out.bl.trans (hb.mono HM.out.bl.size))
                have e0 : V.cell? ⟨ob, 0, none⟩ = some (.int .i64 g.start) := cellO HM.out.vo 0
                have e1 : V.cell? ⟨ob, 1, none⟩ = some (.slice (some ⟨gn, 0, none⟩) (n1 + n2) cn) := cellO HM.out.vo 1
                have e2 : V.cell? ⟨ob, 2, none⟩ = some (.slice po (r1 + r2) co) := cellO HM.out.vo 2
                clear HM hlt hi IA2 IB2 HNS
                rcases HFF.out with HX | HX
                · have HY := hid_ofO (HX _ _ V HG.out V (Below.refl _ _))
                  clear HX HFF
                  go_wp2_with (first
                    | (go_at_call 7; refine (num_any _ _).mono ?_; rintro e wn ⟨rfl, rfl⟩)
                    | (go_at_call 6; refine HY.out.mono ?_; rintro e w7 ⟨rfl, b7⟩))
                  go_ret
                  exact ⟨rfl, HBV.out.trans (b7.out.mono HBV.out.size)⟩
                · have HY := hid_ofO (HX _ _ V HG.out V (Below.refl _ _))
                  obtain ⟨LL, hLL⟩ : ∃ x, x = La ++ Lb.map (shE n1) := ⟨_, rfl⟩
                  have HLLE : Hid (LL = La ++ Lb.map (shE n1)) := hLL
                  rw [← hLL] at HY
                  clear HX HFF hLL
                  obtain ⟨nL, hnL⟩ : ∃ x, x = LL.length := ⟨_, rfl⟩
                  have HNL : Hid (nL = LL.length) := hnL
                  clear hnL
                  go_upto_region 37 with (first
                    | (go_at_call 7; refine (num_any _ _).mono ?_; rintro e wn ⟨rfl, rfl⟩)
                    | (go_at_call 6; refine HY.out.mono ?_; rintro e w7 ⟨pl, cl, rfl, il, b7⟩; rw [← HNL.out]))
                  obtain ⟨i4, hj0, hj1, hj2, hj3⟩ := info_parts Try.infoEdO
                  have HI4 : Hid (Try.prog.info? 42 = some i4 ∧ i4.zero = some (.agg #[.int .i64 0, .int .i64 0, .bool false]) ∧ i4.size = 3 ∧ i4.bytes = 24) := ⟨hj0, hj1, hj2, hj3⟩
                  have IL : Hid (IsEds w7 Any (.slice pl nL cl) LL) := by show IsEds _ _ _ _; rw [HNL.out]; exact il.out
                  have hb8 := bel1 w7 (.cells #[] 42)
                  obtain ⟨v8, w8, hrun, hown8, hgrow8⟩ := run_append_reads (P := Try.prog) (w := w7.alloc (.cells #[] 42)) w7.heap.size 27 27 42 i4 _ 3 24 Try.underlying27 hj0 hj1 hj2 hj3 rfl (by decide) _ 0 [] (ownsRow_none w7 42 3 w7.heap.size (Nat.le_refl _)) (.slice pa na ca) na (edsV La) (by have h9 := IA3.out _ (b7.out.trans (hb8.mono b7.out.size)); unfold IsEds at h9; rw [← HNA.out] at h9; exact h9) (by rw [edsV_length, HNA.out]) (edsV_oneO La) (by unfold maxLen; omega) (by omega) (by simp)
                  obtain ⟨p8, c8, hv8⟩ := row_slice hown8
                  rw [Nat.zero_add] at hv8 hown8
                  subst hv8
                  have hB8 : Below w7.heap.size w7 w8 := hb8.grown hgrow8 hb8.size (fun x hx => Nat.le_of_eq (Option.some.inj (show some w7.heap.size = some x from hx)))
                  have HOW : Hid (w8.ownsRow w7.heap.size 42 3 (.slice p8 na c8) na (edsV La)) := hown8
                  have HB8 := hid_ofO hB8
                  clear hj0 hj1 hj2 hj3 hb8 hown8 hgrow8 hB8 il
                  go_wp2_with (at_builtin; refine wpList_run_appendO rfl _ _ 27 rfl _ _ rfl rfl hrun ?_)
                  clear hrun
                  go_loopw [20, 21] (fun v x wr => ∃ i : Nat, i ≤ nb ∧ x = .int .i64 i ∧ ∃ p c, v = .slice p (na + i) c ∧ Hid (wr.ownsRow w7.heap.size 42 3 (.slice p (na + i) c) (na + i) (edsV (La ++ (Lb.take i).map (shE n1)))) ∧ Hid (Below w7.heap.size w7 wr)) (fun _ x _ => nb - (intOf x).toNat)
                  case atStart => exact ⟨0, Nat.zero_le _, rfl, p8, c8, rfl, by show World.ownsRow _ _ _ _ _ _ (edsV (La ++ [])); rw [List.append_nil]; exact HOW.out, HB8.out⟩
                  case round =>
                    clear HOW HB8
                    obtain ⟨i, hi, rfl, p, c, rfl, HOW, HB⟩ := hrel
                    obtain ⟨V9, hV9⟩ : ∃ x, x = wr := ⟨_, rfl⟩
                    subst hV9
                    by_cases hlt : i < nb
                    · --SM
                      have hlI : (i : Int) < (nb : Int) := by omega
                      obtain ⟨e, he⟩ : ∃ e, Lb[i]? = some e := ⟨_, List.getElem?_eq_getElem (by rw [← HNB.out]; exact hlt)⟩
                      obtain ⟨g0, g1, g2, g3⟩ := HHE.out e (List.mem_of_getElem? he)
                      have HV9 : Below V.heap.size V V9 := b7.out.trans (HB.out.mono b7.out.size)
                      obtain ⟨gb, ogb, hpb, hgl, b0, b1, b2⟩ := (show IsEds V9 Any (.slice pb nb cb) Lb from IB3.out V9 HV9).at he
                      subst hpb
                      have HE := hid_ofO he
                      obtain ⟨ea, eb, ec⟩ := e
                      simp only at b0 b1 b2 g0 g1 g2 g3
                      have MX4 : Hid (na + i + 1 ≤ maxLen) := by show _ ≤ _; unfold maxLen; omega
                      have BY4 : Hid ((na + i + 1) * 24 ≤ 140737488355328) := by show _ ≤ _; omega
                      have ONE4 : Hid (∀ x ∈ [Value.int .i64 (ea + (n1 : Int)), .int .i64 (eb + (n1 : Int)), .bool ec], x.oneCell' = true) := fun x hx => by simp at hx; rcases hx with rfl | rfl | rfl <;> rfl
                      have hw9 : w7.heap.size ≤ V9.heap.size := HB.out.size
                      have wwa : IntKind.i64.wrap (ea + (n1 : Int)) = ea + (n1 : Int) := by rw [IntKind.wrap_i64]; omega
                      have wwb : IntKind.i64.wrap (eb + (n1 : Int)) = eb + (n1 : Int) := by rw [IntKind.wrap_i64]; omega
                      have HFIN : Hid (∀ (gg cap : Nat) (w9 : World), (V9.alloc (.cells #[.int .i64 (ea + (n1 : Int)), .int .i64 (eb + (n1 : Int)), .bool ec] 42)).grownBy w9 (Value.slice p (na + i) c).ownBlock → w9.ownsRow w7.heap.size 42 3 (.slice (some ⟨gg, 0, none⟩) (na + i + 1) cap) (na + i + 1) (edsV (La ++ (Lb.take i).map (shE n1)) ++ [.int .i64 (ea + (n1 : Int)), .int .i64 (eb + (n1 : Int)), .bool ec]) → Hid (w9.ownsRow w7.heap.size 42 3 (.slice (some ⟨gg, 0, none⟩) (na + (i + 1)) cap) (na + (i + 1)) (edsV (La ++ (Lb.take (i + 1)).map (shE n1)))) ∧ Hid (Below w7.heap.size w7 w9)) := fun gg cap w9 hg hown => by
                        refine ⟨?_, (HB.out.trans ((bel1 V9 _).mono hw9)).grown hg (Nat.le_trans hw9 (le_alloc _ _)) (fun x hx => (HOW.out.lt x hx).1)⟩
                        have e9 : edsV (La ++ (Lb.take (i + 1)).map (shE n1)) = edsV (La ++ (Lb.take i).map (shE n1)) ++ [.int .i64 (ea + (n1 : Int)), .int .i64 (eb + (n1 : Int)), .bool ec] := by
                          rw [List.take_add_one, HE.out, List.map_append, ← List.append_assoc, edsV_append]; rfl
                        show World.ownsRow _ _ _ _ _ _ _
                        rw [e9]; exact hown
                      clear he hlt hi HV9 hgl
                      go_upto_region 41 with fail
                      go_region_law (refine step_append_lies _ (by rfl) _ _ _ (by rfl) w7.heap.size 42 i4 _ 3 24 Try.underlying27 HI4.out.1 HI4.out.2.1 HI4.out.2.2.1 HI4.out.2.2.2 rfl (by omega) (.slice p (na + i) c) (na + i) (edsV (La ++ (Lb.take i).map (shE n1))) (by rfl) ((HOW.out.alloc _).drew) ⟨V9.heap.size, 0, none⟩ 1 1 [.int .i64 (ea + (n1 : Int)), .int .i64 (eb + (n1 : Int)), .bool ec] (by rfl) (by rfl) (World.news_of_block (cs := #[.int .i64 (ea + (n1 : Int)), .int .i64 (eb + (n1 : Int)), .bool ec]) (t := 42) (fr := (0, 0)) (heap_alloc_new V9 _)) ONE4.out (by omega) MX4.out BY4.out (Nat.le_trans hw9 (le_alloc _ _)) (V9.heap.size + 1) (by simp) ?_; intro gg cap1 w9 hown1 hgrow hat hltg)
                      all_goals
                        have FIN := HFIN.out gg cap1 w9 ⟨hgrow.os, hgrow.tape, hgrow.output, hgrow.size, hgrow.block⟩ hown1
                        clear HFIN hgrow hown1 hat
                        go_wp2
                        go_roundw
                        case rel => exact ⟨i + 1, by omega, by go_num, _, _, rfl, FIN.1, FIN.2⟩
                        case measure => simp [intOf]; omega
                    · --SN
                      obtain rfl : nb = i := by omega
                      have hlI : ¬ (nb : Int) < (nb : Int) := by omega
                      have IW : Hid (IsEds V9 Any (.slice p (na + nb) c) LL) := by
                        have h1 := HOW.out
                        rw [List.take_of_length_le (by rw [← HNB.out]; exact Nat.le_refl _), ← HLLE.out] at h1
                        have h2 : na + nb = LL.length := by rw [HLLE.out, List.length_append, List.length_map, HNA.out, HNB.out]
                        rw [h2] at h1 ⊢
                        exact Reads.of h1 (fun _ _ => trivial)
                      have hL9 : LL.length ≤ 100000000 := by rw [HLLE.out, List.length_append, List.length_map, ← HNA.out, ← HNB.out]; omega
                      have HZ := hid_ofO (HS.out (.slice pl nL cl) (.slice p (na + nb) c) LL V9 (IL.out.any HB.out) IW.out hL9)
                      have HB7 : Hid (Below W.heap.size W V9) := HBV.out.trans ((b7.out.trans (HB.out.mono b7.out.size)).mono HBV.out.size)
                      clear hlt hi IW hL9
                      go_wp2_with (go_at_call 12; refine HZ.out.mono ?_; rintro e w10 ⟨rfl, b10⟩)
                      go_ret
                      exact ⟨rfl, HB7.out.trans (b10.out.mono HB7.out.size)⟩
end Go.Proofs.Ytdoibpgkfdpbdaa
