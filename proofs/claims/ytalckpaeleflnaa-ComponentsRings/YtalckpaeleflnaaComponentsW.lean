/- Components, walked. -/
import Derived.Test.YtalckpaeleflnaaCmpRef2
import Derived.Test.YtalckpaeleflnaaCmpOpen
namespace Go.Proofs.Ytalckpaeleflnaa
set_option linter.unusedVariables false
open Go.ChangeShapes Go.WideShapes Go.ChangeAt Go.RowKit

theorem Try.infoEd : (Try.prog.info? 37).map (fun i => (i.zero, i.size, i.bytes)) = some (some (.agg #[.int .i64 0, .int .i64 0, .bool false]), 3, 24) := by kernel_rfl
theorem Try.eqEd (a b : Int) (c : Bool) (a' b' : Int) (c' : Bool) (w : World) : (Op.equalIn 10000 37 (.agg #[.int .i64 a, .int .i64 b, .bool c]) (.agg #[.int .i64 a', .int .i64 b', .bool c'])).run Try.prog w = .ok (decide (a = a' ∧ b = b' ∧ c = c')) w := by
  have u3 := Try.underlying3
  have a3 := Try.isAgg3
  have z3 := Try.sizeOf3
  have u9 := Try.underlying4
  have a9 := Try.isAgg4
  have z9 := Try.sizeOf4
  have F : (Try.prog.fieldsOf 37).toList.map (fun f => (f.name, f.type, f.offset)) = [("From", 3, 0), ("To", 3, 1), ("Neg", 4, 2)] := by kernel_rfl
  rw [show (10000 : Nat) = 9999 + 1 from rfl, run_equalIn_agg w 9999 _ _ _ (by kernel_rfl) (by kernel_rfl)]
  generalize (Try.prog.fieldsOf 37).toList = fs at F
  have hl : fs.length = 3 := by simpa using congrArg List.length F
  match fs, hl, F with
  | [f0, f1, f2], _, F =>
    simp at F
    obtain ⟨⟨n0, t0, o0⟩, ⟨n1, t1, o1⟩, ⟨n2, t2, o2⟩⟩ := F
    simp only [Op.eqFields, n0, t0, o0, n1, t1, o1, n2, t2, o2]
    by_cases e1 : a = a'
    · by_cases e2 : b = b'
      · by_cases e3 : c = c'
        · subst e1 e2 e3
          go_simp
        · have f3 : (c == c') = false := by simpa using e3
          subst e1 e2
          go_simp
      · have f2 : (b == b') = false := by simpa using e2
        subst e1
        go_simp
    · have f1 : (a == a') = false := by simpa using e1
      go_simp
set_option maxHeartbeats 2000000 in
theorem sameEds_yes (va vb : Value) (l : List Ed) (w : World) {F G : Nat → Prop} (ha : IsEds w F va l) (hb : IsEds w G vb l) :
    Calls Try.prog 25 #[va, vb] w fun e w' => e = .returned (.bool true) ∧ Hid (Below w.heap.size w w') := by
  have hm9 : l.length ≤ 9223372036854775807 := by have := ha.len; unfold maxLen at this; omega
  obtain ⟨p, cp, rfl⟩ := ha.slc
  obtain ⟨q, cq, rfl⟩ := hb.slc
  have HA : Hid (IsEds w F (.slice p l.length cp) l) := ha
  have HB : Hid (IsEds w G (.slice q l.length cq) l) := hb
  clear ha hb
  go_enter Try.func25, Try.ntmps25
  go_wp2
  go_loopw [5] (fun i wr => ∃ k : Nat, k ≤ l.length ∧ i = .int .i64 k ∧ Hid (Below w.heap.size w wr)) (fun i _ => l.length - (intOf i).toNat)
  case atStart => exact ⟨0, by omega, rfl, Below.refl _ _⟩
  case round =>
    obtain ⟨k, hk, rfl, HW⟩ := hrel
    by_cases hlt : k < l.length
    · obtain ⟨t, ht⟩ : ∃ t, l[k]? = some t := ⟨_, List.getElem?_eq_getElem hlt⟩
      obtain ⟨g1, o1, hp, -, a0, a1, a2⟩ := (HA.out.any HW.out).at ht
      obtain ⟨g2, o2, hq, -, b0, b1, b2⟩ := (HB.out.any HW.out).at ht
      subst hp hq
      have heq : ∀ w, (Op.equalIn 10000 37 (.agg #[.int .i64 t.1, .int .i64 t.2.1, .bool t.2.2]) (.agg #[.int .i64 t.1, .int .i64 t.2.1, .bool t.2.2])).run Try.prog w = .ok true w := fun w => by rw [Try.eqEd]; simp
      generalize t.1 = x0 at a0 b0 heq
      generalize t.2.1 = x1 at a1 b1 heq
      generalize t.2.2 = x2 at a2 b2 heq
      clear ht
      go_wp2
      go_quiet (fail)
      go_wp2
      go_roundw
      case rel => exact ⟨k + 1, by omega, by go_num, ⟨HW.out.os, HW.out.tape, HW.out.output, HW.out.size, HW.out.block⟩⟩
      case measure => simp [intOf]; omega
    · obtain rfl : k = l.length := by omega
      go_wp2
      go_ret
      exact ⟨rfl, HW⟩
/-- An append of nothing. -/
theorem run_append_none {P : Program} {w : World} (base : Nat) (t ty e : TypeId) (i : TypeInfo) (size : Nat) (ht : P.underlying t = some (.slice e)) (hi : P.info? e = some i) (v : Value) (n : Nat) (xs : List Value) (hown : w.ownsRow base e size v n xs) (c : Nat) :
    (Builtin.append_ #[t, t] ty #[v, .slice none 0 c]).run P w = .ok v w := by
  obtain ⟨_, ⟨rfl, rfl⟩ | ⟨g, cap, cur, rfl, _, _, hnc, _⟩⟩ := hown
  · simp [Builtin.append_, run_underlying ht, sizeOf, typeInfo, hi, Builtin.lenOf, Builtin.firstCells]
  · simp [Builtin.append_, run_underlying ht, sizeOf, typeInfo, hi, Builtin.lenOf, Builtin.firstCells, hnc, storeCells]
/-- An append of a row that may be nil or empty. -/
theorem run_append_reads {P : Program} {w : World} {F : Nat → Prop} (base : Nat) (t ty e : TypeId) (i : TypeInfo) (z : Value) (size bytes : Nat) (ht : P.underlying t = some (.slice e)) (hi : P.info? e = some i) (hz : i.zero = some z)
    (hsize : i.size = size) (hby : i.bytes = bytes) (hzs : z.cells.size = size) (hsz : 0 < size) (v : Value) (n : Nat) (xs : List Value) (hown : w.ownsRow base e size v n xs)
    (u : Value) (m : Nat) (cs : List Value) (hu : Reads w F u m cs) (hl : cs.length = m * size) (h1 : ∀ x ∈ cs, x.oneCell' = true) (h63 : n + m ≤ maxLen) (hbytes : (n + m) * bytes ≤ 140737488355328) (hbase : base ≤ w.heap.size) :
    ∃ v' w', (Builtin.append_ #[t, t] ty #[v, u]).run P w = .ok v' w' ∧ w'.ownsRow base e size v' (n + m) (xs ++ cs) ∧ w.grownBy w' v.ownBlock := by
  obtain ⟨p, c, rfl, _, hc⟩ := hu
  cases p with
  | none =>
    have hm : m = 0 := by
      rcases Nat.eq_zero_or_pos m with h | h
      · exact h
      · obtain ⟨g, o, e1, _⟩ := hc h; cases e1
    subst hm
    have hcs : cs = [] := List.length_eq_zero_iff.1 (by rw [hl]; simp)
    subst hcs
    exact ⟨v, w, run_append_none base t ty e i size ht hi v n xs hown c, by simpa using hown, World.grownBy.refl w _⟩
  | some a =>
    have hnews : ∀ j x, cs[j]? = some x → w.cell? (a.add j) = some x := fun j x hx => by
      have hm : 0 < m := by
        rcases Nat.eq_zero_or_pos m with h | h
        · subst h
          have hj := (List.getElem?_eq_some_iff.1 hx).1
          rw [hl] at hj; simp at hj
        · exact h
      obtain ⟨g, o, e1, _, _, cc, _⟩ := hc hm
      injection e1 with e1
      subst e1
      have hadd : (⟨g, o, none⟩ : Addr).add j = ⟨g, o + j, none⟩ := by unfold Addr.add; split <;> simp_all
      rw [hadd]; exact cc j x hx
    obtain ⟨v', w', h2, h3, h4, _⟩ := run_append_own (P := P) (w := w) base t ty e i z size bytes ht hi hz hsize hby hzs hsz v n xs hown a m c cs hl hnews h1 h63 hbytes hbase
    exact ⟨v', w', h2, h3, h4⟩
/-- An append that is known. -/
theorem wpList_run_append {P : Program} {w : World} {ops : Array Oper} {rest : List Oper} {o : Oper} {a : Act} {Q : Exit → Act → World → Prop} (hgd : o.guard = none) (s x : Operand) (t : TypeId)
    (ho : o.op = .call { callee := .builtin .append, args := #[s, x], argTypes := #[t, t] }) (v u : Value) (hs : a.eval s = v) (hx : a.eval x = u) {v' : Value} {w' : World} (hr : (Builtin.append_ #[t, t] o.type #[v, u]).run P w = .ok v' w') (h : wpList P ops Q rest (a.put o.dst v') w') :
    wpList P ops Q (o :: rest) a w := wpList_plain hgd fun K hK => by
  unfold Oper.wp execOp
  simp only [ho, resolve, invoke, builtin, Sem.run_bind, Sem.run_pure, Result.andThen_ok, List.map_toArray, List.map_cons, List.map_nil, hs, hx, hr]
  exact hK _ _ h
theorem edsV_one (l : List Ed) : ∀ x ∈ edsV l, x.oneCell' = true := by
  induction l with
  | nil => intro x hx; simp [edsV] at hx
  | cons e l ih =>
    intro x hx
    unfold edsV edV at hx
    simp only [List.cons_append, List.nil_append, List.mem_cons] at hx
    rcases hx with rfl | rfl | rfl | hx
    · rfl
    · rfl
    · rfl
    · exact ih x hx
set_option maxHeartbeats 2000000 in
set_option maxRecDepth 100000 in
theorem copyEds_any (v : Value) (l : List Ed) (w : World) {F : Nat → Prop} (ha : IsEds w F v l) (hz : l.length * 24 ≤ 140737488351232) :
    Calls Try.prog 17 #[v] w fun e w' => ∃ p c, e = .returned (.slice p l.length c) ∧ Hid (w'.ownsRow w.heap.size 37 3 (.slice p l.length c) l.length (edsV l)) ∧ Hid (Below w.heap.size w w') := by
  obtain ⟨i, hi0, hz0, hz1, hz2⟩ := info_parts Try.infoEd
  have hmx : l.length ≤ maxLen := ha.len
  have HK : Hid (∀ (o : Obj), o = .cells #[] 37 → ∃ v' w', (Builtin.append_ #[22, 22] 22 #[.slice (some ⟨w.heap.size, 0, none⟩) 0 0, v]).run Try.prog (w.alloc o) = .ok v' w' ∧ w'.ownsRow w.heap.size 37 3 v' l.length (edsV l) ∧ (w.alloc o).grownBy w' (some w.heap.size)) := fun o ho => by
    subst ho
    have hown : (w.alloc (.cells #[] 37)).ownsRow w.heap.size 37 3 (.slice (some ⟨w.heap.size, 0, none⟩) 0 0) 0 [] := World.ownsRow_made w _ 0 (Nat.le_refl _) (Nat.zero_le _) rfl
    have := run_append_reads (P := Try.prog) (F := F) w.heap.size 22 22 37 i _ 3 24 Try.underlying22 hi0 hz0 hz1 hz2 rfl (by decide) _ 0 [] hown v l.length (edsV l) (ha.any (bel1 w _)) (edsV_length l) (edsV_one l) (by omega) (by omega) (by simp)
    simp only [List.nil_append, Nat.zero_add] at this
    exact this
  obtain ⟨p, cp, rfl⟩ := ha.slc
  clear ha
  obtain ⟨v', w2, hrun, hown, hgrow⟩ := HK.out _ rfl
  have HO : Hid (w2.ownsRow w.heap.size 37 3 v' l.length (edsV l)) := hown
  have HB : Hid (Below w.heap.size w w2) := (bel1 w _).grown hgrow (by simp) (fun g hg => by injection hg with hg; omega)
  obtain ⟨p2, c2, hv⟩ := row_slice hown
  subst hv
  clear HK hown hgrow
  go_enter Try.func17, Try.ntmps17
  go_wp2_with (at_builtin; refine wpList_run_append rfl _ _ 22 rfl _ _ rfl rfl hrun ?_)
  go_ret
  exact ⟨_, _, rfl, HO, HB⟩
def mk7 : Ed := (77777, 0, false)
/-- Edges lent, with two marked places behind them. -/
def Lent (w : World) (B : Nat) (v : Value) (l : List Ed) : Prop :=
  ∃ g cap, v = .slice (some ⟨g, 0, none⟩) l.length cap ∧ w.ownsRow B 37 3 (.slice (some ⟨g, 0, none⟩) (l.length + 2) cap) (l.length + 2) (edsV (l ++ [mk7, mk7]))
theorem Lent.keep {w w' : World} {B : Nat} {v : Value} {l : List Ed} (h : Lent w B v l) (hb : Below w.heap.size w w') : Lent w' B v l := by
  obtain ⟨g, cap, h1, h2⟩ := h
  exact ⟨g, cap, h1, row_keep h2 hb⟩
theorem Lent.cap {w : World} {B g n cap : Nat} {xs : List Value} (h : w.ownsRow B 37 3 (.slice (some ⟨g, 0, none⟩) n cap) n xs) : n ≤ cap ∧ cap ≤ maxLen := by
  obtain ⟨_, ⟨h1, _⟩ | ⟨g', c', cur, h1, h2, h3, h4, h5, _⟩⟩ := h
  · cases h1
  · injection h1 with _ _ h1
    subst h1
    exact ⟨h4, h5⟩
theorem Lent.eds {w : World} {B : Nat} {v : Value} {l : List Ed} (h : Lent w B v l) : IsEds w Any v l := by
  obtain ⟨g, cap, h1, h2⟩ := h
  have hc := Lent.cap h2
  refine ⟨_, _, h1, ⟨by omega, by omega⟩, fun _ => ?_⟩
  obtain ⟨p, c, e1, _, hr⟩ := Reads.of (F := Any) h2 (fun _ _ => trivial)
  obtain ⟨g', o', e2, e3, e4, e5, e6⟩ := hr (by omega)
  injection e1 with e1
  subst e1
  injection e2 with e2
  injection e2 with e2 e7
  subst e2 e7
  refine ⟨g, 0, rfl, e3, e4, fun j x hj => e5 j x ?_, fun j hj => e6 j ?_⟩
  · rw [edsV_append, List.getElem?_append_left (List.getElem?_eq_some_iff.1 hj).1]; exact hj
  · rw [edsV_append, List.length_append]; omega
theorem Lent.marks {w : World} {B g cap : Nat} {l : List Ed} (h : w.ownsRow B 37 3 (.slice (some ⟨g, 0, none⟩) (l.length + 2) cap) (l.length + 2) (edsV (l ++ [mk7, mk7]))) :
    (w.cell? ⟨g, l.length * 3, none⟩ = some (.int .i64 77777) ∧ w.cell? ⟨g, l.length * 3 + 1, none⟩ = some (.int .i64 0) ∧ w.cell? ⟨g, l.length * 3 + 2, none⟩ = some (.bool false)) ∧
    (w.cell? ⟨g, (l.length + 1) * 3, none⟩ = some (.int .i64 77777) ∧ w.cell? ⟨g, (l.length + 1) * 3 + 1, none⟩ = some (.int .i64 0) ∧ w.cell? ⟨g, (l.length + 1) * 3 + 2, none⟩ = some (.bool false)) := by
  have h1 := edsV_at (l ++ [mk7, mk7]) l.length mk7 (by rw [List.getElem?_append_right (Nat.le_refl _)]; simp)
  have h2 := edsV_at (l ++ [mk7, mk7]) (l.length + 1) mk7 (by rw [List.getElem?_append_right (by omega)]; simp)
  have c : ∀ j x, j < (l.length + 2) * 3 → (edsV (l ++ [mk7, mk7]))[j]? = some x → w.cell? ⟨g, j, none⟩ = some x := fun j x hj hx => (h.cellAt j hj).trans hx
  exact ⟨⟨c _ _ (by omega) h1.1, c _ _ (by omega) h1.2.1, c _ _ (by omega) h1.2.2⟩, c _ _ (by omega) h2.1, c _ _ (by omega) h2.2.1, c _ _ (by omega) h2.2.2⟩
theorem news6 (w : World) (cs : Array Value) (t : TypeId) (j : Nat) (u : Value) (hj : cs.toList[j]? = some u) : (w.alloc (.cells cs t)).cell? ((⟨w.heap.size, 0, none⟩ : Addr).add j) = some u := by
  rw [Addr.add_mid, Nat.zero_add, cell_of_row _ _ j _ _ (0, 0) (heap_alloc_new w _)]; simpa using hj
set_option maxHeartbeats 2000000 in
set_option maxRecDepth 100000 in
theorem lend_any (v : Value) (l : List Ed) (w : World) {F : Nat → Prop} (ha : IsEds w F v l) (hz : l.length * 24 ≤ 140737488351232) :
    Calls Try.prog 8 #[v] w fun e w' => ∃ u, e = .returned u ∧ Hid (Lent w' w.heap.size u l) ∧ Hid (Below w.heap.size w w') := by
  have K1 := copyEds_any v l w ha hz
  obtain ⟨i, hi0, hz0, hz1, hz2⟩ := info_parts Try.infoEd
  obtain ⟨p, cp, rfl⟩ := ha.slc
  obtain ⟨n, hn⟩ : ∃ n, n = l.length := ⟨_, rfl⟩
  have MX : n + 2 ≤ maxLen := by unfold maxLen; omega
  have BY : (n + 2) * 24 ≤ 140737488355328 := by omega
  have HN : Hid (n = l.length) := hn
  rw [← hn] at K1 ⊢
  clear ha hz hn
  go_enter Try.func8, Try.ntmps8
  go_wp2_with (first
    | (go_at_call 17; refine K1.mono ?_; rintro e w1 ⟨p1, c1, rfl, HO, b1⟩; have hz1' := b1.out.size)
    | (at_builtin; refine wpList_append_own _ rfl _ _ 22 rfl w.heap.size 37 i _ 3 24 Try.underlying22 hi0 hz0 hz1 hz2 rfl (by decide) _ _ _ rfl (HO.out.alloc _) ⟨w1.heap.size, 0, none⟩ 2 2 [.int .i64 77777, .int .i64 0, .bool false, .int .i64 77777, .int .i64 0, .bool false] rfl rfl (news6 w1 #[.int .i64 77777, .int .i64 0, .bool false, .int .i64 77777, .int .i64 0, .bool false] _) ?c2 MX BY ?c5 ?_))
  case c2 => intro u hu; simp at hu; rcases hu with rfl | rfl | rfl | rfl | rfl | rfl <;> rfl
  case c5 => simp; omega
  intro v' w3 hown' hgrow _
  have HB : Hid (Below w.heap.size w w3) := (b1.out.alloc hz1' _).grown hgrow (by simp; omega) (fun g hg => (HO.out.lt g hg).1)
  have HL : Hid (w3.ownsRow w.heap.size 37 3 v' (l.length + 2) (edsV (l ++ [mk7, mk7]))) := by
    show World.ownsRow _ _ _ _ _ _ _
    rw [← HN.out, edsV_append]; exact hown'
  have hex : ∃ g cap, v' = .slice (some ⟨g, 0, none⟩) (n + 2) cap ∧ n + 2 ≤ cap := by
    obtain ⟨_, ⟨h1, h2⟩ | ⟨g, c', cur, h1, h2, h3, h4, h5, _⟩⟩ := hown'
    · omega
    · exact ⟨g, c', h1, h4⟩
  obtain ⟨g, cap, hv, hcap⟩ := hex
  subst hv
  have hnc : n ≤ cap := by omega
  clear hown' hgrow
  go_wp2
  go_ret
  refine ⟨_, rfl, ?_, HB⟩
  show Lent _ _ _ _
  rw [HN.out] at *
  exact ⟨g, cap, rfl, HL.out⟩
set_option maxHeartbeats 2000000 in
set_option maxRecDepth 100000 in
theorem kept_any (x v : Value) (l : List Ed) (w : World) {B : Nat} {F : Nat → Prop} (hx : Lent w B x l) (ha : IsEds w F v l) :
    Calls Try.prog 15 #[x, v] w fun e w' => e = .returned (.bool true) ∧ Hid (Below w.heap.size w w') := by
  have K1 := sameEds_yes x v l w hx.eds ha
  obtain ⟨g, cap, rfl, hown⟩ := hx
  have hcap := Lent.cap hown
  have hmx : cap ≤ 9223372036854775807 := by have := hcap.2; unfold maxLen at this; omega
  obtain ⟨p, cp, rfl⟩ := ha.slc
  obtain ⟨n, hn⟩ : ∃ n, n = l.length := ⟨_, rfl⟩
  have HM : Hid (∀ w', Below w.heap.size w w' → (w'.cell? ⟨g, n * 3, none⟩ = some (.int .i64 77777) ∧ w'.cell? ⟨g, n * 3 + 1, none⟩ = some (.int .i64 0) ∧ w'.cell? ⟨g, n * 3 + 2, none⟩ = some (.bool false)) ∧
    (w'.cell? ⟨g, (n + 1) * 3, none⟩ = some (.int .i64 77777) ∧ w'.cell? ⟨g, (n + 1) * 3 + 1, none⟩ = some (.int .i64 0) ∧ w'.cell? ⟨g, (n + 1) * 3 + 2, none⟩ = some (.bool false))) := fun w' hb => by
    rw [hn]; exact Lent.marks (row_keep hown hb)
  have heq : ∀ w, (Op.equalIn 10000 37 (.agg #[.int .i64 77777, .int .i64 0, .bool false]) (.agg #[.int .i64 77777, .int .i64 0, .bool false])).run Try.prog w = .ok true w := fun w => by rw [Try.eqEd]; simp
  rw [← hn] at K1 hcap ⊢
  obtain ⟨hc1, hc2⟩ := hcap
  clear ha hown hn hc2
  go_enter Try.func15, Try.ntmps15
  go_wp2_with (go_at_call 25; refine K1.mono ?_; rintro e w1 ⟨rfl, b1⟩; obtain ⟨⟨m0, m1, m2⟩, k0, k1, k2⟩ := HM.out _ b1.out)
  go_ret
  exact ⟨rfl, b1⟩
set_option maxHeartbeats 4000000 in
set_option maxRecDepth 100000 in
theorem components_walk (w : World) (n : Int) (w0 : (Lit.int .i64 n).wf = true) (v : Value) (l : List Ed) (ha : IsEds w Any v l) (hz : l.length * 24 ≤ reachBytes) (ok : ∀ e, e ∈ l → okE e) (a : Int) (w2 : (Lit.int .i64 a).wf = true) (b : Int) (w3 : (Lit.int .i64 b).wf = true) :
    Calls Try.prog 3 #[.int .i64 n, v, .int .i64 a, .int .i64 b] w fun e w' => e = .returned (.bool true) ∧ Below w.heap.size w w' := by
  have K1 := lend_any v l w ha hz
  have HA : Hid (∀ w', Below w.heap.size w w' → IsEds w' Any v l) := fun w' hb => ha.any hb
  have hsame : ∃ (L : List Int) (c : Int), Hid (L.length ≤ 100) ∧ Hid (∀ (u : Value) (w' : World), IsEds w' Any u l → (Calls Try.prog 9 #[.int .i64 n, u] w' fun e w'' => ∃ x, e = .returned (.tuple #[x, .int .i64 c]) ∧ Hid (IsInts w'' Any x L) ∧ Hid (Below w'.heap.size w' w'')) ∧
      (Calls Try.prog 10 #[.int .i64 n, u] w' fun e w'' => ∃ x, e = .returned (.tuple #[x, .int .i64 c]) ∧ Hid (IsInts w'' Any x L) ∧ Hid (Below w'.heap.size w' w''))) := by
    cases hm : mayE n l with
    | false => exact ⟨[], 700, by show _ ≤ _; simp, fun u w' hu => ⟨(comps_no n u l w' hu hm).mono fun e w'' ⟨h1, h2⟩ => ⟨_, h1, ints_nil _ _, h2⟩, (compsRef_no n u l w' hu hm).mono fun e w'' ⟨h1, h2⟩ => ⟨_, h1, ints_nil _ _, h2⟩⟩⟩
    | true =>
      have hn := mayE_all hm
      obtain ⟨m, rfl⟩ : ∃ m : Nat, n = (m : Int) := ⟨n.toNat, by omega⟩
      exact ⟨compsT m l, 0, by show _ ≤ _; rw [compsT_length]; omega, fun u w' hu => ⟨(comps_ok m u l w' hu hm).mono fun e w'' ⟨x, h1, h2, h3⟩ => ⟨x, h1, h2.out.keep (Nat.le_refl _) (fun _ _ _ => rfl) (fun _ _ _ => trivial), h3⟩, (compsRef_ok m u l w' hu hm).mono fun e w'' ⟨x, h1, h2, h3⟩ => ⟨x, h1, h2.out.keep (Nat.le_refl _) (fun _ _ _ => rfl) (fun _ _ _ => trivial), h3⟩⟩⟩
  obtain ⟨L, c, HLL, HC⟩ := hsame
  have HR : Hid (∀ (u : Value) (w' : World), IsEds w' Any u l → (Calls Try.prog 13 #[.int .i64 n, u, .int .i64 a, .int .i64 b] w' fun e w'' => e = .returned (.bool (reachT n l a b)) ∧ Hid (Below w'.heap.size w' w'')) ∧
      (Calls Try.prog 14 #[.int .i64 n, u, .int .i64 a, .int .i64 b] w' fun e w'' => e = .returned (.bool (reachT n l a b)) ∧ Hid (Below w'.heap.size w' w''))) := fun u w' hu => ⟨reaches_any n u l a b w' hu, reachRef_any n u l a b w' hu⟩
  obtain ⟨p, cp, hp⟩ := ha.slc
  subst hp
  generalize reachT n l a b = R at HR
  clear ha ok
  go_enter Try.func3, Try.ntmps3
  go_wp2_with (first
    | (go_at_call 8; refine K1.mono ?_; rintro e w1 ⟨x, rfl, HL1, H1⟩)
    | (go_at_call 9; refine (HC.out _ _ HL1.out.eds).1.mono ?_; rintro e w2 ⟨x2, rfl, I2, b2⟩; have H2 : Hid (Below w.heap.size w w2) := H1.out.trans (b2.out.mono H1.out.size); have HL2 : Hid (Lent w2 w.heap.size x l) := HL1.out.keep b2.out; clear b2)
    | (go_at_call 10; refine (HC.out _ _ (HA.out _ H2.out)).2.mono ?_; rintro e w3 ⟨x3, rfl, I3, b3⟩; have H3 : Hid (Below w.heap.size w w3) := H2.out.trans (b3.out.mono H2.out.size); have HL3 : Hid (Lent w3 w.heap.size x l) := HL2.out.keep b3.out; have I23 : Hid (IsInts w3 Any x2 L) := I2.out.any b3.out; clear b3)
    | (go_at_call 11; refine (sameInts_yes _ _ L _ I23.out I3.out (Nat.le_trans HLL.out (by decide))).mono ?_; rintro e w4 ⟨rfl, b4⟩; have H4 : Hid (Below w.heap.size w w4) := H3.out.trans (b4.out.mono H3.out.size); have HL4 : Hid (Lent w4 w.heap.size x l) := HL3.out.keep b4.out; clear b4)
    | (go_at_call 12; refine (num_any _ _).mono ?_; rintro e wn ⟨rfl, rfl⟩)
    | (go_at_call 13; refine (HR.out _ _ HL4.out.eds).1.mono ?_; rintro e w5 ⟨rfl, b5⟩; have H5 : Hid (Below w.heap.size w w5) := H4.out.trans (b5.out.mono H4.out.size); have HL5 : Hid (Lent w5 w.heap.size x l) := HL4.out.keep b5.out; clear b5)
    | (go_at_call 14; refine (HR.out _ _ (HA.out _ H5.out)).2.mono ?_; rintro e w6 ⟨rfl, b6⟩; have H6 : Hid (Below w.heap.size w w6) := H5.out.trans (b6.out.mono H5.out.size); have HL6 : Hid (Lent w6 w.heap.size x l) := HL5.out.keep b6.out; clear b6)
    | (go_at_call 15; refine (kept_any _ _ l _ HL6.out (HA.out _ H6.out)).mono ?_; rintro e w7 ⟨rfl, b7⟩; have H7 : Hid (Below w.heap.size w w7) := H6.out.trans (b7.out.mono H6.out.size); clear b7)
    | (go_at_call 16; refine (awake7_any _).mono ?_; rintro e w8 ⟨rfl, b8⟩; have H8 : Hid (Below w.heap.size w w8) := H7.out.trans (b8.out.mono H7.out.size); clear b8))
  go_ret
  exact ⟨rfl, H8.out⟩
end Go.Proofs.Ytalckpaeleflnaa
