/- pair and add of package bin. -/
import Derived.Test.YtgpklcpmabafmaaDoorBinM
import Derived.Test.YtgpklcpmabafmaaDoorCopyGrW
import Derived.Deep.Cut
import Derived.Deep.RegionHeld3
namespace Go.Proofs.YtgpklcpmabafmaaDoor
set_option linter.unusedVariables false
set_option linter.unusedSimpArgs false
open Go.ChangeShapes Go.WideShapes Go.ChangeAt Go.RowKit

theorem Tryd.infoSyP : (Tryd.prog.info? 32).map (fun i => (i.zero, i.size, i.bytes)) = some (some (.agg #[.int .i64 0, .int .i64 0, .int .i64 0]), 3, 24) := by kernel_rfl
theorem wpList_run_appB {P : Program} {w : World} {ops : Array Oper} {rest : List Oper} {o : Oper} {a : Act} {Q : Exit → Act → World → Prop} (hgd : o.guard = none) (s x : Operand) (t : TypeId)
    (ho : o.op = .call { callee := .builtin .append, args := #[s, x], argTypes := #[t, t] }) (v u : Value) (hs : a.eval s = v) (hx : a.eval x = u) {v' : Value} {w' : World} (hr : (Builtin.append_ #[t, t] o.type #[v, u]).run P w = .ok v' w') (h : wpList P ops Q rest (a.put o.dst v') w') :
    wpList P ops Q (o :: rest) a w := wpList_plain hgd fun K hK => by
  unfold Oper.wp execOp
  simp only [ho, resolve, invoke, builtin, Sem.run_bind, Sem.run_pure, Result.andThen_ok, List.map_toArray, List.map_cons, List.map_nil, hs, hx, hr]
  exact hK _ _ h
set_option maxHeartbeats 4000000 in
set_option maxRecDepth 100000 in
theorem pair_any (l : List Sy) (k : Int) (v : Value) (w : World) {F : Nat → Prop} (hs : IsSys w F v l) (hl : l.length ≤ 100000) :
    Calls Tryd.prog 27 #[v, .int .i64 k] w fun e w' => ∃ u, e = .returned u ∧ Hid (w'.ownsRow w.heap.size 32 3 u (pairT l k).length (sysV (pairT l k))) ∧ Hid (Below w.heap.size w w') := by
  by_cases h : l.length ≤ 2
  · obtain ⟨i, hi, hz, hsz, hb⟩ := info_parts Tryd.infoSyP
    obtain ⟨v', w', hr, ho, hg⟩ := run_append_reads (P := Tryd.prog) (w := w) w.heap.size 28 28 32 i _ 3 24 Tryd.underlying28 hi hz hsz hb rfl (by omega) (.slice none 0 0) 0 [] (World.ownsRow_nil _ _ _ _) v l.length (sysV l) hs (sysV_length l) (sysV_one l) (by unfold maxLen; omega) (by omega) (Nat.le_refl _)
    have HO : Hid (w'.ownsRow w.heap.size 32 3 v' (pairT l k).length (sysV (pairT l k))) := by
      show World.ownsRow _ _ _ _ _ _ _
      rw [pairT_short h]
      simpa using ho
    have HB : Hid (Below w.heap.size w w') := (Below.refl _ w).grown hg (Nat.le_refl _) (fun b e => by cases e)
    obtain ⟨p, c, rfl, -⟩ := hs
    have d1 : decide ((l.length : Int) ≤ 2) = true := decide_eq_true (by omega)
    have d1' : (l.length : Int) ≤ 2 := by omega
    obtain ⟨m, hm⟩ : ∃ m, m = l.length := ⟨_, rfl⟩
    rw [← hm] at hr d1 d1' ⊢
    clear hm ho hg h hl
    go_enter Tryd.func27, Tryd.ntmps27
    go_wp2_with (at_builtin; refine wpList_run_appB rfl _ _ 28 rfl _ _ rfl rfl hr ?_)
    go_ret
    exact ⟨_, rfl, HO, HB⟩
  · cases l with
    | nil => simp at h
    | cons s l =>
      obtain ⟨p, c, rfl, -, hx⟩ := hs
      obtain ⟨g, o, rfl, -, hg, hc, -⟩ := hx (by simp)
      have a0 : w.cell? ⟨g, o, none⟩ = some (.int .i64 s.name) := hc 0 _ rfl
      have a1 : w.cell? ⟨g, o + 1, none⟩ = some (.int .i64 s.lo) := hc 1 _ rfl
      have a2 : w.cell? ⟨g, o + 2, none⟩ = some (.int .i64 s.hi) := hc 2 _ rfl
      have HO : Hid ((w.alloc (.cells #[.int .i64 s.name, .int .i64 s.lo, .int .i64 s.hi, .int .i64 k, .int .i64 0, .int .i64 0] 32)).ownsRow w.heap.size 32 3 (.slice (some ⟨w.heap.size, 0, none⟩) 2 2) (pairT (s :: l) k).length (sysV (pairT (s :: l) k))) := by
        show World.ownsRow _ _ _ _ _ _ _
        rw [pairT_long (by omega)]
        exact ⟨rfl, .inr ⟨_, 2, _, rfl, Nat.le_refl _, heap_alloc_new _ _, Nat.le_refl _, by unfold maxLen; omega, rfl, rfl⟩⟩
      have HB : Hid (Below w.heap.size w (w.alloc (.cells #[.int .i64 s.name, .int .i64 s.lo, .int .i64 s.hi, .int .i64 k, .int .i64 0, .int .i64 0] 32))) := bel1 _ _
      obtain ⟨m, hm⟩ : ∃ m, m = (s :: l).length := ⟨_, rfl⟩
      have hm2 : 2 < m := by omega
      rw [← hm]
      have d1 : decide ((m : Int) ≤ 2) = false := decide_eq_false (by omega)
      have d1' : ¬ (m : Int) ≤ 2 := by omega
      have i0 : (0 : Int) < (m : Int) := by omega
      have i1 : 0 < m := by omega
      clear hc hx h hl hm
      go_enter Tryd.func27, Tryd.ntmps27
      go_wp2
      go_ret
      exact ⟨_, rfl, HO, HB⟩
/-- The rest of a row behind its first symbol. -/
theorem sys_tail {w : World} {F : Nat → Prop} {g o n c : Nat} {s : Sy} {l : List Sy} (h : IsSys w F (.slice (some ⟨g, o, none⟩) n c) (s :: l)) : IsSys w F (.slice (some ⟨g, o + 3, none⟩) (n - 1) (c - 1)) l := by
  obtain ⟨p, c2, e, hm, hx⟩ := h
  simp only [Value.slice.injEq] at e
  obtain ⟨e1, e2, rfl⟩ := e
  obtain ⟨g', o', e3, h1, h2, h3, h4⟩ := hx (by simp)
  rw [← e1] at e3
  simp only [Option.some.injEq, Addr.mk.injEq] at e3
  obtain ⟨rfl, rfl, -⟩ := e3
  have e4 : n = l.length + 1 := by simpa using e2
  subst e4
  refine ⟨some ⟨g, o + 3, none⟩, c - 1, rfl, ⟨by simp at hm; omega, by simp at hm; omega⟩, fun h0 => ⟨g, o + 3, rfl, h1, h2, fun j x hj => ?_, fun j hj => ?_⟩⟩
  · rw [Nat.add_assoc]
    refine h3 (3 + j) x ?_
    show (syV s ++ sysV l)[3 + j]? = _
    rw [List.getElem?_append_right (by simp [syV])]
    simpa [syV] using hj
  · rw [Nat.add_assoc]
    refine h4 (3 + j) ?_
    show 3 + j < (syV s ++ sysV l).length
    rw [List.length_append]
    have : (syV s).length = 3 := rfl
    omega
theorem sys_ptr {w : World} {F : Nat → Prop} {p : Option Addr} {n c : Nat} {s : Sy} {l : List Sy} (h : IsSys w F (.slice p n c) (s :: l)) : ∃ g o, p = some ⟨g, o, none⟩ ∧ n ≤ c ∧ c ≤ c := by
  obtain ⟨p', c2, e, hm, hx⟩ := h
  simp only [Value.slice.injEq] at e
  obtain ⟨e1, e2, e3⟩ := e
  obtain ⟨g', o', e4, -⟩ := hx (by simp)
  exact ⟨g', o', e1.trans e4, by omega, Nat.le_refl _⟩
set_option maxHeartbeats 4000000 in
set_option maxRecDepth 100000 in
theorem addQ_any (W : World) (qb n : Nat) (l : List Sy) (v : Value) (w : World) (rows : List (List Sy)) (vs : List Value) (q : Value) (hs : IsSys W Any v l) (m : Qu W qb n rows vs q w) (hr : rows.length + l.length ≤ 100000) :
    Calls Tryd.prog 26 #[.pointer (some ⟨qb, 0, none⟩), v] w fun e w' => e = .returned (.tuple #[]) ∧ ∃ vs' q', Hid (Qu W qb n (rows ++ addT l) vs' q' w') ∧ Hid (Oq qb q w w') ∧ Hid (Qn q q' w) := by
  have HS : Hid (IsSys W Any v l) := hs
  have HM : Hid (Qu W qb n rows vs q w) := m
  clear m
  obtain ⟨p, c, hv, -⟩ := hs
  subst hv
  go_enter Tryd.func26, Tryd.ntmps26
  go_wp2
  go_loopw [1] (fun x' wr => ∃ (l' : List Sy) (rows' : List (List Sy)) (vs' : List Value) (q' : Value) (p : Option Addr) (c : Nat), x' = .slice p l'.length c ∧ rows'.length + l'.length ≤ 100000 ∧ Hid (IsSys W Any (.slice p l'.length c) l') ∧ Hid (rows' ++ addT l' = rows ++ addT l) ∧ Hid (Qu W qb n rows' vs' q' wr) ∧ Hid (Oq qb q w wr) ∧ Hid (Qn q q' w)) (fun x' _ => match x' with | .slice _ k _ => k | _ => 0)
  case atStart => exact ⟨l, rows, vs, q, p, c, rfl, hr, HS, rfl, HM, Oq.refl _ _ _, Qn.refl _ _⟩
  case round =>
    obtain ⟨l', rows', vs', q', p, c, rfl, hr', HS', HE, HQ, HO, HN⟩ := hrel
    by_cases hlt : 2 < l'.length
    · cases l' with
      | nil => simp at hlt
      | cons s l2 =>
        obtain ⟨g, o, rfl, hnc, -⟩ := sys_ptr HS'.out
        have HT2 : Hid (IsSys W Any (.slice (some ⟨g, o + 3, none⟩) ((s :: l2).length - 1) (c - 1)) l2) := sys_tail HS'.out
        have HE2 : Hid (rows' ++ [l2] ++ addT l2 = rows ++ addT l) := by
          have h9 := HE.out
          rw [addT_long hlt] at h9
          rw [List.append_assoc]
          exact h9
        obtain ⟨k, hk⟩ : ∃ k, k = (s :: l2).length := ⟨_, rfl⟩
        have hk2 : l2.length = k - 1 := by rw [hk]; simp
        rw [← hk] at hlt hnc HT2 hr' ⊢
        have d1 : decide ((k : Int) > 2) = true := decide_eq_true (by omega)
        have d1' : (2 : Int) < (k : Int) := by omega
        have i1 : (1 : Int) ≤ (k : Int) := by omega
        have i2 : (k : Int) ≤ (c : Int) := by omega
        have i3 : 1 ≤ k := by omega
        obtain ⟨g2, cap2, w2, hr2, Q2, x2, z2, O2, N2⟩ := HQ.out.app (v := .slice (some ⟨g, o + 3, none⟩) (k - 1) (c - 1)) HT2.out rfl (by omega)
        have q1 : wr.cell? ⟨qb, 1, none⟩ = some q' := Lib.cell_of_heap HQ.out.qv 1
        have z1 : qb < wr.heap.size := block_lt HQ.out.qv
        obtain ⟨X, hX⟩ : ∃ X, X = w2.setCell ⟨qb, 1, none⟩ (.slice (some ⟨g2, 0, none⟩) (rows'.length + 1) cap2) := ⟨_, rfl⟩
        have HQ2 : Hid (Qu W qb n (rows' ++ [l2]) (vs' ++ [.slice (some ⟨g, o + 3, none⟩) (k - 1) (c - 1)]) (.slice (some ⟨g2, 0, none⟩) (rows'.length + 1) cap2) X) := by show Qu _ _ _ _ _ _ _; rw [hX]; exact Q2
        have HO2 : Hid (Oq qb q w X) := HO.out.trans HN.out (by rw [hX]; exact O2)
        have HN2 : Hid (Qn q (.slice (some ⟨g2, 0, none⟩) (rows'.length + 1) cap2) w) := HN.out.trans N2 HO.out.1
        obtain ⟨sq, cq, hq⟩ : ∃ a b, q' = .slice a rows'.length b := by obtain ⟨a, b, e⟩ := row_slice HQ.out.oq; exact ⟨a, b, e⟩
        subst hq
        clear Q2 O2 N2 hk
        go_upto_region 2 with fail
        go_wp2_with (at_builtin; refine wpList_run_appB rfl _ _ 47 rfl _ _ rfl rfl hr2 ?_)
        go_roundw
        case rel => exact ⟨l2, rows' ++ [l2], _, _, some ⟨g, o + 3, none⟩, c - 1, by rw [hk2], by simp; omega, by rw [hk2]; exact HT2, HE2, by rw [← hX]; exact HQ2, by rw [← hX]; exact HO2, HN2⟩
        case measure => simp; omega
    · have d1 : decide ((l'.length : Int) > 2) = false := decide_eq_false (by omega)
      have d1' : ¬ (2 : Int) < (l'.length : Int) := by omega
      have HE2 : Hid (rows' = rows ++ addT l) := by
        have h9 := HE.out
        rw [addT_short (by omega), List.append_nil] at h9
        exact h9
      go_wp2
      exact bodyPost_end (v := .tuple #[]) (results_none rfl _ _ _) rfl ⟨rfl, vs', q', by rw [← HE2.out]; exact HQ, HO, HN⟩
end Go.Proofs.YtgpklcpmabafmaaDoor
