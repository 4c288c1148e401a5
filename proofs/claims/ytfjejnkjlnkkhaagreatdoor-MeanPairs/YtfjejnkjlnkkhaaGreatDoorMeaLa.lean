/- lay of the program: a place is taken up. -/
import Derived.Test.YtfjejnkjlnkkhaaGreatDoorGn
import Derived.BigRegion
namespace Go.Proofs.YtfjejnkjlnkkhaaGreatDoor
set_option linter.unusedVariables false
set_option linter.unusedSimpArgs false
open Go.ChangeShapes Go.WideShapes Go.ChangeAt Go.RowKit Go.Maps

theorem step_run_appendL {P : Program} {w : World} {ops : Array Oper} {o : Oper} {a : Act} {K : Act → World → Prop} {Q : Exit → Act → World → Prop} {E : Prop} (hgd : o.guard = none) (s x : Operand) (t : TypeId)
    (ho : o.op = .call { callee := .builtin .append, args := #[s, x], argTypes := #[t, t] }) (v u : Value) (hs : a.eval s = v) (hx : a.eval x = u) {v' : Value} {w' : World} (hr : (Builtin.append_ #[t, t] o.type #[v, u]).run P w = .ok v' w') (h : K (a.put o.dst v') w') :
    if Region.wanted o (yielded ops a.tmps) = true then Oper.wp P o a w K Q else E := by
  have hw : Region.wanted o (yielded ops a.tmps) = true := by simp [Region.wanted, hgd]
  rw [if_pos hw]
  unfold Oper.wp execOp
  simp only [ho, resolve, invoke, builtin, Sem.run_bind, Sem.run_pure, Result.andThen_ok, List.map_toArray, List.map_cons, List.map_nil, hs, hx, hr]
  exact h
/-- The same as a hypothesis of one world. -/
def StepAppL (P : Program) (t ty : TypeId) (v u : Value) (w : World) (v' : Value) (w' : World) : Prop :=
  ∀ (ops : Array Oper) (o : Oper) (a : Act) (K : Act → World → Prop) (Q : Exit → Act → World → Prop) (E : Prop), o.guard = none → (∃ s x, o.op = .call { callee := .builtin .append, args := #[s, x], argTypes := #[t, t] } ∧ a.eval s = v ∧ a.eval x = u) → o.type = ty → K (a.put o.dst v') w' → if Region.wanted o (yielded ops a.tmps) = true then Oper.wp P o a w K Q else E
theorem stepAppL {P : Program} {t ty : TypeId} {v u : Value} {w : World} {v' : Value} {w' : World} (hr : (Builtin.append_ #[t, t] ty #[v, u]).run P w = .ok v' w') : StepAppL P t ty v u w v' w' := fun ops o a K Q E hgd ho hty h => by
  obtain ⟨s, x, ho, hs, hx⟩ := ho
  subst hty
  exact step_run_appendL hgd s x t ho v u hs hx hr h
/-- What stays while places are taken up. -/
structure L0 (S : Ls) (F : Nat → Prop) (g : Gr) (kb tb : Nat) (gv : Value) (pr : Option Addr) (cr : Nat) (w : World) : Prop where
  k0 : w.cell? ⟨kb, 0, none⟩ = some (.pointer (some ⟨tb, 0, none⟩))
  k1 : w.cell? ⟨kb, 1, none⟩ = some (.int .i64 g.start)
  k2 : w.cell? ⟨kb, 2, none⟩ = some gv
  k3 : w.cell? ⟨kb, 3, none⟩ = some (.slice pr g.rules.length cr)
  k6 : w.cell? ⟨kb, 6, none⟩ = some (.slice (some ⟨S.wb, 0, none⟩) S.nr S.nr)
  k7 : w.cell? ⟨kb, 7, none⟩ = some (.slice (some ⟨S.nb, 0, none⟩) S.nr S.nr)
  k8 : w.cell? ⟨kb, 8, none⟩ = some (.slice (some ⟨S.ab, 0, none⟩) S.nn S.nn)
  t1 : w.cell? ⟨tb, 1, none⟩ = some (.int .i64 (g.names.length : Int))
  t2 : w.cell? ⟨tb, 2, none⟩ = some (.map (some S.mb))
  ru : IsRus w F (.slice pr g.rules.length cr) g.rules
  fo : ∀ i, F i → i < S.lo ∧ i ≠ S.mb ∧ i ≠ S.wb ∧ i ≠ S.nb ∧ i ≠ S.ab
  fk : F kb
  ft : F tb
theorem L0.at {S : Ls} {F : Nat → Prop} {g : Gr} {kb tb : Nat} {gv : Value} {pr : Option Addr} {cr : Nat} {w w' : World} (h : L0 S F g kb tb gv pr cr w) (hk : Lk S w w') (hw : w.heap.size = S.lo) : L0 S F g kb tb gv pr cr w' := by
  have hs : Stay F w w' := ⟨by rw [hw]; exact hk.size, fun i hi => by obtain ⟨h1, h2, h3, h4, h5⟩ := h.fo i hi; exact hk.block i h1 h2 h3 h4 h5⟩
  have ct : ∀ o v, w.cell? ⟨tb, o, none⟩ = some v → w'.cell? ⟨tb, o, none⟩ = some v := fun o v hc => (World.cell?_of_block (a := ⟨tb, o, none⟩) (hs.blk _ h.ft)).trans hc
  have ck : ∀ o v, w.cell? ⟨kb, o, none⟩ = some v → w'.cell? ⟨kb, o, none⟩ = some v := fun o v hc => (World.cell?_of_block (a := ⟨kb, o, none⟩) (hs.blk _ h.fk)).trans hc
  exact ⟨ck _ _ h.k0, ck _ _ h.k1, ck _ _ h.k2, ck _ _ h.k3, ck _ _ h.k6, ck _ _ h.k7, ck _ _ h.k8, ct _ _ h.t1, ct _ _ h.t2, h.ru.keep hs (fun _ h => h), h.fo, h.fk, h.ft⟩
/-- The rows, of m places for the whole ones and n places for those ahead. -/
def fM (S : Ls) (g : Gr) (m n : Nat) (k : Nat) : List Int := if k < S.nr then flt (isWh (k : Int)) g.names.length ((ruP 0 g.rules).take m) else flt (isAh g.rules (k - S.nr)) g.names.length ((ruP 0 g.rules).take n)
theorem flt_len (p : Plc → Bool) : ∀ (l : List Plc) (m : Nat), (flt p m l).length ≤ l.length
  | [], _ => Nat.le_refl _
  | e :: l, m => by
    have := flt_len p l (m + 1)
    simp only [flt]
    split
    · simp; exact this
    · simp; omega
theorem fM_len (S : Ls) (g : Gr) (m n k : Nat) : (fM S g m n k).length ≤ (ruP 0 g.rules).length := by
  unfold fM
  split
  · exact Nat.le_trans (flt_len _ _ _) (by simp; omega)
  · exact Nat.le_trans (flt_len _ _ _) (by simp; omega)
theorem take_mem {l : List Plc} {m : Nat} {e s : Plc} (h : l[m]? = some e) (hs : s ∈ l.take (m + 1)) : s ∈ l.take m ∨ s = e := by
  rw [List.take_add_one, h] at hs
  simpa using hs
theorem NdP.skip {L : List Ru} {l : List Plc} {m q' z : Nat} {e : Plc} (he : l[m]? = some e) (hn : ∀ s, e.1 = (q' : Int) → symPl L e = some s → s.name = -1) (h : NdP L q' (l.take m) z) : NdP L q' (l.take (m + 1)) z :=
  ⟨h.1, fun e' s h1 h2 h3 h4 => by
    rcases take_mem he h1 with h5 | rfl
    · exact h.2 e' s h5 h2 h3 h4
    · exact absurd (hn s h2 h3) h4⟩
theorem NdP.or {L : List Ru} {l : List Plc} {m q' z x : Nat} {e : Plc} {s : Sy} (he : l[m]? = some e) (hs : symPl L e = some s) (hx : s.name.toNat = x) (hx6 : x < 64) (h : NdP L q' (l.take m) z) : NdP L q' (l.take (m + 1)) (z ||| 2 ^ x) :=
  ⟨Nat.or_lt_two_pow (n := 64) h.1 (Nat.pow_lt_pow_right (by omega) hx6), fun e' s' h1 h2 h3 h4 => by
    rw [Nat.testBit_or]
    rcases take_mem he h1 with h5 | rfl
    · rw [h.2 e' s' h5 h2 h3 h4]; rfl
    · rw [hs] at h3; injection h3 with h3; subst h3
      rw [hx, Nat.testBit_two_pow_self]; simp⟩
theorem wfI {n : Int} (h1 : -9000000000000000000 ≤ n) (h2 : n ≤ 9000000000000000000) : (Lit.int .i64 n).wf = true := by
  have e1 : IntKind.i64.min = -9223372036854775808 := by decide
  have e2 : IntKind.i64.max = 9223372036854775807 := by decide
  simp only [Lit.wf, e1, e2, Bool.and_eq_true, decide_eq_true_eq]
  omega
theorem okPc_all {L : List Ru} (hin : PlIn L) {k : Nat} {e : Plc} (hk : (ruP 0 L)[k]? = some e) : okPc e := by
  obtain ⟨q, c, r, d, p, h1, h2, h3, h4, rfl⟩ := ruP_num hk
  have hq := (List.getElem?_eq_some_iff.1 h1).1
  have hc := (List.getElem?_eq_some_iff.1 h2).1
  have a1 := hin.1
  obtain ⟨a2, a3⟩ := hin.2 r (List.mem_of_getElem? h1)
  have a4 := a3 d (List.mem_of_getElem? h2)
  exact ⟨wfI (by dsimp only; omega) (by dsimp only; omega), wfI (by dsimp only; omega) (by dsimp only; omega), wfI (by dsimp only; omega) (by dsimp only; omega)⟩
theorem fM_w0 {S : Ls} {g : Gr} {m n q c p : Nat} (he : (ruP 0 g.rules)[m]? = some ((q : Int), (c : Int), (p : Int))) (hp : p ≠ 0) (k : Nat) : fM S g (m + 1) n k = fM S g m n k := by
  unfold fM
  split
  · rw [take_flt he, if_neg (by unfold isWh; simp; intro _; omega), List.append_nil]
  · rfl
theorem fM_w1 {S : Ls} {g : Gr} {m n q c : Nat} (he : (ruP 0 g.rules)[m]? = some ((q : Int), (c : Int), ((0 : Nat) : Int))) (hq : q < S.nr) (k : Nat) : fM S g (m + 1) n k = (fun j => if j = q then fM S g m n q ++ [(g.names.length : Int) + (m : Int)] else fM S g m n j) k := by
  show _ = if k = q then _ else _
  by_cases e : k = q
  · subst e
    rw [if_pos rfl]
    unfold fM
    rw [if_pos hq, if_pos hq, take_flt he, if_pos (by unfold isWh; simp)]
    congr 2
  · rw [if_neg e]
    unfold fM
    split
    · rw [take_flt he, if_neg (by unfold isWh; simp; intro h; exact absurd h (by omega)), List.append_nil]
    · rfl
theorem fM_a0 {S : Ls} {g : Gr} {m n : Nat} {e : Plc} (he : (ruP 0 g.rules)[n]? = some e) (hs : ∀ s, symPl g.rules e = some s → s.name = -1) (k : Nat) : fM S g m (n + 1) k = fM S g m n k := by
  unfold fM
  split
  · rfl
  · rw [take_flt he, if_neg, List.append_nil]
    unfold isAh
    cases h : symPl g.rules e with
    | none => simp
    | some s => simp [hs s h]
theorem fM_a1 {S : Ls} {g : Gr} {m n x : Nat} {e : Plc} {s : Sy} (he : (ruP 0 g.rules)[n]? = some e) (hs : symPl g.rules e = some s) (hn : s.name ≠ -1) (hx : s.name.toNat = x) (k : Nat) : fM S g m (n + 1) k = (fun j => if j = S.nr + x then fM S g m n (S.nr + x) ++ [(g.names.length : Int) + (n : Int)] else fM S g m n j) k := by
  show _ = if k = _ then _ else _
  by_cases e9 : k = S.nr + x
  · subst e9
    rw [if_pos rfl]
    unfold fM
    rw [if_neg (by omega), if_neg (by omega), take_flt he, if_pos (by unfold isAh; rw [hs]; simp [hn, hx])]
    congr 2
  · rw [if_neg e9]
    unfold fM
    split
    · rfl
    · rw [take_flt he, if_neg (by unfold isAh; rw [hs]; simp only [Bool.and_eq_true, decide_eq_true_eq, hx]; omega), List.append_nil]
set_option maxHeartbeats 8000000 in
set_option maxRecDepth 100000 in
theorem lay_any {S : Ls} (hS : LsOk S) {F : Nat → Prop} {g : Gr} {kb tb : Nat} {gv : Value} {pr : Option Addr} {cr : Nat} {w0 : World} (h0 : L0 S F g kb tb gv pr cr w0) (hw0 : w0.heap.size = S.lo) {f : Nat → Nat} (hgo : GrOk g f) (hnr : S.nr = g.rules.length) (hnn : S.nn = g.names.length) (m : Nat) {q c p : Nat} {r : Ru} {d : Cn} (hr : g.rules[q]? = some r) (hd : r.conj[c]? = some d) (hp : p ≤ d.seq.length) (hm : m = ofRu g.rules q c + p) (w : World)
    (h : Lx S g.names.length g.rules w0 ((ruP 0 g.rules).take m) ((ruP 0 g.rules).take m) (fM S g m m) (fun _ => False) w) :
    Calls Tryz.prog 44 #[.pointer (some ⟨kb, 0, none⟩), .agg #[.int .i64 (q : Int), .int .i64 (c : Int), .int .i64 (p : Int)], .int .i64 ((g.names.length : Int) + (m : Int))] w fun e w' => e = .returned (.tuple #[]) ∧ Hid (Lx S g.names.length g.rules w0 ((ruP 0 g.rules).take (m + 1)) ((ruP 0 g.rules).take (m + 1)) (fM S g (m + 1) (m + 1)) (fun _ => False) w') := by
  have he : (ruP 0 g.rules)[m]? = some ((q : Int), (c : Int), (p : Int)) := by
    have := ruP_at (i := 0) hr hd hp
    rw [Nat.zero_add] at this
    rw [hm]; exact this
  have HE : Hid ((ruP 0 g.rules)[m]? = some ((q : Int), (c : Int), (p : Int))) := he
  have hml := (List.getElem?_eq_some_iff.1 he).1
  have hpl : (ruP 0 g.rules).length ≤ 133120 := hgo.pl.len
  have hNl := hgo.nn
  have hql : q < S.nr := by rw [hnr]; exact (List.getElem?_eq_some_iff.1 hr).1
  have hc8 : c < 8 := by have := (hgo.pl.2 r (List.mem_of_getElem? hr)).1; have := (List.getElem?_eq_some_iff.1 hd).1; omega
  have hp6 : p ≤ 64 := by have := (hgo.pl.2 r (List.mem_of_getElem? hr)).2 d (List.mem_of_getElem? hd); omega
  have hq9 : q < 256 := by have := hgo.pl.1; omega
  -- the box of p
  obtain ⟨V, hV⟩ : ∃ V, V = w.alloc (.cells #[.int .i64 (q : Int), .int .i64 (c : Int), .int .i64 (p : Int)] 56) := ⟨_, rfl⟩
  obtain ⟨pb, hpb⟩ : ∃ pb, pb = w.heap.size := ⟨_, rfl⟩
  have hVb : Below w.heap.size w V := by rw [hV]; exact bel1 _ _
  have v0 : V.cell? ⟨pb, 0, none⟩ = some (.int .i64 (q : Int)) := by rw [hpb, hV]; exact World.cell?_alloc_at _ _ _ _ rfl
  have v1 : V.cell? ⟨pb, 1, none⟩ = some (.int .i64 (c : Int)) := by rw [hpb, hV]; exact World.cell?_alloc_at _ _ _ _ rfl
  have v2 : V.cell? ⟨pb, 2, none⟩ = some (.int .i64 (p : Int)) := by rw [hpb, hV]; exact World.cell?_alloc_at _ _ _ _ rfl
  have hLV : Lx S g.names.length g.rules w0 ((ruP 0 g.rules).take m) ((ruP 0 g.rules).take m) (fM S g m m) (fun i => i = pb) V := (h.below hS hVb).less fun i hi => Or.inr (by omega)
  have hlop : S.lo ≤ pb := by rw [hpb]; exact h.lk.size
  have HLD : Hid (Lx S g.names.length g.rules w0 ((ruP 0 g.rules).take m) ((ruP 0 g.rules).take m) (fM S g m m) (fun i => i = pb) V.drew) := (hLV.below hS ((Below.refl _ V).drew)).less fun i hi => Or.inl hi
  have HS : Hid (LsOk S) := hS
  have H0 : Hid (L0 S F g kb tb gv pr cr w0) := h0
  have HW0 : Hid (w0.heap.size = S.lo) := hw0
  have HGO : Hid (GrOk g f) := hgo
  have HNR : Hid (S.nr = g.rules.length) := hnr
  have HNN : Hid (S.nn = g.names.length) := hnn
  have HR : Hid (g.rules[q]? = some r) := hr
  have HD : Hid (r.conj[c]? = some d) := hd
  have HPP : Hid (p ≤ d.seq.length) := hp
  have hV0 := h0.at hLV.lk hw0
  have c0 := hV0.k0
  have c2 := hV0.t2
  -- the map
  have hpc : okPc ((q : Int), (c : Int), (p : Int)) := by
    exact ⟨wfI (by dsimp only; omega) (by dsimp only; omega), wfI (by dsimp only; omega) (by dsimp only; omega), wfI (by dsimp only; omega) (by dsimp only; omega)⟩
  have hokl : ∀ e, e ∈ (ruP 0 g.rules).take m → okPc e := fun e hh => by
    obtain ⟨k, hk⟩ := List.mem_iff_getElem?.1 (List.mem_of_mem_take hh)
    exact okPc_all HGO.out.pl hk
  obtain ⟨Dm, hown, hDm, hd1, hd2⟩ := hLV.mp
  have hlen : ((ruP 0 g.rules).take m).length = m := by simp; omega
  have hkey : keyOf Tryz.prog 56 (.agg #[.int .i64 (q : Int), .int .i64 (c : Int), .int .i64 (p : Int)]) = some (plLit ((q : Int), (c : Int), (p : Int))) := key_pl _ hpc
  have hlm : ((ruP 0 g.rules).take m).length < maxLen := by rw [hlen]; unfold maxLen; omega
  obtain ⟨w3, hrun, hown3, hturn3⟩ := hown.drew.store (val := .int .i64 ((g.names.length : Int) + (m : Int))) Tryz.keyedPl Tryz.underPl hlm hkey (plainElem_int Tryz.underlying3 (wfI (by omega) (by omega)))
  have htk : (ruP 0 g.rules).take (m + 1) = (ruP 0 g.rules).take m ++ [((q : Int), (c : Int), (p : Int))] := by rw [List.take_add_one, he]; rfl
  have HM3 : Hid (PlMap w3 S.mb g.names.length ((ruP 0 g.rules).take (m + 1))) := by
    show PlMap _ _ _ _
    rw [htk]
    refine PlMap.put hDm hd1 hd2 hpc hokl (ruP_new he) ?_
    rw [hlen, show ((g.names.length + m : Nat) : Int) = (g.names.length : Int) + (m : Int) by omega]
    rw [hlen] at hown3
    exact hown3
  have HL3 : Hid (Lx S g.names.length g.rules w0 ((ruP 0 g.rules).take (m + 1)) ((ruP 0 g.rules).take m) (fM S g m m) (fun i => i = pb) w3) := HLD.out.map HS.out hturn3 HM3.out
  have HP3 : Hid (w3.cell? ⟨pb, 0, none⟩ = some (.int .i64 (q : Int)) ∧ w3.cell? ⟨pb, 1, none⟩ = some (.int .i64 (c : Int)) ∧ w3.cell? ⟨pb, 2, none⟩ = some (.int .i64 (p : Int))) := by
    have hne : pb ≠ S.mb := by have := hS.m; omega
    have hbk : w3.heap[pb]? = V.heap[pb]? := hturn3.grown.block pb (block_lt_of_cell v0) (fun e => hne (by injection e))
    exact ⟨(World.cell?_of_block (a := ⟨pb, 0, none⟩) hbk).trans v0, (World.cell?_of_block (a := ⟨pb, 1, none⟩) hbk).trans v1, (World.cell?_of_block (a := ⟨pb, 2, none⟩) hbk).trans v2⟩
  obtain ⟨N, hNN⟩ : ∃ N, N = g.names.length := ⟨_, rfl⟩
  have HN : Hid (N = g.names.length) := hNN
  rw [← hNN] at hrun hNl HL3 ⊢
  have hwm : IntKind.i64.wrap ((N : Int) + (m : Int)) = (N : Int) + (m : Int) := by rw [IntKind.wrap_i64]; omega
  obtain ⟨i0, hi0, hz0, hz1, hz2⟩ := info_partsP Tryz.infoInt
  have HCE : Hid (∀ wc l nl ff X, Lx S N g.rules w0 l nl ff X wc → L0 S F g kb tb gv pr cr wc) := fun wc l nl ff X hl => H0.out.at hl.lk HW0.out
  have KS : Hid (∀ wc l nl ff X, Lx S N g.rules w0 l nl ff X wc → Calls Tryz.prog 63 #[.agg #[.int .i64 g.start, gv, .slice pr g.rules.length cr], .agg #[.int .i64 (q : Int), .int .i64 (c : Int), .int .i64 (p : Int)]] wc fun e w' =>
      (match d.seq[p]? with
        | none => e = .returned (.tuple #[.agg #[.int .i64 0, .int .i64 0, .int .i64 0], .bool false])
        | some s => e = .returned (.tuple #[.agg #[.int .i64 s.name, .int .i64 s.lo, .int .i64 s.hi], .bool true])) ∧ Hid (Below wc.heap.size wc w')) := fun wc l nl ff X hl => symAt_any F g.rules g.start gv pr cr wc (HCE.out wc l nl ff X hl).ru HR.out HD.out HPP.out HGO.out.pl
  obtain ⟨rl, hrl⟩ : ∃ rl, rl = (ruP 0 g.rules).length := ⟨_, rfl⟩
  rw [← hrl] at hpl hml
  have HFL : Hid (∀ m n k, (fM S g m n k).length ≤ rl) := fun m n k => by rw [hrl]; exact fM_len S g m n k
  clear h hLV hV0 hown hDm hd1 hd2 hown3 hlm hpc hokl hd hr hp he htk hlen hVb hS h0 hw0 hgo hnr hnn hm hturn3 HM3 HLD hNN hrl
  go_enter Tryz.func44, Tryz.ntmps44
  go_upto_region 1 with fail
  rw [← hV, ← hpb]
  clear hV hpb
  go_cut [] from 17 (fun wc => Hid (wc = w3))
  case first =>
    go_region
    all_goals
      go_wp2
      go_meet
      case rel => exact rfl
  case rest =>
    have e9 : w3 = wc := hcut.out.symm
    subst e9
    clear c0 c2 v0 v1 v2 hrun hkey hcut
    obtain ⟨p0, p1, p2⟩ := HP3.out
    have hpl3 : pb < w3.heap.size := block_lt_of_cell p0
    obtain ⟨b0, hb0⟩ : ∃ b0 : Bool, ((p : Int) == 0) = b0 := ⟨_, rfl⟩
    have hb1 : b0 = true ↔ p = 0 := by rw [← hb0, beq_iff_eq]; omega
    go_upto_if 19 with fail
    clear hb0
    go_cut [] from 20 (fun wc => Hid (Lx S N g.rules w0 ((ruP 0 g.rules).take (m + 1)) ((ruP 0 g.rules).take m) (fM S g (m + 1) m) (fun i => i = pb) wc) ∧ Hid (wc.cell? ⟨pb, 0, none⟩ = some (.int .i64 (q : Int)) ∧ wc.cell? ⟨pb, 1, none⟩ = some (.int .i64 (c : Int)) ∧ wc.cell? ⟨pb, 2, none⟩ = some (.int .i64 (p : Int))))
    case first =>
      by_cases hp0 : p = 0
      · have hb2 := hb1.2 hp0
        subst hb2 hp0
        clear hb1
        obtain ⟨vs, hv⟩ := HL3.out.rw
        obtain ⟨a1, a2, a3⟩ := hv q (by omega)
        have eB : adB S q = S.wb := if_pos hql
        have eO : adO S q = q := if_pos hql
        obtain ⟨pv, cv, hvv⟩ := row_slice a2
        rw [hvv] at a1 a2 a3
        have fq : w3.frozen? ⟨S.wb, q, none⟩ = false := HL3.out.fw q
        have k6 := (HCE.out _ _ _ _ _ HL3.out).k6
        have hkb := (H0.out.fo kb H0.out.fk).1
        have hfl := HFL.out m m q
        have HAPP : Hid (∀ w5 gg cap1, (w3.alloc (.cells #[.int .i64 ((N : Int) + (m : Int))] 3)).grownBy w5 (Value.slice pv (fM S g m m q).length cv).ownBlock → w5.ownsRow S.lo 3 1 (.slice (some ⟨gg, 0, none⟩) ((fM S g m m q).length + 1) cap1) ((fM S g m m q).length + 1) (intsV (fM S g m m q) ++ [.int .i64 ((N : Int) + (m : Int))]) → ((Value.slice pv (fM S g m m q).length cv).ownBlock = some gg ∨ gg = w3.heap.size + 1) →
            Lx S N g.rules w0 ((ruP 0 g.rules).take (m + 1)) ((ruP 0 g.rules).take m) (fM S g (m + 1) m) (fun i => i = pb) (w5.setCell ⟨S.wb, q, none⟩ (.slice (some ⟨gg, 0, none⟩) ((fM S g m m q).length + 1) cap1)) ∧ ((w5.setCell ⟨S.wb, q, none⟩ (.slice (some ⟨gg, 0, none⟩) ((fM S g m m q).length + 1) cap1)).cell? ⟨pb, 0, none⟩ = some (.int .i64 (q : Int)) ∧ (w5.setCell ⟨S.wb, q, none⟩ (.slice (some ⟨gg, 0, none⟩) ((fM S g m m q).length + 1) cap1)).cell? ⟨pb, 1, none⟩ = some (.int .i64 (c : Int)) ∧ (w5.setCell ⟨S.wb, q, none⟩ (.slice (some ⟨gg, 0, none⟩) ((fM S g m m q).length + 1) cap1)).cell? ⟨pb, 2, none⟩ = some (.int .i64 ((0 : Nat) : Int)))) := fun w5 gg cap1 hg ho hat => by
          have hw := HS.out.w
          have hbk : w5.heap[pb]? = w3.heap[pb]? := (hg.block pb (by simp; omega) (fun e => (a3 pb e.symm).1 rfl)).trans (Below.heap_alloc w3 _ pb hpl3)
          have hcell : ∀ o v, w3.cell? ⟨pb, o, none⟩ = some v → (w5.setCell ⟨S.wb, q, none⟩ (.slice (some ⟨gg, 0, none⟩) ((fM S g m m q).length + 1) cap1)).cell? ⟨pb, o, none⟩ = some v := fun o v hx => by
            rw [World.cell?_setCell_other _ _ _ _ (by intro e9; injection e9 with e8 e9; omega)]
            exact (World.cell?_of_block (a := ⟨pb, o, none⟩) hbk).trans hx
          refine ⟨?_, hcell _ _ p0, hcell _ _ p1, hcell _ _ p2⟩
          have := Lx.app HS.out HL3.out (k := q) (by omega) a1 hg ho hat (fun i hi => by omega)
          rw [eB, eO] at this
          refine this.rows fun k hk => ?_
          have h9 := fM_w1 (S := S) (n := m) HE.out hql k
          rw [h9, HN.out]
        have R3 : Hid (w3.ownsRow S.lo 3 1 (.slice pv (fM S g m m q).length cv) (fM S g m m q).length (intsV (fM S g m m q))) := a2
        have ne1 : (Value.slice pv (fM S g m m q).length cv).ownBlock ≠ some kb := fun e => by have := (a2.lt _ e).1; omega
        have ne2 : (Value.slice pv (fM S g m m q).length cv).ownBlock ≠ some S.wb := fun e => by have := (a2.lt _ e).1; have := HS.out.w; omega
        have ne3 : (Value.slice pv (fM S g m m q).length cv).ownBlock ≠ some pb := fun e => (a3 pb e).1 rfl
        rw [eB, eO] at a1
        have hlo3 := HL3.out.lk.size
        have l1 : kb < w3.heap.size := by omega
        have l2 : S.wb < w3.heap.size := by have := HS.out.w; omega
        have b6 : ∀ o, (w3.alloc o).cell? ⟨kb, 6, none⟩ = some (.slice (some ⟨S.wb, 0, none⟩) S.nr S.nr) := fun o => (World.cell?_alloc_past _ _ _ l1).trans k6
        have bq : ∀ o, (w3.alloc o).cell? ⟨S.wb, q, none⟩ = some (.slice pv (fM S g m m q).length cv) := fun o => (World.cell?_alloc_past _ _ _ l2).trans a1
        have bf : ∀ o, (w3.alloc o).frozen? ⟨S.wb, q, none⟩ = false := fun o => (World.frozen?_alloc_past _ _ _ l2).trans fq
        have bp : ∀ o, (w3.alloc o).cell? ⟨pb, 0, none⟩ = some (.int .i64 (q : Int)) := fun o => (World.cell?_alloc_past _ _ _ hpl3).trans p0
        obtain ⟨n, hn⟩ : ∃ n, n = (fM S g m m q).length := ⟨_, rfl⟩
        obtain ⟨xs, hxs⟩ : ∃ xs, xs = intsV (fM S g m m q) := ⟨_, rfl⟩
        rw [← hn] at a1 R3 ne1 ne2 ne3 HAPP bq hfl
        rw [← hxs] at R3 HAPP
        have hA : n + 1 ≤ maxLen := by unfold maxLen; omega
        have hB' : (n + 1) * 8 ≤ 140737488355328 := by omega
        obtain ⟨gg, cap1, w5, hr5, hown5, hgrow, hat, -⟩ := run_append_lies (P := Tryz.prog) (w3.alloc (.cells #[.int .i64 ((N : Int) + (m : Int))] 3)).drew 62 62 S.lo 3 i0 _ 1 8 Tryz.underlying62 hi0 hz0 hz1 hz2 rfl (by omega) (.slice pv n cv) n xs ((R3.out.alloc _).drew) ⟨w3.heap.size, 0, none⟩ 1 1 [.int .i64 ((N : Int) + (m : Int))] rfl
          (World.news_of_block (cs := #[.int .i64 ((N : Int) + (m : Int))]) (t := 3) (fr := (0, 0)) (heap_alloc_new w3 _)) (by intro u hu; simp at hu; rcases hu with rfl; rfl) (by omega) hA hB' (by simp; omega) (w3.heap.size + 1) (by simp)
        have hg' : (w3.alloc (.cells #[.int .i64 ((N : Int) + (m : Int))] 3)).grownBy w5 (Value.slice pv n cv).ownBlock := ⟨hgrow.os, hgrow.tape, hgrow.output, hgrow.size, hgrow.block⟩
        have FIN := HAPP.out w5 gg cap1 hg' hown5 hat
        have F1 : Hid (Lx S N g.rules w0 ((ruP 0 g.rules).take (m + 1)) ((ruP 0 g.rules).take m) (fM S g (m + 1) m) (fun i => i = pb) (w5.setCell ⟨S.wb, q, none⟩ (.slice (some ⟨gg, 0, none⟩) (n + 1) cap1))) := FIN.1
        have F2 : Hid ((w5.setCell ⟨S.wb, q, none⟩ (.slice (some ⟨gg, 0, none⟩) (n + 1) cap1)).cell? ⟨pb, 0, none⟩ = some (.int .i64 (q : Int)) ∧ (w5.setCell ⟨S.wb, q, none⟩ (.slice (some ⟨gg, 0, none⟩) (n + 1) cap1)).cell? ⟨pb, 1, none⟩ = some (.int .i64 (c : Int)) ∧ (w5.setCell ⟨S.wb, q, none⟩ (.slice (some ⟨gg, 0, none⟩) (n + 1) cap1)).cell? ⟨pb, 2, none⟩ = some (.int .i64 ((0 : Nat) : Int))) := FIN.2
        have d6 : w5.cell? ⟨kb, 6, none⟩ = some (.slice (some ⟨S.wb, 0, none⟩) S.nr S.nr) := (hg'.cell_far ⟨kb, 6, none⟩ (by simp; omega) (Ne.symm ne1)).trans (b6 _)
        have dq : w5.cell? ⟨S.wb, q, none⟩ = some (.slice pv n cv) := (hg'.cell_far ⟨S.wb, q, none⟩ (by simp; omega) (Ne.symm ne2)).trans (bq _)
        have df : w5.frozen? ⟨S.wb, q, none⟩ = false := (hg'.frozen_far ⟨S.wb, q, none⟩ (by simp; omega) (Ne.symm ne2)).trans (bf _)
        have dp : w5.cell? ⟨pb, 0, none⟩ = some (.int .i64 (q : Int)) := (hg'.cell_far ⟨pb, 0, none⟩ (by simp; omega) (Ne.symm ne3)).trans (bp _)
        have S3 : Hid (w3.cell? ⟨kb, 6, none⟩ = some (.slice (some ⟨S.wb, 0, none⟩) S.nr S.nr) ∧ w3.cell? ⟨pb, 0, none⟩ = some (.int .i64 (q : Int))) := ⟨k6, p0⟩
        have S4 : Hid (∀ o, (w3.alloc o).cell? ⟨kb, 6, none⟩ = some (.slice (some ⟨S.wb, 0, none⟩) S.nr S.nr) ∧ (w3.alloc o).cell? ⟨pb, 0, none⟩ = some (.int .i64 (q : Int))) := fun o => ⟨b6 o, bp o⟩
        have S5 : Hid (w5.cell? ⟨kb, 6, none⟩ = some (.slice (some ⟨S.wb, 0, none⟩) S.nr S.nr) ∧ w5.cell? ⟨pb, 0, none⟩ = some (.int .i64 (q : Int))) := ⟨d6, dp⟩
        have S6 : Hid ((w5.setCell ⟨S.wb, q, none⟩ (.slice (some ⟨gg, 0, none⟩) (n + 1) cap1)).cell? ⟨kb, 6, none⟩ = some (.slice (some ⟨S.wb, 0, none⟩) S.nr S.nr) ∧ (w5.setCell ⟨S.wb, q, none⟩ (.slice (some ⟨gg, 0, none⟩) (n + 1) cap1)).cell? ⟨pb, 0, none⟩ = some (.int .i64 (q : Int))) := by
          refine ⟨?_, F2.out.1⟩
          rw [World.cell?_setCell_other _ _ _ _ (by intro e9; injection e9 with e8 e9; exact (H0.out.fo kb H0.out.fk).2.2.1 e8.symm)]
          exact d6
        have bqd : ∀ o, (w3.alloc o).drew.cell? ⟨S.wb, q, none⟩ = some (.slice pv n cv) := bq
        have LA := stepAppL hr5
        unfold StepAppL at LA
        clear hv a2 a3 hvv hn hxs eB eO hg' FIN hgrow hat hown5 hr5 HAPP R3 b6 bf bp ne1 ne2 ne3 d6 dp
        go_wp2
        refine wp_region_noPanic ?_
        refine wp_region_held_drew (S := (fun w' => w'.cell? ⟨kb, 6, none⟩ = some (.slice (some ⟨S.wb, 0, none⟩) S.nr S.nr) ∧ w'.cell? ⟨pb, 0, none⟩ = some (.int .i64 (q : Int)))) (by kernel_rfl) ?_ (fun hHeld => ?_)
        · (try dsimp only); (first | with_reducible exact S3.out | exact S3.out | exact S4.out _ | exact S5.out | exact S6.out)
        refine wpAnyH_take (i := 0) (oi := _) (v := ?_) rfl (by kernel_rfl) (by kernel_rfl) (by kernel_rfl) (fun _ _ _ h => h) (Or.inl ⟨by rfl, ?_⟩) (by assumption) ?_
        rotate_left
        · intro w' hSw; (try dsimp only at hSw); go_simp; (try with_reducible rfl)
        simp only [Act.put, List.setIfInBounds_toArray, List.set_cons_zero, List.set_cons_succ]
        refine wpAnyH_take (i := 1) (oi := _) (v := ?_) rfl (by kernel_rfl) (by kernel_rfl) (by kernel_rfl) (fun _ _ _ h => h) (Or.inl ⟨by rfl, ?_⟩) (by assumption) ?_
        rotate_left
        · intro w' hSw; (try dsimp only at hSw); go_simp; (try with_reducible rfl)
        simp only [Act.put, List.setIfInBounds_toArray, List.set_cons_zero, List.set_cons_succ]
        refine wpAnyH_take (i := 2) (oi := _) (v := ?_) rfl (by kernel_rfl) (by kernel_rfl) (by kernel_rfl) (fun _ _ _ h => h) (Or.inl ⟨by rfl, ?_⟩) (by assumption) ?_
        rotate_left
        · intro w' hSw; (try dsimp only at hSw); go_simp; (try with_reducible rfl)
        simp only [Act.put, List.setIfInBounds_toArray, List.set_cons_zero, List.set_cons_succ]
        refine wpAnyH_take (i := 3) (oi := _) (v := ?_) rfl (by kernel_rfl) (by kernel_rfl) (by kernel_rfl) (fun _ _ _ h => h) (Or.inl ⟨by rfl, ?_⟩) (by assumption) ?_
        rotate_left
        · intro w' hSw; (try dsimp only at hSw); go_simp; (try with_reducible rfl)
        simp only [Act.put, List.setIfInBounds_toArray, List.set_cons_zero, List.set_cons_succ]
        refine wpAnyH_take (i := 4) (oi := _) (v := ?_) rfl (by kernel_rfl) (by kernel_rfl) (by kernel_rfl) (fun _ _ _ h => h) (Or.inl ⟨by rfl, ?_⟩) (by assumption) ?_
        rotate_left
        · intro w' hSw; (try dsimp only at hSw); go_simp; (try with_reducible rfl)
        simp only [Act.put, List.setIfInBounds_toArray, List.set_cons_zero, List.set_cons_succ]
        refine wpAnyH_take (i := 5) (oi := _) (v := ?_) rfl (by kernel_rfl) (by kernel_rfl) (by kernel_rfl) (fun _ _ _ h => h) (Or.inl ⟨by rfl, ?_⟩) (by assumption) ?_
        rotate_left
        · intro w' hSw; (try dsimp only at hSw); go_simp; (try with_reducible rfl)
        simp only [Act.put, List.setIfInBounds_toArray, List.set_cons_zero, List.set_cons_succ]
        refine wpAnyH_take (i := 6) (oi := _) (v := ?_) rfl (by kernel_rfl) (by kernel_rfl) (by kernel_rfl) (fun _ _ _ h => h) (Or.inl ⟨by rfl, ?_⟩) (by assumption) ?_
        rotate_left
        · intro w' hSw; (try dsimp only at hSw); go_simp; (try with_reducible rfl)
        simp only [Act.put, List.setIfInBounds_toArray, List.set_cons_zero, List.set_cons_succ]
        refine wpAnyH_take (i := 7) (oi := _) (v := ?_) rfl (by kernel_rfl) (by kernel_rfl) (by kernel_rfl) (fun _ _ _ h => h) (Or.inl ⟨by rfl, ?_⟩) (by assumption) ?_
        rotate_left
        · intro w' hSw; (try dsimp only at hSw); go_simp; (try with_reducible rfl)
        simp only [Act.put, List.setIfInBounds_toArray, List.set_cons_zero, List.set_cons_succ]
        refine wpAnyH_take (i := 8) (oi := _) (v := ?_) rfl (by kernel_rfl) (by kernel_rfl) (by kernel_rfl) (fun _ _ _ h => h) (Or.inl ⟨by rfl, ?_⟩) (by assumption) ?_
        rotate_left
        · intro w' hSw; (try dsimp only at hSw); go_simp; (try with_reducible rfl)
        simp only [Act.put, List.setIfInBounds_toArray, List.set_cons_zero, List.set_cons_succ]
        refine wpAnyH_take (i := 9) (oi := _) (v := ?_) rfl (by kernel_rfl) (by kernel_rfl) (by kernel_rfl) (fun _ _ _ h => h) (Or.inl ⟨by rfl, ?_⟩) (by assumption) ?_
        rotate_left
        · intro w' hSw; (try dsimp only at hSw); go_simp; (try with_reducible rfl)
        simp only [Act.put, List.setIfInBounds_toArray, List.set_cons_zero, List.set_cons_succ]
        refine wpAnyH_take (i := 10) (oi := _) (v := ?_) rfl (by kernel_rfl) (by kernel_rfl) (by kernel_rfl) (fun _ _ _ h => h) (Or.inl ⟨by rfl, ?_⟩) (by assumption) ?_
        rotate_left
        · intro w' hSw; (try dsimp only at hSw); go_simp; (try with_reducible rfl)
        simp only [Act.put, List.setIfInBounds_toArray, List.set_cons_zero, List.set_cons_succ]
        refine wpAnyH_take (i := 11) (oi := _) (v := ?_) rfl (by kernel_rfl) (by kernel_rfl) (by kernel_rfl) (fun _ _ _ h => h) (Or.inl ⟨by rfl, ?_⟩) (by assumption) ?_
        rotate_left
        · intro w' hSw; (try dsimp only at hSw); go_simp; (try with_reducible rfl)
        simp only [Act.put, List.setIfInBounds_toArray, List.set_cons_zero, List.set_cons_succ]
        refine wpAnyH_take (i := 12) (oi := _) (v := ?_) rfl (by kernel_rfl) (by kernel_rfl) (by kernel_rfl) (fun _ _ _ h => h) (Or.inl ⟨by rfl, ?_⟩) (by assumption) ?_
        rotate_left
        · intro w' hSw; (try dsimp only at hSw); go_simp; (try with_reducible rfl)
        simp only [Act.put, List.setIfInBounds_toArray, List.set_cons_zero, List.set_cons_succ]
        refine wpAnyH_take (i := 14) (oi := _) (v := ?_) rfl (by kernel_rfl) (by kernel_rfl) (by kernel_rfl) (fun _ _ _ h => h) (Or.inl ⟨by rfl, ?_⟩) (by assumption) ?_
        rotate_left
        · intro w' hSw; (try dsimp only at hSw); go_simp; (try with_reducible rfl)
        simp only [Act.put, List.setIfInBounds_toArray, List.set_cons_zero, List.set_cons_succ]
        refine wpAnyH_ready (rs := [13, 15]) (by kernel_rfl) (by simp) ?_
        refine AllReadyH.cons rfl (fun K hK => ?_) ?_
        · go_simp
          refine hK.out _ _ ?_ (fun hHeld => ?_)
          · (try dsimp only); (first | with_reducible exact S3.out | exact S3.out | exact S4.out _ | exact S5.out | exact S6.out)
          clear hK K
          refine wpAnyH_ready (rs := [15]) (by kernel_rfl) (by simp) ?_
          refine AllReadyH.cons rfl (fun K hK => ?_) ?_
          · go_simp
            refine hK.out _ _ ?_ (fun hHeld => ?_)
            · (try dsimp only); (first | with_reducible exact S3.out | exact S3.out | exact S4.out _ | exact S5.out | exact S6.out)
            clear hK K
            refine wpAnyH_ready (rs := [16]) (by kernel_rfl) (by simp) ?_
            refine AllReadyH.cons rfl (fun K hK => ?_) ?_
            · ((with_reducible refine LA _ _ _ _ _ _ ?_ ?_ ?_ ?_); rfl; exact ⟨_, _, rfl, rfl, rfl⟩; rfl)
              refine hK.out _ _ ?_ (fun hHeld => ?_)
              · (try dsimp only); (first | with_reducible exact S3.out | exact S3.out | exact S4.out _ | exact S5.out | exact S6.out)
              clear hK K
              refine wpAnyH_take (i := 17) (oi := _) (v := ?_) rfl (by kernel_rfl) (by kernel_rfl) (by kernel_rfl) (fun _ _ _ h => h) (Or.inl ⟨by rfl, ?_⟩) (by assumption) ?_
              rotate_left
              · intro w' hSw; (try dsimp only at hSw); go_simp; (try with_reducible rfl)
              simp only [Act.put, List.setIfInBounds_toArray, List.set_cons_zero, List.set_cons_succ]
              refine wpAnyH_ready (rs := [18]) (by kernel_rfl) (by simp) ?_
              refine AllReadyH.cons rfl (fun K hK => ?_) ?_
              · go_simp
                refine hK.out _ _ ?_ (fun hHeld => ?_)
                · (try dsimp only); (first | with_reducible exact S3.out | exact S3.out | exact S4.out _ | exact S5.out | exact S6.out)
                clear hK K
                refine wpAnyH_done (by kernel_rfl) ?_ _
                refine NoPanic.normal ?_
                go_wp2
                go_meet
                case rel => exact ⟨F1, F2⟩
              exact AllReadyH.nil
            exact AllReadyH.nil
          exact AllReadyH.nil
        refine AllReadyH.cons rfl (fun K hK => ?_) ?_
        · go_simp
          refine hK.out _ _ ?_ (fun hHeld => ?_)
          · (try dsimp only); (first | with_reducible exact S3.out | exact S3.out | exact S4.out _ | exact S5.out | exact S6.out)
          clear hK K
          refine wpAnyH_ready (rs := [13]) (by kernel_rfl) (by simp) ?_
          refine AllReadyH.cons rfl (fun K hK => ?_) ?_
          · go_simp
            refine hK.out _ _ ?_ (fun hHeld => ?_)
            · (try dsimp only); (first | with_reducible exact S3.out | exact S3.out | exact S4.out _ | exact S5.out | exact S6.out)
            clear hK K
            refine wpAnyH_ready (rs := [16]) (by kernel_rfl) (by simp) ?_
            refine AllReadyH.cons rfl (fun K hK => ?_) ?_
            · ((with_reducible refine LA _ _ _ _ _ _ ?_ ?_ ?_ ?_); rfl; exact ⟨_, _, rfl, rfl, rfl⟩; rfl)
              refine hK.out _ _ ?_ (fun hHeld => ?_)
              · (try dsimp only); (first | with_reducible exact S3.out | exact S3.out | exact S4.out _ | exact S5.out | exact S6.out)
              clear hK K
              refine wpAnyH_take (i := 17) (oi := _) (v := ?_) rfl (by kernel_rfl) (by kernel_rfl) (by kernel_rfl) (fun _ _ _ h => h) (Or.inl ⟨by rfl, ?_⟩) (by assumption) ?_
              rotate_left
              · intro w' hSw; (try dsimp only at hSw); go_simp; (try with_reducible rfl)
              simp only [Act.put, List.setIfInBounds_toArray, List.set_cons_zero, List.set_cons_succ]
              refine wpAnyH_ready (rs := [18]) (by kernel_rfl) (by simp) ?_
              refine AllReadyH.cons rfl (fun K hK => ?_) ?_
              · go_simp
                refine hK.out _ _ ?_ (fun hHeld => ?_)
                · (try dsimp only); (first | with_reducible exact S3.out | exact S3.out | exact S4.out _ | exact S5.out | exact S6.out)
                clear hK K
                refine wpAnyH_done (by kernel_rfl) ?_ _
                refine NoPanic.normal ?_
                go_wp2
                go_meet
                case rel => exact ⟨F1, F2⟩
              exact AllReadyH.nil
            exact AllReadyH.nil
          exact AllReadyH.nil
        exact AllReadyH.nil
      · have hb2 : b0 = false := by cases b0 with | false => rfl | true => exact absurd (hb1.1 rfl) hp0
        subst hb2
        clear hb1
        have HL4 : Hid (Lx S N g.rules w0 ((ruP 0 g.rules).take (m + 1)) ((ruP 0 g.rules).take m) (fM S g (m + 1) m) (fun i => i = pb) w3) := HL3.out.rows fun k hk => fM_w0 HE.out hp0 k
        clear HL3
        go_wp2
        go_meet
        case rel => exact ⟨HL4, HP3⟩
    case rest =>
      obtain ⟨HL4, HP4⟩ := hcut
      obtain ⟨V2, hV2⟩ : ∃ V2, V2 = wc := ⟨_, rfl⟩
      subst hV2
      clear HL3 HP3 p0 p1 p2 hpl3 hb1
      obtain ⟨p0, p1, p2⟩ := HP4.out
      have hp2 : pb < V2.heap.size := block_lt_of_cell p0
      have HSP : Hid (symPl g.rules ((q : Int), (c : Int), (p : Int)) = d.seq[p]?) := symPl_is HR.out HD.out
      have HNAME : Hid ((∀ s, d.seq[p]? = some s → s.name = -1) → ∀ w', Below V2.heap.size V2 w' → Lx S N g.rules w0 ((ruP 0 g.rules).take (m + 1)) ((ruP 0 g.rules).take (m + 1)) (fM S g (m + 1) (m + 1)) (fun _ => False) w') := fun hs w' hb => by
        have hs2 : ∀ s, symPl g.rules ((q : Int), (c : Int), (p : Int)) = some s → s.name = -1 := fun s hh => hs s (by rw [← HSP.out]; exact hh)
        exact (((HL4.out.below HS.out hb).less (fun i hi => False.elim hi)).needs fun q' z hq' hz => hz.skip HE.out (fun s _ hh => hs2 s hh)).rows fun k hk => fM_a0 HE.out hs2 k
      have hx : ∃ (nm lo up : Int) (ok : Bool), ((ok = true ∧ d.seq[p]? = some ⟨nm, lo, up⟩) ∨ (ok = false ∧ d.seq[p]? = none)) ∧ ∀ w', Below V2.heap.size V2 w' → Calls Tryz.prog 63 #[.agg #[.int .i64 g.start, gv, .slice pr g.rules.length cr], .agg #[.int .i64 (q : Int), .int .i64 (c : Int), .int .i64 (p : Int)]] w' fun e w'' => e = .returned (.tuple #[.agg #[.int .i64 nm, .int .i64 lo, .int .i64 up], .bool ok]) ∧ Hid (Below w'.heap.size w' w'') := by
        cases hsy : d.seq[p]? with
        | none =>
          refine ⟨0, 0, 0, false, Or.inr ⟨rfl, rfl⟩, fun w' hb => ?_⟩
          have := KS.out w' _ _ _ _ (HL4.out.below HS.out hb)
          rw [hsy] at this
          exact this
        | some s =>
          refine ⟨s.name, s.lo, s.hi, true, Or.inl ⟨rfl, rfl⟩, fun w' hb => ?_⟩
          have := KS.out w' _ _ _ _ (HL4.out.below HS.out hb)
          rw [hsy] at this
          exact this
      obtain ⟨nm, lo, up, ok, hok, ks⟩ := hx
      have HOK : Hid ((ok = true ∧ d.seq[p]? = some ⟨nm, lo, up⟩) ∨ (ok = false ∧ d.seq[p]? = none)) := hok
      have hC4 := HCE.out V2 _ _ _ _ HL4.out
      have x1 := hC4.k1
      have x2 := hC4.k2
      have x3 := hC4.k3
      obtain ⟨st, hst⟩ : ∃ st, st = g.start := ⟨_, rfl⟩
      obtain ⟨nr9, hnr9⟩ : ∃ nr9, nr9 = g.rules.length := ⟨_, rfl⟩
      rw [← hst] at x1 ks
      rw [← hnr9] at x3 ks
      have hkl : kb < V2.heap.size := block_lt_of_cell x1
      have KSV : Hid (∀ w', Below V2.heap.size V2 w' → Calls Tryz.prog 63 #[.agg #[.int .i64 st, gv, .slice pr nr9 cr], .agg #[.int .i64 (q : Int), .int .i64 (c : Int), .int .i64 (p : Int)]] w' fun e w'' => e = .returned (.tuple #[.agg #[.int .i64 nm, .int .i64 lo, .int .i64 up], .bool ok]) ∧ Hid (Below w'.heap.size w' w'')) := ks
      have HSC : Hid (∀ w', Below V2.heap.size V2 w' → w'.cell? ⟨kb, 1, none⟩ = some (.int .i64 st) ∧ w'.cell? ⟨kb, 2, none⟩ = some gv ∧ w'.cell? ⟨kb, 3, none⟩ = some (.slice pr nr9 cr) ∧ w'.cell? ⟨pb, 0, none⟩ = some (.int .i64 (q : Int)) ∧ w'.cell? ⟨pb, 1, none⟩ = some (.int .i64 (c : Int)) ∧ w'.cell? ⟨pb, 2, none⟩ = some (.int .i64 (p : Int))) := fun w' hb => ⟨(hb.cell (p := ⟨kb, 1, none⟩) hkl).trans x1, (hb.cell (p := ⟨kb, 2, none⟩) hkl).trans x2, (hb.cell (p := ⟨kb, 3, none⟩) hkl).trans x3, (hb.cell (p := ⟨pb, 0, none⟩) hp2).trans p0, (hb.cell (p := ⟨pb, 1, none⟩) hp2).trans p1, (hb.cell (p := ⟨pb, 2, none⟩) hp2).trans p2⟩
      clear hok ks hC4 x1 x2 x3 hst hnr9
      go_wp2
      go_cut [6, 7] from 47 (fun x y wc => ∃ sb : Nat, x = .pointer (some ⟨sb, 0, none⟩) ∧ y = .bool ok ∧ Hid (Below V2.heap.size V2 wc) ∧ Hid (V2.heap.size ≤ sb) ∧ Hid (wc.cell? ⟨sb, 0, none⟩ = some (.int .i64 nm)))
      case first =>
        clear KS HNAME HOK HSP HL4 HP4
        go_region_held3 (fun w' => Below V2.heap.size V2 w' ∧ w'.cell? ⟨kb, 1, none⟩ = some (.int .i64 st) ∧ w'.cell? ⟨kb, 2, none⟩ = some gv ∧ w'.cell? ⟨kb, 3, none⟩ = some (.slice pr nr9 cr) ∧ w'.cell? ⟨pb, 0, none⟩ = some (.int .i64 (q : Int)) ∧ w'.cell? ⟨pb, 1, none⟩ = some (.int .i64 (c : Int)) ∧ w'.cell? ⟨pb, 2, none⟩ = some (.int .i64 (p : Int)))
          ((refine (fun hb => ⟨hb, HSC.out _ hb⟩ : Below V2.heap.size V2 _ → _) ?_; repeat' (first | with_reducible assumption | with_reducible exact Below.refl _ _ | with_reducible apply Below.drew | with_reducible refine Below.alloc ?_ ?_ _ | with_reducible refine Below.setCell ?_ ?_ _ | exact Nat.le_refl _ | (first | exact b4.size | (have := b4.size; simp; omega) | (simp; omega)))))
          ((first | (go_at_call 63; refine (KSV.out _ (Below.refl _ V2).drew).mono ?_; rintro e w4 ⟨rfl, hb2⟩; have b4 : Below V2.heap.size V2 w4 := ((Below.refl _ V2).drew).trans hb2.out; clear hb2) | (go_at_call 63; refine (KSV.out _ ((bel1 V2 _).drew)).mono ?_; rintro e w4 ⟨rfl, hb2⟩; have b4 : Below V2.heap.size V2 w4 := ((bel1 V2 _).drew).trans (hb2.out.mono (by simp)); have zz0 : w4.cell? ⟨V2.heap.size, 0, none⟩ = some (.int .i64 0) := (hb2.out.cell (p := ⟨V2.heap.size, 0, none⟩) (by simp)).trans (World.cell?_alloc_at _ _ _ _ rfl); have zz1 : w4.cell? ⟨V2.heap.size, 1, none⟩ = some (.int .i64 0) := (hb2.out.cell (p := ⟨V2.heap.size, 1, none⟩) (by simp)).trans (World.cell?_alloc_at _ _ _ _ rfl); have zz2 : w4.cell? ⟨V2.heap.size, 2, none⟩ = some (.int .i64 0) := (hb2.out.cell (p := ⟨V2.heap.size, 2, none⟩) (by simp)).trans (World.cell?_alloc_at _ _ _ _ rfl); have zf0 : w4.frozen? ⟨V2.heap.size, 0, none⟩ = false := (hb2.out.frozen (p := ⟨V2.heap.size, 0, none⟩) (by simp)).trans (World.frozen?_alloc_at _ _ _ _ rfl); have zf1 : w4.frozen? ⟨V2.heap.size, 1, none⟩ = false := (hb2.out.frozen (p := ⟨V2.heap.size, 1, none⟩) (by simp)).trans (World.frozen?_alloc_at _ _ _ _ rfl); have zf2 : w4.frozen? ⟨V2.heap.size, 2, none⟩ = false := (hb2.out.frozen (p := ⟨V2.heap.size, 2, none⟩) (by simp)).trans (World.frozen?_alloc_at _ _ _ _ rfl); clear hb2)))
        · have hb9 : Below V2.heap.size V2 (w4.alloc (.cells #[.int .i64 nm, .int .i64 lo, .int .i64 up] 44)) := b4.alloc b4.size _
          have hs9 : V2.heap.size ≤ w4.heap.size := b4.size
          have hc9 : (w4.alloc (.cells #[.int .i64 nm, .int .i64 lo, .int .i64 up] 44)).cell? ⟨w4.heap.size, 0, none⟩ = some (.int .i64 nm) := World.cell?_alloc_at _ _ _ _ rfl
          go_wp2
          go_meet
          case rel => exact ⟨_, rfl, rfl, hb9, hs9, hc9⟩
        · have hb9 : Below V2.heap.size V2 (((w4.setCell ⟨V2.heap.size, 0, none⟩ (.int .i64 nm)).setCell ⟨V2.heap.size, 1, none⟩ (.int .i64 lo)).setCell ⟨V2.heap.size, 2, none⟩ (.int .i64 up)) := ((b4.setCell (p := ⟨V2.heap.size, 0, none⟩) (Nat.le_refl _) _).setCell (p := ⟨V2.heap.size, 1, none⟩) (Nat.le_refl _) _).setCell (p := ⟨V2.heap.size, 2, none⟩) (Nat.le_refl _) _
          have hc9 : (((w4.setCell ⟨V2.heap.size, 0, none⟩ (.int .i64 nm)).setCell ⟨V2.heap.size, 1, none⟩ (.int .i64 lo)).setCell ⟨V2.heap.size, 2, none⟩ (.int .i64 up)).cell? ⟨V2.heap.size, 0, none⟩ = some (.int .i64 nm) := by
            rw [World.cell?_setCell_other _ _ _ _ (by simp), World.cell?_setCell_other _ _ _ _ (by simp)]; exact World.cell?_setCell_same _ _ _ zz0
          go_wp2
          go_meet
          case rel => exact ⟨_, rfl, rfl, hb9, Nat.le_refl _, hc9⟩
      case rest =>
      obtain ⟨sb, rfl, rfl, HB3, HSB, HS0⟩ := hcut
      obtain ⟨V3, hV3⟩ : ∃ V3, V3 = wc := ⟨_, rfl⟩
      subst hV3
      clear HSC KSV KS
      have s0 := HS0.out
      rcases HOK.out with ⟨hok, hsy⟩ | ⟨hok, hsy⟩
      rotate_left
      · subst hok
        have HF : Hid (∀ w', Below V2.heap.size V2 w' → Lx S N g.rules w0 ((ruP 0 g.rules).take (m + 1)) ((ruP 0 g.rules).take (m + 1)) (fM S g (m + 1) (m + 1)) (fun _ => False) w') := HNAME.out (fun s h => by rw [hsy] at h; cases h)
        have HF2 : Hid (∀ w', Below V3.heap.size V3 w' → Lx S N g.rules w0 ((ruP 0 g.rules).take (m + 1)) ((ruP 0 g.rules).take (m + 1)) (fM S g (m + 1) (m + 1)) (fun _ => False) w') := fun w' hb => HF.out w' (HB3.out.trans (hb.mono HB3.out.size))
        clear HNAME HL4 HP4 HSP hsy HFL HCE HF HOK
        go_wp2
        go_end0
        exact ⟨rfl, HF2.out _ (Below.refl _ V3)⟩
      · subst hok
        have hnm := HGO.out.sy r (List.mem_of_getElem? HR.out) d (List.mem_of_getElem? HD.out) _ (List.mem_of_getElem? hsy)
        dsimp only at hnm
        by_cases hn1 : nm = -1
        · subst hn1
          have HF : Hid (∀ w', Below V2.heap.size V2 w' → Lx S N g.rules w0 ((ruP 0 g.rules).take (m + 1)) ((ruP 0 g.rules).take (m + 1)) (fM S g (m + 1) (m + 1)) (fun _ => False) w') := HNAME.out (fun s h => by rw [hsy] at h; injection h with h; rw [← h])
          have HF2 : Hid (∀ w', Below V3.heap.size V3 w' → Lx S N g.rules w0 ((ruP 0 g.rules).take (m + 1)) ((ruP 0 g.rules).take (m + 1)) (fM S g (m + 1) (m + 1)) (fun _ => False) w') := fun w' hb => HF.out w' (HB3.out.trans (hb.mono HB3.out.size))
          clear HNAME HL4 HP4 HSP hsy HFL HCE hnm HF HOK
          go_wp2
          go_end0
          exact ⟨rfl, HF2.out _ (Below.refl _ V3)⟩
        · have hnm2 := hnm.resolve_left hn1
          obtain ⟨x, rfl⟩ : ∃ x : Nat, nm = (x : Int) := ⟨nm.toNat, by omega⟩
          have hxN : x < S.nn := by rw [HNN.out]; omega
          have hx64 : x < 64 := by have := HNN.out; have := HGO.out.nn; omega
          have n1 : ((x : Int) == -1) = false := by rw [beq_eq_false_iff_ne]; omega
          rw [hsy] at HSP
          have hb3 : Below V2.heap.size V2 V3 := HB3.out
          have hsz := HSB.out
          clear HNAME hsy hnm hnm2 HOK
          have hL5 : Lx S N g.rules w0 ((ruP 0 g.rules).take (m + 1)) ((ruP 0 g.rules).take m) (fM S g (m + 1) m) (fun i => i = sb) V3 := (HL4.out.below HS.out hb3).less fun i hi => Or.inr (by omega)
          have u0 := (hb3.cell (p := ⟨pb, 0, none⟩) hp2).trans p0
          have k7 := (HCE.out _ _ _ _ _ hL5).k7
          obtain ⟨z, nq, hz⟩ := hL5.nd q hql
          have fq := hL5.fn q
          have B1 : bits .or .u64 ((z : Nat) : Int) (IntKind.u64.wrap (2 ^ x)) = ((z ||| 2 ^ x : Nat) : Int) := bit_putM _ _ hz.1 hx64
          have hsym : symPl g.rules ((q : Int), (c : Int), (p : Int)) = some ⟨(x : Int), lo, up⟩ := HSP.out
          have hND := fun (w' : World) (hl : Lx S N g.rules w0 ((ruP 0 g.rules).take (m + 1)) ((ruP 0 g.rules).take m) (fM S g (m + 1) m) (fun i => i = sb) w') => Lx.need (nl' := (ruP 0 g.rules).take (m + 1)) HS.out hl hql (z := z ||| 2 ^ x) (hz.or HE.out hsym (by simp) hx64) (fun q' z' h1 h2 h3 => h3.skip HE.out (fun s hh _ => by exact absurd hh (by intro h9; apply h2; have : (q : Int) = (q' : Int) := h9; omega)))
          have hnl : S.nb < V3.heap.size := block_lt_of_cell nq
          have hsl : sb < V3.heap.size := block_lt_of_cell s0
          have hlo5 := hL5.lk.size
          have hsn : S.nb ≠ sb := by have := HS.out.n; have := HL4.out.lk.size; omega
          have F1a : Hid (Lx S N g.rules w0 ((ruP 0 g.rules).take (m + 1)) ((ruP 0 g.rules).take (m + 1)) (fM S g (m + 1) m) (fun i => i = sb) (V3.drew.setCell ⟨S.nb, q, none⟩ (.int .u64 ((z ||| 2 ^ x : Nat) : Int)))) := hND _ ((hL5.below HS.out ((Below.refl _ V3).drew)).less fun i hi => Or.inl hi)
          have F1b : Hid (Lx S N g.rules w0 ((ruP 0 g.rules).take (m + 1)) ((ruP 0 g.rules).take (m + 1)) (fM S g (m + 1) m) (fun i => i = sb) (V3.setCell ⟨S.nb, q, none⟩ (.int .u64 ((z ||| 2 ^ x : Nat) : Int))).drew) := ((hND _ hL5).below HS.out ((Below.refl _ _).drew)).less fun i hi => Or.inl hi
          have F2 : Hid ((V3.setCell ⟨S.nb, q, none⟩ (.int .u64 ((z ||| 2 ^ x : Nat) : Int))).cell? ⟨sb, 0, none⟩ = some (.int .i64 (x : Int))) := by
            show _ = _
            rw [World.cell?_setCell_other _ _ _ _ (by intro e9; injection e9 with e8 e9; exact hsn e8)]
            exact s0
          have hsL : S.lo ≤ sb := by have := HL4.out.lk.size; omega
          have hsF : ¬ F sb := fun h => by have := (H0.out.fo sb h).1; have := HL4.out.lk.size; omega
          clear hb3 hL5 hz hND HL4 HP4 p0 p1 p2 hp2 HSP hsn HB3 HSB HS0 hsz
          go_wp2
          go_cut [] from 66 (fun wc => Hid (Lx S N g.rules w0 ((ruP 0 g.rules).take (m + 1)) ((ruP 0 g.rules).take (m + 1)) (fM S g (m + 1) m) (fun i => i = sb) wc) ∧ Hid (wc.cell? ⟨sb, 0, none⟩ = some (.int .i64 (x : Int))))
          case first =>
            go_region
            all_goals
              go_wp2
              go_meet
              case rel => first | exact ⟨F1a, F2.out⟩ | exact ⟨F1b, F2.out⟩
          case rest =>
            obtain ⟨HL6, HS6⟩ := hcut
            obtain ⟨V4, hV4⟩ : ∃ V4, V4 = wc := ⟨_, rfl⟩
            subst hV4
            clear F1a F1b F2 s0 u0 k7 nq fq B1 hnl hsl hlo5 z
            have s0 := HS6.out
            have hsl : sb < V4.heap.size := block_lt_of_cell s0
            obtain ⟨vs, hv⟩ := HL6.out.rw
            obtain ⟨a1, a2, a3⟩ := hv (S.nr + x) (by omega)
            have eB : adB S (S.nr + x) = S.ab := if_neg (by omega)
            have eO : adO S (S.nr + x) = x := by unfold adO; rw [if_neg (by omega)]; omega
            obtain ⟨pv, cv, hvv⟩ := row_slice a2
            rw [hvv] at a1 a2 a3
            have fq : V4.frozen? ⟨S.ab, x, none⟩ = false := HL6.out.fa x
            have k8 := (HCE.out _ _ _ _ _ HL6.out).k8
            have hkb := (H0.out.fo kb H0.out.fk).1
            have hfl := HFL.out (m + 1) m (S.nr + x)
            have HAPP : Hid (∀ w5 gg cap1, (V4.alloc (.cells #[.int .i64 ((N : Int) + (m : Int))] 3)).grownBy w5 (Value.slice pv (fM S g (m + 1) m (S.nr + x)).length cv).ownBlock → w5.ownsRow S.lo 3 1 (.slice (some ⟨gg, 0, none⟩) ((fM S g (m + 1) m (S.nr + x)).length + 1) cap1) ((fM S g (m + 1) m (S.nr + x)).length + 1) (intsV (fM S g (m + 1) m (S.nr + x)) ++ [.int .i64 ((N : Int) + (m : Int))]) → ((Value.slice pv (fM S g (m + 1) m (S.nr + x)).length cv).ownBlock = some gg ∨ gg = V4.heap.size + 1) →
                Lx S N g.rules w0 ((ruP 0 g.rules).take (m + 1)) ((ruP 0 g.rules).take (m + 1)) (fM S g (m + 1) (m + 1)) (fun _ => False) (w5.setCell ⟨S.ab, x, none⟩ (.slice (some ⟨gg, 0, none⟩) ((fM S g (m + 1) m (S.nr + x)).length + 1) cap1))) := fun w5 gg cap1 hg ho hat => by
              have := Lx.app HS.out HL6.out (k := S.nr + x) (by omega) a1 hg ho hat (fun i hi => by omega)
              rw [eB, eO] at this
              refine (this.less fun i hi => False.elim hi).rows fun k hk => ?_
              have h9 := fM_a1 (S := S) (m := m + 1) HE.out hsym (by show (x : Int) ≠ -1; omega) (x := x) (by simp) k
              rw [h9, HN.out]
            have R3 : Hid (V4.ownsRow S.lo 3 1 (.slice pv (fM S g (m + 1) m (S.nr + x)).length cv) (fM S g (m + 1) m (S.nr + x)).length (intsV (fM S g (m + 1) m (S.nr + x)))) := a2
            have hloV := HL6.out.lk.size
            have l1 : kb < V4.heap.size := by omega
            have l2 : S.ab < V4.heap.size := by have := HS.out.a; omega
            have ne1 : (Value.slice pv (fM S g (m + 1) m (S.nr + x)).length cv).ownBlock ≠ some kb := fun e => by have := (a2.lt _ e).1; omega
            have ne2 : (Value.slice pv (fM S g (m + 1) m (S.nr + x)).length cv).ownBlock ≠ some S.ab := fun e => by have := (a2.lt _ e).1; have := HS.out.a; omega
            have ne3 : (Value.slice pv (fM S g (m + 1) m (S.nr + x)).length cv).ownBlock ≠ some sb := fun e => (a3 sb e).1 rfl
            rw [eB, eO] at a1
            have hsab : S.ab ≠ sb := by have := HS.out.a; omega
            have b6 : ∀ o, (V4.alloc o).cell? ⟨kb, 8, none⟩ = some (.slice (some ⟨S.ab, 0, none⟩) S.nn S.nn) := fun o => (World.cell?_alloc_past _ _ _ l1).trans k8
            have bq : ∀ o, (V4.alloc o).cell? ⟨S.ab, x, none⟩ = some (.slice pv (fM S g (m + 1) m (S.nr + x)).length cv) := fun o => (World.cell?_alloc_past _ _ _ l2).trans a1
            have bf : ∀ o, (V4.alloc o).frozen? ⟨S.ab, x, none⟩ = false := fun o => (World.frozen?_alloc_past _ _ _ l2).trans fq
            have bp : ∀ o, (V4.alloc o).cell? ⟨sb, 0, none⟩ = some (.int .i64 (x : Int)) := fun o => (World.cell?_alloc_past _ _ _ hsl).trans s0
            obtain ⟨n, hn⟩ : ∃ n, n = (fM S g (m + 1) m (S.nr + x)).length := ⟨_, rfl⟩
            obtain ⟨xs, hxs⟩ : ∃ xs, xs = intsV (fM S g (m + 1) m (S.nr + x)) := ⟨_, rfl⟩
            rw [← hn] at a1 R3 ne1 ne2 ne3 HAPP bq hfl
            rw [← hxs] at R3 HAPP
            have hA : n + 1 ≤ maxLen := by unfold maxLen; omega
            have hB' : (n + 1) * 8 ≤ 140737488355328 := by omega
            obtain ⟨gg, cap1, w5, hr5, hown5, hgrow, hat, -⟩ := run_append_lies (P := Tryz.prog) (V4.alloc (.cells #[.int .i64 ((N : Int) + (m : Int))] 3)).drew 62 62 S.lo 3 i0 _ 1 8 Tryz.underlying62 hi0 hz0 hz1 hz2 rfl (by omega) (.slice pv n cv) n xs ((R3.out.alloc _).drew) ⟨V4.heap.size, 0, none⟩ 1 1 [.int .i64 ((N : Int) + (m : Int))] rfl
              (World.news_of_block (cs := #[.int .i64 ((N : Int) + (m : Int))]) (t := 3) (fr := (0, 0)) (heap_alloc_new V4 _)) (by intro u hu; simp at hu; rcases hu with rfl; rfl) (by omega) hA hB' (by simp; omega) (V4.heap.size + 1) (by simp)
            have hg' : (V4.alloc (.cells #[.int .i64 ((N : Int) + (m : Int))] 3)).grownBy w5 (Value.slice pv n cv).ownBlock := ⟨hgrow.os, hgrow.tape, hgrow.output, hgrow.size, hgrow.block⟩
            have F1 : Hid (Lx S N g.rules w0 ((ruP 0 g.rules).take (m + 1)) ((ruP 0 g.rules).take (m + 1)) (fM S g (m + 1) (m + 1)) (fun _ => False) (w5.setCell ⟨S.ab, x, none⟩ (.slice (some ⟨gg, 0, none⟩) (n + 1) cap1))) := HAPP.out w5 gg cap1 hg' hown5 hat
            have d6 : w5.cell? ⟨kb, 8, none⟩ = some (.slice (some ⟨S.ab, 0, none⟩) S.nn S.nn) := (hg'.cell_far ⟨kb, 8, none⟩ (by simp; omega) (Ne.symm ne1)).trans (b6 _)
            have dq : w5.cell? ⟨S.ab, x, none⟩ = some (.slice pv n cv) := (hg'.cell_far ⟨S.ab, x, none⟩ (by simp; omega) (Ne.symm ne2)).trans (bq _)
            have df : w5.frozen? ⟨S.ab, x, none⟩ = false := (hg'.frozen_far ⟨S.ab, x, none⟩ (by simp; omega) (Ne.symm ne2)).trans (bf _)
            have dp : w5.cell? ⟨sb, 0, none⟩ = some (.int .i64 (x : Int)) := (hg'.cell_far ⟨sb, 0, none⟩ (by simp; omega) (Ne.symm ne3)).trans (bp _)
            have S3 : Hid (V4.cell? ⟨kb, 8, none⟩ = some (.slice (some ⟨S.ab, 0, none⟩) S.nn S.nn) ∧ V4.cell? ⟨sb, 0, none⟩ = some (.int .i64 (x : Int))) := ⟨k8, s0⟩
            have S4 : Hid (∀ o, (V4.alloc o).cell? ⟨kb, 8, none⟩ = some (.slice (some ⟨S.ab, 0, none⟩) S.nn S.nn) ∧ (V4.alloc o).cell? ⟨sb, 0, none⟩ = some (.int .i64 (x : Int))) := fun o => ⟨b6 o, bp o⟩
            have S5 : Hid (w5.cell? ⟨kb, 8, none⟩ = some (.slice (some ⟨S.ab, 0, none⟩) S.nn S.nn) ∧ w5.cell? ⟨sb, 0, none⟩ = some (.int .i64 (x : Int))) := ⟨d6, dp⟩
            have S6 : Hid ((w5.setCell ⟨S.ab, x, none⟩ (.slice (some ⟨gg, 0, none⟩) (n + 1) cap1)).cell? ⟨kb, 8, none⟩ = some (.slice (some ⟨S.ab, 0, none⟩) S.nn S.nn) ∧ (w5.setCell ⟨S.ab, x, none⟩ (.slice (some ⟨gg, 0, none⟩) (n + 1) cap1)).cell? ⟨sb, 0, none⟩ = some (.int .i64 (x : Int))) := by
              refine ⟨?_, ?_⟩
              · rw [World.cell?_setCell_other _ _ _ _ (by intro e9; injection e9 with e8 e9; exact (H0.out.fo kb H0.out.fk).2.2.2.2 e8.symm)]
                exact d6
              · rw [World.cell?_setCell_other _ _ _ _ (by intro e9; injection e9 with e8 e9; exact hsab e8)]
                exact dp
            have bqd : ∀ o, (V4.alloc o).drew.cell? ⟨S.ab, x, none⟩ = some (.slice pv n cv) := bq
            have LA := stepAppL hr5
            unfold StepAppL at LA
            clear hv a2 a3 hvv hn hxs eB eO hg' hgrow hat hown5 hr5 HAPP R3 b6 bf bp ne1 ne2 ne3 d6 dp HL6 HS6
            go_wp2
            refine wp_region_noPanic ?_
            refine wp_region_held_drew (S := (fun w' => w'.cell? ⟨kb, 8, none⟩ = some (.slice (some ⟨S.ab, 0, none⟩) S.nn S.nn) ∧ w'.cell? ⟨sb, 0, none⟩ = some (.int .i64 (x : Int)))) (by kernel_rfl) ?_ (fun hHeld => ?_)
            · (try dsimp only); (first | with_reducible exact S3.out | exact S3.out | exact S4.out _ | exact S5.out | exact S6.out)
            refine wpAnyH_take (i := 0) (oi := _) (v := ?_) rfl (by kernel_rfl) (by kernel_rfl) (by kernel_rfl) (fun _ _ _ h => h) (Or.inl ⟨by rfl, ?_⟩) (by assumption) ?_
            rotate_left
            · intro w' hSw; (try dsimp only at hSw); go_simp; (try with_reducible rfl)
            simp only [Act.put, List.setIfInBounds_toArray, List.set_cons_zero, List.set_cons_succ]
            refine wpAnyH_take (i := 1) (oi := _) (v := ?_) rfl (by kernel_rfl) (by kernel_rfl) (by kernel_rfl) (fun _ _ _ h => h) (Or.inl ⟨by rfl, ?_⟩) (by assumption) ?_
            rotate_left
            · intro w' hSw; (try dsimp only at hSw); go_simp; (try with_reducible rfl)
            simp only [Act.put, List.setIfInBounds_toArray, List.set_cons_zero, List.set_cons_succ]
            refine wpAnyH_take (i := 2) (oi := _) (v := ?_) rfl (by kernel_rfl) (by kernel_rfl) (by kernel_rfl) (fun _ _ _ h => h) (Or.inl ⟨by rfl, ?_⟩) (by assumption) ?_
            rotate_left
            · intro w' hSw; (try dsimp only at hSw); go_simp; (try with_reducible rfl)
            simp only [Act.put, List.setIfInBounds_toArray, List.set_cons_zero, List.set_cons_succ]
            refine wpAnyH_take (i := 3) (oi := _) (v := ?_) rfl (by kernel_rfl) (by kernel_rfl) (by kernel_rfl) (fun _ _ _ h => h) (Or.inl ⟨by rfl, ?_⟩) (by assumption) ?_
            rotate_left
            · intro w' hSw; (try dsimp only at hSw); go_simp; (try with_reducible rfl)
            simp only [Act.put, List.setIfInBounds_toArray, List.set_cons_zero, List.set_cons_succ]
            refine wpAnyH_take (i := 4) (oi := _) (v := ?_) rfl (by kernel_rfl) (by kernel_rfl) (by kernel_rfl) (fun _ _ _ h => h) (Or.inl ⟨by rfl, ?_⟩) (by assumption) ?_
            rotate_left
            · intro w' hSw; (try dsimp only at hSw); go_simp; (try with_reducible rfl)
            simp only [Act.put, List.setIfInBounds_toArray, List.set_cons_zero, List.set_cons_succ]
            refine wpAnyH_take (i := 5) (oi := _) (v := ?_) rfl (by kernel_rfl) (by kernel_rfl) (by kernel_rfl) (fun _ _ _ h => h) (Or.inl ⟨by rfl, ?_⟩) (by assumption) ?_
            rotate_left
            · intro w' hSw; (try dsimp only at hSw); go_simp; (try with_reducible rfl)
            simp only [Act.put, List.setIfInBounds_toArray, List.set_cons_zero, List.set_cons_succ]
            refine wpAnyH_take (i := 6) (oi := _) (v := ?_) rfl (by kernel_rfl) (by kernel_rfl) (by kernel_rfl) (fun _ _ _ h => h) (Or.inl ⟨by rfl, ?_⟩) (by assumption) ?_
            rotate_left
            · intro w' hSw; (try dsimp only at hSw); go_simp; (try with_reducible rfl)
            simp only [Act.put, List.setIfInBounds_toArray, List.set_cons_zero, List.set_cons_succ]
            refine wpAnyH_take (i := 7) (oi := _) (v := ?_) rfl (by kernel_rfl) (by kernel_rfl) (by kernel_rfl) (fun _ _ _ h => h) (Or.inl ⟨by rfl, ?_⟩) (by assumption) ?_
            rotate_left
            · intro w' hSw; (try dsimp only at hSw); go_simp; (try with_reducible rfl)
            simp only [Act.put, List.setIfInBounds_toArray, List.set_cons_zero, List.set_cons_succ]
            refine wpAnyH_take (i := 8) (oi := _) (v := ?_) rfl (by kernel_rfl) (by kernel_rfl) (by kernel_rfl) (fun _ _ _ h => h) (Or.inl ⟨by rfl, ?_⟩) (by assumption) ?_
            rotate_left
            · intro w' hSw; (try dsimp only at hSw); go_simp; (try with_reducible rfl)
            simp only [Act.put, List.setIfInBounds_toArray, List.set_cons_zero, List.set_cons_succ]
            refine wpAnyH_take (i := 9) (oi := _) (v := ?_) rfl (by kernel_rfl) (by kernel_rfl) (by kernel_rfl) (fun _ _ _ h => h) (Or.inl ⟨by rfl, ?_⟩) (by assumption) ?_
            rotate_left
            · intro w' hSw; (try dsimp only at hSw); go_simp; (try with_reducible rfl)
            simp only [Act.put, List.setIfInBounds_toArray, List.set_cons_zero, List.set_cons_succ]
            refine wpAnyH_take (i := 10) (oi := _) (v := ?_) rfl (by kernel_rfl) (by kernel_rfl) (by kernel_rfl) (fun _ _ _ h => h) (Or.inl ⟨by rfl, ?_⟩) (by assumption) ?_
            rotate_left
            · intro w' hSw; (try dsimp only at hSw); go_simp; (try with_reducible rfl)
            simp only [Act.put, List.setIfInBounds_toArray, List.set_cons_zero, List.set_cons_succ]
            refine wpAnyH_take (i := 11) (oi := _) (v := ?_) rfl (by kernel_rfl) (by kernel_rfl) (by kernel_rfl) (fun _ _ _ h => h) (Or.inl ⟨by rfl, ?_⟩) (by assumption) ?_
            rotate_left
            · intro w' hSw; (try dsimp only at hSw); go_simp; (try with_reducible rfl)
            simp only [Act.put, List.setIfInBounds_toArray, List.set_cons_zero, List.set_cons_succ]
            refine wpAnyH_take (i := 12) (oi := _) (v := ?_) rfl (by kernel_rfl) (by kernel_rfl) (by kernel_rfl) (fun _ _ _ h => h) (Or.inl ⟨by rfl, ?_⟩) (by assumption) ?_
            rotate_left
            · intro w' hSw; (try dsimp only at hSw); go_simp; (try with_reducible rfl)
            simp only [Act.put, List.setIfInBounds_toArray, List.set_cons_zero, List.set_cons_succ]
            refine wpAnyH_take (i := 14) (oi := _) (v := ?_) rfl (by kernel_rfl) (by kernel_rfl) (by kernel_rfl) (fun _ _ _ h => h) (Or.inl ⟨by rfl, ?_⟩) (by assumption) ?_
            rotate_left
            · intro w' hSw; (try dsimp only at hSw); go_simp; (try with_reducible rfl)
            simp only [Act.put, List.setIfInBounds_toArray, List.set_cons_zero, List.set_cons_succ]
            refine wpAnyH_ready (rs := [13, 15]) (by kernel_rfl) (by simp) ?_
            refine AllReadyH.cons rfl (fun K hK => ?_) ?_
            · go_simp
              refine hK.out _ _ ?_ (fun hHeld => ?_)
              · (try dsimp only); (first | with_reducible exact S3.out | exact S3.out | exact S4.out _ | exact S5.out | exact S6.out)
              clear hK K
              refine wpAnyH_ready (rs := [15]) (by kernel_rfl) (by simp) ?_
              refine AllReadyH.cons rfl (fun K hK => ?_) ?_
              · go_simp
                refine hK.out _ _ ?_ (fun hHeld => ?_)
                · (try dsimp only); (first | with_reducible exact S3.out | exact S3.out | exact S4.out _ | exact S5.out | exact S6.out)
                clear hK K
                refine wpAnyH_ready (rs := [16]) (by kernel_rfl) (by simp) ?_
                refine AllReadyH.cons rfl (fun K hK => ?_) ?_
                · ((with_reducible refine LA _ _ _ _ _ _ ?_ ?_ ?_ ?_); rfl; exact ⟨_, _, rfl, rfl, rfl⟩; rfl)
                  refine hK.out _ _ ?_ (fun hHeld => ?_)
                  · (try dsimp only); (first | with_reducible exact S3.out | exact S3.out | exact S4.out _ | exact S5.out | exact S6.out)
                  clear hK K
                  refine wpAnyH_take (i := 17) (oi := _) (v := ?_) rfl (by kernel_rfl) (by kernel_rfl) (by kernel_rfl) (fun _ _ _ h => h) (Or.inl ⟨by rfl, ?_⟩) (by assumption) ?_
                  rotate_left
                  · intro w' hSw; (try dsimp only at hSw); go_simp; (try with_reducible rfl)
                  simp only [Act.put, List.setIfInBounds_toArray, List.set_cons_zero, List.set_cons_succ]
                  refine wpAnyH_ready (rs := [18]) (by kernel_rfl) (by simp) ?_
                  refine AllReadyH.cons rfl (fun K hK => ?_) ?_
                  · go_simp
                    refine hK.out _ _ ?_ (fun hHeld => ?_)
                    · (try dsimp only); (first | with_reducible exact S3.out | exact S3.out | exact S4.out _ | exact S5.out | exact S6.out)
                    clear hK K
                    refine wpAnyH_done (by kernel_rfl) ?_ _
                    refine NoPanic.normal ?_
                    go_wp2
                    go_end0
                    exact ⟨rfl, F1⟩
                  exact AllReadyH.nil
                exact AllReadyH.nil
              exact AllReadyH.nil
            refine AllReadyH.cons rfl (fun K hK => ?_) ?_
            · go_simp
              refine hK.out _ _ ?_ (fun hHeld => ?_)
              · (try dsimp only); (first | with_reducible exact S3.out | exact S3.out | exact S4.out _ | exact S5.out | exact S6.out)
              clear hK K
              refine wpAnyH_ready (rs := [13]) (by kernel_rfl) (by simp) ?_
              refine AllReadyH.cons rfl (fun K hK => ?_) ?_
              · go_simp
                refine hK.out _ _ ?_ (fun hHeld => ?_)
                · (try dsimp only); (first | with_reducible exact S3.out | exact S3.out | exact S4.out _ | exact S5.out | exact S6.out)
                clear hK K
                refine wpAnyH_ready (rs := [16]) (by kernel_rfl) (by simp) ?_
                refine AllReadyH.cons rfl (fun K hK => ?_) ?_
                · ((with_reducible refine LA _ _ _ _ _ _ ?_ ?_ ?_ ?_); rfl; exact ⟨_, _, rfl, rfl, rfl⟩; rfl)
                  refine hK.out _ _ ?_ (fun hHeld => ?_)
                  · (try dsimp only); (first | with_reducible exact S3.out | exact S3.out | exact S4.out _ | exact S5.out | exact S6.out)
                  clear hK K
                  refine wpAnyH_take (i := 17) (oi := _) (v := ?_) rfl (by kernel_rfl) (by kernel_rfl) (by kernel_rfl) (fun _ _ _ h => h) (Or.inl ⟨by rfl, ?_⟩) (by assumption) ?_
                  rotate_left
                  · intro w' hSw; (try dsimp only at hSw); go_simp; (try with_reducible rfl)
                  simp only [Act.put, List.setIfInBounds_toArray, List.set_cons_zero, List.set_cons_succ]
                  refine wpAnyH_ready (rs := [18]) (by kernel_rfl) (by simp) ?_
                  refine AllReadyH.cons rfl (fun K hK => ?_) ?_
                  · go_simp
                    refine hK.out _ _ ?_ (fun hHeld => ?_)
                    · (try dsimp only); (first | with_reducible exact S3.out | exact S3.out | exact S4.out _ | exact S5.out | exact S6.out)
                    clear hK K
                    refine wpAnyH_done (by kernel_rfl) ?_ _
                    refine NoPanic.normal ?_
                    go_wp2
                    go_end0
                    exact ⟨rfl, F1⟩
                  exact AllReadyH.nil
                exact AllReadyH.nil
              exact AllReadyH.nil
            exact AllReadyH.nil
end Go.Proofs.YtfjejnkjlnkkhaaGreatDoor
