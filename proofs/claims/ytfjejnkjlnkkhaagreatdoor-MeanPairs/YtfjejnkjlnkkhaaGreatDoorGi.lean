import Derived.Test.YtfjejnkjlnkkhaaGreatDoorGb
import Derived.Test.YtfjejnkjlnkkhaaGreatDoorGg
import Derived.Test.YtfjejnkjlnkkhaaGreatDoorGh
import Derived.Deep.AppendLies
import Derived.Laws.OwnMore
import Derived.ArgAppend
import Derived.Deep.Cut
import Derived.Deep.RegionHeld3
import Derived.Deep.QuietTactic
import Derived.Test.YtfjejnkjlnkkhaaGreatDoorGc
import Derived.BigQuiet
import Derived.Deep.Heap
/- Places in memory; the program's walk, Count and Places. -/
namespace Go.Proofs.YtfjejnkjlnkkhaaGreatDoor
set_option linter.unusedVariables false
open Go.ChangeShapes Go.WideShapes Go.ChangeAt Go.RowKit

def plcV (e : Plc) : List Value := [.int .i64 e.1, .int .i64 e.2.1, .int .i64 e.2.2]
def plcsV : List Plc → List Value
  | [] => []
  | e :: l => plcV e ++ plcsV l
theorem plcsV_append : ∀ l m : List Plc, plcsV (l ++ m) = plcsV l ++ plcsV m
  | [], _ => rfl
  | i :: l, m => by simp [plcsV, plcsV_append l m]
theorem plcsV_at : ∀ (l : List Plc) (k : Nat) (s : Plc), l[k]? = some s → (plcsV l)[k * 3]? = some (.int .i64 s.1) ∧ (plcsV l)[k * 3 + 1]? = some (.int .i64 s.2.1) ∧ (plcsV l)[k * 3 + 2]? = some (.int .i64 s.2.2)
  | [], k, i, h => by simp at h
  | q :: l, 0, i, h => by
    obtain rfl : q = i := by simpa using h
    exact ⟨rfl, rfl, rfl⟩
  | q :: l, k + 1, i, h => by
    have := plcsV_at l k i (by simpa using h)
    rw [show (k + 1) * 3 = k * 3 + 1 + 1 + 1 by omega]
    simpa [plcsV, plcV] using this
def IsPls (w : World) (F : Nat → Prop) (v : Value) (l : List Plc) : Prop := Reads w F v l.length (plcsV l)
theorem IsPls.any {w w' : World} {F : Nat → Prop} {v : Value} {l : List Plc} (h : IsPls w F v l) (hb : Below w.heap.size w w') : IsPls w' F v l := Reads.any h hb
theorem IsPls.slc {w : World} {F : Nat → Prop} {v : Value} {l : List Plc} (h : IsPls w F v l) : ∃ p c, v = .slice p l.length c := by
  obtain ⟨p, c, e, _⟩ := h
  exact ⟨p, c, e⟩
theorem IsPls.at {w : World} {F : Nat → Prop} {p : Option Addr} {n c : Nat} {l : List Plc} (h : IsPls w F (.slice p n c) l) {k : Nat} {r : Plc} (hk : l[k]? = some r) : ∃ g o, p = some ⟨g, o, none⟩ ∧ g < w.heap.size ∧ w.cell? ⟨g, o + k * 3, none⟩ = some (.int .i64 r.1) ∧ w.cell? ⟨g, o + k * 3 + 1, none⟩ = some (.int .i64 r.2.1) ∧ w.cell? ⟨g, o + k * 3 + 2, none⟩ = some (.int .i64 r.2.2) := by
  obtain ⟨p2, c2, e2, _, hc⟩ := h
  injection e2 with e3
  subst e3
  have hlt := (List.getElem?_eq_some_iff.1 hk).1
  obtain ⟨g, o, e, _, hg, cc, _⟩ := hc (by omega)
  obtain ⟨a0, a1, a2⟩ := plcsV_at l k r hk
  exact ⟨g, o, e, hg, cc _ _ a0, by rw [Nat.add_assoc]; exact cc _ _ a1, by rw [Nat.add_assoc]; exact cc _ _ a2⟩
theorem Tryz.infoPl : (Tryz.prog.info? 56).map (fun i => (i.zero, i.size, i.bytes)) = some (some (.agg #[.int .i64 0, .int .i64 0, .int .i64 0]), 3, 24) := by kernel_rfl
theorem info_partsP {P : Program} {t : TypeId} {z : Option Value} {s b : Nat} (h : (P.info? t).map (fun i => (i.zero, i.size, i.bytes)) = some (z, s, b)) : ∃ i, P.info? t = some i ∧ i.zero = z ∧ i.size = s ∧ i.bytes = b := by
  cases hi : P.info? t with
  | none => rw [hi] at h; cases h
  | some i => rw [hi] at h; simp only [Option.map_some, Option.some.injEq, Prod.mk.injEq] at h; exact ⟨i, rfl, h.1, h.2.1, h.2.2⟩
/-- An append that is known. -/
theorem wpList_run_appendP {P : Program} {w : World} {ops : Array Oper} {rest : List Oper} {o : Oper} {a : Act} {Q : Exit → Act → World → Prop} (hgd : o.guard = none) (s x : Operand) (t : TypeId)
    (ho : o.op = .call { callee := .builtin .append, args := #[s, x], argTypes := #[t, t] }) (v u : Value) (hs : a.eval s = v) (hx : a.eval x = u) {v' : Value} {w' : World} (hr : (Builtin.append_ #[t, t] o.type #[v, u]).run P w = .ok v' w') (h : wpList P ops Q rest (a.put o.dst v') w') :
    wpList P ops Q (o :: rest) a w := wpList_plain hgd fun K hK => by
  unfold Oper.wp execOp
  simp only [ho, resolve, invoke, builtin, Sem.run_bind, Sem.run_pure, Result.andThen_ok, List.map_toArray, List.map_cons, List.map_nil, hs, hx, hr]
  exact hK _ _ h
/-- A count in block c. -/
def CtJ (W : World) (c : Nat) (l : List Plc) (w : World) : Prop := Below W.heap.size W w ∧ c < w.heap.size ∧ w.cell? ⟨c, 0, none⟩ = some (.int .i64 (l.length : Int)) ∧ w.frozen? ⟨c, 0, none⟩ = false
theorem CtJ.any {W : World} {c : Nat} {l : List Plc} {w w' : World} (h : CtJ W c l w) (hb : Below w.heap.size w w') : CtJ W c l w' :=
  ⟨h.1.trans (hb.mono h.1.size), Nat.lt_of_lt_of_le h.2.1 hb.size, (hb.cell (p := ⟨_, _, none⟩) h.2.1).trans h.2.2.1, (hb.frozen (p := ⟨_, _, none⟩) h.2.1).trans h.2.2.2⟩
/-- A row of places, its slice in block c. -/
def RwJ (W : World) (c : Nat) (l : List Plc) (w : World) : Prop := Below W.heap.size W w ∧ c < w.heap.size ∧ w.frozen? ⟨c, 0, none⟩ = false ∧ ∃ p k, w.cell? ⟨c, 0, none⟩ = some (.slice p l.length k) ∧ w.ownsRow (c + 1) 56 3 (.slice p l.length k) l.length (plcsV l)
theorem RwJ.any {W : World} {c : Nat} {l : List Plc} {w w' : World} (h : RwJ W c l w) (hb : Below w.heap.size w w') : RwJ W c l w' := by
  obtain ⟨h1, h2, h3, p, k, h4, h5⟩ := h
  exact ⟨h1.trans (hb.mono h1.size), Nat.lt_of_lt_of_le h2 hb.size, (hb.frozen (p := ⟨_, _, none⟩) h2).trans h3, p, k, (hb.cell (p := ⟨_, _, none⟩) h2).trans h4, row_keep h5 hb⟩
set_option maxHeartbeats 2000000 in
set_option maxRecDepth 100000 in
theorem rowCl (W : World) (c : Nat) (hc : W.heap.size ≤ c) (l : List Plc) (w : World) (i j k : Int) (h : RwJ W c l w) (hl : l.length ≤ 1000000000) :
    Calls Tryz.prog 62 #[.agg #[.int .i64 i, .int .i64 j, .int .i64 k], .pointer (some ⟨c, 0, none⟩)] w fun e w' => e = .returned (.tuple #[]) ∧ Hid (RwJ W c (l ++ [(i, j, k)]) w') := by
  obtain ⟨i0, hi0, hz0, hz1, hz2⟩ := info_partsP Tryz.infoPl
  obtain ⟨X, hX⟩ : ∃ X, X = w.alloc (.cells #[.int .i64 i, .int .i64 j, .int .i64 k] 56) := ⟨_, rfl⟩
  have hXb : Below w.heap.size w X := by rw [hX]; exact bel1 _ _
  have hXs : X.heap.size = w.heap.size + 1 := by rw [hX]; simp
  obtain ⟨b1, b2, b3, p, q, b4, b5⟩ := h.any hXb
  have h2 := h.2.1
  obtain ⟨gg, cap, w2, hrun, hown, hgrow, hat, _⟩ := run_append_lies (P := Tryz.prog) (X.alloc (.cells #[.int .i64 i, .int .i64 j, .int .i64 k] 56)) 68 68 (c + 1) 56 i0 _ 3 24 Tryz.underlying68 hi0 hz0 hz1 hz2 rfl (by omega) (.slice p l.length q) l.length (plcsV l) (b5.alloc _) ⟨X.heap.size, 0, none⟩ 1 1 [.int .i64 i, .int .i64 j, .int .i64 k] rfl
    (World.news_of_block (cs := #[.int .i64 i, .int .i64 j, .int .i64 k]) (t := 56) (fr := (0, 0)) (heap_alloc_new X _)) (by intro u hu; simp at hu; rcases hu with rfl | rfl | rfl <;> rfl) (by omega) (by unfold maxLen; omega) (by omega) (by simp; omega) (X.heap.size + 1) (by simp)
  have hne : some c ≠ (Value.slice p l.length q).ownBlock := fun e => by have := (b5.lt c e.symm).1; omega
  have hcl : c < (X.alloc (.cells #[.int .i64 i, .int .i64 j, .int .i64 k] 56)).heap.size := by simp; omega
  have hcb := hgrow.block c hcl hne
  have y4 : w2.cell? ⟨c, 0, none⟩ = some (.slice p l.length q) := (World.cell?_of_block (a := ⟨c, _, none⟩) hcb).trans ((World.cell?_alloc_past _ _ _ b2).trans b4)
  have y3 : w2.frozen? ⟨c, 0, none⟩ = false := (World.frozen?_of_block (a := ⟨c, _, none⟩) hcb).trans (((bel1 X _).frozen (p := ⟨c, 0, none⟩) b2).trans b3)
  have HF : Hid (RwJ W c (l ++ [(i, j, k)]) (w2.setCell ⟨c, 0, none⟩ (.slice (some ⟨gg, 0, none⟩) (l.length + 1) cap))) := by
    have B2 : Below W.heap.size W w2 := (b1.alloc b1.size _).grown hgrow (Nat.le_trans b1.size (le_alloc _ _)) (fun i hi => by have := (b5.lt i hi).1; omega)
    have e1 : (l ++ [(i, j, k)]).length = l.length + 1 := by simp
    have e2 : plcsV (l ++ [(i, j, k)]) = plcsV l ++ [.int .i64 i, .int .i64 j, .int .i64 k] := by rw [plcsV_append]; rfl
    refine ⟨B2.setCell (p := ⟨c, 0, none⟩) hc _, ?_, (World.frozen?_setCell _ _ _ _).trans y3, some ⟨gg, 0, none⟩, cap, ?_, ?_⟩
    · have := hgrow.size; simp [World.setCell] at this ⊢; omega
    · rw [e1]; exact World.cell?_setCell_same _ _ _ y4
    · rw [e1, e2]; exact ownsRow_setCell_other (a := ⟨c, 0, none⟩) hown (fun e => by have := (hown.lt c e).1; omega) _
  have x0 : X.cell? ⟨c, 0, none⟩ = some (.slice p l.length q) := b4
  have x1 : X.cell? ⟨w.heap.size, 0, none⟩ = some (.int .i64 i) := by rw [hX]; exact World.cell?_alloc_at _ _ _ _ rfl
  have x2 : X.cell? ⟨w.heap.size, 1, none⟩ = some (.int .i64 j) := by rw [hX]; exact World.cell?_alloc_at _ _ _ _ rfl
  have x3 : X.cell? ⟨w.heap.size, 2, none⟩ = some (.int .i64 k) := by rw [hX]; exact World.cell?_alloc_at _ _ _ _ rfl
  generalize l ++ [(i, j, k)] = l2 at HF ⊢
  have HR : Hid ((Builtin.append_ #[68, 68] 68 #[.slice p l.length q, .slice (some ⟨X.heap.size, 0, none⟩) 1 1]).run Tryz.prog (X.alloc (.cells #[.int .i64 i, .int .i64 j, .int .i64 k] 56)) = .ok (.slice (some ⟨gg, 0, none⟩) (l.length + 1) cap) w2) := hrun
  obtain ⟨nb, hnb⟩ : ∃ nb, nb = w.heap.size := ⟨_, rfl⟩
  clear h hown hgrow hat hne hcb b1 b3 b5 hcl hXb hXs hrun hi0 hz0 hz1 hz2
  go_enter Tryz.func62, Tryz.ntmps62
  go_upto_region 1 with fail
  rw [← hX, ← hnb]
  rw [← hnb] at x1 x2 x3
  clear hX hnb
  go_wp2_with (at_builtin; refine wpList_run_appendP rfl _ _ 68 rfl _ _ rfl rfl HR.out ?_)
  go_end0
  exact ⟨rfl, HF⟩
end Go.Proofs.YtfjejnkjlnkkhaaGreatDoor
/- The program's walk over places, Count and Places. -/
namespace Go.Proofs.YtfjejnkjlnkkhaaGreatDoor
set_option linter.unusedVariables false
open Go.ChangeShapes Go.WideShapes Go.ChangeAt Go.RowKit

theorem lngR {w : World} {F : Nat → Prop} {v : Value} {l : List Ru} (h : IsRus w F v l) : ∃ p c, v = .slice p l.length c := by
  obtain ⟨_, ⟨p, c, e, _⟩, _⟩ := h
  exact ⟨p, c, e⟩
theorem lngC {w : World} {F : Nat → Prop} {v : Value} {l : List Cn} (h : IsCns w F v l) : ∃ p c, v = .slice p l.length c := by
  obtain ⟨_, ⟨p, c, e, _⟩, _⟩ := h
  exact ⟨p, c, e⟩
set_option maxHeartbeats 4000000 in
set_option maxRecDepth 100000 in
theorem walkPls (s : Int) (v1 v2 : Value) (L : List Ru) (W : World) {F : Nat → Prop} (hL : IsRus W F v2 L) (hin : PlIn L) (k1 : Option Addr × Nat × Nat) (e1 : v1 = .slice k1.1 k1.2.1 k1.2.2) (x : Nat) (J : List Plc → World → Prop)
    (hJB : ∀ l w, J l w → Below W.heap.size W w) (hJA : ∀ l w w', J l w → Below w.heap.size w w' → J l w')
    (hJC : ∀ l w (i j k : Int), J l w → l.length < (ruP 0 L).length → Calls Tryz.prog 62 #[.agg #[.int .i64 i, .int .i64 j, .int .i64 k], .pointer (some ⟨x, 0, none⟩)] w fun e w' => e = .returned (.tuple #[]) ∧ Hid (J (l ++ [(i, j, k)]) w')) (w : World) (h0 : J [] w) :
    Calls Tryz.prog 61 #[.agg #[.int .i64 s, v1, v2], .func (.func 62) #[] #[.pointer (some ⟨x, 0, none⟩)]] w fun e w' => e = .returned (.tuple #[]) ∧ Hid (J (ruP 0 L) w') := by
  have HL : Hid (IsRus W F v2 L) := hL
  have HB : Hid (∀ l w, J l w → Below W.heap.size W w) := hJB
  have HA : Hid (∀ l w w', J l w → Below w.heap.size w w' → J l w') := hJA
  have HC : Hid (∀ l w (i j k : Int), J l w → l.length < (ruP 0 L).length → Calls Tryz.prog 62 #[.agg #[.int .i64 i, .int .i64 j, .int .i64 k], .pointer (some ⟨x, 0, none⟩)] w fun e w' => e = .returned (.tuple #[]) ∧ Hid (J (l ++ [(i, j, k)]) w')) := hJC
  have HI : Hid (PlIn L) := hin
  have H0 : Hid (J [] w) := h0
  obtain ⟨p2, c2, e2⟩ := lngR hL
  have hn6 := hin.1
  obtain ⟨n, hn⟩ : ∃ n, n = L.length := ⟨_, rfl⟩
  have HN : Hid (n = L.length) := hn
  obtain ⟨A, hA⟩ : ∃ A, A = ruP 0 L := ⟨_, rfl⟩
  have HAA : Hid (A = ruP 0 L) := hA
  rw [← hn] at e2 hn6
  rw [← hA] at HC ⊢
  subst e1 e2
  clear hL hJB hJA hJC hin h0 hn hA
  have H1 : Hid (J [] (w.alloc (.cells #[.int .i64 s, .slice k1.1 k1.2.1 k1.2.2, .slice p2 n c2] 25))) := HA.out _ _ _ H0.out (bel1 _ _)
  go_enter Tryz.func61, Tryz.ntmps61
  go_wp2
  go_loopw [12] (fun x wr => ∃ (i : Nat) (l : List Plc), i ≤ n ∧ x = .int .i64 i ∧ Hid (J l wr) ∧ Hid (l ++ ruP i (L.drop i) = A)) (fun x _ => n - (intOf x).toNat)
  case atStart => exact ⟨0, [], Nat.zero_le _, rfl, H1, HAA.out.symm⟩
  case round =>
    obtain ⟨i, l, hi, rfl, HJ, HE⟩ := hrel
    by_cases hlt : i < n
    · obtain ⟨t, ht⟩ : ∃ t, L[i]? = some t := ⟨_, List.getElem?_eq_getElem (by rw [← HN.out]; exact hlt)⟩
      obtain ⟨g1, o1, u1, hp, a0, a1, hcn⟩ := (HL.out.any (HB.out _ _ HJ.out)).row ht
      subst hp
      obtain ⟨hc8, hcm⟩ := HI.out.2 t (List.mem_of_getElem? ht)
      have HE2 : Hid (l ++ (cnP i 0 (t.conj.drop 0) ++ ruP (i + 1) (L.drop (i + 1))) = A) := by
        show _ = _
        rw [← ruP_drop ht]; exact HE.out
      obtain ⟨R, hR⟩ : ∃ R, R = ruP (i + 1) (L.drop (i + 1)) := ⟨_, rfl⟩
      have HRR : Hid (R = ruP (i + 1) (L.drop (i + 1))) := hR
      rw [← hR] at HE2
      obtain ⟨hd, cs⟩ := t
      simp only at a0 a1 hcn hc8 hcm HE2
      obtain ⟨q, cq, hu1⟩ := lngC hcn
      have HCN : Hid (IsCns W F u1 cs) := by
        obtain ⟨g9, o9, u9, hp9, _, a9, hcn9⟩ := HL.out.row ht
        injection hp9 with hp9
        injection hp9 with h91 h92
        subst h91 h92
        have hlt9 : g1 < W.heap.size := by
          have := block_lt_of_cell a9
          exact this
        have := ((HB.out _ _ HJ.out).cell (p := ⟨g1, o1 + i * 2 + 1, none⟩) hlt9).trans a9
        rw [this] at a1
        injection a1 with a1
        subst a1
        exact hcn9
      have HCM : Hid (∀ c, c ∈ cs → c.seq.length ≤ 64) := hcm
      obtain ⟨m, hm⟩ : ∃ m, m = cs.length := ⟨_, rfl⟩
      have HM : Hid (m = cs.length) := hm
      rw [← hm] at hu1 hc8
      subst hu1
      have HJ2 : Hid (J l (wr.alloc (.cells #[.int .i64 hd, .slice q m cq] 53))) := HA.out _ _ _ HJ.out (bel1 _ _)
      clear ht hcn hcm hR hm HE
      go_wp2
      go_loopw [20] (fun x wr => ∃ (j : Nat) (l : List Plc), j ≤ m ∧ x = .int .i64 j ∧ Hid (J l wr) ∧ Hid (l ++ (cnP i j (cs.drop j) ++ R) = A)) (fun x _ => m - (intOf x).toNat)
      case atStart => exact ⟨0, l, Nat.zero_le _, rfl, HJ2, HE2⟩
      case round =>
        clear HJ HJ2 HE2 a0 a1
        obtain ⟨j, l, hj, rfl, HJ, HE⟩ := hrel
        by_cases hltj : j < m
        · obtain ⟨t, ht⟩ : ∃ t, cs[j]? = some t := ⟨_, List.getElem?_eq_getElem (by rw [← HM.out]; exact hltj)⟩
          obtain ⟨g3, o3, u3, hp3, b0, b1, hsy⟩ := (HCN.out.any (HB.out _ _ HJ.out)).row ht
          subst hp3
          have hs64 := HCM.out t (List.mem_of_getElem? ht)
          have HE2 : Hid (l ++ (sqP i j 0 (t.seq.length + 1 - 0) ++ (cnP i (j + 1) (cs.drop (j + 1)) ++ R)) = A) := by
            show _ = _
            rw [← List.append_assoc (sqP _ _ _ _), Nat.sub_zero, ← cnP_drop ht]; exact HE.out
          obtain ⟨R2, hR2⟩ : ∃ R2, R2 = cnP i (j + 1) (cs.drop (j + 1)) ++ R := ⟨_, rfl⟩
          have HR2 : Hid (R2 = cnP i (j + 1) (cs.drop (j + 1)) ++ R) := hR2
          rw [← hR2] at HE2
          obtain ⟨ng, sq⟩ := t
          simp only at b0 b1 hsy hs64 HE2
          obtain ⟨q4, c4, hu3⟩ := hsy.slc
          subst hu3
          obtain ⟨z, hz⟩ : ∃ z, z = sq.length := ⟨_, rfl⟩
          rw [← hz] at b1 hs64 HE2
          have HJ2 : Hid (J l (wr.alloc (.cells #[.bool ng, .slice q4 z c4] 48))) := HA.out _ _ _ HJ.out (bel1 _ _)
          clear ht hsy hR2 hz HE
          go_wp2
          go_loopw [29] (fun x wr => ∃ (k : Nat) (l : List Plc), k ≤ z + 1 ∧ x = .int .i64 k ∧ Hid (J l wr) ∧ Hid (l ++ (sqP i j k (z + 1 - k) ++ R2) = A)) (fun x _ => z + 1 - (intOf x).toNat)
          case atStart => exact ⟨0, l, Nat.zero_le _, rfl, HJ2, HE2⟩
          case round =>
            clear HJ HJ2 HE2 b0 b1
            obtain ⟨k, l, hk, rfl, HJ, HE⟩ := hrel
            by_cases hltk : k < z + 1
            · have HE2 : Hid ((l ++ [((i : Int), (j : Int), (k : Int))]) ++ (sqP i j (k + 1) (z + 1 - (k + 1)) ++ R2) = A) := by
                have := HE.out
                rw [sqP_more hltk] at this
                show _ = _
                rw [← this]; simp
              have KC := HC.out l wr (i : Int) (j : Int) (k : Int) HJ.out (by rw [← HE.out, sqP_more hltk]; simp)
              have hlk2 : (k : Int) < (z : Int) + 1 := by omega
              clear HE
              go_wp2_with (go_at_call 62; refine KC.mono ?_; rintro e w2 ⟨rfl, HJ2⟩)
              go_roundw
              case rel => exact ⟨k + 1, _, by omega, by go_num, HJ2, HE2⟩
              case measure => simp [intOf]; omega
            · obtain rfl : k = z + 1 := by omega
              have HE2 : Hid (l ++ (cnP i (j + 1) (cs.drop (j + 1)) ++ R) = A) := by
                have := HE.out
                rw [Nat.sub_self, HR2.out] at this
                exact this
              have hlk2 : ¬ ((z + 1 : Nat) : Int) < (z : Int) + 1 := by omega
              clear HE
              go_wp2
              go_roundw
              case rel => exact ⟨j + 1, l, by omega, by go_num, HJ, HE2⟩
              case measure => simp [intOf]; omega
        · obtain rfl : j = m := by omega
          have HE2 : Hid (l ++ ruP (i + 1) (L.drop (i + 1)) = A) := by
            have := HE.out
            rw [HM.out, cnP_end, HRR.out] at this
            exact this
          clear HE
          go_wp2
          go_roundw
          case rel => exact ⟨i + 1, l, by omega, by go_num, HJ, HE2⟩
          case measure => simp [intOf]; omega
    · obtain rfl : i = n := by omega
      have HE2 : Hid (l = A) := by
        have := HE.out
        rw [HN.out, ruP_end, List.append_nil] at this
        exact this
      clear HE
      go_wp2
      go_end0
      refine ⟨rfl, ?_⟩
      rw [← HE2.out]; exact HJ
end Go.Proofs.YtfjejnkjlnkkhaaGreatDoor
/- Count and Places of the program, the document's Places; rows of places held against one another. -/
namespace Go.Proofs.YtfjejnkjlnkkhaaGreatDoor
set_option linter.unusedVariables false
open Go.ChangeShapes Go.WideShapes Go.ChangeAt Go.RowKit

theorem cells3 {w : World} {x0 x1 x2 : Value} {t : TypeId} {w' : World} (hb : Below (w.alloc (.cells #[x0, x1, x2] t)).heap.size (w.alloc (.cells #[x0, x1, x2] t)) w') : w'.cell? ⟨w.heap.size, 0, none⟩ = some x0 ∧ w'.cell? ⟨w.heap.size, 1, none⟩ = some x1 ∧ w'.cell? ⟨w.heap.size, 2, none⟩ = some x2 := by
  have h : ∀ j, (w.alloc (.cells #[x0, x1, x2] t)).cell? ⟨w.heap.size, j, none⟩ = (#[x0, x1, x2] : Array Value)[j]? := fun j => World.cell?_alloc_at _ _ _ _ rfl
  exact ⟨(hb.cell (p := ⟨_, _, none⟩) (by simp)).trans (h 0), (hb.cell (p := ⟨_, _, none⟩) (by simp)).trans (h 1), (hb.cell (p := ⟨_, _, none⟩) (by simp)).trans (h 2)⟩
theorem grSlc {w : World} {F : Nat → Prop} {v1 v2 : Value} {g : Gr} (hg : GrIs w F v1 v2 g) : (∃ p c, v1 = .slice p g.names.length c) ∧ ∃ p c, v2 = .slice p g.rules.length c := by
  obtain ⟨p, c, e, _⟩ := hg.1
  exact ⟨⟨p, c, e⟩, lngR hg.2⟩
/-- A row of places of one's own, behind w. -/
def OwPl (w : World) (v : Value) (l : List Plc) (w' : World) : Prop := ∃ b, w.heap.size ≤ b ∧ w'.ownsRow b 56 3 v l.length (plcsV l)
set_option maxHeartbeats 2000000 in
set_option maxRecDepth 100000 in
theorem places_ok (g : Gr) (v1 v2 : Value) (w : World) {F : Nat → Prop} (hg : GrIs w F v1 v2 g) (hl : ∀ s, s ∈ g.names → s.size ≤ maxLen) (hS : Short g.rules) (hM : mayG g = true) :
    Calls Tryz.prog 42 #[.agg #[.int .i64 g.start, v1, v2]] w fun e w' => ∃ p c, e = .returned (.tuple #[.slice p (ruP 0 g.rules).length c, .int .i64 0]) ∧ Hid (OwPl w (.slice p (ruP 0 g.rules).length c) (ruP 0 g.rules) w') ∧ Hid (Below w.heap.size w w') := by
  have KM : Hid (∀ w', Below w.heap.size w w' → Calls Tryz.prog 53 #[.agg #[.int .i64 g.start, v1, v2]] w' fun e w'' => e = .returned (.bool true) ∧ Hid (Below w'.heap.size w' w'')) := fun w' hb => by
    have := may_any g v1 v2 w' (hg.any hb) hl hS
    rw [hM] at this
    exact this
  obtain ⟨⟨p1, c1, rfl⟩, ⟨p2, c2, rfl⟩⟩ := grSlc hg
  have hin := mayG_plIn hM
  have hpl := hin.len
  have KW : Hid (∀ w1, Below w.heap.size w w1 → Calls Tryz.prog 61 #[.agg #[.int .i64 g.start, .slice p1 g.names.length c1, .slice p2 g.rules.length c2], .func (.func 62) #[] #[.pointer (some ⟨w1.heap.size, 0, none⟩)]] (w1.alloc (.cells #[.slice none 0 0] 68)) fun e w' => e = .returned (.tuple #[]) ∧ Hid (RwJ w1 w1.heap.size (ruP 0 g.rules) w')) := fun w1 hb =>
    walkPls g.start _ _ g.rules w1 (hg.2.any hb) hin (p1, g.names.length, c1) rfl w1.heap.size (RwJ w1 w1.heap.size) (fun l w h => h.1) (fun l w w' h hb => h.any hb) (fun l w i j k h hlt => rowCl w1 _ (Nat.le_refl _) l w i j k h (by omega)) _ ⟨bel1 _ _, by simp, by unfold World.frozen?; rw [heap_alloc_new]; rfl, none, 0, World.cell?_alloc_at _ _ _ _ rfl, World.ownsRow_nil _ _ _ _⟩
  have B1 : Hid (Below w.heap.size w (w.alloc (.cells #[.int .i64 g.start, .slice p1 g.names.length c1, .slice p2 g.rules.length c2] 25))) := bel1 _ _
  have HQ : Hid (∀ w', Below (w.alloc (.cells #[.int .i64 g.start, .slice p1 g.names.length c1, .slice p2 g.rules.length c2] 25)).heap.size (w.alloc (.cells #[.int .i64 g.start, .slice p1 g.names.length c1, .slice p2 g.rules.length c2] 25)) w' → w'.cell? ⟨w.heap.size, 0, none⟩ = some (.int .i64 g.start) ∧ w'.cell? ⟨w.heap.size, 1, none⟩ = some (.slice p1 g.names.length c1) ∧ w'.cell? ⟨w.heap.size, 2, none⟩ = some (.slice p2 g.rules.length c2)) := fun w' hb => cells3 hb
  generalize ruP 0 g.rules = A at *
  generalize g.names.length = n1 at *
  generalize g.rules.length = n2 at *
  generalize g.start = st at *
  clear hg hl hS hM hin
  go_enter Tryz.func42, Tryz.ntmps42
  have hmf : ∀ (fn : Fn) (first cap : Array Value) (w : World), (Instr.makeFunc fn first cap).run Tryz.prog w = .ok (.func fn first cap) w := fun _ _ _ _ => rfl
  go_wp2_with (first
    | (go_at_call 53; refine (KM.out _ B1.out).mono ?_; rintro e w2 ⟨rfl, b2⟩; obtain ⟨q0, q1, q2⟩ := HQ.out _ (b2.out); have B2 : Hid (Below w.heap.size w w2) := B1.out.trans (b2.out.mono B1.out.size); obtain ⟨r0, r1, r2⟩ := HQ.out _ (b2.out.trans ((bel1 w2 (.cells #[.slice none 0 0] 68)).mono b2.out.size)))
    | (go_at_call 61; refine (KW.out _ B2.out).mono ?_; rintro e w4 ⟨rfl, J4⟩; obtain ⟨b4, -, -, pp, cc, c4, o4⟩ := J4.out; have B4 : Hid (Below w.heap.size w w4) := B2.out.trans (b4.mono B2.out.size); have O4 : Hid (OwPl w (.slice pp A.length cc) A w4) := ⟨_, Nat.le_succ_of_le B2.out.size, o4⟩; clear J4 b4 o4 q0 q1 q2 r0 r1 r2))
  go_ret2
  exact ⟨_, _, rfl, O4, B4⟩
end Go.Proofs.YtfjejnkjlnkkhaaGreatDoor
/- A table of spans in memory, two words of bits a point; add, contains. -/
namespace Go.Proofs.YtfjejnkjlnkkhaaGreatDoor
set_option linter.unusedVariables false
open Go.ChangeShapes Go.WideShapes Go.ChangeAt Go.RowKit

/-- All that was there stays, but for block b. -/
structure Bu (b : Nat) (w w' : World) : Prop where
  os : w'.os = w.os
  tape : w'.tape = w.tape
  output : w'.output = w.output
  size : w.heap.size ≤ w'.heap.size
  block : ∀ k, k < w.heap.size → k ≠ b → w'.heap[k]? = w.heap[k]?
theorem Bu.refl (b : Nat) (w : World) : Bu b w w := ⟨rfl, rfl, rfl, Nat.le_refl _, fun _ _ _ => rfl⟩
theorem Bu.trans {b : Nat} {w w' w'' : World} (h : Bu b w w') (k : Bu b w' w'') : Bu b w w'' :=
  ⟨k.os.trans h.os, k.tape.trans h.tape, k.output.trans h.output, Nat.le_trans h.size k.size, fun i hi hb => (k.block i (Nat.lt_of_lt_of_le hi h.size) hb).trans (h.block i hi hb)⟩
theorem Bu.of {b : Nat} {w w' : World} (h : Below w.heap.size w w') : Bu b w w' := ⟨h.os, h.tape, h.output, h.size, fun k hk _ => h.block k hk⟩
theorem Bu.set {b : Nat} {w w' : World} (h : Bu b w w') (k : Nat) (v : Value) : Bu b w (w'.setCell ⟨b, k, none⟩ v) :=
  ⟨h.os, h.tape, h.output, by rw [Go.Deep.nblk_setCell]; exact h.size, fun i hi hb => (Go.Deep.blk_setCell_other w' ⟨b, k, none⟩ v i hb).trans (h.block i hi hb)⟩
theorem Bu.drew {b : Nat} {w w' : World} (h : Bu b w w') : Bu b w w'.drew := ⟨h.os, h.tape, h.output, h.size, h.block⟩
theorem Bu.alloc {b : Nat} {w w' : World} (h : Bu b w w') (o : Obj) : Bu b w (w'.alloc o) := h.trans (Bu.of (bel1 _ _))
theorem Bu.below {b B : Nat} {w w' : World} (h : Bu b w w') (hB : B ≤ b) (hs : B ≤ w.heap.size) : Below B w w' := ⟨h.os, h.tape, h.output, h.size, fun k hk => h.block k (by omega) (by omega)⟩
theorem Bu.stay {b : Nat} {w w' : World} (h : Bu b w w') {F : Nat → Prop} (hF : ∀ i, F i → i < w.heap.size ∧ i ≠ b) : Stay F w w' := ⟨h.size, fun i hi => h.block i (hF i hi).1 (hF i hi).2⟩
theorem Bu.cell {b : Nat} {w w' : World} (h : Bu b w w') {k o : Nat} {v : Value} (hk : k ≠ b) (hc : w.cell? ⟨k, o, none⟩ = some v) : w'.cell? ⟨k, o, none⟩ = some v :=
  (World.cell?_of_block (a := ⟨k, o, none⟩) (h.block k (block_lt_of_cell hc) hk)).trans hc
/-- The word whose bits are f's. -/
def bitsN (f : Nat → Bool) : Nat → Nat
  | 0 => 0
  | n + 1 => bitsN f n ||| (if f n = true then 2 ^ n else 0)
theorem bitsN_lt (f : Nat → Bool) : ∀ n, bitsN f n < 2 ^ n
  | 0 => by simp [bitsN]
  | n + 1 => by
    refine Nat.or_lt_two_pow (Nat.lt_of_lt_of_le (bitsN_lt f n) (Nat.pow_le_pow_right (by decide) (Nat.le_succ n))) ?_
    split
    · exact Nat.pow_lt_pow_right (by decide) (Nat.lt_succ_self n)
    · exact Nat.two_pow_pos _
theorem bitsN_at (f : Nat → Bool) : ∀ n j, (bitsN f n).testBit j = (decide (j < n) && f j)
  | 0, j => by simp [bitsN]
  | n + 1, j => by
    unfold bitsN
    rw [Nat.testBit_or, bitsN_at f n j]
    by_cases e : j = n
    · subst e
      split
      · rename_i h; simp [h]
      · rename_i h; simp [h]
    · have h1 : (if f n = true then 2 ^ n else 0).testBit j = false := by
        split
        · rw [Nat.testBit_two_pow]; simp [Ne.symm e]
        · simp
      rw [h1, Bool.or_false]
      have : decide (j < n + 1) = decide (j < n) := by
        rw [Bool.eq_iff_iff, decide_eq_true_eq, decide_eq_true_eq]; omega
      rw [this]
theorem bitsN_put (f g : Nat → Bool) {k : Nat} (hk : k < 64) (hg : ∀ j, g j = if j = k then true else f j) : bitsN g 64 = bitsN f 64 ||| 2 ^ k := by
  refine Nat.eq_of_testBit_eq fun j => ?_
  rw [Nat.testBit_or, bitsN_at, bitsN_at, Nat.testBit_two_pow, hg j]
  by_cases e : j = k
  · subst e; simp [hk]
  · simp [e, Ne.symm e]
theorem bitsN_congr {f g : Nat → Bool} (h : ∀ j, f j = g j) : bitsN f 64 = bitsN g 64 := by rw [funext h]
def frW (T : SpM) (y i : Nat) : Nat := bitsN (fun j => T y i j) 64
def toW (T : SpM) (y j : Nat) : Nat := bitsN (fun i => T y i j) 64
theorem frW_lt (T : SpM) (y i : Nat) : frW T y i < 18446744073709551616 := bitsN_lt _ 64
theorem toW_lt (T : SpM) (y j : Nat) : toW T y j < 18446744073709551616 := bitsN_lt _ 64
theorem frW_at (T : SpM) (y i : Nat) {j : Nat} (hj : j < 64) : (frW T y i).testBit j = T y i j := by unfold frW; rw [bitsN_at]; simp [hj]
theorem toW_at (T : SpM) (y j : Nat) {i : Nat} (hi : i < 64) : (toW T y j).testBit i = T y i j := by unfold toW; rw [bitsN_at]; simp [hi]
/-- Block b is the table T of A names and rests. -/
structure HasAt (w : World) (b A : Nat) (T : SpM) : Prop where
  lt : b < w.heap.size
  fr : ∀ y i, y < A → i ≤ 32 → w.cell? ⟨b, y * 66 + i, none⟩ = some (.int .u64 ((frW T y i : Nat) : Int))
  to : ∀ y j, y < A → j ≤ 32 → w.cell? ⟨b, y * 66 + 33 + j, none⟩ = some (.int .u64 ((toW T y j : Nat) : Int))
  fz : ∀ k, w.frozen? ⟨b, k, none⟩ = false
section
variable {w w' : World} {b A : Nat} {T : SpM}
theorem HasAt.blk (h : HasAt w b A T) (hs : w.heap.size ≤ w'.heap.size) (hb : w'.heap[b]? = w.heap[b]?) : HasAt w' b A T :=
  ⟨Nat.lt_of_lt_of_le h.lt hs, fun y i hy hi => (World.cell?_of_block (a := ⟨b, _, none⟩) hb).trans (h.fr y i hy hi), fun y i hy hi => (World.cell?_of_block (a := ⟨b, _, none⟩) hb).trans (h.to y i hy hi), fun k => (World.frozen?_of_block (a := ⟨b, _, none⟩) hb).trans (h.fz k)⟩
theorem HasAt.any (h : HasAt w b A T) (hb : Below w.heap.size w w') : HasAt w' b A T := h.blk hb.size (hb.block b h.lt)
theorem HasAt.put (h : HasAt w b A T) {y a c : Nat} (hy : y < A) (ha : a ≤ 32) (hc : c ≤ 32) :
    HasAt ((w.setCell ⟨b, y * 66 + a, none⟩ (.int .u64 ((frW T y a ||| 2 ^ c : Nat) : Int))).setCell ⟨b, y * 66 + 33 + c, none⟩ (.int .u64 ((toW T y c ||| 2 ^ a : Nat) : Int))) b A (putS3 T y a c) := by
  have c1 : (w.setCell ⟨b, y * 66 + a, none⟩ (.int .u64 ((frW T y a ||| 2 ^ c : Nat) : Int))).cell? ⟨b, y * 66 + 33 + c, none⟩ = some (.int .u64 ((toW T y c : Nat) : Int)) := by
    rw [World.cell?_setCell_other _ _ _ _ (by intro e; injection e with _ e; omega)]; exact h.to y c hy hc
  refine ⟨by rw [Go.Deep.nblk_setCell, Go.Deep.nblk_setCell]; exact h.lt, fun z i hz hi => ?_, fun z j hz hj => ?_, fun k => ?_⟩
  · rw [World.cell?_setCell_other _ _ _ _ (by intro e; injection e with _ e; omega)]
    by_cases e : z = y ∧ i = a
    · obtain ⟨rfl, rfl⟩ := e
      rw [World.cell?_setCell_same _ _ _ (h.fr z i hz hi)]
      congr 3
      exact (bitsN_put _ _ (by omega) fun j => by unfold putS3; simp).symm
    · rw [World.cell?_setCell_other _ _ _ _ (by intro e9; injection e9 with _ e9; omega), h.fr z i hz hi]
      congr 3
      exact bitsN_congr fun j => by
        unfold putS3; rw [if_neg]; rintro ⟨e1, e2, -⟩; exact e ⟨e1, e2⟩
  · by_cases e : z = y ∧ j = c
    · obtain ⟨rfl, rfl⟩ := e
      rw [World.cell?_setCell_same _ _ _ c1]
      congr 3
      exact (bitsN_put _ _ (by omega) fun i => by unfold putS3; simp).symm
    · rw [World.cell?_setCell_other _ _ _ _ (by intro e9; injection e9 with _ e9; omega), World.cell?_setCell_other _ _ _ _ (by intro e9; injection e9 with _ e9; omega), h.to z j hz hj]
      congr 3
      exact bitsN_congr fun i => by
        unfold putS3; rw [if_neg]; rintro ⟨e1, -, e3⟩; exact e ⟨e1, e3⟩
  · rw [World.frozen?_setCell, World.frozen?_setCell]; exact h.fz k
end
theorem ret_boolM {a b : Bool} (h : a = b) : Ending.returned (.bool a) = .returned (.bool b) := by rw [h]
theorem bit_testM (n : Nat) (r : Nat) (hn : n < 18446744073709551616) : (bits .and .u64 ((n : Int) / 2 ^ r) 1 == 0) = !n.testBit r := by
  have e : ((n : Int) / 2 ^ r) = ((n / 2 ^ r : Nat) : Int) := by simp
  rw [Nat.testBit_eq_decide_div_mod_eq]
  have hlt : n / 2 ^ r < 18446744073709551616 := Nat.lt_of_le_of_lt (Nat.div_le_self _ _) hn
  rw [e]
  generalize n / 2 ^ r = m at hlt
  rw [and_one_u64 _ (by omega) (by omega)]
  rw [Bool.eq_iff_iff]
  simp only [beq_iff_eq, Bool.not_eq_true', decide_eq_false_iff_not]
  omega
theorem bit_putM (n r : Nat) (hn : n < 18446744073709551616) (hr : r < 64) : bits .or .u64 ((n : Nat) : Int) (IntKind.u64.wrap (2 ^ r)) = ((n ||| 2 ^ r : Nat) : Int) := by
  have hp : 2 ^ r < 18446744073709551616 := two_lt hr
  have e : (2 : Int) ^ r = ((2 ^ r : Nat) : Int) := by simp
  rw [e, IntKind.wrap_u64]
  generalize 2 ^ r = m at hp
  rw [show ((m : Int) % 18446744073709551616) = (m : Int) by omega]
  exact u64_or_nat _ _ hn hp
set_option maxHeartbeats 1000000 in
set_option maxRecDepth 100000 in
theorem hasSp_any {w : World} {b A : Nat} {T : SpM} (y i j : Nat) (h : HasAt w b A T) (hy : y < A) (hi : i ≤ 32) (hj : j ≤ 32) :
    Calls Tryz.prog 32 #[.pointer (some ⟨b, y * 66, none⟩), .int .i64 (i : Int), .int .i64 (j : Int)] w fun e w' => e = .returned (.bool (T y i j)) ∧ w = w' := by
  have hc := h.fr y i hy hi
  have HB : Hid ((bits .and .u64 (((frW T y i : Nat) : Int) / 2 ^ j) 1 == 0) = !(T y i j)) := by
    have := bit_testM (frW T y i) j (frW_lt T y i)
    rw [frW_at T y i (by omega)] at this
    exact this
  have hi2 : (i : Int) < 33 := by omega
  have hj2 : (j : Int) < 64 := by omega
  clear h
  go_enter Tryz.func32, Tryz.ntmps32
  go_wp2
  go_ret
  refine ⟨ret_boolM ?_, rfl⟩
  have := HB.out
  cases hT : T y i j with
  | false => rw [hT] at this; simp at this; simp [this]
  | true => rw [hT] at this; simp at this; simp [this]
set_option maxHeartbeats 2000000 in
set_option maxRecDepth 100000 in
theorem addSp_any {w : World} {b A : Nat} {T : SpM} (y i j : Nat) (h : HasAt w b A T) (hy : y < A) (hi : i ≤ 32) (hj : j ≤ 32) :
    Calls Tryz.prog 93 #[.pointer (some ⟨b, y * 66, none⟩), .int .i64 (i : Int), .int .i64 (j : Int)] w fun e w' => e = .returned (.tuple #[]) ∧ Hid (HasAt w' b A (putS3 T y i j)) ∧ Hid (Bu b w w') := by
  have hc := h.fr y i hy hi
  have hd := h.to y j hy hj
  have hf := h.fz (y * 66 + i)
  have hg := h.fz (y * 66 + 33 + j)
  have HH : Hid (HasAt w b A T) := h
  have B1 : bits .or .u64 ((frW T y i : Nat) : Int) (IntKind.u64.wrap (2 ^ j)) = ((frW T y i ||| 2 ^ j : Nat) : Int) := bit_putM _ _ (frW_lt T y i) (by omega)
  have B2 : bits .or .u64 ((toW T y j : Nat) : Int) (IntKind.u64.wrap (2 ^ i)) = ((toW T y j ||| 2 ^ i : Nat) : Int) := bit_putM _ _ (toW_lt T y j) (by omega)
  have hi2 : (i : Int) < 33 := by omega
  have hj2 : (j : Int) < 33 := by omega
  have hne : y * 66 + i ≠ y * 66 + 33 + j := by omega
  have HF : Hid (∀ w1, w1 = w.drew → HasAt ((w1.setCell ⟨b, y * 66 + i, none⟩ (.int .u64 ((frW T y i ||| 2 ^ j : Nat) : Int))).drew.setCell ⟨b, y * 66 + 33 + j, none⟩ (.int .u64 ((toW T y j ||| 2 ^ i : Nat) : Int))) b A (putS3 T y i j) ∧ Bu b w ((w1.setCell ⟨b, y * 66 + i, none⟩ (.int .u64 ((frW T y i ||| 2 ^ j : Nat) : Int))).drew.setCell ⟨b, y * 66 + 33 + j, none⟩ (.int .u64 ((toW T y j ||| 2 ^ i : Nat) : Int)))) := by
    rintro w1 rfl
    refine ⟨?_, ((((Bu.refl b w).drew).set _ _).drew).set _ _⟩
    exact (HasAt.put (w := w) HH.out hy hi hj).blk (by simp) rfl
  clear h HH
  generalize putS3 T y i j = T2 at *
  generalize frW T y i = x1 at *
  generalize toW T y j = x2 at *
  go_enter Tryz.func93, Tryz.ntmps93
  go_wp2
  go_region
  all_goals
    go_wp2
    go_region
  all_goals
    go_wp2
    go_end0
    exact ⟨rfl, (HF.out _ rfl).1, (HF.out _ rfl).2⟩
end Go.Proofs.YtfjejnkjlnkkhaaGreatDoor
