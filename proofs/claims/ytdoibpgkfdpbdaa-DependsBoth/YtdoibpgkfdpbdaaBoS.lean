/- DependsBoth: the start of the second one's writing over, and its turns. -/
import Derived.Test.YtdoibpgkfdpbdaaBoM
namespace Go.Proofs.Ytdoibpgkfdpbdaa
set_option linter.unusedVariables false
set_option linter.unusedSimpArgs false
open Go.RowKit

theorem decF_len (f : Nat) : ∀ (n : Nat) (acc : List Int), (decF f n acc).length ≤ acc.length + f := by
  induction f with
  | zero => intro n acc; exact Nat.le_refl _
  | succ f ih =>
    intro n acc
    rw [decF]
    split
    · omega
    · have := ih (n / 10) ((48 + ((n % 10 : Nat) : Int)) :: acc)
      simp only [List.length_cons] at this
      omega
theorem dec_sizeO (n : Nat) : (decT n).size ≤ 20 := by
  have := decF_len 20 n []
  unfold decT strOf
  simpa [ByteArray.size] using this
theorem nmA_len (k : Nat) : (nmA k).length = k := by simp [nmA]
theorem nmB_len (k : Nat) : (nmB k).length = k := by simp [nmB]
theorem nmA_succ (k : Nat) : nmA (k + 1) = nmA k ++ [⟨#[97]⟩ ++ decT k] := by simp [nmA, List.range_succ]
theorem nmB_succ (k : Nat) : nmB (k + 1) = nmB k ++ [⟨#[98]⟩ ++ decT k] := by simp [nmB, List.range_succ]
theorem nmA_set (l : List ByteArray) (k : Nat) (hk : k < l.length) : (nmA k ++ l.drop k).set k (⟨#[97]⟩ ++ decT k) = nmA (k + 1) ++ l.drop (k + 1) := by
  rw [List.set_append, nmA_len, if_neg (by omega), Nat.sub_self, List.drop_eq_getElem_cons hk, nmA_succ, List.set_cons_zero, List.append_assoc]
  rfl
theorem nmA_mid (l : List ByteArray) (k : Nat) (hk : k ≤ l.length) : (nmA k ++ l.drop k).length = l.length := by simp [nmA_len]; omega
/-- The second one's rules: i are done, of rule i j conjuncts, of conjunct j m symbols. -/
def LpA (k : Nat) (L : List Ru) (i : Nat) (r : Ru) (j : Nat) : List Ru := (part (shK k) L i).set i ⟨r.head, part (shC k) r.conj j⟩
def LpC (k : Nat) (r : Ru) (j : Nat) (c : Cn) (m : Nat) : Ru := ⟨r.head, (part (shC k) r.conj j).set j ⟨c.neg, part (shS k) c.seq m⟩⟩
def LpM (k : Nat) (L : List Ru) (i : Nat) (r : Ru) (j : Nat) (c : Cn) (m : Nat) : List Ru := (part (shK k) L i).set i (LpC k r j c m)
section
variable {k i j m : Nat} {L : List Ru} {r : Ru} {c : Cn} {s : Sy}
theorem LpA_open (h : L[i]? = some r) : part (shK k) L i = LpA k L i r 0 := by
  have hl := (List.getElem?_eq_some_iff.1 h).1
  unfold LpA
  rw [part_zero]
  exact (set_same ((part_get _ _ hl).trans h)).symm
theorem LpA_shut (h : L[i]? = some r) : LpA k L i r r.conj.length = part (shK k) L (i + 1) := by
  unfold LpA
  rw [part_all _ _ rfl]
  exact part_set (shK k) L h
theorem LpM_open (hc : r.conj[j]? = some c) : LpA k L i r j = LpM k L i r j c 0 := by
  have hl := (List.getElem?_eq_some_iff.1 hc).1
  unfold LpA LpM LpC
  rw [part_zero, set_same ((part_get _ _ hl).trans hc)]
theorem LpM_shut (hc : r.conj[j]? = some c) : LpM k L i r j c c.seq.length = LpA k L i r (j + 1) := by
  unfold LpA LpM LpC
  rw [part_all _ _ rfl]
  show List.set _ _ (Ru.mk r.head ((part (shC k) r.conj j).set j (shC k c))) = _
  rw [part_set (shC k) r.conj hc]
theorem LpA_at (h : L[i]? = some r) (j : Nat) : (LpA k L i r j)[i]? = some ⟨r.head, part (shC k) r.conj j⟩ := by
  have hl := (List.getElem?_eq_some_iff.1 h).1
  exact List.getElem?_set_self (by rw [part_len _ _ (Nat.le_of_lt hl)]; exact hl)
theorem LpM_at (h : L[i]? = some r) (j : Nat) (c : Cn) (m : Nat) : (LpM k L i r j c m)[i]? = some (LpC k r j c m) := by
  have hl := (List.getElem?_eq_some_iff.1 h).1
  exact List.getElem?_set_self (by rw [part_len _ _ (Nat.le_of_lt hl)]; exact hl)
theorem LpC_at (hc : r.conj[j]? = some c) (m : Nat) : (LpC k r j c m).conj[j]? = some ⟨c.neg, part (shS k) c.seq m⟩ := by
  have hl := (List.getElem?_eq_some_iff.1 hc).1
  exact List.getElem?_set_self (by rw [part_len _ _ (Nat.le_of_lt hl)]; exact hl)
theorem LpC_len (hc : r.conj[j]? = some c) (m : Nat) : (LpC k r j c m).conj.length = r.conj.length := by
  have hl := (List.getElem?_eq_some_iff.1 hc).1
  show (List.set _ _ _).length = _
  rw [List.length_set, part_len _ _ (Nat.le_of_lt hl)]
theorem LpM_step (h : L[i]? = some r) (hc : r.conj[j]? = some c) (hs : c.seq[m]? = some s) {x : Int} (hx : shS k s = ⟨x, s.lo, s.hi⟩) :
    (LpM k L i r j c m).set i ⟨(LpC k r j c m).head, (LpC k r j c m).conj.set j ⟨c.neg, (part (shS k) c.seq m).set m ⟨x, s.lo, s.hi⟩⟩⟩ = LpM k L i r j c (m + 1) := by
  have hl := (List.getElem?_eq_some_iff.1 h).1
  have e := part_set (shS k) c.seq hs
  rw [hx] at e
  rw [e]
  unfold LpM LpC
  rw [List.set_set]
  simp only [List.set_set]
theorem LpM_same (h : L[i]? = some r) (hc : r.conj[j]? = some c) (hs : c.seq[m]? = some s) (hx : shS k s = s) : LpM k L i r j c m = LpM k L i r j c (m + 1) := by
  have hl := (List.getElem?_eq_some_iff.1 hs).1
  have e := part_set (shS k) c.seq hs
  rw [hx, set_same ((part_get _ _ hl).trans hs)] at e
  unfold LpM LpC
  rw [e]
end
section
variable {A w w1 w2 : World} {K ob pb : Nat} {F : Nat → Prop} {st sp : Int} {gL Lo L : List Ru} {us1 us2 uo : List Value} {pn po nv o : Value} {vss : List (List Value)} {ns : List ByteArray}
/-- Both are copied, each in a variable of its own. -/
theorem BoM.start {w0 w1 w2 X : World} {g h : Gr} {o1 o2 q1 q2 : Value} (c1 : CpD w0 g o1 o2 w1) (hX : X = w1.alloc (.cells #[.int .i64 g.start, o1, o2] 25)) (c2 : CpD X h q1 q2 w2) (hb : Below X.heap.size X w2) :
    ∃ (A : World) (K : Nat) (F : Nat → Prop) (us1 us2 : List Value) (vss : List (List Value)), Below w0.heap.size w0 A ∧ us1.length = g.rules.length ∧ us2.length = h.rules.length ∧ (∃ p c, q1 = .slice p h.names.length c) ∧ BoM A K w1.heap.size w2.heap.size F g.start g.rules us1 h.start q1 q2 us2 vss g.names o1 g.rules us1 o2 h.rules (w2.alloc (.cells #[.int .i64 h.start, q1, q2] 25)) := by
  obtain ⟨A, F, us1, hA, m1, on1, nn1, vss1, d1⟩ := c1
  obtain ⟨B, F2, us2, hB, m2, on2, nn2, vss, d2⟩ := c2
  have hXs : X.heap.size = w1.heap.size + 1 := by rw [hX]; simp
  have hBs := hB.size
  have hb1 : Below w1.heap.size w1 X := by rw [hX]; exact bel1 _ _
  have h2 := bel1 w2 (.cells #[.int .i64 h.start, q1, q2] 25)
  have hbs := hb.size
  have hb3 : Below w1.heap.size w1 (w2.alloc (.cells #[.int .i64 h.start, q1, q2] 25)) := hb1.trans ((hb.trans (h2.mono hbs)).mono (by omega))
  have hAs := m1.bl.size
  have hBs2 := m2.bl.size
  have hvo : X.heap[w1.heap.size]? = some (.cells #[.int .i64 g.start, o1, o2] 25) := by rw [hX]; exact heap_alloc_new _ _
  refine ⟨A, B.heap.size, F, us1, us2, vss, hA, m1.ri.1, m2.ri.1, row_slice on2, ?_⟩
  refine ⟨m1.bl.trans (hb3.mono hAs), fun b hF => ⟨(m1.fl b hF).1, by have := (m1.fl b hF).2; omega⟩, by omega, by simp; omega, m1.ri.keep ⟨hb3.size, fun b hF => hb3.block b (m1.fl b hF).2⟩ (fun _ h => h), row_keep on1 hb3, nn1, row_keep m1.oo hb3, m1.no, m1.ri.1,
    (h2.block _ (by omega)).trans ((hb.block _ (by omega)).trans hvo), hAs, fun hF => by have := (m1.fl _ hF).2; omega, heap_alloc_new _ _, by omega, row_mono (row_keep m2.oo h2) (by omega), fun b e e2 => ?_, d2.keep h2⟩
  have := (m1.oo.lt b e).2
  have := (m2.oo.lt b e2).1
  omega
/-- A symbol's turn. -/
theorem BoM.turn {k i j n sb sc : Nat} {r : Ru} {c : Cn} {s : Sy} {cv : Value} {vs : List Value} {x : Int} (m : BoM A K ob pb F st gL us1 sp pn po us2 vss ns nv Lo uo o (LpM k L i r j c n) w) (h : L[i]? = some r) (hc : r.conj[j]? = some c) (hs : c.seq[n]? = some s) (hx : shS k s = ⟨x, s.lo, s.hi⟩) (hcv : us2[i]? = some cv) (hvs : vss[i]? = some vs) (hu : vs[j]? = some (.slice (some ⟨sb, 0, none⟩) c.seq.length sc)) :
    BoM A K ob pb F st gL us1 sp pn po us2 vss ns nv Lo uo o (LpM k L i r j c (n + 1)) (w.setCell ⟨sb, n * 3, none⟩ (.int .i64 x)) := by
  have hl := (List.getElem?_eq_some_iff.1 hs).1
  have e := part_len (shS k) c.seq (Nat.le_of_lt hl)
  have h1 := m.sym (x := x) (LpM_at h j c n) hcv hvs (LpC_at hc n) (by rw [hu]; show some (Value.slice _ (c.seq.length) _) = some (Value.slice _ ((part (shS k) c.seq n).length) _); rw [e]) ((part_get _ _ hl).trans hs)
  rw [LpM_step h hc hs hx] at h1
  exact h1
/-- Where rule i's conjuncts and their symbols lie. -/
theorem BoM.rowC {k i : Nat} {r : Ru} {cv : Value} {vs : List Value} {L' : List Ru} {r' : Ru} (m : BoM A K ob pb F st gL us1 sp pn po us2 vss ns nv Lo uo o L' w) (h : L'[i]? = some r') (hcv : us2[i]? = some cv) (hvs : vss[i]? = some vs) : w.ownsRow K 40 2 cv r'.conj.length (cnsV r'.conj vs) ∧ SqD w K r'.conj vs := m.dp.row i r' cv vs h hcv hvs
theorem BoM.atC {k i j n : Nat} {r : Ru} {c : Cn} {cv u : Value} {vs : List Value} (m : BoM A K ob pb F st gL us1 sp pn po us2 vss ns nv Lo uo o (LpM k L i r j c n) w) (h : L[i]? = some r) (hc : r.conj[j]? = some c) (hn : n ≤ c.seq.length) (hcv : us2[i]? = some cv) (hvs : vss[i]? = some vs) (hu : vs[j]? = some u) :
    (∃ cb cc, cv = .slice (some ⟨cb, 0, none⟩) r.conj.length cc ∧ cb < w.heap.size ∧ w.cell? ⟨cb, j * 2 + 1, none⟩ = some u) ∧ w.ownsRow K 44 3 u c.seq.length (sysV (part (shS k) c.seq n)) := by
  obtain ⟨r1, r2⟩ := m.dp.row i _ cv vs (LpM_at h j c n) hcv hvs
  have hjl := (List.getElem?_eq_some_iff.1 hc).1
  have s1 := r2.row j _ u (LpC_at hc n) hu
  have e : (part (shS k) c.seq n).length = c.seq.length := part_len _ _ hn
  have s2 : w.ownsRow K 44 3 u (part (shS k) c.seq n).length (sysV (part (shS k) c.seq n)) := s1
  rw [e] at s2
  refine ⟨?_, s2⟩
  rw [LpC_len hc] at r1
  obtain ⟨cb, cc, h1, h2, h3, h4, h5⟩ := row_at r1 (j := j * 2 + 1) (by omega)
  exact ⟨cb, cc, h1, h3, h5.trans (cnsV_at _ vs j _ _ (LpC_at hc n) hu).2⟩
theorem BoM.atS {k i j n : Nat} {r : Ru} {c : Cn} {s : Sy} {cv u : Value} {vs : List Value} (m : BoM A K ob pb F st gL us1 sp pn po us2 vss ns nv Lo uo o (LpM k L i r j c n) w) (h : L[i]? = some r) (hc : r.conj[j]? = some c) (hs : c.seq[n]? = some s) (hcv : us2[i]? = some cv) (hvs : vss[i]? = some vs) (hu : vs[j]? = some u) :
    ∃ sb sc, u = .slice (some ⟨sb, 0, none⟩) c.seq.length sc ∧ sb < w.heap.size ∧ w.frozen? ⟨sb, n * 3, none⟩ = false ∧ w.cell? ⟨sb, n * 3, none⟩ = some (.int .i64 s.name) := by
  have hl := (List.getElem?_eq_some_iff.1 hs).1
  have s1 := (m.atC h hc (Nat.le_of_lt hl) hcv hvs hu).2
  obtain ⟨sb, sc, h1, h2, h3, h4, h5⟩ := row_at s1 (j := n * 3) (by omega)
  exact ⟨sb, sc, h1, h3, h4, h5.trans (sysV_at _ n s ((part_get _ _ hl).trans hs)).1⟩
theorem BoM.atR {k i : Nat} {r : Ru} {cv : Value} (m : BoM A K ob pb F st gL us1 sp pn po us2 vss ns nv Lo uo o (part (shK k) L i) w) (h : L[i]? = some r) (hcv : us2[i]? = some cv) : ∃ b c, po = .slice (some ⟨b, 0, none⟩) L.length c ∧ b < w.heap.size ∧ w.cell? ⟨b, i * 2, none⟩ = some (.int .i64 r.head) ∧ w.cell? ⟨b, i * 2 + 1, none⟩ = some cv := by
  have hl := (List.getElem?_eq_some_iff.1 h).1
  have e := part_len (shK k) L (Nat.le_of_lt hl)
  have p1 := m.pp
  rw [e] at p1
  obtain ⟨b, c, h1, h2, h3, h4, h5⟩ := row_at p1 (j := i * 2) (by omega)
  obtain ⟨b', c', k1, k2, k3, k4, k5⟩ := row_at p1 (j := i * 2 + 1) (by omega)
  rw [h1] at k1
  injection k1 with k1 _ _
  injection k1 with k1
  injection k1 with k1
  subst k1
  have h9 := rusV_at (part (shK k) L i) us2 i r cv ((part_get _ _ hl).trans h) hcv
  exact ⟨b, c, h1, h3, h5.trans h9.1, k5.trans h9.2⟩
/-- What is another block's stays, whatever symbol is written. -/
theorem BoM.symBlk {k sb sc : Nat} {n : Nat} {xs : List Value} {w : World} {b : Nat} {arr : Array Value} {t : TypeId} {x : Value} (s1 : w.ownsRow K 44 3 (.slice (some ⟨sb, 0, none⟩) n sc) n xs) (hb : w.heap[b]? = some (.cells arr t)) (ht : t ≠ 44) : (w.setCell ⟨sb, k, none⟩ x).heap[b]? = some (.cells arr t) :=
  (Below.heap_setCell _ ⟨sb, k, none⟩ _ _ (fun e => row_no s1 ht hb (congrArg some e.symm))).trans hb
end
end Go.Proofs.Ytdoibpgkfdpbdaa
