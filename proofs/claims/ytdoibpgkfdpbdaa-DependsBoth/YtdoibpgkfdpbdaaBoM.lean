/- DependsBoth: two copies in memory, the one growing by what the other one holds. -/
import Derived.Test.YtdoibpgkfdpbdaaDeepC
import Derived.Test.YtdoibpgkfdpbdaaBoT
namespace Go.Proofs.Ytdoibpgkfdpbdaa
set_option linter.unusedVariables false
set_option linter.unusedSimpArgs false
open Go.RowKit

theorem sysV_set : ∀ (l : List Sy) (m : Nat) (s : Sy) (x : Int), l[m]? = some s → (sysV l).set (m * 3) (.int .i64 x) = sysV (l.set m ⟨x, s.lo, s.hi⟩)
  | [], m, _, _, h => by simp at h
  | d :: l, 0, s, x, h => by
    obtain rfl : d = s := by simpa using h
    rfl
  | d :: l, m + 1, s, x, h => by
    show (_ :: _ :: _ :: sysV l).set ((m + 1) * 3) _ = _ :: _ :: _ :: sysV (l.set m _)
    rw [← sysV_set l m s x (by simpa using h), show (m + 1) * 3 = m * 3 + 1 + 1 + 1 by omega]
    rfl
theorem txV_set : ∀ (l : List ByteArray) (m : Nat) (s : ByteArray), (txV l).set m (.string s) = txV (l.set m s) := fun l m s => by simp [txV, List.map_set]
/-- A conjunct's symbol is written over: all rows lie as they did. -/
theorem Dp.sym {w : World} {K : Nat} {L : List Ru} {us vs : List Value} {vss : List (List Value)} {i j m sb sc : Nat} {r : Ru} {c : Cn} {s : Sy} {cv : Value} {x : Int} (d : Dp w K L us vss) (hi : L[i]? = some r) (hcv : us[i]? = some cv) (hvs : vss[i]? = some vs) (hj : r.conj[j]? = some c) (hu : vs[j]? = some (.slice (some ⟨sb, 0, none⟩) c.seq.length sc)) (hm : c.seq[m]? = some s) :
    Dp (w.setCell ⟨sb, m * 3, none⟩ (.int .i64 x)) K (L.set i ⟨r.head, r.conj.set j ⟨c.neg, c.seq.set m ⟨x, s.lo, s.hi⟩⟩⟩) us vss := by
  obtain ⟨r1, r2⟩ := d.row i r cv vs hi hcv hvs
  have s1 := r2.row j c _ hj hu
  have hml : m < c.seq.length := (List.getElem?_eq_some_iff.1 hm).1
  have hil : i < L.length := (List.getElem?_eq_some_iff.1 hi).1
  have hjl : j < r.conj.length := (List.getElem?_eq_some_iff.1 hj).1
  have k2 : ∀ (n : Nat) (v : Value) (xs : List Value), w.ownsRow K 40 2 v n xs → (w.setCell ⟨sb, m * 3, none⟩ (.int .i64 x)).ownsRow K 40 2 v n xs := fun n v xs h => ownsRow_setCell_other (a := ⟨sb, m * 3, none⟩) h (fun e => row_apart h s1 (by decide) sb e rfl) _
  have k1 : ∀ (n : Nat) (v : Value) (xs : List Value), w.ownsRow K 44 3 v n xs → v.ownBlock ≠ some sb → (w.setCell ⟨sb, m * 3, none⟩ (.int .i64 x)).ownsRow K 44 3 v n xs := fun n v xs h hne => ownsRow_setCell_other (a := ⟨sb, m * 3, none⟩) h hne _
  refine ⟨by rw [List.length_set]; exact d.l1, by rw [List.length_set]; exact d.l2, fun i' r' c' vs' e1 e2 e3 => ?_, d.ap, d.apS⟩
  by_cases hii : i' = i
  · subst hii
    rw [List.getElem?_set_self hil] at e1
    injection e1 with e1
    subst e1
    rw [hcv] at e2; injection e2 with e2
    rw [hvs] at e3; injection e3 with e3
    subst e2 e3
    refine ⟨?_, by show _ = (r.conj.set j _).length; rw [List.length_set]; exact r2.len, fun j' d' u' f1 f2 => ?_, r2.ap⟩
    · show World.ownsRow _ _ _ _ _ (r.conj.set j _).length (cnsV (r.conj.set j _) vs)
      have h9 := cnsV_set r.conj vs j c ⟨c.neg, c.seq.set m ⟨x, s.lo, s.hi⟩⟩ (.slice (some ⟨sb, 0, none⟩) c.seq.length sc) hj rfl r2.len
      rw [set_same hu] at h9
      rw [h9, set_same (cnsV_at r.conj vs j c _ hj hu).2, List.length_set]
      exact k2 _ _ _ r1
    · by_cases hjj : j' = j
      · subst hjj
        have f1' : (r.conj.set j' (⟨c.neg, c.seq.set m ⟨x, s.lo, s.hi⟩⟩ : Cn))[j']? = some d' := f1
        rw [List.getElem?_set_self hjl] at f1'
        injection f1' with f1'
        subst f1'
        rw [hu] at f2; injection f2 with f2
        subst f2
        show World.ownsRow _ _ _ _ _ (c.seq.set m _).length (sysV (c.seq.set m _))
        rw [← sysV_set _ _ _ _ hm, List.length_set]
        exact row_set s1 (by omega) _
      · have f1' : (r.conj.set j (⟨c.neg, c.seq.set m ⟨x, s.lo, s.hi⟩⟩ : Cn))[j']? = some d' := f1
        rw [List.getElem?_set_ne (Ne.symm hjj)] at f1'
        exact k1 _ _ _ (r2.row j' d' u' f1' f2) (fun e => r2.ap j' j u' _ sb hjj f2 hu e rfl)
  · rw [List.getElem?_set_ne (Ne.symm hii)] at e1
    obtain ⟨s2, s3⟩ := d.row i' r' c' vs' e1 e2 e3
    exact ⟨k2 _ _ _ s2, s3.len, fun j' d' u' f1 f2 => k1 _ _ _ (s3.row j' d' u' f1 f2) (fun e => d.apS i' i j' j vs' vs u' _ sb hii e3 hvs f2 hu e rfl), s3.ap⟩
/-- The first copy, its rows growing; the second one, being written over. -/
structure BoM (A : World) (K ob pb : Nat) (F : Nat → Prop) (st : Int) (gL : List Ru) (us1 : List Value) (sp : Int) (pn po : Value) (us2 : List Value) (vss : List (List Value)) (ns : List ByteArray) (nv : Value) (Lo : List Ru) (uo : List Value) (o : Value) (Lp : List Ru) (w : World) : Prop where
  bl : Below A.heap.size A w
  fl : ∀ b, F b → A.heap.size ≤ b ∧ b < K
  kA : A.heap.size ≤ K
  kw : K ≤ w.heap.size
  rg : RusIn w F gL us1
  on : w.ownsRow A.heap.size 9 1 nv ns.length (txV ns)
  nn : ∀ b, nv.ownBlock = some b → ¬ F b
  oo : w.ownsRow A.heap.size 36 2 o Lo.length (rusV Lo uo)
  no : ∀ b, o.ownBlock = some b → ¬ F b
  lu : uo.length = Lo.length
  vo : w.heap[ob]? = some (.cells #[.int .i64 st, nv, o] 25)
  ho : A.heap.size ≤ ob
  oF : ¬ F ob
  vp : w.heap[pb]? = some (.cells #[.int .i64 sp, pn, po] 25)
  op : ob ≠ pb
  pp : w.ownsRow A.heap.size 36 2 po Lp.length (rusV Lp us2)
  ap : ∀ b, o.ownBlock = some b → po.ownBlock ≠ some b
  dp : Dp w K Lp us2 vss
section
variable {A w w1 w2 : World} {K ob pb : Nat} {F : Nat → Prop} {st sp : Int} {gL Lo Lp : List Ru} {us1 us2 uo : List Value} {pn po nv o : Value} {vss : List (List Value)} {ns : List ByteArray}
theorem BoM.keep (m : BoM A K ob pb F st gL us1 sp pn po us2 vss ns nv Lo uo o Lp w) (hb : Below w.heap.size w w1) : BoM A K ob pb F st gL us1 sp pn po us2 vss ns nv Lo uo o Lp w1 :=
  ⟨m.bl.trans (hb.mono m.bl.size), m.fl, m.kA, Nat.le_trans m.kw hb.size, m.rg.keep ⟨hb.size, fun b hF => hb.block b (Nat.lt_of_lt_of_le (m.fl b hF).2 m.kw)⟩ (fun _ h => h), row_keep m.on hb, m.nn, row_keep m.oo hb, m.no, m.lu,
   (hb.block _ (block_lt m.vo)).trans m.vo, m.ho, m.oF, (hb.block _ (block_lt m.vp)).trans m.vp, m.op, row_keep m.pp hb, m.ap, m.dp.keep hb⟩
/-- A name is another one. -/
theorem BoM.name0 {nb nc i : Nat} (m : BoM A K ob pb F st gL us1 sp pn po us2 vss ns nv Lo uo o Lp w) (hnv : nv = .slice (some ⟨nb, 0, none⟩) ns.length nc) (hi : i < ns.length) (s : ByteArray) :
    BoM A K ob pb F st gL us1 sp pn po us2 vss (ns.set i s) nv Lo uo o Lp (w.setCell ⟨nb, i, none⟩ (.string s)) := by
  have hob : nv.ownBlock = some nb := by rw [hnv]; rfl
  have hz : (w.setCell ⟨nb, i, none⟩ (.string s)).heap.size = w.heap.size := by simp [World.setCell]
  have ko : ∀ (n : Nat) (v : Value) (e size base : Nat) (xs : List Value), w.ownsRow base e size v n xs → e ≠ 9 → (w.setCell ⟨nb, i, none⟩ (.string s)).ownsRow base e size v n xs := fun n v e size base xs h he => ownsRow_setCell_other (a := ⟨nb, i, none⟩) h (fun e2 => row_apart h m.on he nb e2 hob) _
  have kb : ∀ (b : Nat) (arr : Array Value) (t : TypeId), w.heap[b]? = some (Obj.cells arr t) → t ≠ 9 → (w.setCell ⟨nb, i, none⟩ (.string s)).heap[b]? = some (Obj.cells arr t) := fun b arr t h ht => (Below.heap_setCell _ ⟨nb, i, none⟩ _ _ (fun e => row_no m.on ht h (hob.trans (congrArg some e.symm)))).trans h
  refine ⟨m.bl.setCell (p := ⟨nb, i, none⟩) (m.on.lt nb hob).1 _, m.fl, m.kA, by rw [hz]; exact m.kw, m.rg.keep ⟨by rw [hz]; exact Nat.le_refl _, fun b hF => Below.heap_setCell _ ⟨nb, i, none⟩ _ _ (fun e => m.nn nb hob ((congrArg F e).mp hF))⟩ (fun _ h => h), ?_, m.nn, ko _ _ _ _ _ _ m.oo (by decide), m.no, m.lu,
    kb _ _ _ m.vo (by decide), m.ho, m.oF, kb _ _ _ m.vp (by decide), m.op, ko _ _ _ _ _ _ m.pp (by decide), m.ap, m.dp.imp (fun _ _ _ h => ko _ _ _ _ _ _ h (by decide)) (fun _ _ _ h => ko _ _ _ _ _ _ h (by decide))⟩
  have h9 := m.on
  rw [hnv] at h9 ⊢
  have h8 := row_set h9 (j := i) (by omega) (.string s)
  rw [txV_set] at h8
  rw [List.length_set]
  exact h8
/-- A name more. -/
theorem BoM.nameA {n gg cap : Nat} (m : BoM A K ob pb F st gL us1 sp pn po us2 vss ns nv Lo uo o Lp w) (hb : Below w.heap.size w w1) {s : ByteArray} (hn : ns.length = n) (hg : (w1.alloc (.cells #[.string s] 9)).grownBy w2 nv.ownBlock)
    (hown : w2.ownsRow A.heap.size 9 1 (.slice (some ⟨gg, 0, none⟩) (n + 1) cap) (n + 1) (txV ns ++ [.string s])) (hat : nv.ownBlock = some gg ∨ gg = w1.heap.size + 1) :
    BoM A K ob pb F st gL us1 sp pn po us2 vss (ns ++ [s]) (.slice (some ⟨gg, 0, none⟩) (n + 1) cap) Lo uo o Lp (w2.setCell ⟨ob, 1, none⟩ (.slice (some ⟨gg, 0, none⟩) (n + 1) cap)) := by
  subst hn
  have m1 := (m.keep hb).keep (bel1 w1 (.cells #[.string s] 9))
  have hz3 : (w1.alloc (.cells #[.string s] 9)).heap.size = w1.heap.size + 1 := by simp
  have hwK := (m.keep hb).kw
  generalize w1.alloc (.cells #[.string s] 9) = w3 at hg m1 hz3
  have hgs := hg.size
  have hz : (w2.setCell ⟨ob, 1, none⟩ (.slice (some ⟨gg, 0, none⟩) (ns.length + 1) cap)).heap.size = w2.heap.size := by simp [World.setCell]
  have ko : ∀ (n : Nat) (v : Value) (e size base : Nat) (xs : List Value), w3.ownsRow base e size v n xs → e ≠ 9 → 25 ≠ e → (w2.setCell ⟨ob, 1, none⟩ (.slice (some ⟨gg, 0, none⟩) (ns.length + 1) cap)).ownsRow base e size v n xs := fun n v e size base xs h he h3 => ownsRow_setCell_other (a := ⟨ob, 1, none⟩) (row_grown h m1.on he hg) (row_no h h3 m1.vo) _
  have hno : nv.ownBlock ≠ some ob := row_no m1.on (by decide) m1.vo
  have hnp : nv.ownBlock ≠ some pb := row_no m1.on (by decide) m1.vp
  have hF9 : ∀ b, F b → (w2.setCell ⟨ob, 1, none⟩ (.slice (some ⟨gg, 0, none⟩) (ns.length + 1) cap)).heap[b]? = w3.heap[b]? := fun b hF => (Below.heap_setCell _ ⟨ob, 1, none⟩ _ _ (fun e => m.oF ((congrArg F e).mp hF))).trans (hg.block b (by have := (m.fl b hF).2; have := m1.kw; omega) (fun e => m.nn b e.symm hF))
  have hvo2 : w2.heap[ob]? = some (.cells #[.int .i64 st, nv, o] 25) := (hg.block _ (block_lt m1.vo) (Ne.symm hno)).trans m1.vo
  refine ⟨(m1.bl.grown hg m1.bl.size (fun b e => (m1.on.lt b e).1)).setCell (p := ⟨ob, 1, none⟩) m.ho _, m.fl, m.kA, by rw [hz]; have := m1.kw; omega, m1.rg.keep ⟨by rw [hz]; exact hgs, hF9⟩ (fun _ h => h), ?_, fun b e hF => ?_, ko _ _ _ _ _ _ m1.oo (by decide) (by decide), m.no, m.lu,
    heap_setCell_same w2 ob 1 _ _ _ hvo2, m.ho, m.oF, (Below.heap_setCell _ ⟨ob, 1, none⟩ _ _ (Ne.symm m.op)).trans ((hg.block _ (block_lt m1.vp) (Ne.symm hnp)).trans m1.vp), m.op, ko _ _ _ _ _ _ m1.pp (by decide) (by decide), m.ap, m1.dp.imp (fun _ _ _ h => ko _ _ _ _ _ _ h (by decide) (by decide)) (fun _ _ _ h => ko _ _ _ _ _ _ h (by decide) (by decide))⟩
  · have e1 : (ns ++ [s]).length = ns.length + 1 := by simp
    have e2 : txV (ns ++ [s]) = txV ns ++ [.string s] := by simp [txV]
    rw [e1, e2]
    exact ownsRow_setCell_other (a := ⟨ob, 1, none⟩) hown (row_no hown (by decide) hvo2) _
  · obtain rfl : gg = b := by injection e
    rcases hat with h | h
    · exact m.nn _ h hF
    · have := (m.fl _ hF).2; omega
/-- A symbol of the second one is another one. -/
theorem BoM.sym {i j k sb sc : Nat} {r : Ru} {c : Cn} {s : Sy} {cv : Value} {vs : List Value} {x : Int} (m : BoM A K ob pb F st gL us1 sp pn po us2 vss ns nv Lo uo o Lp w) (hi : Lp[i]? = some r) (hcv : us2[i]? = some cv) (hvs : vss[i]? = some vs) (hj : r.conj[j]? = some c) (hu : vs[j]? = some (.slice (some ⟨sb, 0, none⟩) c.seq.length sc)) (hk : c.seq[k]? = some s) :
    BoM A K ob pb F st gL us1 sp pn po us2 vss ns nv Lo uo o (Lp.set i ⟨r.head, r.conj.set j ⟨c.neg, c.seq.set k ⟨x, s.lo, s.hi⟩⟩⟩) (w.setCell ⟨sb, k * 3, none⟩ (.int .i64 x)) := by
  obtain ⟨r1, r2⟩ := m.dp.row i r cv vs hi hcv hvs
  have s1 := r2.row j c _ hj hu
  have hsb := (s1.lt sb rfl).1
  have hz : (w.setCell ⟨sb, k * 3, none⟩ (.int .i64 x)).heap.size = w.heap.size := by simp [World.setCell]
  have ko : ∀ (n : Nat) (v : Value) (e size base : Nat) (xs : List Value), w.ownsRow base e size v n xs → e ≠ 44 → (w.setCell ⟨sb, k * 3, none⟩ (.int .i64 x)).ownsRow base e size v n xs := fun n v e size base xs h he => ownsRow_setCell_other (a := ⟨sb, k * 3, none⟩) h (fun e2 => row_apart h s1 he sb e2 rfl) _
  have kb : ∀ (b : Nat) (arr : Array Value) (t : TypeId), w.heap[b]? = some (Obj.cells arr t) → t ≠ 44 → (w.setCell ⟨sb, k * 3, none⟩ (.int .i64 x)).heap[b]? = some (Obj.cells arr t) := fun b arr t h ht => (Below.heap_setCell _ ⟨sb, k * 3, none⟩ _ _ (fun e => row_no s1 ht h (congrArg some e.symm))).trans h
  refine ⟨m.bl.setCell (p := ⟨sb, k * 3, none⟩) (Nat.le_trans m.kA hsb) _, m.fl, m.kA, by rw [hz]; exact m.kw, m.rg.keep ⟨by rw [hz]; exact Nat.le_refl _, fun b hF => Below.heap_setCell _ ⟨sb, k * 3, none⟩ _ _ (fun e => by have h1 := (m.fl b hF).2; have h2 : b = sb := e; omega)⟩ (fun _ h => h), ko _ _ _ _ _ _ m.on (by decide), m.nn, ko _ _ _ _ _ _ m.oo (by decide), m.no, m.lu,
    kb _ _ _ m.vo (by decide), m.ho, m.oF, kb _ _ _ m.vp (by decide), m.op, ?_, m.ap, m.dp.sym hi hcv hvs hj hu hk⟩
  rw [rusV_conj Lp us2 i r ⟨r.head, r.conj.set j ⟨c.neg, c.seq.set k ⟨x, s.lo, s.hi⟩⟩⟩ hi rfl, List.length_set]
  exact ko _ _ _ _ _ _ m.pp (by decide)
/-- A rule more: only its head and the slice of its conjuncts are told. -/
theorem BoM.ruleA {n gg cap : Nat} (m : BoM A K ob pb F st gL us1 sp pn po us2 vss ns nv Lo uo o Lp w) {h : Int} {c : Value} {cs : List Cn} (hn : Lo.length = n) (hg : (w.alloc (.cells #[.int .i64 h, c] 36)).grownBy w2 o.ownBlock)
    (hown : w2.ownsRow A.heap.size 36 2 (.slice (some ⟨gg, 0, none⟩) (n + 1) cap) (n + 1) (rusV Lo uo ++ [.int .i64 h, c])) (hat : o.ownBlock = some gg ∨ gg = w.heap.size + 1) :
    BoM A K ob pb F st gL us1 sp pn po us2 vss ns nv (Lo ++ [⟨h, cs⟩]) (uo ++ [c]) (.slice (some ⟨gg, 0, none⟩) (n + 1) cap) Lp (w2.setCell ⟨ob, 2, none⟩ (.slice (some ⟨gg, 0, none⟩) (n + 1) cap)) := by
  subst hn
  have m1 := m.keep (bel1 w (.cells #[.int .i64 h, c] 36))
  have hz3 : (w.alloc (.cells #[.int .i64 h, c] 36)).heap.size = w.heap.size + 1 := by simp
  generalize w.alloc (.cells #[.int .i64 h, c] 36) = w3 at hg m1 hz3
  have hgs := hg.size
  have hz : (w2.setCell ⟨ob, 2, none⟩ (.slice (some ⟨gg, 0, none⟩) (Lo.length + 1) cap)).heap.size = w2.heap.size := by simp [World.setCell]
  have ko : ∀ (n : Nat) (v : Value) (e size base : Nat) (xs : List Value), w3.ownsRow base e size v n xs → e ≠ 36 → 25 ≠ e → (w2.setCell ⟨ob, 2, none⟩ (.slice (some ⟨gg, 0, none⟩) (Lo.length + 1) cap)).ownsRow base e size v n xs := fun n v e size base xs h he h3 => ownsRow_setCell_other (a := ⟨ob, 2, none⟩) (row_grown h m1.oo he hg) (row_no h h3 m1.vo) _
  have hno : o.ownBlock ≠ some ob := row_no m1.oo (by decide) m1.vo
  have hnp : o.ownBlock ≠ some pb := row_no m1.oo (by decide) m1.vp
  have hF9 : ∀ b, F b → (w2.setCell ⟨ob, 2, none⟩ (.slice (some ⟨gg, 0, none⟩) (Lo.length + 1) cap)).heap[b]? = w3.heap[b]? := fun b hF => (Below.heap_setCell _ ⟨ob, 2, none⟩ _ _ (fun e => m.oF ((congrArg F e).mp hF))).trans (hg.block b (by have := (m.fl b hF).2; have := m1.kw; omega) (fun e => m.no b e.symm hF))
  have hvo2 : w2.heap[ob]? = some (.cells #[.int .i64 st, nv, o] 25) := (hg.block _ (block_lt m1.vo) (Ne.symm hno)).trans m1.vo
  refine ⟨(m1.bl.grown hg m1.bl.size (fun b e => (m1.oo.lt b e).1)).setCell (p := ⟨ob, 2, none⟩) m.ho _, m.fl, m.kA, by rw [hz]; have := m1.kw; omega, m1.rg.keep ⟨by rw [hz]; exact hgs, hF9⟩ (fun _ h => h), ko _ _ _ _ _ _ m1.on (by decide) (by decide), m.nn, ?_, fun b e hF => ?_, by simp [m.lu],
    heap_setCell_same w2 ob 2 _ _ _ hvo2, m.ho, m.oF, (Below.heap_setCell _ ⟨ob, 2, none⟩ _ _ (Ne.symm m.op)).trans ((hg.block _ (block_lt m1.vp) (Ne.symm hnp)).trans m1.vp), m.op, ?_, fun b e e2 => ?_, m1.dp.imp (fun _ _ _ h => ko _ _ _ _ _ _ h (by decide) (by decide)) (fun _ _ _ h => ko _ _ _ _ _ _ h (by decide) (by decide))⟩
  · rw [List.length_append, rusV_append _ _ _ _ m.lu]
    exact ownsRow_setCell_other (a := ⟨ob, 2, none⟩) hown (row_no hown (by decide) hvo2) _
  · obtain rfl : gg = b := by injection e
    rcases hat with h | h
    · exact m.no _ h hF
    · have := (m.fl _ hF).2; have := m.kw; omega
  · refine ownsRow_setCell_other (a := ⟨ob, 2, none⟩) (row_stay m1.pp (fun b e => hg.block b (m1.pp.lt b e).2 (fun e2 => m.ap b e2.symm e))) (row_no m1.pp (by decide) m1.vo) _
  · obtain rfl : gg = b := by injection e
    rcases hat with h | h
    · exact m.ap _ h e2
    · have := (m.pp.lt _ e2).2; omega
/-- All is done: it reads as the grammar of both. -/
theorem BoM.fin {k : Nat} {hL : List Ru} (m : BoM A K ob pb F st gL us1 sp pn po us2 vss ns nv (gL ++ hL.map (shR k)) (us1 ++ us2) o (hL.map (shK k)) w) : GrIs w Any nv o ⟨st, ns, gL ++ hL.map (shR k)⟩ := by
  have l1 := m.rg.1
  have l2 : us2.length = hL.length := by have := m.dp.l1; rw [List.length_map] at this; exact this
  refine ⟨Reads.of m.on (fun _ _ => trivial), us1 ++ us2, Reads.of m.oo (fun _ _ => trivial), by simp [l1, l2], fun i r u h1 h2 => ?_⟩
  by_cases hi : i < gL.length
  · have h1' : (gL ++ hL.map (shR k))[i]? = some r := h1
    rw [List.getElem?_append_left hi] at h1'
    rw [List.getElem?_append_left (by omega)] at h2
    exact (m.rg.2 i r u h1' h2).keep ⟨Nat.le_refl _, fun _ _ => rfl⟩ (fun _ _ => trivial)
  · have h1' : (gL ++ hL.map (shR k))[i]? = some r := h1
    rw [List.getElem?_append_right (by omega)] at h1'
    rw [List.getElem?_append_right (by omega), l1] at h2
    rw [List.getElem?_map] at h1'
    obtain ⟨q, hq, rfl⟩ := Option.map_eq_some_iff.1 h1'
    have hql := (List.getElem?_eq_some_iff.1 hq).1
    obtain ⟨ws, hws⟩ : ∃ x, vss[i - gL.length]? = some x := ⟨_, List.getElem?_eq_getElem (by rw [m.dp.l2, List.length_map]; exact hql)⟩
    obtain ⟨s1, s2⟩ := m.dp.row (i - gL.length) (shK k q) u ws (by rw [List.getElem?_map, hq]; rfl) h2 hws
    exact ⟨ws, Reads.of s1 (fun _ _ => trivial), s2.len, fun j d' u' f1 f2 => Reads.of (s2.row j d' u' f1 f2) (fun _ _ => trivial)⟩
end
end Go.Proofs.Ytdoibpgkfdpbdaa
