import Derived.Test.YtopnhbgialbicaaGramMay
import Derived.Test.YtopnhbgialbicaaGramAid
/- Small facts of rows and blocks. No program in sight. -/
namespace Go.Proofs.Ytopnhbgialbicaa
set_option linter.unusedVariables false
open Go.RowKit

theorem block_lt {w : World} {b : Nat} {o : Obj} (h : w.heap[b]? = some o) : b < w.heap.size := by
  by_cases hh : b < w.heap.size
  · exact hh
  · rw [Array.getElem?_eq_none (by omega)] at h; cases h
theorem heap_alloc_old {w : World} (o : Obj) {b : Nat} (h : b < w.heap.size) : (w.alloc o).heap[b]? = w.heap[b]? := (bel1 w o).block b h
/-- A block of another type stays where a row grows. -/
theorem row_other {w w' : World} {base e size n b : Nat} {v : Value} {xs : List Value} {arr : Array Value} {t : TypeId} (h : w.ownsRow base e size v n xs) (he : t ≠ e) (hb : w.heap[b]? = some (.cells arr t)) (hg : w.grownBy w' v.ownBlock) : w'.heap[b]? = some (.cells arr t) := by
  refine (hg.block b (block_lt hb) ?_).trans hb
  intro e1
  obtain ⟨_, ⟨h1, _⟩ | ⟨g, cap, cur, h1, _, h3, _⟩⟩ := h
  · rw [h1] at e1; cases e1
  · rw [h1] at e1
    have e2 : b = g := by injection e1
    subst e2
    rw [hb] at h3
    injection h3 with h3
    injection h3 with _ h4
    exact he h4
theorem nil_not (P : Nat → Prop) : ∀ b, (Value.slice none 0 0).ownBlock = some b → ¬ P b := fun b h => by cases h
section
variable {w : World} {F F' : Nat → Prop}
theorem Reads.mono {v : Value} {n : Nat} {cs : List Value} (h : Reads w F v n cs) (hm : ∀ b, F b → b < w.heap.size → F' b) : Reads w F' v n cs := by
  obtain ⟨p, cap, hv, hmx, hc⟩ := h
  refine ⟨p, cap, hv, hmx, fun hn => ?_⟩
  obtain ⟨g, o, hp, hF, hg, hx⟩ := hc hn
  exact ⟨g, o, hp, hm g hF hg, hg, hx⟩
end
end Go.Proofs.Ytopnhbgialbicaa
/- Rules that are being made, in memory. No program in sight. -/
namespace Go.Proofs.Ytopnhbgialbicaa
set_option linter.unusedVariables false
open Go.RowKit

/-- The finished rules L, in the row o; nothing of them turns when o's row grows. -/
structure Mk0 (W : World) (F : Nat → Prop) (L : List Ru) (us : List Value) (o : Value) (w : World) : Prop where
  fl : ∀ b, F b → W.heap.size ≤ b ∧ b < w.heap.size
  oo : w.ownsRow W.heap.size 53 2 o L.length (rusV L us)
  no : ∀ b, o.ownBlock = some b → ¬ F b
  ri : RusIn w F L us
  bl : Below W.heap.size W w
/-- One rule more is open: its head h, its conjuncts M in the row c; its variable is block rb. -/
structure Mk (W : World) (rb : Nat) (F : Nat → Prop) (L : List Ru) (us : List Value) (o : Value) (h : Int) (M : List Cn) (vs : List Value) (c : Value) (w : World) : Prop where
  m0 : Mk0 W F L us o w
  oc : w.ownsRow W.heap.size 50 2 c M.length (cnsV M vs)
  nc : ∀ b, c.ownBlock = some b → ¬ F b
  rF : ¬ F rb
  ro : o.ownBlock ≠ some rb
  rg : W.heap.size ≤ rb
  ci : CnsIn w F M vs
  rb : w.heap[rb]? = some (.cells #[.int .i64 h, c] 53)
section
variable {W w w' w1 w2 : World} {rb : Nat} {F : Nat → Prop} {L : List Ru} {us vs : List Value} {o c : Value} {h : Int} {M : List Cn}
theorem Mk0.stays (m : Mk0 W F L us o w) (hb : Below w.heap.size w w') : Stay F w w' := ⟨hb.size, fun b hF => hb.block b (m.fl b hF).2⟩
theorem Mk0.keep (m : Mk0 W F L us o w) (hb : Below w.heap.size w w') : Mk0 W F L us o w' :=
  ⟨fun b hF => ⟨(m.fl b hF).1, Nat.lt_of_lt_of_le (m.fl b hF).2 hb.size⟩, row_keep m.oo hb, m.no, m.ri.keep (m.stays hb) (fun b hF => hF), m.bl.trans (hb.mono m.bl.size)⟩
theorem Mk.keep (m : Mk W rb F L us o h M vs c w) (hb : Below w.heap.size w w') : Mk W rb F L us o h M vs c w' :=
  ⟨m.m0.keep hb, row_keep m.oc hb, m.nc, m.rF, m.ro, m.rg, m.ci.keep (m.m0.stays hb) (fun b hF => hF), (hb.block rb (block_lt m.rb)).trans m.rb⟩
theorem Mk0.new (w : World) : Mk0 w (fun _ => False) [] [] (.slice none 0 0) w :=
  ⟨fun b hb => hb.elim, World.ownsRow_nil _ _ _ _, nil_not _, RusIn.nil _ _, Below.refl _ _⟩
theorem Mk0.open (m : Mk0 W F L us o w) (h : Int) : Mk W w.heap.size F L us o h [] [] (.slice none 0 0) (w.alloc (.cells #[.int .i64 h, .slice none 0 0] 53)) :=
  ⟨m.keep (bel1 _ _), World.ownsRow_nil _ _ _ _, nil_not _, fun hF => by have := (m.fl _ hF).2; omega, fun e => by have := (m.oo.lt _ e).2; omega, m.bl.size, CnsIn.nil _ _, heap_alloc_new _ _⟩
/-- One conjunct more. -/
theorem Mk.conj (m : Mk W rb F L us o h M vs c w) (hb : Below w.heap.size w w1) {v' : Value} {sq : List Sy} {ng : Bool} (hs : w1.ownsRow w.heap.size 47 3 v' sq.length (sysV sq)) {g cap : Nat}
    (hg : (w1.alloc (.cells #[.bool ng, v'] 50)).grownBy w2 c.ownBlock) (hown : w2.ownsRow W.heap.size 50 2 (.slice (some ⟨g, 0, none⟩) (M.length + 1) cap) (M.length + 1) (cnsV M vs ++ [.bool ng, v']))
    (hat : c.ownBlock = some g ∨ g = (w1.alloc (.cells #[.bool ng, v'] 50)).heap.size) :
    Mk W rb (fun b => F b ∨ v'.ownBlock = some b) L us o h (M ++ [⟨ng, sq⟩]) (vs ++ [v']) (.slice (some ⟨g, 0, none⟩) (M.length + 1) cap) (w2.setCell ⟨rb, 1, none⟩ (.slice (some ⟨g, 0, none⟩) (M.length + 1) cap)) := by
  have m1 := (m.keep hb).keep (bel1 w1 (.cells #[.bool ng, v'] 50))
  have hs1 := row_keep hs (bel1 w1 (.cells #[.bool ng, v'] 50))
  generalize hw3 : w1.alloc (.cells #[.bool ng, v'] 50) = w3 at hg m1 hs1 hat
  have hsz : w1.heap.size ≤ w3.heap.size := by rw [← hw3]; exact le_alloc _ _
  have hrbc : c.ownBlock ≠ some rb := fun e => by
    have h1 := row_other m1.oc (by decide) m1.rb (World.grownBy.refl w3 c.ownBlock)
    obtain ⟨_, ⟨h1, _⟩ | ⟨g', cap', cur, h1, _, h3, _⟩⟩ := m1.oc
    · rw [h1] at e; cases e
    · rw [h1] at e
      have e2 : g' = rb := by injection e
      subst e2
      have h4 := m1.rb
      rw [h3] at h4
      injection h4 with h4
      injection h4 with _ h5
      exact absurd h5 (by decide)
  have hrb2 : w2.heap[rb]? = some (.cells #[.int .i64 h, c] 53) := (hg.block rb (block_lt m1.rb) (Ne.symm hrbc)).trans m1.rb
  have hnew : ∀ b, v'.ownBlock = some b → w.heap.size ≤ b ∧ b < w3.heap.size := fun b e => ⟨(hs1.lt b e).1, (hs1.lt b e).2⟩
  have hvc : ∀ b, v'.ownBlock = some b → c.ownBlock ≠ some b := fun b e e' => by
    have h1 := (hnew b e).1
    have h2 := (m.oc.lt b e').2
    omega
  have hS : Stay (fun b => F b ∨ v'.ownBlock = some b) w3 (w2.setCell ⟨rb, 1, none⟩ (.slice (some ⟨g, 0, none⟩) (M.length + 1) cap)) := by
    refine ⟨by have := hg.size; simpa [World.setCell] using this, fun b hF => ?_⟩
    have hne : b ≠ rb := fun e => by
      subst e
      rcases hF with hF | hF
      · exact m.rF hF
      · have := (hnew b hF).1; have := block_lt m.rb; omega
    have hlt : b < w3.heap.size := by
      rcases hF with hF | hF
      · exact (m1.m0.fl b hF).2
      · exact (hnew b hF).2
    have hcb : some b ≠ c.ownBlock := fun e => by
      rcases hF with hF | hF
      · exact m.nc b e.symm hF
      · exact hvc b hF e.symm
    exact (Go.Deep.blk_setCell_other w2 ⟨rb, 1, none⟩ _ b hne).trans (hg.block b hlt hcb)
  have hz : (w2.setCell ⟨rb, 1, none⟩ (.slice (some ⟨g, 0, none⟩) (M.length + 1) cap)).heap.size = w2.heap.size := by simp [World.setCell]
  have hinj := fun (b : Nat) (hF : F b) => (Or.inl hF : F b ∨ v'.ownBlock = some b)
  have hrg := m.rg
  have hgs := hg.size
  have hlt3 := block_lt m1.rb
  refine ⟨⟨fun b hF => ?_, ?_, fun b e hF => ?_, m1.m0.ri.keep ⟨hS.size, fun b hF => hS.blk b (Or.inl hF)⟩ hinj, ?_⟩, ?_, fun b e hF => ?_, fun hF => ?_, m.ro, m.rg, ?_, ?_⟩
  · rw [hz]
    rcases hF with hF | hF
    · exact ⟨(m1.m0.fl b hF).1, Nat.lt_of_lt_of_le (m1.m0.fl b hF).2 hgs⟩
    · have := hnew b hF
      exact ⟨by have := m.m0.bl.size; omega, by omega⟩
  · exact ownsRow_setCell_other (row_grown m1.m0.oo m1.oc (by decide) hg) (fun e => m.ro e) _
  · rcases hF with hF | hF
    · exact m.m0.no b e hF
    · have h1 := (hnew b hF).1
      have h2 := (m.m0.oo.lt b e).2
      omega
  · exact (m1.m0.bl.grown hg (by omega) (fun k hk => (m1.oc.lt k hk).1)).setCell (p := ⟨rb, 1, none⟩) m.rg _
  · rw [List.length_append, cnsV_append _ _ _ _ m.ci.1]
    exact ownsRow_setCell_other hown (a := ⟨rb, 1, none⟩) (fun e => by
      have e2 : g = rb := by injection e
      subst e2
      rcases hat with e3 | e3
      · exact hrbc e3
      · omega) _
  · obtain rfl : g = b := by injection e
    rcases hat with e3 | e3
    · rcases hF with hF | hF
      · exact m.nc g e3 hF
      · exact hvc g hF e3
    · rcases hF with hF | hF
      · have := (m1.m0.fl g hF).2; omega
      · have := (hnew g hF).2; omega
  · rcases hF with hF | hF
    · exact m.rF hF
    · have := (hnew rb hF).1; have := block_lt m.rb; omega
  · have := m1.ci.keep (F' := fun b => F b ∨ v'.ownBlock = some b) ⟨hS.size, fun b hF => hS.blk b (Or.inl hF)⟩ hinj
    exact this.snoc (c := ⟨ng, sq⟩) ((Reads.of hs1 (F := fun b => F b ∨ v'.ownBlock = some b) (fun b e => Or.inr e)).keep hS (fun b hF => hF))
  · exact heap_setCell_same w2 rb 1 _ _ _ hrb2
theorem Mk.conj' {n : Nat} (m : Mk W rb F L us o h M vs c w) (hM : M.length = n) (hb : Below w.heap.size w w1) {v' : Value} {sq : List Sy} {ng : Bool} (hs : w1.ownsRow w.heap.size 47 3 v' sq.length (sysV sq)) {g cap : Nat}
    (hg : (w1.alloc (.cells #[.bool ng, v'] 50)).grownBy w2 c.ownBlock) (hown : w2.ownsRow W.heap.size 50 2 (.slice (some ⟨g, 0, none⟩) (n + 1) cap) (n + 1) (cnsV M vs ++ [.bool ng, v']))
    (hat : c.ownBlock = some g ∨ g = w1.heap.size + 1) {M' : List Cn} (hM' : M' = M ++ [⟨ng, sq⟩]) :
    Mk W rb (fun b => F b ∨ v'.ownBlock = some b) L us o h M' (vs ++ [v']) (.slice (some ⟨g, 0, none⟩) (n + 1) cap) (w2.setCell ⟨rb, 1, none⟩ (.slice (some ⟨g, 0, none⟩) (n + 1) cap)) := by
  subst hM hM'
  exact m.conj hb hs hg hown (by simpa using hat)
/-- Another block behind a conjunct more. -/
theorem Mk.conj_other {n db : Nat} {arr : Array Value} (m : Mk W rb F L us o h M vs c w) (hb : Below w.heap.size w w1) (hd : w.heap[db]? = some (.cells arr 35)) {o' : Obj} (hg : (w1.alloc o').grownBy w2 c.ownBlock) (v : Value) : (w2.setCell ⟨rb, 1, none⟩ v).heap[db]? = some (.cells arr 35) := by
  have hne : db ≠ rb := fun e => by
    subst e
    have h1 := m.rb
    rw [hd] at h1
    injection h1 with h1
    injection h1 with _ h2
    exact absurd h2 (by decide)
  have h1 : (w1.alloc o').heap[db]? = some (.cells arr 35) := (heap_alloc_old _ (block_lt ((hb.block db (block_lt hd)).trans hd))).trans ((hb.block db (block_lt hd)).trans hd)
  exact (Go.Deep.blk_setCell_other w2 ⟨rb, 1, none⟩ _ db hne).trans (row_other ((row_keep m.oc hb).alloc o') (by decide) h1 hg)
/-- The rule is done: it stands in o's row. -/
theorem Mk.rule (m : Mk W rb F L us o h M vs c w) {g cap : Nat}
    (hg : (w.alloc (.cells #[.int .i64 h, c] 53)).grownBy w2 o.ownBlock) (hown : w2.ownsRow W.heap.size 53 2 (.slice (some ⟨g, 0, none⟩) (L.length + 1) cap) (L.length + 1) (rusV L us ++ [.int .i64 h, c]))
    (hat : o.ownBlock = some g ∨ g = w.heap.size + 1) :
    Mk0 W (fun b => F b ∨ c.ownBlock = some b) (L ++ [⟨h, M⟩]) (us ++ [c]) (.slice (some ⟨g, 0, none⟩) (L.length + 1) cap) w2 := by
  have m1 := m.keep (bel1 w (.cells #[.int .i64 h, c] 53))
  have hz3 : (w.alloc (.cells #[.int .i64 h, c] 53)).heap.size = w.heap.size + 1 := by simp
  generalize w.alloc (.cells #[.int .i64 h, c] 53) = w3 at hg m1 hz3
  have oc2 := row_grown m1.oc m1.m0.oo (by decide) hg
  have hS : Stay (fun b => F b ∨ c.ownBlock = some b) w3 w2 := by
    refine ⟨hg.size, fun b hF => hg.block b ?_ ?_⟩
    · rcases hF with hF | hF
      · exact (m1.m0.fl b hF).2
      · exact (m1.oc.lt b hF).2
    · intro e
      rcases hF with hF | hF
      · exact m.m0.no b e.symm hF
      · exact row_apart m1.oc m1.m0.oo (by decide) b hF e.symm
  have hinj := fun (b : Nat) (hF : F b) => (Or.inl hF : F b ∨ c.ownBlock = some b)
  have hgs := hg.size
  have hbs := m1.m0.bl.size
  refine ⟨fun b hF => ?_, ?_, fun b e hF => ?_, ?_, m1.m0.bl.grown hg (by omega) (fun k hk => (m1.m0.oo.lt k hk).1)⟩
  · rcases hF with hF | hF
    · exact ⟨(m1.m0.fl b hF).1, Nat.lt_of_lt_of_le (m1.m0.fl b hF).2 hgs⟩
    · exact ⟨(m1.oc.lt b hF).1, Nat.lt_of_lt_of_le (m1.oc.lt b hF).2 hgs⟩
  · rw [List.length_append, rusV_append _ _ _ _ m.m0.ri.1]; exact hown
  · obtain rfl : g = b := by injection e
    rcases hF with hF | hF
    · rcases hat with e3 | e3
      · exact m.m0.no g e3 hF
      · have := (m.m0.fl g hF).2; omega
    · exact row_apart oc2 hown (by decide) g hF rfl
  · have r1 := m1.m0.ri.keep (F' := fun b => F b ∨ c.ownBlock = some b) ⟨hS.size, fun b hF => hS.blk b (Or.inl hF)⟩ hinj
    have c1 := m1.ci.keep (F' := fun b => F b ∨ c.ownBlock = some b) ⟨hS.size, fun b hF => hS.blk b (Or.inl hF)⟩ hinj
    exact r1.snoc (c := ⟨h, M⟩) ⟨vs, Reads.of oc2 (fun b e => Or.inr e), c1⟩
theorem Mk.rule' {n : Nat} (m : Mk W rb F L us o h M vs c w) (hL : L.length = n) {g cap : Nat}
    (hg : (w.alloc (.cells #[.int .i64 h, c] 53)).grownBy w2 o.ownBlock) (hown : w2.ownsRow W.heap.size 53 2 (.slice (some ⟨g, 0, none⟩) (n + 1) cap) (n + 1) (rusV L us ++ [.int .i64 h, c]))
    (hat : o.ownBlock = some g ∨ g = w.heap.size + 1) {L' : List Ru} (hL' : L' = L ++ [⟨h, M⟩]) :
    Mk0 W (fun b => F b ∨ c.ownBlock = some b) L' (us ++ [c]) (.slice (some ⟨g, 0, none⟩) (n + 1) cap) w2 := by
  subst hL hL'
  exact m.rule hg hown hat
theorem Mk0.other {db : Nat} {arr : Array Value} {n : Nat} (m : Mk0 W F L us o w) (hd : w.heap[db]? = some (.cells arr 35)) {o' : Obj} (hg : (w.alloc o').grownBy w2 o.ownBlock) : w2.heap[db]? = some (.cells arr 35) :=
  row_other (m.oo.alloc o') (by decide) ((heap_alloc_old _ (block_lt hd)).trans hd) hg
theorem Mk0.rus (m : Mk0 W F L us o w) : (∀ b, (F b ∨ o.ownBlock = some b) → W.heap.size ≤ b ∧ b < w.heap.size) ∧ IsRus w (fun b => F b ∨ o.ownBlock = some b) o L := by
  refine ⟨fun b hF => ?_, us, Reads.of m.oo (fun b e => Or.inr e), m.ri.keep ⟨Nat.le_refl _, fun _ _ => rfl⟩ (fun b hF => Or.inl hF)⟩
  rcases hF with hF | hF
  · exact m.fl b hF
  · exact m.oo.lt b hF
end
end Go.Proofs.Ytopnhbgialbicaa
/- A grammar's variable that is being filled: its names and its rules in rows of their own. No program in sight. -/
namespace Go.Proofs.Ytopnhbgialbicaa
set_option linter.unusedVariables false
open Go.RowKit

theorem IsCns.monoV {w : World} {F F' : Nat → Prop} {v : Value} {l : List Cn} (h : IsCns w F v l) (hm : ∀ b, F b → b < w.heap.size → F' b) : IsCns w F' v l := by
  obtain ⟨vs, h1, h2, h3⟩ := h
  exact ⟨vs, Reads.mono h1 hm, h2, fun k c u e1 e2 => Reads.mono (h3 k c u e1 e2) hm⟩
theorem IsRus.monoV {w : World} {F F' : Nat → Prop} {v : Value} {l : List Ru} (h : IsRus w F v l) (hm : ∀ b, F b → b < w.heap.size → F' b) : IsRus w F' v l := by
  obtain ⟨vs, h1, h2, h3⟩ := h
  exact ⟨vs, Reads.mono h1 hm, h2, fun k c u e1 e2 => (h3 k c u e1 e2).monoV hm⟩
structure GV (W : World) (gb : Nat) (F : Nat → Prop) (st : Int) (ns : List ByteArray) (nv : Value) (L : List Ru) (us : List Value) (o : Value) (w : World) : Prop where
  m0 : Mk0 W F L us o w
  on : w.ownsRow W.heap.size 9 1 nv ns.length (txV ns)
  nn : ∀ b, nv.ownBlock = some b → ¬ F b
  vb : w.heap[gb]? = some (.cells #[.int .i64 st, nv, o] 29)
  gF : ¬ F gb
  gg : W.heap.size ≤ gb
section
variable {W w w' w1 w2 : World} {gb : Nat} {F : Nat → Prop} {st : Int} {ns : List ByteArray} {nv o : Value} {L : List Ru} {us : List Value}
theorem GV.keep (m : GV W gb F st ns nv L us o w) (hb : Below w.heap.size w w') : GV W gb F st ns nv L us o w' :=
  ⟨m.m0.keep hb, row_keep m.on hb, m.nn, (hb.block gb (block_lt m.vb)).trans m.vb, m.gF, m.gg⟩
theorem GV.gr (m : GV W gb F st ns nv L us o w) : GrIs w Any nv o ⟨st, ns, L⟩ :=
  ⟨Reads.of m.on (fun _ _ => trivial), m.m0.rus.2.monoV fun _ _ _ => trivial⟩
theorem row_no {w : World} {b : Nat} {v : Value} {base e size n : Nat} {xs : List Value} {arr : Array Value} {t : TypeId} (h : w.ownsRow base e size v n xs) (he : t ≠ e) (hb : w.heap[b]? = some (.cells arr t)) : v.ownBlock ≠ some b := fun e1 => by
  obtain ⟨_, ⟨h1, _⟩ | ⟨g, cap, cur, h1, _, h3, _⟩⟩ := h
  · rw [h1] at e1; cases e1
  · rw [h1] at e1
    have e2 : g = b := by injection e1
    subst e2
    rw [hb] at h3
    injection h3 with h3
    injection h3 with _ h4
    exact he h4
/-- One rule more: its conjuncts c lie in blocks that are new. -/
theorem GV.rule (m : GV W gb F st ns nv L us o w) (hb : Below w.heap.size w w1) {h : Int} {c : Value} {cs : List Cn} {Fc : Nat → Prop} (hc : IsCns w1 Fc c cs) (hFc : ∀ b, Fc b → w.heap.size ≤ b) {n g cap : Nat} (hn : L.length = n)
    (hg : (w1.alloc (.cells #[.int .i64 h, c] 53)).grownBy w2 o.ownBlock) (hown : w2.ownsRow W.heap.size 53 2 (.slice (some ⟨g, 0, none⟩) (n + 1) cap) (n + 1) (rusV L us ++ [.int .i64 h, c]))
    (hat : o.ownBlock = some g ∨ g = w1.heap.size + 1) {L' : List Ru} (hL : L' = L ++ [⟨h, cs⟩]) :
    ∃ F', GV W gb F' st ns nv L' (us ++ [c]) (.slice (some ⟨g, 0, none⟩) (n + 1) cap) (w2.setCell ⟨gb, 2, none⟩ (.slice (some ⟨g, 0, none⟩) (n + 1) cap)) := by
  subst hn hL
  have m1 := (m.keep hb).keep (bel1 w1 (.cells #[.int .i64 h, c] 53))
  have hc1 := hc.any (bel1 w1 (.cells #[.int .i64 h, c] 53))
  have hz3 : (w1.alloc (.cells #[.int .i64 h, c] 53)).heap.size = w1.heap.size + 1 := by simp
  generalize w1.alloc (.cells #[.int .i64 h, c] 53) = w3 at hg m1 hc1 hz3
  have hgb : o.ownBlock ≠ some gb := row_no m1.m0.oo (by decide) m1.vb
  have hvb : w2.heap[gb]? = some (.cells #[.int .i64 st, nv, o] 29) := (hg.block gb (block_lt m1.vb) (Ne.symm hgb)).trans m1.vb
  have hc2 : IsCns w3 (fun b => w.heap.size ≤ b ∧ b < w3.heap.size) c cs := hc1.monoV fun b h1 h2 => ⟨hFc b h1, h2⟩
  have hs0 := hb.size
  have hgl := block_lt m.vb
  have hgs := hg.size
  have hbs := m1.m0.bl.size
  have hwb := m.m0.bl.size
  have hol : ∀ b, o.ownBlock = some b → b < w.heap.size := fun b e => (m.m0.oo.lt b e).2
  have hS : Stay (fun b => F b ∨ (w.heap.size ≤ b ∧ b < w3.heap.size)) w3 (w2.setCell ⟨gb, 2, none⟩ (.slice (some ⟨g, 0, none⟩) (L.length + 1) cap)) := by
    refine ⟨by simpa [World.setCell] using hgs, fun b hF => ?_⟩
    have hne : b ≠ gb := fun e => by
      subst e
      rcases hF with hF | hF
      · exact m.gF hF
      · omega
    have hlt : b < w3.heap.size := by
      rcases hF with hF | hF
      · exact (m1.m0.fl b hF).2
      · exact hF.2
    have hob : some b ≠ o.ownBlock := fun e => by
      rcases hF with hF | hF
      · exact m.m0.no b e.symm hF
      · have := hol b e.symm; omega
    exact (Go.Deep.blk_setCell_other w2 ⟨gb, 2, none⟩ _ b hne).trans (hg.block b hlt hob)
  have hz : (w2.setCell ⟨gb, 2, none⟩ (.slice (some ⟨g, 0, none⟩) (L.length + 1) cap)).heap.size = w2.heap.size := by simp [World.setCell]
  have hgn : g ≠ gb := fun e => by
    subst e
    rcases hat with e3 | e3
    · exact hgb e3
    · omega
  refine ⟨fun b => F b ∨ (w.heap.size ≤ b ∧ b < w3.heap.size), ⟨fun b hF => ?_, ?_, fun b e hF => ?_, ?_, ?_⟩, ?_, fun b e hF => ?_, ?_, fun hF => ?_, m.gg⟩
  · rw [hz]
    rcases hF with hF | hF
    · exact ⟨(m1.m0.fl b hF).1, Nat.lt_of_lt_of_le (m1.m0.fl b hF).2 hgs⟩
    · exact ⟨by omega, by omega⟩
  · rw [List.length_append, rusV_append _ _ _ _ m.m0.ri.1]
    exact ownsRow_setCell_other (a := ⟨gb, 2, none⟩) hown (fun e => hgn (by injection e)) _
  · obtain rfl : g = b := by injection e
    rcases hF with hF | hF
    · rcases hat with e3 | e3
      · exact m.m0.no g e3 hF
      · have := (m.m0.fl g hF).2; omega
    · rcases hat with e3 | e3
      · have := hol g e3; omega
      · omega
  · have r1 := m1.m0.ri.keep (F' := fun b => F b ∨ (w.heap.size ≤ b ∧ b < w3.heap.size)) ⟨hS.size, fun b hF => hS.blk b (Or.inl hF)⟩ (fun b hF => Or.inl hF)
    exact r1.snoc (c := ⟨h, cs⟩) (hc2.keep ⟨hS.size, fun b hF => hS.blk b (Or.inr hF)⟩ (fun b hF => Or.inr hF))
  · exact (m1.m0.bl.grown hg (by omega) (fun k hk => (m1.m0.oo.lt k hk).1)).setCell (p := ⟨gb, 2, none⟩) m.gg _
  · exact ownsRow_setCell_other (a := ⟨gb, 2, none⟩) (row_grown m1.on m1.m0.oo (by decide) hg) (row_no m1.on (by decide) m1.vb) _
  · rcases hF with hF | hF
    · exact m.nn b e hF
    · have := (m.on.lt b e).2; omega
  · exact heap_setCell_same w2 gb 2 _ _ _ hvb
  · rcases hF with hF | hF
    · exact m.gF hF
    · omega
/-- One name more. -/
theorem GV.name (m : GV W gb F st ns nv L us o w) (hb : Below w.heap.size w w1) {s : ByteArray} {n g cap : Nat} (hn : ns.length = n)
    (hg : (w1.alloc (.cells #[.string s] 9)).grownBy w2 nv.ownBlock) (hown : w2.ownsRow W.heap.size 9 1 (.slice (some ⟨g, 0, none⟩) (n + 1) cap) (n + 1) (txV ns ++ [.string s]))
    (hat : nv.ownBlock = some g ∨ g = w1.heap.size + 1) :
    GV W gb F st (ns ++ [s]) (.slice (some ⟨g, 0, none⟩) (n + 1) cap) L us o (w2.setCell ⟨gb, 1, none⟩ (.slice (some ⟨g, 0, none⟩) (n + 1) cap)) := by
  subst hn
  have m1 := (m.keep hb).keep (bel1 w1 (.cells #[.string s] 9))
  have hz3 : (w1.alloc (.cells #[.string s] 9)).heap.size = w1.heap.size + 1 := by simp
  generalize w1.alloc (.cells #[.string s] 9) = w3 at hg m1 hz3
  have hgb : nv.ownBlock ≠ some gb := row_no m1.on (by decide) m1.vb
  have hvb : w2.heap[gb]? = some (.cells #[.int .i64 st, nv, o] 29) := (hg.block gb (block_lt m1.vb) (Ne.symm hgb)).trans m1.vb
  have hs0 := hb.size
  have hgl := block_lt m.vb
  have hgs := hg.size
  have hbs := m1.m0.bl.size
  have hS : Stay F w3 (w2.setCell ⟨gb, 1, none⟩ (.slice (some ⟨g, 0, none⟩) (ns.length + 1) cap)) := by
    refine ⟨by simpa [World.setCell] using hgs, fun b hF => ?_⟩
    exact (Go.Deep.blk_setCell_other w2 ⟨gb, 1, none⟩ _ b (fun e => m.gF (by have e' : b = gb := e; rw [← e']; exact hF))).trans (hg.block b (m1.m0.fl b hF).2 (fun e => m.nn b e.symm hF))
  have hz : (w2.setCell ⟨gb, 1, none⟩ (.slice (some ⟨g, 0, none⟩) (ns.length + 1) cap)).heap.size = w2.heap.size := by simp [World.setCell]
  have hgn : g ≠ gb := fun e => by
    subst e
    rcases hat with e3 | e3
    · exact hgb e3
    · omega
  refine ⟨⟨fun b hF => ?_, ?_, m.m0.no, m1.m0.ri.keep hS (fun _ h => h), ?_⟩, ?_, fun b e hF => ?_, ?_, m.gF, m.gg⟩
  · rw [hz]
    exact ⟨(m1.m0.fl b hF).1, Nat.lt_of_lt_of_le (m1.m0.fl b hF).2 hgs⟩
  · exact ownsRow_setCell_other (a := ⟨gb, 1, none⟩) (row_grown m1.m0.oo m1.on (by decide) hg) (row_no m1.m0.oo (by decide) m1.vb) _
  · exact (m1.m0.bl.grown hg (by omega) (fun k hk => (m1.on.lt k hk).1)).setCell (p := ⟨gb, 1, none⟩) m.gg _
  · rw [List.length_append, show txV (ns ++ [s]) = txV ns ++ [.string s] by simp [txV]]
    exact ownsRow_setCell_other (a := ⟨gb, 1, none⟩) hown (fun e => hgn (by injection e)) _
  · obtain rfl : g = b := by injection e
    rcases hat with e3 | e3
    · exact m.nn g e3 hF
    · have := (m.m0.fl g hF).2; omega
  · exact heap_setCell_same w2 gb 1 _ _ _ hvb
/-- A variable whose names are copied already. -/
theorem GV.first {X : World} {st : Int} {v : Value} (hb : Below W.heap.size W X) (hv : X.heap[gb]? = some (.cells #[.int .i64 st, v, .slice none 0 0] 29)) (hon : X.ownsRow W.heap.size 9 1 v ns.length (txV ns)) (hg : W.heap.size ≤ gb) : GV W gb (fun _ => False) st ns v [] [] (.slice none 0 0) X :=
  ⟨⟨fun b hb => hb.elim, World.ownsRow_nil _ _ _ _, nil_not _, RusIn.nil _ _, hb⟩, hon, fun b _ h => h, hv, fun h => h, hg⟩
/-- A variable that is new; one whose names are one literal. -/
theorem GV.new0 (W : World) : GV W W.heap.size (fun _ => False) 0 [] (.slice none 0 0) [] [] (.slice none 0 0) (W.alloc (.cells #[.int .i64 0, .slice none 0 0, .slice none 0 0] 29)) :=
  ⟨⟨fun b hb => hb.elim, World.ownsRow_nil _ _ _ _, nil_not _, RusIn.nil _ _, bel1 _ _⟩, World.ownsRow_nil _ _ _ _, nil_not _, heap_alloc_new _ _, fun h => h, Nat.le_refl _⟩
theorem GV.new1 (W : World) (s : ByteArray) : GV W (W.heap.size + 1) (fun _ => False) 0 [s] (.slice (some ⟨W.heap.size, 0, none⟩) 1 1) [] [] (.slice none 0 0) ((W.alloc (.cells #[.string s] 9)).alloc (.cells #[.int .i64 0, .slice (some ⟨W.heap.size, 0, none⟩) 1 1, .slice none 0 0] 29)) := by
  have h1 : ((W.alloc (.cells #[.string s] 9)).alloc (.cells #[.int .i64 0, .slice (some ⟨W.heap.size, 0, none⟩) 1 1, .slice none 0 0] 29)).heap[W.heap.size]? = some (.cells #[.string s] 9) := (heap_alloc_old _ (by simp)).trans (heap_alloc_new _ _)
  have h2 := heap_alloc_new (W.alloc (.cells #[.string s] 9)) (.cells #[.int .i64 0, .slice (some ⟨W.heap.size, 0, none⟩) 1 1, .slice none 0 0] 29)
  rw [show (W.alloc (.cells #[.string s] 9)).heap.size = W.heap.size + 1 by simp] at h2
  exact ⟨⟨fun b hb => hb.elim, World.ownsRow_nil _ _ _ _, nil_not _, RusIn.nil _ _, bel2 _ _ _⟩, ⟨rfl, .inr ⟨W.heap.size, 1, _, rfl, Nat.le_refl _, h1, Nat.le_refl _, le11.1, rfl, rfl⟩⟩, fun b _ h => h, h2, fun h => h, Nat.le_succ _⟩
end
end Go.Proofs.Ytopnhbgialbicaa
