/- The queue of package bin in memory. -/
import Derived.Test.YtgpklcpmabafmaaDoorBinT
import Derived.Test.YtgpklcpmabafmaaDoorGramVar
import Derived.Deep.AppendLies
import Derived.Laws.OwnMore
namespace Go.Proofs.YtgpklcpmabafmaaDoor
set_option linter.unusedVariables false
open Go.ChangeShapes Go.WideShapes Go.ChangeAt Go.RowKit

theorem row_own {w w' : World} {base e size n : Nat} {v : Value} {xs : List Value} (h : w.ownsRow base e size v n xs) (hb : ∀ g, v.ownBlock = some g → w'.heap[g]? = w.heap[g]?) : w'.ownsRow base e size v n xs := by
  obtain ⟨h0, h1 | ⟨g, cap, cur, h1, h2, h3, h4⟩⟩ := h
  · exact ⟨h0, .inl h1⟩
  · exact ⟨h0, .inr ⟨g, cap, cur, h1, h2, (hb g (by rw [h1]; rfl)).trans h3, h4⟩⟩
theorem own_two {w : World} {base e size n base' e' size' n' : Nat} {v v' : Value} {xs xs' : List Value} (h : w.ownsRow base e size v n xs) (h' : w.ownsRow base' e' size' v' n' xs') (he : e ≠ e') {g : Nat} (hg : v.ownBlock = some g) (hg' : v'.ownBlock = some g) : False := by
  obtain ⟨_, ⟨h1, _⟩ | ⟨a, cap, cur, h1, _, h3, _⟩⟩ := h
  · rw [h1] at hg; cases hg
  · rw [h1] at hg
    have e2 : a = g := by injection hg
    subst e2
    exact row_no h' he h3 hg'
/-- The queue is block qb; its rows q hold slices of what lies below W. -/
structure Qu (W : World) (qb n : Nat) (rows : List (List Sy)) (vs : List Value) (q : Value) (w : World) : Prop where
  qv : w.heap[qb]? = some (.cells #[.int .i64 (n : Int), q] 49)
  oq : w.ownsRow W.heap.size 28 1 q rows.length vs
  is : ∀ (i : Nat) (r : List Sy) (v : Value), rows[i]? = some r → vs[i]? = some v → IsSys W Any v r
  bl : Below W.heap.size W w
  qg : W.heap.size ≤ qb
/-- All stays but the queue and its row. -/
def Oq (qb : Nat) (q : Value) (w w' : World) : Prop := w.heap.size ≤ w'.heap.size ∧ ∀ b, b < w.heap.size → b ≠ qb → q.ownBlock ≠ some b → w'.heap[b]? = w.heap[b]?
/-- The row is the same, or new. -/
def Qn (q q' : Value) (w : World) : Prop := q'.ownBlock = q.ownBlock ∨ ∀ b, q'.ownBlock = some b → w.heap.size ≤ b
section
variable {W w w' w1 w2 : World} {qb n : Nat} {rows : List (List Sy)} {vs : List Value} {q q' q2 : Value}
theorem Oq.refl (qb : Nat) (q : Value) (w : World) : Oq qb q w w := ⟨Nat.le_refl _, fun _ _ _ _ => rfl⟩
theorem Qn.refl (q : Value) (w : World) : Qn q q w := Or.inl rfl
theorem Oq.trans (h1 : Oq qb q w w1) (hn : Qn q q' w) (h2 : Oq qb q' w1 w2) : Oq qb q w w2 := by
  refine ⟨Nat.le_trans h1.1 h2.1, fun b hb h3 h4 => ?_⟩
  refine (h2.2 b (Nat.lt_of_lt_of_le hb h1.1) h3 fun e => ?_).trans (h1.2 b hb h3 h4)
  rcases hn with e2 | e2
  · rw [e2] at e; exact h4 e
  · have := e2 b e; omega
theorem Qn.trans (h1 : Qn q q' w) (h2 : Qn q' q2 w1) (hs : w.heap.size ≤ w1.heap.size) : Qn q q2 w := by
  rcases h2 with e | e
  · rcases h1 with e1 | e1
    · exact Or.inl (e.trans e1)
    · exact Or.inr fun b hb => e1 b (by rw [← e]; exact hb)
  · exact Or.inr fun b hb => Nat.le_trans hs (e b hb)
theorem Qu.keep (m : Qu W qb n rows vs q w) (hb : Below w.heap.size w w') : Qu W qb n rows vs q w' :=
  ⟨(hb.block qb (block_lt m.qv)).trans m.qv, row_keep m.oq hb, m.is, m.bl.trans (hb.mono m.bl.size), m.qg⟩
theorem Qu.new (hb : Below W.heap.size W w) (n : Nat) : Qu W w.heap.size n [] [] (.slice none 0 0) (w.alloc (.cells #[.int .i64 (n : Int), .slice none 0 0] 49)) :=
  ⟨heap_alloc_new _ _, World.ownsRow_nil _ _ _ _, fun i r v h => by simp at h, hb.alloc hb.size _, hb.size⟩
theorem Tryd.infoSyR : (Tryd.prog.info? 28).map (fun i => (i.zero, i.size, i.bytes)) = some (some (.slice none 0 0), 1, 24) := by kernel_rfl
/-- A rest more. -/
theorem Qu.app (m : Qu W qb n rows vs q w) {v : Value} {r : List Sy} (hv : IsSys W Any v r) (h1 : v.oneCell' = true) (hl : rows.length ≤ 100000) :
    ∃ g cap w2, (Builtin.append_ #[47, 47] 47 #[q, .slice (some ⟨w.heap.size, 0, none⟩) 1 1]).run Tryd.prog (w.alloc (.cells #[v] 28)) = .ok (.slice (some ⟨g, 0, none⟩) (rows.length + 1) cap) w2 ∧
      Qu W qb n (rows ++ [r]) (vs ++ [v]) (.slice (some ⟨g, 0, none⟩) (rows.length + 1) cap) (w2.setCell ⟨qb, 1, none⟩ (.slice (some ⟨g, 0, none⟩) (rows.length + 1) cap)) ∧ w2.cell? ⟨qb, 1, none⟩ = some q ∧ w2.frozen? ⟨qb, 1, none⟩ = false ∧
      Oq qb q w (w2.setCell ⟨qb, 1, none⟩ (.slice (some ⟨g, 0, none⟩) (rows.length + 1) cap)) ∧ Qn q (.slice (some ⟨g, 0, none⟩) (rows.length + 1) cap) w := by
  obtain ⟨i, hi, hz, hs, hb⟩ := info_parts Tryd.infoSyR
  have hbs := m.bl.size
  obtain ⟨g, cap, w2, hr, hown, hgrow, hat, _⟩ := run_append_lies (P := Tryd.prog) (w.alloc (.cells #[v] 28)) 47 47 W.heap.size 28 i _ 1 24 Tryd.underlying47 hi hz hs hb rfl (by omega) q rows.length vs (m.oq.alloc _) ⟨w.heap.size, 0, none⟩ 1 1 [v] rfl
    (World.news_of_block (cs := #[v]) (t := 28) (fr := (0, 0)) (heap_alloc_new w _)) (by intro u hu; simp at hu; subst hu; exact h1) (by omega) (by unfold maxLen; omega) (by omega) (by simp; omega) (w.heap.size + 1) (by simp)
  have hql := block_lt m.qv
  have hqn : q.ownBlock ≠ some qb := row_no m.oq (by decide) m.qv
  have hvb : w2.heap[qb]? = some (.cells #[.int .i64 (n : Int), q] 49) := (hgrow.block qb (by simp; omega) (Ne.symm hqn)).trans ((heap_alloc_old _ hql).trans m.qv)
  have hgn : g ≠ qb := fun e => by
    rcases hat with e1 | e1
    · exact hqn (by rw [e1, e])
    · omega
  have hz2 : w.heap.size ≤ w2.heap.size := by have := hgrow.size; simp at this; omega
  refine ⟨g, cap, w2, hr, ⟨heap_setCell_same w2 qb 1 _ _ _ hvb, ?_, ?_, ?_, m.qg⟩, Lib.cell_of_heap hvb 1, by unfold World.frozen?; rw [hvb]; simp, ⟨by simpa [World.setCell] using hz2, fun b h3 h4 h5 => ?_⟩, ?_⟩
  · rw [List.length_append]
    exact ownsRow_setCell_other (a := ⟨qb, 1, none⟩) hown (fun e => hgn (by injection e)) _
  · intro i r' v' h3 h4
    have hvl : vs.length = rows.length := by have := m.oq.1; simpa using this
    by_cases hi' : i < rows.length
    · rw [List.getElem?_append_left hi'] at h3
      rw [List.getElem?_append_left (by omega)] at h4
      exact m.is i r' v' h3 h4
    · have hi2 : i = rows.length := by
        have := (List.getElem?_eq_some_iff.1 h3).1
        simp at this
        omega
      subst hi2
      rw [List.getElem?_append_right (Nat.le_refl _)] at h3
      rw [List.getElem?_append_right (by omega)] at h4
      simp only [Nat.sub_self, hvl, List.getElem?_cons_zero, Option.some.injEq] at h3 h4
      rw [← h3, ← h4]
      exact hv
  · exact ((m.bl.alloc hbs _).grown hgrow (by simp; omega) (fun k hk => (m.oq.lt k hk).1)).setCell (p := ⟨qb, 1, none⟩) m.qg _
  · exact (Go.Deep.blk_setCell_other w2 ⟨qb, 1, none⟩ _ b h4).trans ((hgrow.block b (by simp; omega) (Ne.symm h5)).trans (heap_alloc_old _ h3))
  · rcases hat with e1 | e1
    · exact Or.inl e1.symm
    · refine Or.inr fun b hb => ?_
      have : g = b := by injection hb
      omega
/-- What is made stays while the queue grows. -/
theorem Mk.oq {rb : Nat} {F : Nat → Prop} {L : List Ru} {us ws : List Value} {o c : Value} {h : Int} {M : List Cn} (m : Mk W rb F L us o h M ws c w) (mq : Qu W qb n rows vs q w) (hF : ∀ b, F b → b ≠ qb ∧ q.ownBlock ≠ some b) (hq : Oq qb q w w') (hb : Below W.heap.size W w') : Mk W rb F L us o h M ws c w' := by
  have hst : Stay F w w' := ⟨hq.1, fun b hf => hq.2 b (m.m0.fl b hf).2 (hF b hf).1 (hF b hf).2⟩
  have hrow : ∀ {e size k : Nat} {v : Value} {xs : List Value}, w.ownsRow W.heap.size e size v k xs → e ≠ 49 → e ≠ 28 → w'.ownsRow W.heap.size e size v k xs := fun {e size k v xs} ho h1 h2 => row_own ho fun g hg => hq.2 g (ho.lt g hg).2 (fun e1 => row_no ho (Ne.symm h1) mq.qv (e1 ▸ hg)) (fun e1 => own_two ho mq.oq h2 hg e1)
  exact ⟨⟨fun b hf => ⟨(m.m0.fl b hf).1, Nat.lt_of_lt_of_le (m.m0.fl b hf).2 hq.1⟩, hrow m.m0.oo (by decide) (by decide), m.m0.no, m.m0.ri.keep hst (fun b h => h), hb⟩, hrow m.oc (by decide) (by decide), m.nc, m.rF, m.ro, m.rg, m.ci.keep hst (fun b h => h), (hq.2 rb (block_lt m.rb) (fun e => by have h1 := m.rb; rw [e, mq.qv] at h1; injection h1 with h1; injection h1 with _ h2; exact absurd h2 (by decide)) (row_no mq.oq (by decide) m.rb)).trans m.rb⟩
end
end Go.Proofs.YtgpklcpmabafmaaDoor
