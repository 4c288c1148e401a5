/- A copied grammar that grows: an append onto its names, onto its rules; rows of Booleans, held against one another quietly. -/
import Derived.Test.YtkihbgikdbaelaaNulTop
import Derived.Test.YtkihbgikdbaelaaNulT
import Derived.Test.YtkihbgikdbaelaaCopyGrW
namespace Go.Proofs.Ytkihbgikdbaelaa
set_option linter.unusedVariables false
open Go.ChangeShapes Go.WideShapes Go.ChangeAt Go.RowKit

theorem hid_of {p : Prop} (h : p) : Hid p := h
/-- A grammar in a block of its own, and what is behind it. -/
def Bx (W : World) (s : Int) (v1 v2 : Value) (w : World) : Prop := Below W.heap.size W w ∧ W.heap.size < w.heap.size ∧ w.cell? ⟨W.heap.size, 0, none⟩ = some (.int .i64 s) ∧ w.cell? ⟨W.heap.size, 1, none⟩ = some v1 ∧ w.cell? ⟨W.heap.size, 2, none⟩ = some v2
theorem Bx.new (W : World) (s : Int) (v1 v2 : Value) : Bx W s v1 v2 (W.alloc (.cells #[.int .i64 s, v1, v2] 25)) :=
  ⟨bel1 _ _, by simp, World.cell?_alloc_at _ _ _ _ rfl, World.cell?_alloc_at _ _ _ _ rfl, World.cell?_alloc_at _ _ _ _ rfl⟩
theorem Bx.any {W : World} {s : Int} {v1 v2 : Value} {w w' : World} (h : Bx W s v1 v2 w) (hb : Below w.heap.size w w') : Bx W s v1 v2 w' :=
  ⟨h.1.trans (hb.mono h.1.size), Nat.lt_of_lt_of_le h.2.1 hb.size, (hb.cell (p := ⟨_, _, none⟩) h.2.1).trans h.2.2.1, (hb.cell (p := ⟨_, _, none⟩) h.2.1).trans h.2.2.2.1, (hb.cell (p := ⟨_, _, none⟩) h.2.1).trans h.2.2.2.2⟩
theorem Cp.gv {w w' : World} {g : Gr} {u1 u2 : Value} (h : Cp w g u1 u2 w') : ∃ (B : World) (F : Nat → Prop) (us : List Value), Below w.heap.size w B ∧ GV B w'.heap.size F g.start g.names u1 g.rules us u2 (w'.alloc (.cells #[.int .i64 g.start, u1, u2] 25)) := by
  obtain ⟨B, F, us, hb, m0, on, nn⟩ := h
  exact ⟨B, F, us, hb, m0.keep (bel1 _ _), row_keep on (bel1 _ _), nn, heap_alloc_new _ _, fun hF => by have := (m0.fl _ hF).2; omega, m0.bl.size⟩
theorem Try.infoStrO : (Try.prog.info? 9).map (fun i => (i.zero, i.size, i.bytes)) = some (some (.string ⟨#[]⟩), 1, 16) := by kernel_rfl
theorem Try.infoRuleO : (Try.prog.info? 35).map (fun i => (i.zero, i.size, i.bytes)) = some (some (.agg #[.int .i64 0, .slice none 0 0]), 2, 32) := by kernel_rfl
def n0t : ByteArray := ⟨#[110, 48, 116]⟩
section
variable {B w w1 : World} {gb : Nat} {F : Nat → Prop} {st : Int} {ns : List ByteArray} {nv o : Value} {L : List Ru} {us : List Value}
/-- An append onto a grammar's names. -/
theorem GV.appName (m : GV B gb F st ns nv L us o w) (s : ByteArray) (hl : ns.length ≤ 1000) :
    ∃ g cap w2, (Builtin.append_ #[22, 22] 22 #[nv, .slice (some ⟨w.heap.size, 0, none⟩) 1 1]).run Try.prog (w.alloc (.cells #[.string s] 9)) = .ok (.slice (some ⟨g, 0, none⟩) (ns.length + 1) cap) w2 ∧ GV B gb F st (ns ++ [s]) (.slice (some ⟨g, 0, none⟩) (ns.length + 1) cap) L us o (w2.setCell ⟨gb, 1, none⟩ (.slice (some ⟨g, 0, none⟩) (ns.length + 1) cap)) ∧ w2.cell? ⟨gb, 1, none⟩ = some nv ∧ w2.frozen? ⟨gb, 1, none⟩ = false := by
  obtain ⟨i, hi, hz, hs, hb⟩ := info_parts Try.infoStrO
  have hbs := m.m0.bl.size
  obtain ⟨g, cap, w2, hr, hown, hgrow, hat, _⟩ := run_append_lies (P := Try.prog) (w.alloc (.cells #[.string s] 9)) 22 22 B.heap.size 9 i _ 1 16 Try.underlying22 hi hz hs hb rfl (by omega) nv ns.length (txV ns) (m.on.alloc _) ⟨w.heap.size, 0, none⟩ 1 1 [.string s] rfl
    (World.news_of_block (cs := #[.string s]) (t := 9) (fr := (0, 0)) (heap_alloc_new w _)) (by intro u hu; simp at hu; subst hu; rfl) (by omega) (by unfold maxLen; omega) (by omega) (by simp; omega) (w.heap.size + 1) (by simp)
  have hvb : w2.heap[gb]? = some (.cells #[.int .i64 st, nv, o] 25) := (hgrow.block gb (by have := block_lt m.vb; simp; omega) (Ne.symm (row_no m.on (by decide) m.vb))).trans ((heap_alloc_old _ (block_lt m.vb)).trans m.vb)
  exact ⟨g, cap, w2, hr, m.name (Below.refl _ _) rfl hgrow hown hat, Lib.cell_of_heap hvb 1, by unfold World.frozen?; rw [hvb]; simp⟩
/-- An append onto its rules. -/
theorem GV.appRule (m : GV B gb F st ns nv L us o w) (hb1 : Below w.heap.size w w1) {h : Int} {c : Value} {cs : List Cn} {Fc : Nat → Prop} (hc : IsCns w1 Fc c cs) (hFc : ∀ b, Fc b → w.heap.size ≤ b) (h1 : c.oneCell' = true) (hl : L.length ≤ 100000) :
    ∃ g cap w2 F', (Builtin.append_ #[23, 23] 23 #[o, .slice (some ⟨w1.heap.size, 0, none⟩) 1 1]).run Try.prog (w1.alloc (.cells #[.int .i64 h, c] 35)) = .ok (.slice (some ⟨g, 0, none⟩) (L.length + 1) cap) w2 ∧ GV B gb F' st ns nv (L ++ [⟨h, cs⟩]) (us ++ [c]) (.slice (some ⟨g, 0, none⟩) (L.length + 1) cap) (w2.setCell ⟨gb, 2, none⟩ (.slice (some ⟨g, 0, none⟩) (L.length + 1) cap)) ∧ w2.cell? ⟨gb, 2, none⟩ = some o ∧ w2.frozen? ⟨gb, 2, none⟩ = false := by
  obtain ⟨i, hi, hz, hs, hb⟩ := info_parts Try.infoRuleO
  have m1 := m.keep hb1
  have hbs := m1.m0.bl.size
  obtain ⟨g, cap, w2, hr, hown, hgrow, hat, _⟩ := run_append_lies (P := Try.prog) (w1.alloc (.cells #[.int .i64 h, c] 35)) 23 23 B.heap.size 35 i _ 2 32 Try.underlying23 hi hz hs hb rfl (by omega) o L.length (rusV L us) (m1.m0.oo.alloc _) ⟨w1.heap.size, 0, none⟩ 1 1 [.int .i64 h, c] rfl
    (World.news_of_block (cs := #[.int .i64 h, c]) (t := 35) (fr := (0, 0)) (heap_alloc_new w1 _)) (by intro u hu; simp at hu; rcases hu with rfl | rfl; rfl; exact h1) (by omega) (by unfold maxLen; omega) (by omega) (by simp; omega) (w1.heap.size + 1) (by simp)
  have hvb : w2.heap[gb]? = some (.cells #[.int .i64 st, nv, o] 25) := (hgrow.block gb (by have := block_lt m1.vb; simp; omega) (Ne.symm (row_no m1.m0.oo (by decide) m1.vb))).trans ((heap_alloc_old _ (block_lt m1.vb)).trans m1.vb)
  obtain ⟨F', hF'⟩ := m.rule hb1 hc hFc rfl hgrow hown hat rfl
  exact ⟨g, cap, w2, F', hr, hF', Lib.cell_of_heap hvb 2, by unfold World.frozen?; rw [hvb]; simp⟩
end
theorem mayG_rules {g : Gr} (h : mayG g = true) : g.rules.length ≤ 256 := by
  unfold mayG mayRules at h
  simp only [Bool.and_eq_true, decide_eq_true_eq] at h
  exact h.2.2.2.2.1
/-- A row in a block that is known. -/
theorem reads_at {w : World} {F G : Nat → Prop} {b o n c : Nat} {cs : List Value} (h : Reads w F (.slice (some ⟨b, o, none⟩) n c) n cs) (hG : G b) : Reads w G (.slice (some ⟨b, o, none⟩) n c) n cs := by
  obtain ⟨p, c2, e, hm, hc⟩ := h
  refine ⟨p, c2, e, hm, fun h0 => ?_⟩
  obtain ⟨g', o', e1, e2, e3⟩ := hc h0
  have e9 := e
  simp only [Value.slice.injEq] at e9
  rw [← e9.1] at e1
  simp only [Option.some.injEq, Addr.mk.injEq] at e1
  exact ⟨g', o', by rw [← e9.1]; simp [e1], by rw [← e1.1]; exact hG, e3⟩
/-- The first of a row of Booleans. -/
theorem IsBls.front {w : World} {F : Nat → Prop} {g o n m c : Nat} {A Z : List Bool} (h : IsBls w F (.slice (some ⟨g, o, none⟩) n c) (A ++ Z)) (hm : m = A.length) : IsBls w F (.slice (some ⟨g, o, none⟩) m c) A := by
  obtain ⟨p, c', e, ⟨h1, h2⟩, hc⟩ := h
  simp only [Value.slice.injEq] at e
  obtain ⟨rfl, e2, rfl⟩ := e
  rw [List.length_append] at h1 h2 hc
  subst hm
  refine ⟨_, _, rfl, ⟨by omega, by omega⟩, fun h0 => ?_⟩
  obtain ⟨g', o', e1, e2, e3, e4, e5⟩ := hc (by omega)
  refine ⟨g', o', e1, e2, e3, fun j x hj => e4 j x ?_, fun j hj => e5 j ?_⟩
  · unfold blsV at hj ⊢
    rw [List.map_append, List.getElem?_append_left (List.getElem?_eq_some_iff.1 hj).1]; exact hj
  · unfold blsV at hj ⊢
    simp only [List.length_map, List.length_append] at hj ⊢; omega
set_option maxHeartbeats 2000000 in
theorem sameBls_q (va vb : Value) (l : List Bool) (w : World) {F G : Nat → Prop} (ha : IsBls w F va l) (hb : IsBls w G vb l) :
    Calls Try.prog 12 #[va, vb] w fun e w' => e = .returned (.bool true) ∧ ∃ n, w' = w.drewN n := by
  obtain ⟨p, cp, rfl⟩ := ha.slc
  obtain ⟨q, cq, rfl⟩ := hb.slc
  have hl9 : l.length ≤ 9223372036854775807 := by obtain ⟨_, _, _, h, _⟩ := ha; have := h.1; unfold maxLen at this; omega
  have HA : Hid (IsBls w F (.slice p l.length cp) l) := ha
  have HB : Hid (IsBls w G (.slice q l.length cq) l) := hb
  clear ha hb
  go_enter Try.func12, Try.ntmps12
  go_wp2
  go_loopw [5] (fun i wr => ∃ k n : Nat, k ≤ l.length ∧ i = .int .i64 k ∧ wr = w.drewN n) (fun i _ => l.length - (intOf i).toNat)
  case atStart => exact ⟨0, 0, by omega, rfl, rfl⟩
  case round =>
    obtain ⟨k, n, hk, rfl, rfl⟩ := hrel
    by_cases hlt : k < l.length
    · obtain ⟨t, ht⟩ : ∃ t, l[k]? = some t := ⟨_, List.getElem?_eq_getElem hlt⟩
      obtain ⟨g1, o1, hp, -, a0⟩ := HA.out.at ht
      obtain ⟨g2, o2, hq, -, b0⟩ := HB.out.at ht
      subst hp hq
      clear ht
      go_wp2
      go_quiet (fail)
      go_wp2
      go_roundw
      case rel => exact ⟨k + 1, _, by omega, by go_num, rfl⟩
      case measure => simp [intOf]; omega
    · obtain rfl : k = l.length := by omega
      go_wp2
      go_ret
      exact ⟨rfl, _, rfl⟩
end Go.Proofs.Ytkihbgikdbaelaa
