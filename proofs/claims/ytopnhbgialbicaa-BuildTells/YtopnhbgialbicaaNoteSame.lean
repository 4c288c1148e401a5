/- Two rows of the same texts, items, conjuncts; two of the same declarations: held against one another. -/
import Derived.Test.YtopnhbgialbicaaNoteMem
import Derived.Test.YtopnhbgialbicaaLexSame
import Derived.Deep.RegionHeld3
namespace Go.Proofs.Ytopnhbgialbicaa
set_option linter.unusedVariables false
open Go.ChangeShapes Go.WideShapes Go.ChangeAt Go.RowKit

theorem Try.eqItem (a : Int) (s : ByteArray) (c d : Int) (w : World) : (Op.equalIn 10000 40 (.agg #[.int .i64 a, .string s, .int .i64 c, .int .i64 d]) (.agg #[.int .i64 a, .string s, .int .i64 c, .int .i64 d])).run Try.prog w = .ok true w := by
  have u3 := Try.underlying3
  have a3 := Try.isAgg3
  have z3 := Try.sizeOf3
  have u9 := Try.underlying9
  have a9 := Try.isAgg9
  have z9 := Try.sizeOf9
  have F : (Try.prog.fieldsOf 40).toList.map (fun f => (f.name, f.type, f.offset)) = [("Kind", 3, 0), ("Text", 9, 1), ("Lo", 3, 2), ("Hi", 3, 3)] := by kernel_rfl
  rw [show (10000 : Nat) = 9999 + 1 from rfl, run_equalIn_agg w 9999 _ _ _ (by kernel_rfl) (by kernel_rfl)]
  generalize (Try.prog.fieldsOf 40).toList = fs at F
  have hl : fs.length = 4 := by simpa using congrArg List.length F
  match fs, hl, F with
  | [f0, f1, f2, f3], _, F =>
    simp at F
    obtain ⟨⟨n0, t0, o0⟩, ⟨n1, t1, o1⟩, ⟨n2, t2, o2⟩, ⟨n3, t3, o3⟩⟩ := F
    simp only [Op.eqFields, n0, t0, o0, n1, t1, o1, n2, t2, o2, n3, t3, o3]
    go_simp
theorem stay_below {F : Nat → Prop} {w w' : World} (hb : Below w.heap.size w w') (hF : ∀ b, F b → b < w.heap.size) : Stay F w w' := ⟨hb.size, fun b h => hb.block b (hF b h)⟩
/-- A row that is read, whatever its blocks. -/
abbrev Any : Nat → Prop := fun _ => True
theorem Reads.any {w : World} {F : Nat → Prop} {v : Value} {n : Nat} {cs : List Value} (h : Reads w F v n cs) {w' : World} (hb : Below w.heap.size w w') : Reads w' F v n cs := by
  obtain ⟨p, cap, hv, hm, hc⟩ := h
  refine ⟨p, cap, hv, hm, fun hn => ?_⟩
  obtain ⟨g, o, hp, hF, hg, hx, hz⟩ := hc hn
  exact ⟨g, o, hp, hF, Nat.lt_of_lt_of_le hg hb.size, fun j c hj => (hb.cell (p := ⟨g, _, none⟩) hg).trans (hx j c hj), fun j hj => (hb.frozen (p := ⟨g, _, none⟩) hg).trans (hz j hj)⟩
section
variable {w w' : World} {F : Nat → Prop}
theorem IsIts.any {v : Value} {l : List It} (h : IsIts w F v l) (hb : Below w.heap.size w w') : IsIts w' F v l := Reads.any h hb
theorem IsCjs.any {v : Value} {l : List Cj} (h : IsCjs w F v l) (hb : Below w.heap.size w w') : IsCjs w' F v l := by
  obtain ⟨vs, h1, h2, h3⟩ := h
  exact ⟨vs, h1.any hb, h2, fun k c u e1 e2 => (h3 k c u e1 e2).any hb⟩
theorem IsAlts.any {v : Value} {l : List (List Cj)} (h : IsAlts w F v l) (hb : Below w.heap.size w w') : IsAlts w' F v l := by
  obtain ⟨vs, h1, h2, h3⟩ := h
  exact ⟨vs, h1.any hb, h2, fun k c u e1 e2 => (h3 k c u e1 e2).any hb⟩
theorem IsDefs.any {v : Value} {l : List Df} (h : IsDefs w F v l) (hb : Below w.heap.size w w') : IsDefs w' F v l := by
  obtain ⟨vs, h1, h2, h3⟩ := h
  exact ⟨vs, h1.any hb, h2, fun k c u e1 e2 => (h3 k c u e1 e2).any hb⟩
theorem IsTexts.any {v : Value} {l : List ByteArray} (h : IsTexts w F v l) (hb : Below w.heap.size w w') : IsTexts w' F v l := Reads.any h hb
end
theorem drewN_below (w : World) (n : Nat) : Below w.heap.size w (w.drewN n) := ⟨rfl, rfl, rfl, Nat.le_refl _, fun _ _ => rfl⟩

set_option maxHeartbeats 2000000 in
theorem sameTexts_yes (va vb : Value) (l : List ByteArray) (w : World) {Fa Fb : Nat → Prop} (ha : IsTexts w Fa va l) (hb : IsTexts w Fb vb l) :
    Calls Try.prog 23 #[va, vb] w fun e w' => e = .returned (.bool true) ∧ ∃ n, w' = w.drewN n := by
  obtain ⟨p, cp, rfl, hm, hca⟩ := ha
  obtain ⟨q, cq, rfl, -, hcb⟩ := hb
  replace hm := hm.1
  unfold maxLen at hm
  have HA : Hid (0 < l.length → ∃ g o, p = some ⟨g, o, none⟩ ∧ Fa g ∧ g < w.heap.size ∧ (∀ j c, (txV l)[j]? = some c → w.cell? ⟨g, o + j, none⟩ = some c) ∧ ∀ j, j < ((txV l)).length → w.frozen? ⟨g, o + j, none⟩ = false) := hca
  have HB : Hid (0 < l.length → ∃ g o, q = some ⟨g, o, none⟩ ∧ Fb g ∧ g < w.heap.size ∧ (∀ j c, (txV l)[j]? = some c → w.cell? ⟨g, o + j, none⟩ = some c) ∧ ∀ j, j < ((txV l)).length → w.frozen? ⟨g, o + j, none⟩ = false) := hcb
  clear hca hcb
  go_enter Try.func23, Try.ntmps23
  go_wp2
  go_loopw [5] (fun i wr => ∃ k n : Nat, k ≤ l.length ∧ i = .int .i64 k ∧ wr = w.drewN n) (fun i _ => l.length - (intOf i).toNat)
  case atStart => exact ⟨0, 0, by omega, rfl, rfl⟩
  case round =>
    obtain ⟨k, n, hk, rfl, rfl⟩ := hrel
    by_cases hlt : k < l.length
    · obtain ⟨t, ht⟩ : ∃ t, l[k]? = some t := ⟨_, List.getElem?_eq_getElem hlt⟩
      obtain ⟨g1, o1, hp, -, hg1, ca, -⟩ := HA.out (by omega)
      obtain ⟨g2, o2, hq, -, hg2, cb, -⟩ := HB.out (by omega)
      subst hp hq
      have a0 := ca k (.string t) (by simp [txV, ht])
      have b0 := cb k (.string t) (by simp [txV, ht])
      clear ca cb ht hg1 hg2
      go_wp2
      go_quiet (fail)
      go_wp2
      go_roundw
      case rel => exact ⟨k + 1, _, by omega, by go_num, rfl⟩
      case measure => simp [intOf]; omega
    · obtain rfl : k = l.length := by omega
      go_wp2
      go_ret
      exact ⟨rfl, _, rfl⟩

theorem box2_cells {w w1 : World} {c1 c2 : Array Value} {t t' : TypeId} (hb : Below ((w.alloc (.cells c1 t)).alloc (.cells c2 t')).heap.size ((w.alloc (.cells c1 t)).alloc (.cells c2 t')) w1) :
    (∀ j, w1.cell? ⟨w.heap.size, j, none⟩ = c1[j]?) ∧ (∀ j, w1.cell? ⟨w.heap.size + 1, j, none⟩ = c2[j]?) ∧ w.heap.size + 1 < w1.heap.size ∧ Below w.heap.size w w1 := by
  have hz : ((w.alloc (.cells c1 t)).alloc (.cells c2 t')).heap.size = w.heap.size + 2 := by simp
  have hs := hb.size
  rw [hz] at hs
  refine ⟨fun j => ?_, fun j => ?_, by omega, (bel2 w _ _).trans (hb.mono (by rw [hz]; omega))⟩
  · exact (hb.cell (p := ⟨_, _, none⟩) (by rw [hz]; show w.heap.size < _; omega)).trans ((World.cell?_alloc_past _ _ _ (by simp)).trans (World.cell?_alloc_at _ _ _ _ rfl))
  · exact (hb.cell (p := ⟨_, _, none⟩) (by rw [hz]; show w.heap.size + 1 < _; omega)).trans (World.cell?_alloc_at _ _ _ _ (by simp))
end Go.Proofs.Ytopnhbgialbicaa
