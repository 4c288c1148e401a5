/- Rows of places held against one another, and spoiled. -/
import Derived.Test.YtdhjegajbhlmbaaSeqC
import Derived.BigQuiet
namespace Go.Proofs.Ytdhjegajbhlmbaa
set_option linter.unusedVariables false
open Go.ChangeShapes Go.WideShapes Go.ChangeAt Go.RowKit

set_option maxRecDepth 100000 in
theorem Try.eqPl (a b : Int) (c : Int) (a' b' : Int) (c' : Int) (w : World) : (Op.equalIn 10000 47 (.agg #[.int .i64 a, .int .i64 b, .int .i64 c]) (.agg #[.int .i64 a', .int .i64 b', .int .i64 c'])).run Try.prog w = .ok (decide (a = a' ∧ b = b' ∧ c = c')) w := by
  have u3 := Try.underlying3
  have a3 := Try.isAgg3
  have z3 := Try.sizeOf3
  have F : (Try.prog.fieldsOf 47).toList.map (fun f => (f.name, f.type, f.offset)) = [("Rule", 3, 0), ("Conj", 3, 1), ("Pos", 3, 2)] := by kernel_rfl
  rw [show (10000 : Nat) = 9999 + 1 from rfl, run_equalIn_agg w 9999 _ _ _ (by kernel_rfl) (by kernel_rfl)]
  generalize (Try.prog.fieldsOf 47).toList = fs at F
  have hl : fs.length = 3 := by simpa using congrArg List.length F
  match fs, hl, F with
  | [f0, f1, f2], _, F =>
    simp at F
    obtain ⟨⟨n0, t0, o0⟩, ⟨n1, t1, o1⟩, ⟨n2, t2, o2⟩⟩ := F
    simp only [Op.eqFields, n0, t0, o0, n1, t1, o1, n2, t2, o2]
    by_cases e1 : a = a'
    · by_cases e2 : b = b'
      · by_cases e3 : c = c'
        · subst e1 e2 e3
          go_simp
        · have f3 : (c == c') = false := by simpa using e3
          subst e1 e2
          go_simp
      · have f2 : (b == b') = false := by simpa using e2
        subst e1
        go_simp
    · have f1 : (a == a') = false := by simpa using e1
      go_simp
theorem IsPls.len {w : World} {F : Nat → Prop} {v : Value} {l : List Plc} (h : IsPls w F v l) : l.length ≤ maxLen := by
  obtain ⟨p, c, e, hm, _⟩ := h
  exact hm.1
set_option maxHeartbeats 2000000 in
set_option maxRecDepth 100000 in
theorem samePls_yes (va vb : Value) (l : List Plc) (w : World) {F G : Nat → Prop} (ha : IsPls w F va l) (hb : IsPls w G vb l) :
    Calls Try.prog 8 #[va, vb] w fun e w' => e = .returned (.bool true) ∧ Hid (Below w.heap.size w w') := by
  have hm9 : l.length ≤ 9223372036854775807 := by have := ha.len; unfold maxLen at this; omega
  obtain ⟨p, cp, rfl⟩ := ha.slc
  obtain ⟨q, cq, rfl⟩ := hb.slc
  have HA : Hid (IsPls w F (.slice p l.length cp) l) := ha
  have HB : Hid (IsPls w G (.slice q l.length cq) l) := hb
  clear ha hb
  go_enter Try.func8, Try.ntmps8
  go_wp2
  go_loopw [5] (fun i wr => ∃ k : Nat, k ≤ l.length ∧ i = .int .i64 k ∧ Hid (Below w.heap.size w wr)) (fun i _ => l.length - (intOf i).toNat)
  case atStart => exact ⟨0, by omega, rfl, Below.refl _ _⟩
  case round =>
    obtain ⟨k, hk, rfl, HW⟩ := hrel
    by_cases hlt : k < l.length
    · obtain ⟨t, ht⟩ : ∃ t, l[k]? = some t := ⟨_, List.getElem?_eq_getElem hlt⟩
      obtain ⟨g1, o1, hp, -, a0, a1, a2⟩ := (HA.out.any HW.out).at ht
      obtain ⟨g2, o2, hq, -, b0, b1, b2⟩ := (HB.out.any HW.out).at ht
      subst hp hq
      have heq : ∀ w, (Op.equalIn 10000 47 (.agg #[.int .i64 t.1, .int .i64 t.2.1, .int .i64 t.2.2]) (.agg #[.int .i64 t.1, .int .i64 t.2.1, .int .i64 t.2.2])).run Try.prog w = .ok true w := fun w => by rw [Try.eqPl]; simp
      generalize t.1 = x0 at a0 b0 heq
      generalize t.2.1 = x1 at a1 b1 heq
      generalize t.2.2 = x2 at a2 b2 heq
      clear ht
      go_wp2
      go_quiet (fail)
      go_wp2
      go_roundw
      case rel => exact ⟨k + 1, by omega, by go_num, ⟨HW.out.os, HW.out.tape, HW.out.output, HW.out.size, HW.out.block⟩⟩
      case measure => simp [intOf]; omega
    · obtain rfl : k = l.length := by omega
      go_wp2
      go_ret
      exact ⟨rfl, HW⟩
/-- From w to w' blocks of F alone were written to. -/
structure SpoilsP (F : Nat → Prop) (w w' : World) : Prop where
  os : w'.os = w.os
  tape : w'.tape = w.tape
  output : w'.output = w.output
  size : w.heap.size ≤ w'.heap.size
  block : ∀ i, i < w.heap.size → ¬ F i → w'.heap[i]? = w.heap[i]?
set_option maxHeartbeats 4000000 in
set_option maxRecDepth 100000 in
theorem spoilPls_any (v : Value) (l : List Plc) (w : World) {F : Nat → Prop} (h : IsPls w F v l) : Calls Try.prog 12 #[v] w fun e w' => e = .returned (.tuple #[]) ∧ Hid (SpoilsP F w w') := by
  obtain ⟨p, cp, hv, hm, hc⟩ := h
  subst hv
  have hm2 := hm.1
  unfold maxLen at hm2
  obtain ⟨n, hn⟩ : ∃ n, n = l.length := ⟨_, rfl⟩
  have HC : Hid (0 < n → ∃ g o, p = some ⟨g, o, none⟩ ∧ F g ∧ ∀ j, j < n → ∃ z, w.cell? ⟨g, o + j * 3, none⟩ = some (.int .i64 z) ∧ w.frozen? ⟨g, o + j * 3, none⟩ = false) := fun h0 => by
    obtain ⟨g, o, e, hF, _, cc, ff⟩ := hc (by omega)
    refine ⟨g, o, e, hF, fun j hj => ?_⟩
    obtain ⟨x, hx⟩ : ∃ x, l[j]? = some x := ⟨_, List.getElem?_eq_getElem (by omega)⟩
    exact ⟨_, cc _ _ (plcsV_at l j x hx).1, ff _ (by rw [plcsV_length]; omega)⟩
  rw [← hn] at hm2 ⊢
  clear hc hm hn
  go_enter Try.func12, Try.ntmps12
  go_wp2
  go_loopw [2] (fun i wr => ∃ k : Nat, k ≤ n ∧ i = .int .i64 k ∧ Hid (SpoilsP F w wr) ∧ Hid (0 < n → ∃ g o, p = some ⟨g, o, none⟩ ∧ F g ∧ ∀ j, k ≤ j → j < n → ∃ z, wr.cell? ⟨g, o + j * 3, none⟩ = some (.int .i64 z) ∧ wr.frozen? ⟨g, o + j * 3, none⟩ = false)) (fun i _ => n - (intOf i).toNat)
  case atStart => exact ⟨0, Nat.zero_le _, rfl, ⟨rfl, rfl, rfl, Nat.le_refl _, fun _ _ _ => rfl⟩, fun h0 => by obtain ⟨g, o, e, hF, hh⟩ := HC.out h0; exact ⟨g, o, e, hF, fun j _ hj => hh j hj⟩⟩
  case round =>
    obtain ⟨k, hk, rfl, HS, HK⟩ := hrel
    by_cases hlt : k < n
    · obtain ⟨g, o, hp, hF, hh⟩ := HK.out (by omega)
      subst hp
      obtain ⟨z, c0, f0⟩ := hh k (Nat.le_refl _) hlt
      have HH : Hid (F g ∧ ∀ j, k ≤ j → j < n → ∃ z, wr.cell? ⟨g, o + j * 3, none⟩ = some (.int .i64 z) ∧ wr.frozen? ⟨g, o + j * 3, none⟩ = false) := ⟨hF, hh⟩
      clear hF hh
      go_wp2
      go_roundw
      case rel =>
        refine ⟨k + 1, by omega, by go_num, ⟨HS.out.os, HS.out.tape, HS.out.output, by have := HS.out.size; simpa [World.setCell] using this, fun i hi hn => ?_⟩, fun _ => ⟨g, o, rfl, HH.out.1, fun j hj hjn => ?_⟩⟩
        · exact (Below.heap_setCell _ _ _ _ (fun e => hn (by rw [e]; exact HH.out.1))).trans (HS.out.block i hi hn)
        · obtain ⟨z2, c2, f2⟩ := HH.out.2 j (by omega) hjn
          refine ⟨z2, ?_, ?_⟩
          · rw [World.cell?_setCell_other _ _ _ _ (fun e => by injection e with _ e2; omega)]; exact c2
          · rw [World.frozen?_setCell]; exact f2
      case measure => simp [intOf]; omega
    · obtain rfl : k = n := by omega
      go_wp2
      go_end0
      exact ⟨rfl, HS⟩
end Go.Proofs.Ytdhjegajbhlmbaa
