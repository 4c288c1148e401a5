/- A proof that is an argument: opened. -/
import Derived.Test.YtgeajdfajfdjcaaGramOpen
import Derived.Test.YtgeajdfajfdjcaaPkM
import Derived.Test.YtgeajdfajfdjcaaPkR
import Derived.Test.YtgeajdfajfdjcaaPkS
namespace Go.Proofs.Ytgeajdfajfdjcaa
set_option linter.unusedVariables false
open Go.ChangeShapes Go.WideShapes Go.ChangeAt Go.RowKit

theorem Try.structPkF : Try.prog.underlying 49 = some (.struct (Try.prog.fieldsOf 49)) := by kernel_rfl
theorem Try.fieldsPkF : (Try.prog.fieldsOf 49).toList.map (fun f => (f.type, f.offset)) = [(3, 0), (3, 1), (47, 2)] := by kernel_rfl
theorem Try.structPlF : Try.prog.underlying 43 = some (.struct (Try.prog.fieldsOf 43)) := by kernel_rfl
theorem Try.fieldsPlF : (Try.prog.fieldsOf 43).toList.map (fun f => (f.type, f.offset)) = [(3, 0), (3, 1), (3, 2)] := by kernel_rfl
theorem Try.structNdF : Try.prog.underlying 46 = some (.struct (Try.prog.fieldsOf 46)) := by kernel_rfl
theorem Try.fieldsNdF : (Try.prog.fieldsOf 46).toList.map (fun f => (f.type, f.offset)) = [(4, 0), (3, 1), (3, 2), (43, 3), (3, 6), (3, 7), (3, 8), (44, 9)] := by kernel_rfl
theorem Try.structCtF : Try.prog.underlying 24 = some (.struct (Try.prog.fieldsOf 24)) := by kernel_rfl
theorem Try.fieldsCtF : (Try.prog.fieldsOf 24).toList.map (fun f => (f.type, f.offset)) = [(3, 0), (22, 1)] := by kernel_rfl
theorem Try.c1F : Try.prog.cellsOf 3 = 1 := by kernel_rfl
theorem Try.c2F : Try.prog.cellsOf 4 = 1 := by kernel_rfl
theorem Try.c3F : Try.prog.cellsOf 47 = 1 := by kernel_rfl
theorem Try.c4F : Try.prog.cellsOf 44 = 1 := by kernel_rfl
theorem Try.c5F : Try.prog.cellsOf 22 = 1 := by kernel_rfl
theorem Try.c6F : Try.prog.cellsOf 49 = 3 := by kernel_rfl
theorem Try.c7F : Try.prog.cellsOf 46 = 10 := by kernel_rfl
theorem Try.c8F : Try.prog.cellsOf 24 = 2 := by kernel_rfl
theorem Try.c9F : Try.prog.cellsOf 43 = 3 := by kernel_rfl
theorem Try.b1F : Try.prog.bytesOf 3 = 8 := by kernel_rfl
theorem Try.b2F : Try.prog.bytesOf 49 = 40 := by kernel_rfl
theorem Try.b3F : Try.prog.bytesOf 46 = 96 := by kernel_rfl
theorem wfz_of {n : Int} (h : (Lit.int .i64 n).wf = true) : wfz n := by
  have e1 : IntKind.i64.min = -9223372036854775808 := by decide
  have e2 : IntKind.i64.max = 9223372036854775807 := by decide
  simp only [Lit.wf, e1, e2, Bool.and_eq_true, decide_eq_true_eq] at h
  exact h
theorem cut10 {cs : List Value} (h : cs.length = 10) : ∃ a b c d e f g i j k, cs = [a, b, c, d, e, f, g, i, j, k] := by
  match cs, h with
  | [a, b, c, d, e, f, g, i, j, k], _ => exact ⟨a, b, c, d, e, f, g, i, j, k, rfl⟩
section
variable {H : Type} {enc : TypeId × Value → H} {W : World} {R : Nat} {cs : List Value}
theorem op_z (h : Op enc Try.prog W R 3 cs) : ∃ z, cs = [.int .i64 z] ∧ wfz z := by
  obtain ⟨n, h1, h2⟩ := h.int Try.underlying3
  exact ⟨n, h1, wfz_of h2⟩
theorem op_zs (hR : R ≤ 1152921504606846976) (h : Op enc Try.prog W R 47 cs) : ∃ (v : Value) (L : List Int), cs = [v] ∧ IsZs W Any v L ∧ (∀ z ∈ L, wfz z) ∧ L.length ≤ 1152921504606846976 := by
  obtain ⟨v, ls, e1, hr, hb, hall⟩ := h.row Try.underlying47 Try.c1F (by decide)
  obtain ⟨L, h1, h2⟩ := pick (Q := fun (q : Int) l => l = [.int .i64 q] ∧ wfz q) ls (fun l hl => op_z (hall l hl))
  have e2 : ls.flatten = zsV L := by
    clear hr hb hall e1
    induction L generalizing ls with
    | nil =>
      obtain rfl : ls = [] := List.length_eq_zero_iff.1 h1.symm
      rfl
    | cons s L ih =>
      match ls, h1, h2 with
      | [], h1, _ => simp at h1
      | l :: ls, h1, h2 =>
        have e3 := (h2 0 s l rfl rfl).1
        rw [List.flatten_cons, ih ls (by simpa using h1) (fun i a l e1 e2 => h2 (i + 1) a l (by simpa using e1) (by simpa using e2)), e3]
        rfl
  rw [e2, ← h1] at hr
  rw [Try.b1F] at hb
  refine ⟨v, L, e1, hr, fun z hz => ?_, by omega⟩
  obtain ⟨k, hk⟩ := List.getElem?_of_mem hz
  have hkl : k < ls.length := by rw [← h1]; exact (List.getElem?_eq_some_iff.1 hk).1
  exact (h2 k z _ hk (List.getElem?_eq_getElem hkl)).2
theorem op_pk (hR : R ≤ 1152921504606846976) (h : Op enc Try.prog W R 49 cs) : ∃ q : Pk × Value, cs = [.int .i64 q.1.at_, .int .i64 q.1.conj, q.2] ∧ IsZs W Any q.2 q.1.kids ∧ wfP q.1 := by
  obtain ⟨a, b, c, rfl⟩ := cut3 ((h.field Try.structPkF).1.trans Try.c6F)
  obtain ⟨x, e1, w1⟩ := op_z (h.at Try.structPkF Try.fieldsPkF 0 rfl Try.c1F)
  obtain ⟨y, e2, w2⟩ := op_z (h.at Try.structPkF Try.fieldsPkF 1 rfl Try.c1F)
  obtain ⟨v, L, e3, h1, h2, h3⟩ := op_zs hR (h.at Try.structPkF Try.fieldsPkF 2 rfl Try.c3F)
  simp at e1 e2 e3
  subst e1 e2 e3
  exact ⟨(⟨x, y, L⟩, c), rfl, h1, w1, w2, h2, h3⟩
theorem op_pks (hR : R ≤ 1152921504606846976) (h : Op enc Try.prog W R 44 cs) : ∃ (v : Value) (L : List Pk), cs = [v] ∧ IsPks W Any v L ∧ (∀ p ∈ L, wfP p) ∧ L.length ≤ 1152921504606846976 := by
  obtain ⟨v, ls, e1, hr, hb, hall⟩ := h.row Try.underlying44 Try.c6F (by decide)
  obtain ⟨L, h1, h2⟩ := pick (Q := fun (q : Pk × Value) l => l = [.int .i64 q.1.at_, .int .i64 q.1.conj, q.2] ∧ IsZs W Any q.2 q.1.kids ∧ wfP q.1) ls (fun l hl => op_pk hR (hall l hl))
  have e2 : ls.flatten = pksV (L.map (·.1)) (L.map (·.2)) := by
    clear hr hb hall e1
    induction L generalizing ls with
    | nil =>
      obtain rfl : ls = [] := List.length_eq_zero_iff.1 h1.symm
      rfl
    | cons s L ih =>
      match ls, h1, h2 with
      | [], h1, _ => simp at h1
      | l :: ls, h1, h2 =>
        have e3 := (h2 0 s l rfl rfl).1
        rw [List.flatten_cons, ih ls (by simpa using h1) (fun i a l e1 e2 => h2 (i + 1) a l (by simpa using e1) (by simpa using e2)), e3]
        rfl
  have hm : (L.map (·.1)).length = ls.length := by rw [List.length_map, h1]
  rw [e2, ← hm] at hr
  rw [Try.b2F] at hb
  refine ⟨v, L.map (·.1), e1, ⟨L.map (·.2), hr, by simp, fun k c u k1 k2 => ?_⟩, fun c hc => ?_, by rw [hm]; omega⟩
  · rw [List.getElem?_map, Option.map_eq_some_iff] at k1 k2
    obtain ⟨q, q1, rfl⟩ := k1
    obtain ⟨q', q2, rfl⟩ := k2
    obtain rfl : q = q' := by rw [q1] at q2; injection q2
    have hk : k < ls.length := by rw [← h1]; exact (List.getElem?_eq_some_iff.1 q1).1
    exact (h2 k q _ q1 (List.getElem?_eq_getElem hk)).2.1
  · obtain ⟨q, hq, rfl⟩ := List.mem_map.1 hc
    obtain ⟨k, hk⟩ := List.getElem?_of_mem hq
    have hkl : k < ls.length := by rw [← h1]; exact (List.getElem?_eq_some_iff.1 hk).1
    exact (h2 k q _ hk (List.getElem?_eq_getElem hkl)).2.2
theorem op_nd (hR : R ≤ 1152921504606846976) (h : Op enc Try.prog W R 46 cs) : ∃ q : Nd × Value, cs = [.bool q.1.sign, .int .i64 q.1.kind, .int .i64 q.1.name, .int .i64 q.1.rule, .int .i64 q.1.conj, .int .i64 q.1.pos, .int .i64 q.1.i, .int .i64 q.1.j, .int .i64 q.1.rank, q.2] ∧ IsPks W Any q.2 q.1.picks ∧ wfN q.1 := by
  obtain ⟨a0, a1, a2, a3, a4, a5, a6, a7, a8, a9, rfl⟩ := cut10 ((h.field Try.structNdF).1.trans Try.c7F)
  obtain ⟨x0, e0⟩ := (h.at Try.structNdF Try.fieldsNdF 0 rfl Try.c2F).bool Try.underlying4
  obtain ⟨x1, e1, w1⟩ := op_z (h.at Try.structNdF Try.fieldsNdF 1 rfl Try.c1F)
  obtain ⟨x2, e2, w2⟩ := op_z (h.at Try.structNdF Try.fieldsNdF 2 rfl Try.c1F)
  have hp := h.at Try.structNdF Try.fieldsNdF 3 rfl Try.c9F
  obtain ⟨x3, e3, w3⟩ := op_z (hp.at Try.structPlF Try.fieldsPlF 0 rfl Try.c1F)
  obtain ⟨x4, e4, w4⟩ := op_z (hp.at Try.structPlF Try.fieldsPlF 1 rfl Try.c1F)
  obtain ⟨x5, e5, w5⟩ := op_z (hp.at Try.structPlF Try.fieldsPlF 2 rfl Try.c1F)
  obtain ⟨x6, e6, w6⟩ := op_z (h.at Try.structNdF Try.fieldsNdF 4 rfl Try.c1F)
  obtain ⟨x7, e7, w7⟩ := op_z (h.at Try.structNdF Try.fieldsNdF 5 rfl Try.c1F)
  obtain ⟨x8, e8, w8⟩ := op_z (h.at Try.structNdF Try.fieldsNdF 6 rfl Try.c1F)
  obtain ⟨v, L, e9, h1, h2, h3⟩ := op_pks hR (h.at Try.structNdF Try.fieldsNdF 7 rfl Try.c4F)
  simp at e0 e1 e2 e3 e4 e5 e6 e7 e8 e9
  subst e0 e1 e2 e3 e4 e5 e6 e7 e8 e9
  exact ⟨(⟨x0, x1, x2, x3, x4, x5, x6, x7, x8, L⟩, a9), rfl, h1, ⟨w1, w2, w3, w4, w5, w6, w7, w8⟩, h2, h3⟩
theorem op_nds (hR : R ≤ 1152921504606846976) (h : Op enc Try.prog W R 22 cs) : ∃ (v : Value) (L : List Nd), cs = [v] ∧ IsNds W Any v L ∧ (∀ p ∈ L, wfN p) ∧ L.length ≤ 1152921504606846976 := by
  obtain ⟨v, ls, e1, hr, hb, hall⟩ := h.row Try.underlying22 Try.c7F (by decide)
  obtain ⟨L, h1, h2⟩ := pick (Q := fun (q : Nd × Value) l => l = [.bool q.1.sign, .int .i64 q.1.kind, .int .i64 q.1.name, .int .i64 q.1.rule, .int .i64 q.1.conj, .int .i64 q.1.pos, .int .i64 q.1.i, .int .i64 q.1.j, .int .i64 q.1.rank, q.2] ∧ IsPks W Any q.2 q.1.picks ∧ wfN q.1) ls (fun l hl => op_nd hR (hall l hl))
  have e2 : ls.flatten = ndsV (L.map (·.1)) (L.map (·.2)) := by
    clear hr hb hall e1
    induction L generalizing ls with
    | nil =>
      obtain rfl : ls = [] := List.length_eq_zero_iff.1 h1.symm
      rfl
    | cons s L ih =>
      match ls, h1, h2 with
      | [], h1, _ => simp at h1
      | l :: ls, h1, h2 =>
        have e3 := (h2 0 s l rfl rfl).1
        rw [List.flatten_cons, ih ls (by simpa using h1) (fun i a l e1 e2 => h2 (i + 1) a l (by simpa using e1) (by simpa using e2)), e3]
        rfl
  have hm : (L.map (·.1)).length = ls.length := by rw [List.length_map, h1]
  rw [e2, ← hm] at hr
  rw [Try.b3F] at hb
  refine ⟨v, L.map (·.1), e1, ⟨L.map (·.2), hr, by simp, fun k c u k1 k2 => ?_⟩, fun c hc => ?_, by rw [hm]; omega⟩
  · rw [List.getElem?_map, Option.map_eq_some_iff] at k1 k2
    obtain ⟨q, q1, rfl⟩ := k1
    obtain ⟨q', q2, rfl⟩ := k2
    obtain rfl : q = q' := by rw [q1] at q2; injection q2
    have hk : k < ls.length := by rw [← h1]; exact (List.getElem?_eq_some_iff.1 q1).1
    exact (h2 k q _ q1 (List.getElem?_eq_getElem hk)).2.1
  · obtain ⟨q, hq, rfl⟩ := List.mem_map.1 hc
    obtain ⟨k, hk⟩ := List.getElem?_of_mem hq
    have hkl : k < ls.length := by rw [← h1]; exact (List.getElem?_eq_some_iff.1 hk).1
    exact (h2 k q _ hk (List.getElem?_eq_getElem hkl)).2.2
theorem op_cert (hR : R ≤ 1152921504606846976) (h : Op enc Try.prog W R 24 cs) : ∃ (c : Ct) (v : Value), cs = [.int .i64 c.root, v] ∧ IsNds W Any v c.nodes ∧ wfC c := by
  obtain ⟨a, b, rfl⟩ := cut2 ((h.field Try.structCtF).1.trans Try.c8F)
  obtain ⟨x, e1, w1⟩ := op_z (h.at Try.structCtF Try.fieldsCtF 0 rfl Try.c1F)
  obtain ⟨v, L, e2, h1, h2, h3⟩ := op_nds hR (h.at Try.structCtF Try.fieldsCtF 1 rfl Try.c5F)
  simp at e1 e2
  subst e1 e2
  exact ⟨⟨x, L⟩, b, rfl, h1, w1, h2, h3⟩
end
end Go.Proofs.Ytgeajdfajfdjcaa
