/- Declarations that are an argument: opened, with the bound of the second form (bulk). Written by mk_rawopen.py. -/
import Derived.Test.YtopnhbgialbicaaGramOpen
import Derived.Test.YtopnhbgialbicaaGramOk
import Derived.Test.YtopnhbgialbicaaRows
namespace Go.Proofs.Ytopnhbgialbicaa
set_option linter.unusedVariables false
open Go.ChangeShapes Go.WideShapes Go.ChangeAt Go.RowKit

section
variable {H : Type} {enc : TypeId × Value → H} {P : Program} {W : World} {R : Nat} {t e : TypeId} {cs : List Value}
theorem bulk_one (d : DataW H) : 1 ≤ Rows.uptoBulk d := by
  cases d with
  | lit l => cases l <;> simp [Rows.uptoBulk]
  | nil => simp [Rows.uptoBulk]
  | ptr d => simp [Rows.uptoBulk]
  | slice elems spare => simp [Rows.uptoBulk]
  | agg parts => simp [Rows.uptoBulk]
  | iface t d => simp [Rows.uptoBulk]
  | map entries => simp [Rows.uptoBulk]
  | held h => simp [Rows.uptoBulk]
theorem bulk_part {d : DataW H} : ∀ {l : List (DataW H)}, d ∈ l → Rows.uptoBulk d ≤ Rows.uptoBulkAll l
  | [], h => by simp at h
  | x :: l, h => by
    simp only [Rows.uptoBulkAll]
    rcases List.mem_cons.1 h with e1 | e1
    · subst e1; omega
    · have := bulk_part e1; omega
theorem bulk_len : ∀ l : List (DataW H), l.length ≤ Rows.uptoBulkAll l
  | [] => by simp [Rows.uptoBulkAll]
  | x :: l => by have := bulk_one x; have := bulk_len l; simp only [Rows.uptoBulkAll, List.length_cons]; omega
theorem bulk_slice (a b : List (DataW H)) : a.length + b.length + 1 ≤ Rows.uptoBulk (.slice a b) := by
  have := bulk_len a
  have := bulk_len b
  simp only [Rows.uptoBulk]
  omega
/-- The cells cs are read as a value of type t; nothing of it is frozen; its bulk is at most R. -/
def OpK (enc : TypeId × Value → H) (P : Program) (W : World) (R : Nat) (t : TypeId) (cs : List Value) : Prop :=
  ∃ fuel x, DataW.trod enc P W 0 (fun _ => true) true fuel t cs = some x ∧ W.noneFrozen x.2 ∧ Rows.uptoBulk x.1 ≤ R
theorem OpK.int (ht : P.underlying t = some (.int .i64)) (h : OpK enc P W R t cs) : ∃ n, cs = [.int .i64 n] ∧ (Lit.int .i64 n).wf = true := by
  obtain ⟨f, x, h1, _, _⟩ := h
  obtain ⟨n, e1, _, e3⟩ := DataW.trod_int ht h1
  exact ⟨n, e1, e3⟩
theorem OpK.bool (ht : P.underlying t = some .bool) (h : OpK enc P W R t cs) : ∃ b, cs = [.bool b] := by
  obtain ⟨f, x, h1, _, _⟩ := h
  obtain ⟨b, e1, _⟩ := DataW.trod_bool ht h1
  exact ⟨b, e1⟩
theorem OpK.str (ht : P.underlying t = some .string) (h : OpK enc P W R t cs) : ∃ s : ByteArray, cs = [.string s] ∧ s.size ≤ maxLen ∧ s.size ≤ R := by
  obtain ⟨f, x, h1, _, h3⟩ := h
  obtain ⟨s, e1, e2, e3⟩ := DataW.trod_string ht h1
  refine ⟨s, e1, e3, ?_⟩
  rw [e2] at h3
  have h4 : s.data.toList.length + 1 ≤ R := by simpa [Rows.uptoBulk] using h3
  rw [Array.length_toList] at h4
  show s.data.size ≤ R
  omega
theorem OpK.field {fs : Array Field} (ht : P.underlying t = some (.struct fs)) (h : OpK enc P W R t cs) : cs.length = P.cellsOf t ∧ ∀ (i : Nat) (f : Field), fs[i]? = some f → OpK enc P W R f.type ((cs.drop f.offset).take (P.cellsOf f.type)) := by
  obtain ⟨fu, x, h1, h2, h3⟩ := h
  obtain ⟨xs, n, e1, e2, e3, e4, e5⟩ := DataW.trod_struct ht h1
  refine ⟨e3, fun i f hf => ?_⟩
  have hi : i < xs.length := by rw [e4]; exact (Array.getElem?_eq_some_iff.1 hf).1
  have h4 := e5 i f hf
  rw [List.getElem?_eq_getElem hi] at h4
  refine ⟨n, xs[i], h4, fun b o hm => h2 b o ?_, ?_⟩
  · rw [e2]
    exact List.mem_flatMap.2 ⟨xs[i], List.getElem_mem hi, hm⟩
  · rw [e2] at h3
    have h5 := bulk_part (List.mem_map.2 ⟨xs[i], List.getElem_mem hi, rfl⟩ : xs[i].1 ∈ xs.map (·.1))
    simp only [Rows.uptoBulk] at h3
    omega
theorem OpK.row {c : Nat} (ht : P.underlying t = some (.slice e)) (hc : P.cellsOf e = c) (h0 : 0 < c) (h : OpK enc P W R t cs) :
    ∃ (v : Value) (ls : List (List Value)), cs = [v] ∧ Reads W Any v ls.length ls.flatten ∧ ls.length ≤ R ∧ ∀ l, l ∈ ls → OpK enc P W R e l := by
  obtain ⟨fu, x, h1, h2, h3⟩ := h
  rcases DataW.trod_slice ht h1 with ⟨e1, e2⟩ | ⟨a, len, cap, elems, rest, n, _, e1, e2, hb, hl, hm, hlen, hel, hsp, hns⟩
  · exact ⟨_, [], e1, ⟨none, 0, rfl, ⟨Nat.zero_le _, Nat.zero_le _⟩, fun h => absurd h (Nat.lt_irrefl _)⟩, by simp, fun l hl => by simp at hl⟩
  rw [hc] at hel e2
  have each : ∀ i, i < len → ∃ l y, W.cells? 0 (a.add (i * c)) c = some l ∧ DataW.trod enc P W 0 (fun _ => true) true n e l = some y ∧ y ∈ elems := fun i hi => by
    have := hel i hi
    rw [List.getElem?_eq_getElem (by omega), Option.bind_eq_some_iff] at this
    obtain ⟨l, k1, k2⟩ := this
    exact ⟨l, _, k1, k2, List.getElem_mem _⟩
  let F : Nat → List Value := fun i => (W.cells? 0 (a.add (i * c)) c).getD []
  have hF : ∀ i, i < len → W.cells? 0 (a.add (i * c)) c = some (F i) := fun i hi => by
    obtain ⟨l, y, k1, _⟩ := each i hi
    show _ = some ((W.cells? 0 (a.add (i * c)) c).getD [])
    rw [k1]; rfl
  have hlen2 : ((List.range len).map F).length = len := by simp
  have hlc : ∀ l, l ∈ (List.range len).map F → l.length = c := fun l hl => by
    obtain ⟨i, hi, rfl⟩ := List.mem_map.1 hl
    exact (World.cells?_some (hF i (List.mem_range.1 hi))).2.1
  refine ⟨_, (List.range len).map F, e1, ?_, ?_, fun l hl => ?_⟩
  · rw [hlen2]
    refine ⟨some a, cap, rfl, ⟨Nat.le_trans hl hm, hl⟩, fun hn => ?_⟩
    have c0 := (World.cells?_some (hF 0 hn)).2.2 0 h0
    obtain ⟨g, o, sp⟩ := a
    have hc0 : ∃ u, W.cell? ((⟨g, o, sp⟩ : Addr).add (0 * c) |>.add 0) = some u := ⟨_, c0.trans (List.getElem?_eq_getElem (by rw [(World.cells?_some (hF 0 hn)).2.1]; exact h0))⟩
    obtain ⟨u, hu⟩ := hc0
    have hs : sp = none := by
      have := World.cell?_spot hu
      simpa [Addr.add] using this
    subst hs
    have hall : ∀ j u, ((List.range len).map F).flatten[j]? = some u → W.cell? ⟨g, o + j, none⟩ = some u := fun j u hj => by
      have hjl := (List.getElem?_eq_some_iff.1 hj).1
      rw [flatten_len _ hlc, hlen2] at hjl
      rw [flatten_at h0 _ hlc, Option.bind_eq_some_iff] at hj
      obtain ⟨l, k1, k2⟩ := hj
      have hd : j / c < len := Nat.div_lt_of_lt_mul (by rw [Nat.mul_comm]; exact hjl)
      rw [List.getElem?_map, List.getElem?_range hd] at k1
      obtain rfl : F (j / c) = l := by simpa using k1
      have k3 := (World.cells?_some (hF (j / c) hd)).2.2 (j % c) (Nat.mod_lt _ h0)
      rw [k2, add_plain, add_plain] at k3
      rw [show o + j = o + j / c * c + j % c by have := Nat.div_add_mod j c; rw [Nat.mul_comm] at this; omega]
      exact k3
    refine ⟨g, o, rfl, trivial, ?_, hall, fun j hj => h2 g (o + j) ?_⟩
    · rw [add_plain, add_plain] at hu
      exact cell_in hu
    · rw [e2]
      refine List.mem_append_left _ ?_
      rw [flatten_len _ hlc, hlen2] at hj
      refine List.mem_map.2 ⟨j, List.mem_range.2 (Nat.lt_of_lt_of_le hj ?_), rfl⟩
      exact Nat.mul_le_mul_right _ (by omega)
  · rw [hlen2]
    rw [e2] at h3
    have h4 := bulk_slice (elems.map (·.1)) (rest.map (·.1))
    rw [List.length_map, List.length_map] at h4
    simp only at h3
    omega
  · obtain ⟨i, hi, rfl⟩ := List.mem_map.1 hl
    obtain ⟨l, y, k1, k2, k3⟩ := each i (List.mem_range.1 hi)
    have e3 : F i = l := by show (W.cells? 0 (a.add (i * c)) c).getD [] = l; rw [k1]; rfl
    rw [e3]
    refine ⟨n, y, k2, fun b o' hm' => h2 b o' ?_, ?_⟩
    · rw [e2]
      exact List.mem_append_right _ (List.mem_flatMap.2 ⟨y, List.mem_append_left _ k3, hm'⟩)
    · rw [e2] at h3
      have h4 := bulk_part (List.mem_map.2 ⟨y, k3, rfl⟩ : y.1 ∈ elems.map (·.1))
      simp only [Rows.uptoBulk] at h3
      omega
end
theorem OpK.at {H : Type} {enc : TypeId × Value → H} {P : Program} {W : World} {R : Nat} {t : TypeId} {cs : List Value} {fs : Array Field} {l : List (TypeId × Nat)} (ht : P.underlying t = some (.struct fs)) (hl : fs.toList.map (fun f => (f.type, f.offset)) = l) (h : OpK enc P W R t cs)
    (i : Nat) {u : TypeId} {o c : Nat} (hi : l[i]? = some (u, o)) (hc : P.cellsOf u = c) : OpK enc P W R u ((cs.drop o).take c) := by
  obtain ⟨f, h1, h2, h3⟩ := fields_at hl hi
  have := (h.field ht).2 i f h1
  rw [h2, h3, hc] at this
  exact this
theorem cut4 {cs : List Value} (h : cs.length = 4) : ∃ a b c d, cs = [a, b, c, d] := by
  match cs, h with
  | [a, b, c, d], _ => exact ⟨a, b, c, d, rfl⟩
theorem Try.structK_it : Try.prog.underlying 40 = some (.struct (Try.prog.fieldsOf 40)) := by kernel_rfl
theorem Try.fieldsK_it : (Try.prog.fieldsOf 40).toList.map (fun f => (f.type, f.offset)) = [(3, 0), (9, 1), (3, 2), (3, 3)] := by kernel_rfl
theorem Try.cellsK_it : Try.prog.cellsOf 40 = 4 := by kernel_rfl
theorem Try.structK_cj : Try.prog.underlying 43 = some (.struct (Try.prog.fieldsOf 43)) := by kernel_rfl
theorem Try.fieldsK_cj : (Try.prog.fieldsOf 43).toList.map (fun f => (f.type, f.offset)) = [(4, 0), (41, 1)] := by kernel_rfl
theorem Try.cellsK_cj : Try.prog.cellsOf 43 = 2 := by kernel_rfl
theorem Try.structK_df : Try.prog.underlying 35 = some (.struct (Try.prog.fieldsOf 35)) := by kernel_rfl
theorem Try.fieldsK_df : (Try.prog.fieldsOf 35).toList.map (fun f => (f.type, f.offset)) = [(9, 0), (33, 1)] := by kernel_rfl
theorem Try.cellsK_df : Try.prog.cellsOf 35 = 2 := by kernel_rfl
theorem Try.structK_raw : Try.prog.underlying 25 = some (.struct (Try.prog.fieldsOf 25)) := by kernel_rfl
theorem Try.fieldsK_raw : (Try.prog.fieldsOf 25).toList.map (fun f => (f.type, f.offset)) = [(22, 0), (23, 1)] := by kernel_rfl
theorem Try.cellsK_raw : Try.prog.cellsOf 25 = 2 := by kernel_rfl
theorem Try.cellsK_its : Try.prog.cellsOf 41 = 1 := by kernel_rfl
theorem Try.cellsK_cjs : Try.prog.cellsOf 44 = 1 := by kernel_rfl
theorem Try.cellsK_als : Try.prog.cellsOf 33 = 1 := by kernel_rfl
theorem Try.cellsK_dfs : Try.prog.cellsOf 23 = 1 := by kernel_rfl
theorem Try.cellsK_strs : Try.prog.cellsOf 22 = 1 := by kernel_rfl
theorem Try.cellsK_str : Try.prog.cellsOf 9 = 1 := by kernel_rfl
theorem Try.cellsK_int : Try.prog.cellsOf 3 = 1 := by kernel_rfl
theorem Try.cellsK_bool : Try.prog.cellsOf 4 = 1 := by kernel_rfl
theorem Try.underK_its : Try.prog.underlying 41 = some (.slice 40) := by kernel_rfl
theorem Try.underK_cjs : Try.prog.underlying 44 = some (.slice 43) := by kernel_rfl
theorem Try.underK_als : Try.prog.underlying 33 = some (.slice 44) := by kernel_rfl
theorem Try.underK_dfs : Try.prog.underlying 23 = some (.slice 35) := by kernel_rfl
theorem Try.underK_strs : Try.prog.underlying 22 = some (.slice 9) := by kernel_rfl
theorem Try.underK_int : Try.prog.underlying 3 = some (.int .i64) := by kernel_rfl
theorem Try.underK_str : Try.prog.underlying 9 = some .string := by kernel_rfl
theorem Try.underK_bool : Try.prog.underlying 4 = some .bool := by kernel_rfl

section
variable {H : Type} {enc : TypeId × Value → H} {W : World} {R : Nat} {cs : List Value}
theorem opk_it (h : OpK enc Try.prog W R 40 cs) : ∃ i : It, cs = itV i ∧ i.text.size ≤ R := by
  obtain ⟨a, b, c, d, rfl⟩ := cut4 ((h.field Try.structK_it).1.trans Try.cellsK_it)
  obtain ⟨x, e1, _⟩ := (h.at Try.structK_it Try.fieldsK_it 0 rfl Try.cellsK_int).int Try.underK_int
  obtain ⟨y, e2, _, hy⟩ := (h.at Try.structK_it Try.fieldsK_it 1 rfl Try.cellsK_str).str Try.underK_str
  obtain ⟨z, e3, _⟩ := (h.at Try.structK_it Try.fieldsK_it 2 rfl Try.cellsK_int).int Try.underK_int
  obtain ⟨u, e4, _⟩ := (h.at Try.structK_it Try.fieldsK_it 3 rfl Try.cellsK_int).int Try.underK_int
  simp at e1 e2 e3 e4
  subst e1 e2 e3 e4
  exact ⟨⟨x, y, z, u⟩, rfl, hy⟩
theorem opk_its (h : OpK enc Try.prog W R 41 cs) : ∃ (v : Value) (L : List It), cs = [v] ∧ IsIts W Any v L ∧ L.length ≤ R ∧ ∀ i, i ∈ L → i.text.size ≤ R := by
  obtain ⟨v, ls, e1, hr, hb, hall⟩ := h.row Try.underK_its Try.cellsK_it (by decide)
  obtain ⟨L, h1, h2⟩ := pick (Q := fun (s : It) l => l = itV s ∧ s.text.size ≤ R) ls (fun l hl => opk_it (hall l hl))
  have e2 : ls.flatten = itsV L := by
    clear hr hb hall e1
    induction L generalizing ls with
    | nil =>
      obtain rfl : ls = [] := List.length_eq_zero_iff.1 h1.symm
      rfl
    | cons s L ih =>
      match ls, h1, h2 with
      | [], h1, _ => simp at h1
      | l :: ls, h1, h2 =>
        have e3 := (h2 0 s l rfl rfl).1
        rw [List.flatten_cons, ih ls (by simpa using h1) (fun i a l e1 e2 => h2 (i + 1) a l (by simpa using e1) (by simpa using e2)), e3]
        rfl
  rw [e2, ← h1] at hr
  rw [← h1] at hb
  refine ⟨v, L, e1, hr, hb, fun s hs => ?_⟩
  obtain ⟨k, hk⟩ := List.getElem?_of_mem hs
  have hkl : k < ls.length := by rw [← h1]; exact (List.getElem?_eq_some_iff.1 hk).1
  exact (h2 k s _ hk (List.getElem?_eq_getElem hkl)).2
def okI (R : Nat) (l : List It) : Prop := l.length ≤ R ∧ ∀ i, i ∈ l → i.text.size ≤ R
theorem opk_cj (h : OpK enc Try.prog W R 43 cs) : ∃ (q : Cj × Value), cs = [.bool q.1.neg, q.2] ∧ IsIts W Any q.2 q.1.items ∧ okI R q.1.items := by
  obtain ⟨a, b, rfl⟩ := cut2 ((h.field Try.structK_cj).1.trans Try.cellsK_cj)
  obtain ⟨x, e1⟩ := (h.at Try.structK_cj Try.fieldsK_cj 0 rfl Try.cellsK_bool).bool Try.underK_bool
  obtain ⟨v, L, e2, h1, h2⟩ := opk_its (h.at Try.structK_cj Try.fieldsK_cj 1 rfl Try.cellsK_its)
  simp at e1 e2
  subst e1 e2
  exact ⟨(⟨x, L⟩, b), rfl, h1, h2⟩
theorem opk_cjs (h : OpK enc Try.prog W R 44 cs) : ∃ (v : Value) (L : List Cj), cs = [v] ∧ IsCjs W Any v L ∧ L.length ≤ R ∧ ∀ c, c ∈ L → okI R c.items := by
  obtain ⟨v, ls, e1, hr, hb, hall⟩ := h.row Try.underK_cjs Try.cellsK_cj (by decide)
  obtain ⟨L, h1, h2⟩ := pick (Q := fun (q : Cj × Value) l => l = [.bool q.1.neg, q.2] ∧ IsIts W Any q.2 q.1.items ∧ okI R q.1.items) ls (fun l hl => opk_cj (hall l hl))
  have e2 : ls.flatten = cjsV (L.map (·.1)) (L.map (·.2)) := by
    clear hr hb hall e1
    induction L generalizing ls with
    | nil =>
      obtain rfl : ls = [] := List.length_eq_zero_iff.1 h1.symm
      rfl
    | cons s L ih =>
      match ls, h1, h2 with
      | [], h1, _ => simp at h1
      | l :: ls, h1, h2 =>
        have e3 := (h2 0 s l rfl rfl).1
        rw [List.flatten_cons, ih ls (by simpa using h1) (fun i a l e1 e2 => h2 (i + 1) a l (by simpa using e1) (by simpa using e2)), e3]
        rfl
  have hm : (L.map (·.1)).length = ls.length := by rw [List.length_map, h1]
  rw [e2, ← hm] at hr
  rw [← hm] at hb
  have each : ∀ k q, L[k]? = some q → ∃ l, ls[k]? = some l := fun k q hk => by
    have hk : k < ls.length := by rw [← h1]; exact (List.getElem?_eq_some_iff.1 hk).1
    exact ⟨_, List.getElem?_eq_getElem hk⟩
  refine ⟨v, L.map (·.1), e1, ⟨L.map (·.2), hr, by simp, fun k c u k1 k2 => ?_⟩, hb, fun c hc => ?_⟩
  · rw [List.getElem?_map, Option.map_eq_some_iff] at k1 k2
    obtain ⟨q, q1, rfl⟩ := k1
    obtain ⟨q', q2, rfl⟩ := k2
    obtain rfl : q = q' := by rw [q1] at q2; injection q2
    obtain ⟨l, hl⟩ := each k q q1
    exact (h2 k q l q1 hl).2.1
  · obtain ⟨q, hq, rfl⟩ := List.mem_map.1 hc
    obtain ⟨k, hk⟩ := List.getElem?_of_mem hq
    obtain ⟨l, hl⟩ := each k q hk
    exact (h2 k q l hk hl).2.2
def okA (R : Nat) (l : List Cj) : Prop := l.length ≤ R ∧ ∀ c, c ∈ l → okI R c.items
theorem opk_als (h : OpK enc Try.prog W R 33 cs) : ∃ (v : Value) (L : List (List Cj)), cs = [v] ∧ IsAlts W Any v L ∧ L.length ≤ R ∧ ∀ a, a ∈ L → okA R a := by
  obtain ⟨v, ls, e1, hr, hb, hall⟩ := h.row Try.underK_als Try.cellsK_cjs (by decide)
  obtain ⟨L, h1, h2⟩ := pick (Q := fun (q : List Cj × Value) l => l = [q.2] ∧ IsCjs W Any q.2 q.1 ∧ okA R q.1) ls (fun l hl => by
    obtain ⟨v, L, h1, h2, h3, h4⟩ := opk_cjs (hall l hl)
    exact ⟨(L, v), h1, h2, h3, h4⟩)
  have e2 : ls.flatten = L.map (·.2) := by
    clear hr hb hall e1
    induction L generalizing ls with
    | nil =>
      obtain rfl : ls = [] := List.length_eq_zero_iff.1 h1.symm
      rfl
    | cons s L ih =>
      match ls, h1, h2 with
      | [], h1, _ => simp at h1
      | l :: ls, h1, h2 =>
        have e3 := (h2 0 s l rfl rfl).1
        rw [List.flatten_cons, ih ls (by simpa using h1) (fun i a l e1 e2 => h2 (i + 1) a l (by simpa using e1) (by simpa using e2)), e3]
        rfl
  have hm : (L.map (·.1)).length = ls.length := by rw [List.length_map, h1]
  rw [e2, ← hm] at hr
  rw [← hm] at hb
  have each : ∀ k q, L[k]? = some q → ∃ l, ls[k]? = some l := fun k q hk => by
    have hk : k < ls.length := by rw [← h1]; exact (List.getElem?_eq_some_iff.1 hk).1
    exact ⟨_, List.getElem?_eq_getElem hk⟩
  refine ⟨v, L.map (·.1), e1, ⟨L.map (·.2), hr, by simp, fun k c u k1 k2 => ?_⟩, hb, fun c hc => ?_⟩
  · rw [List.getElem?_map, Option.map_eq_some_iff] at k1 k2
    obtain ⟨q, q1, rfl⟩ := k1
    obtain ⟨q', q2, rfl⟩ := k2
    obtain rfl : q = q' := by rw [q1] at q2; injection q2
    obtain ⟨l, hl⟩ := each k q q1
    exact (h2 k q l q1 hl).2.1
  · obtain ⟨q, hq, rfl⟩ := List.mem_map.1 hc
    obtain ⟨k, hk⟩ := List.getElem?_of_mem hq
    obtain ⟨l, hl⟩ := each k q hk
    exact (h2 k q l hk hl).2.2
def okD (R : Nat) (d : Df) : Prop := d.name.size ≤ R ∧ d.alts.length ≤ R ∧ ∀ a, a ∈ d.alts → okA R a
theorem opk_df (h : OpK enc Try.prog W R 35 cs) : ∃ (q : Df × Value), cs = [.string q.1.name, q.2] ∧ IsAlts W Any q.2 q.1.alts ∧ okD R q.1 := by
  obtain ⟨a, b, rfl⟩ := cut2 ((h.field Try.structK_df).1.trans Try.cellsK_df)
  obtain ⟨x, e1, _, hx⟩ := (h.at Try.structK_df Try.fieldsK_df 0 rfl Try.cellsK_str).str Try.underK_str
  obtain ⟨v, L, e2, h1, h2⟩ := opk_als (h.at Try.structK_df Try.fieldsK_df 1 rfl Try.cellsK_als)
  simp at e1 e2
  subst e1 e2
  exact ⟨(⟨x, L⟩, b), rfl, h1, hx, h2⟩
theorem opk_dfs (h : OpK enc Try.prog W R 23 cs) : ∃ (v : Value) (L : List Df), cs = [v] ∧ IsDefs W Any v L ∧ L.length ≤ R ∧ ∀ d, d ∈ L → okD R d := by
  obtain ⟨v, ls, e1, hr, hb, hall⟩ := h.row Try.underK_dfs Try.cellsK_df (by decide)
  obtain ⟨L, h1, h2⟩ := pick (Q := fun (q : Df × Value) l => l = [.string q.1.name, q.2] ∧ IsAlts W Any q.2 q.1.alts ∧ okD R q.1) ls (fun l hl => opk_df (hall l hl))
  have e2 : ls.flatten = dfsV (L.map (·.1)) (L.map (·.2)) := by
    clear hr hb hall e1
    induction L generalizing ls with
    | nil =>
      obtain rfl : ls = [] := List.length_eq_zero_iff.1 h1.symm
      rfl
    | cons s L ih =>
      match ls, h1, h2 with
      | [], h1, _ => simp at h1
      | l :: ls, h1, h2 =>
        have e3 := (h2 0 s l rfl rfl).1
        rw [List.flatten_cons, ih ls (by simpa using h1) (fun i a l e1 e2 => h2 (i + 1) a l (by simpa using e1) (by simpa using e2)), e3]
        rfl
  have hm : (L.map (·.1)).length = ls.length := by rw [List.length_map, h1]
  rw [e2, ← hm] at hr
  rw [← hm] at hb
  have each : ∀ k q, L[k]? = some q → ∃ l, ls[k]? = some l := fun k q hk => by
    have hk : k < ls.length := by rw [← h1]; exact (List.getElem?_eq_some_iff.1 hk).1
    exact ⟨_, List.getElem?_eq_getElem hk⟩
  refine ⟨v, L.map (·.1), e1, ⟨L.map (·.2), hr, by simp, fun k c u k1 k2 => ?_⟩, hb, fun c hc => ?_⟩
  · rw [List.getElem?_map, Option.map_eq_some_iff] at k1 k2
    obtain ⟨q, q1, rfl⟩ := k1
    obtain ⟨q', q2, rfl⟩ := k2
    obtain rfl : q = q' := by rw [q1] at q2; injection q2
    obtain ⟨l, hl⟩ := each k q q1
    exact (h2 k q l q1 hl).2.1
  · obtain ⟨q, hq, rfl⟩ := List.mem_map.1 hc
    obtain ⟨k, hk⟩ := List.getElem?_of_mem hq
    obtain ⟨l, hl⟩ := each k q hk
    exact (h2 k q l hk hl).2.2
theorem opk_strs (h : OpK enc Try.prog W R 22 cs) : ∃ (v : Value) (L : List ByteArray), cs = [v] ∧ IsTexts W Any v L ∧ L.length ≤ R ∧ ∀ s, s ∈ L → s.size ≤ maxLen ∧ s.size ≤ R := by
  obtain ⟨v, ls, e1, hr, hb, hall⟩ := h.row Try.underK_strs Try.cellsK_str (by decide)
  obtain ⟨L, h1, h2⟩ := pick (Q := fun (s : ByteArray) l => l = [.string s] ∧ s.size ≤ maxLen ∧ s.size ≤ R) ls (fun l hl => (hall l hl).str Try.underK_str)
  have e2 : ls.flatten = txV L := by
    clear hr hb hall e1
    induction L generalizing ls with
    | nil =>
      obtain rfl : ls = [] := List.length_eq_zero_iff.1 h1.symm
      rfl
    | cons s L ih =>
      match ls, h1, h2 with
      | [], h1, _ => simp at h1
      | l :: ls, h1, h2 =>
        have e3 := (h2 0 s l rfl rfl).1
        rw [List.flatten_cons, ih ls (by simpa using h1) (fun i a l e1 e2 => h2 (i + 1) a l (by simpa using e1) (by simpa using e2)), e3]
        rfl
  rw [e2, ← h1] at hr
  rw [← h1] at hb
  refine ⟨v, L, e1, hr, hb, fun s hs => ?_⟩
  obtain ⟨k, hk⟩ := List.getElem?_of_mem hs
  have hkl : k < ls.length := by rw [← h1]; exact (List.getElem?_eq_some_iff.1 hk).1
  exact (h2 k s _ hk (List.getElem?_eq_getElem hkl)).2
theorem rules_len (names : List ByteArray) : ∀ l : List Df, (∀ d, d ∈ l → d.alts.length ≤ R) → (rulesT names l).length ≤ l.length * R
  | [], _ => by simp [rulesT]
  | d :: l, h => by
    have h1 := rules_len names l (fun x hx => h x (List.mem_cons_of_mem _ hx))
    have h2 := h d List.mem_cons_self
    have h3 : (rulesD names d).length = d.alts.length := by simp [rulesD]
    unfold rulesT at h1 ⊢
    rw [List.flatMap_cons, List.length_append, h3, List.length_cons, Nat.succ_mul]
    omega
/-- Declarations that are an argument of bulk at most 1048576: what Build bears. -/
theorem opk_raw (h : OpK enc Try.prog W 1048576 25 cs) : ∃ (r : Rw) (v1 v2 : Value), cs = [v1, v2] ∧ IsTexts W Any v1 r.starts ∧ IsDefs W Any v2 r.defs ∧ Sized r := by
  obtain ⟨a, b, rfl⟩ := cut2 ((h.field Try.structK_raw).1.trans Try.cellsK_raw)
  obtain ⟨v1, S, e1, h1, h2, h3⟩ := opk_strs (h.at Try.structK_raw Try.fieldsK_raw 0 rfl Try.cellsK_strs)
  obtain ⟨v2, L, e2, h4, h5, h6⟩ := opk_dfs (h.at Try.structK_raw Try.fieldsK_raw 1 rfl Try.cellsK_dfs)
  simp at e1 e2
  subst e1 e2
  refine ⟨⟨S, L⟩, a, b, rfl, h1, h4, fun d hd x hx c hc i hi => ?_, fun d hd => ?_, fun s hs => ?_, ?_, ?_, fun d hd x hx => ?_⟩
  · have := ((h6 d hd).2.2 x hx).2 c hc
    exact Nat.le_trans (this.2 i hi) (by omega)
  · exact Nat.le_trans (h6 d hd).1 (by omega)
  · exact Nat.le_trans (h3 s hs).2 (by omega)
  · show L.length ≤ _; omega
  · have k1 := rules_len (R := 1048576) (namesT L) L (fun d hd => (h6 d hd).2.1)
    have k2 : L.length * 1048576 ≤ 1048576 * 1048576 := Nat.mul_le_mul_right _ h5
    show (rulesT (namesT L) L).length ≤ _
    omega
  · exact Nat.le_trans ((h6 d hd).2.2 x hx).1 (by omega)
set_option maxRecDepth 100000 in
/-- Declarations, out of what a law of the second form says of its argument. -/
theorem open_raw {base : Nat} {v : Value} {d : DataW H} {p : List MemPlace} {l : List (DataW H)} (hv : Value.okWide Try.prog W .any base 25 v) (h : DataW.Trod enc Try.prog W 0 (fun _ => true) true 25 v d p) (hf : W.noneFrozen p)
    (hk : Rows.uptoSmall H l = true) (hd : d ∈ l) : ∃ (r : Rw) (v1 v2 : Value), v = .agg #[v1, v2] ∧ IsTexts W Any v1 r.starts ∧ IsDefs W Any v2 r.defs ∧ Sized r := by
  obtain ⟨cs, rfl, -⟩ := okWide_struct Try.structK_raw hv
  obtain ⟨fuel, hfu⟩ := h
  have hb : Rows.uptoBulkAll l ≤ 1048576 := of_decide_eq_true hk
  obtain ⟨r, v1, v2, e1, h1⟩ := opk_raw (enc := enc) (cs := cs.toList) ⟨fuel, (d, p), hfu, hf, Nat.le_trans (bulk_part hd) hb⟩
  refine ⟨r, v1, v2, ?_, h1⟩
  congr 1
  exact Array.ext' e1
end
end Go.Proofs.Ytopnhbgialbicaa
