/- A grammar that is an argument: opened. -/
import Derived.Test.YtgeajdfajfdjcaaLawOpen
import Derived.Test.YtgeajdfajfdjcaaGramMem
namespace Go.Proofs.Ytgeajdfajfdjcaa
set_option linter.unusedVariables false
open Go.ChangeShapes Go.WideShapes Go.ChangeAt Go.RowKit

section
variable {H : Type} {enc : TypeId × Value → H} {P : Program} {W : World} {R : Nat} {t e : TypeId} {cs : List Value}
/-- The cells cs are read as a value of type t; nothing of it is frozen, none of its parts is greater than R. -/
def Op (enc : TypeId × Value → H) (P : Program) (W : World) (R : Nat) (t : TypeId) (cs : List Value) : Prop :=
  ∃ fuel x, DataW.trod enc P W 0 (fun _ => true) true fuel t cs = some x ∧ W.noneFrozen x.2 ∧ ∀ k, k ∈ x.1.weights P t → k ≤ R
theorem Op.int (ht : P.underlying t = some (.int .i64)) (h : Op enc P W R t cs) : ∃ n, cs = [.int .i64 n] ∧ (Lit.int .i64 n).wf = true := by
  obtain ⟨f, x, h1, _, _⟩ := h
  obtain ⟨n, e1, _, e3⟩ := DataW.trod_int ht h1
  exact ⟨n, e1, e3⟩
theorem Op.bool (ht : P.underlying t = some .bool) (h : Op enc P W R t cs) : ∃ b, cs = [.bool b] := by
  obtain ⟨f, x, h1, _, _⟩ := h
  obtain ⟨b, e1, _⟩ := DataW.trod_bool ht h1
  exact ⟨b, e1⟩
theorem Op.str (ht : P.underlying t = some .string) (h : Op enc P W R t cs) : ∃ s : ByteArray, cs = [.string s] ∧ s.size ≤ maxLen ∧ s.size ≤ R := by
  obtain ⟨f, x, h1, _, h3⟩ := h
  obtain ⟨s, e1, e2, e3⟩ := DataW.trod_string ht h1
  refine ⟨s, e1, e3, ?_⟩
  have := h3 s.data.toList.length (by rw [e2]; simp [DataW.weights])
  rwa [Array.length_toList] at this
theorem Op.field {fs : Array Field} (ht : P.underlying t = some (.struct fs)) (h : Op enc P W R t cs) : cs.length = P.cellsOf t ∧ ∀ (i : Nat) (f : Field), fs[i]? = some f → Op enc P W R f.type ((cs.drop f.offset).take (P.cellsOf f.type)) := by
  obtain ⟨fu, x, h1, h2, h3⟩ := h
  obtain ⟨xs, n, e1, e2, e3, e4, e5⟩ := DataW.trod_struct ht h1
  refine ⟨e3, fun i f hf => ?_⟩
  have hi : i < xs.length := by rw [e4]; exact (Array.getElem?_eq_some_iff.1 hf).1
  have h4 := e5 i f hf
  rw [List.getElem?_eq_getElem hi] at h4
  refine ⟨n, xs[i], h4, fun b o hm => h2 b o ?_, fun k hk => h3 k ?_⟩
  · rw [e2]
    exact List.mem_flatMap.2 ⟨xs[i], List.getElem_mem hi, hm⟩
  · rw [e2]
    simp only [DataW.weights, ht]
    refine DataW.weights_mem_each (j := i) (t := f.type) (d := xs[i].1) ?_ ?_ k hk
    · rw [List.getElem?_map, Array.getElem?_toList, hf]; rfl
    · rw [List.getElem?_map, List.getElem?_eq_getElem hi]; rfl
theorem weightsAll_mem {k : Nat} {d : DataW H} : ∀ {l : List (DataW H)}, d ∈ l → k ∈ d.weights P e → k ∈ DataW.weightsAll P e l
  | [], h, _ => by simp at h
  | x :: l, h, hk => by
    unfold DataW.weightsAll
    rcases List.mem_cons.1 h with e1 | e1
    · subst e1; exact List.mem_append_left _ hk
    · exact List.mem_append_right _ (weightsAll_mem e1 hk)
theorem flatten_at {c : Nat} (hc : 0 < c) : ∀ (ls : List (List Value)), (∀ l, l ∈ ls → l.length = c) → ∀ j, ls.flatten[j]? = (ls[j / c]?).bind fun l => l[j % c]?
  | [], _, j => by simp
  | l :: ls, h, j => by
    have hl := h l List.mem_cons_self
    rw [List.flatten_cons]
    by_cases hj : j < c
    · rw [List.getElem?_append_left (by omega), Nat.div_eq_of_lt hj, Nat.mod_eq_of_lt hj]; rfl
    · rw [List.getElem?_append_right (by omega), flatten_at hc ls (fun x hx => h x (List.mem_cons_of_mem _ hx)), hl]
      have e1 : j / c = (j - c) / c + 1 := by
        conv => lhs; rw [show j = (j - c) + c by omega]
        rw [Nat.add_div_right _ hc]
      have e2 : j % c = (j - c) % c := by
        conv => lhs; rw [show j = (j - c) + c by omega]
        rw [Nat.add_mod_right]
      rw [e1, e2, List.getElem?_cons_succ]
theorem flatten_len {c : Nat} : ∀ (ls : List (List Value)), (∀ l, l ∈ ls → l.length = c) → ls.flatten.length = ls.length * c
  | [], _ => by simp
  | l :: ls, h => by
    rw [List.flatten_cons, List.length_append, flatten_len ls (fun x hx => h x (List.mem_cons_of_mem _ hx)), h l List.mem_cons_self, List.length_cons, Nat.succ_mul]; omega
theorem Op.row {c : Nat} (ht : P.underlying t = some (.slice e)) (hc : P.cellsOf e = c) (h0 : 0 < c) (h : Op enc P W R t cs) :
    ∃ (v : Value) (ls : List (List Value)), cs = [v] ∧ Reads W Any v ls.length ls.flatten ∧ ls.length * P.bytesOf e ≤ R ∧ ∀ l, l ∈ ls → Op enc P W R e l := by
  obtain ⟨fu, x, h1, h2, h3⟩ := h
  rcases DataW.trod_slice ht h1 with ⟨e1, e2⟩ | ⟨a, len, cap, elems, rest, n, _, e1, e2, hb, hl, hm, hlen, hel, hsp, hns⟩
  · exact ⟨_, [], e1, ⟨none, 0, rfl, ⟨Nat.zero_le _, Nat.zero_le _⟩, fun h => absurd h (Nat.lt_irrefl _)⟩, by simp, fun l hl => by simp at hl⟩
  rw [hc] at hel e2
  have each : ∀ i, i < len → ∃ l y, W.cells? 0 (a.add (i * c)) c = some l ∧ DataW.trod enc P W 0 (fun _ => true) true n e l = some y ∧ y ∈ elems := fun i hi => by
    have := hel i hi
    rw [List.getElem?_eq_getElem (by omega), Option.bind_eq_some_iff] at this
    obtain ⟨l, k1, k2⟩ := this
    exact ⟨l, _, k1, k2, List.getElem_mem _⟩
  let F : Nat → List Value := fun i => (W.cells? 0 (a.add (i * c)) c).getD []
  have hF : ∀ i, i < len → W.cells? 0 (a.add (i * c)) c = some (F i) := fun i hi => by
    obtain ⟨l, y, k1, _⟩ := each i hi
    show _ = some ((W.cells? 0 (a.add (i * c)) c).getD [])
    rw [k1]; rfl
  have hlen2 : ((List.range len).map F).length = len := by simp
  have hlc : ∀ l, l ∈ (List.range len).map F → l.length = c := fun l hl => by
    obtain ⟨i, hi, rfl⟩ := List.mem_map.1 hl
    exact (World.cells?_some (hF i (List.mem_range.1 hi))).2.1
  refine ⟨_, (List.range len).map F, e1, ?_, ?_, fun l hl => ?_⟩
  · rw [hlen2]
    refine ⟨some a, cap, rfl, ⟨Nat.le_trans hl hm, hl⟩, fun hn => ?_⟩
    have c0 := (World.cells?_some (hF 0 hn)).2.2 0 h0
    obtain ⟨g, o, sp⟩ := a
    have hc0 : ∃ u, W.cell? ((⟨g, o, sp⟩ : Addr).add (0 * c) |>.add 0) = some u := ⟨_, c0.trans (List.getElem?_eq_getElem (by rw [(World.cells?_some (hF 0 hn)).2.1]; exact h0))⟩
    obtain ⟨u, hu⟩ := hc0
    have hs : sp = none := by
      have := World.cell?_spot hu
      simpa [Addr.add] using this
    subst hs
    have hall : ∀ j u, ((List.range len).map F).flatten[j]? = some u → W.cell? ⟨g, o + j, none⟩ = some u := fun j u hj => by
      have hjl := (List.getElem?_eq_some_iff.1 hj).1
      rw [flatten_len _ hlc, hlen2] at hjl
      rw [flatten_at h0 _ hlc, Option.bind_eq_some_iff] at hj
      obtain ⟨l, k1, k2⟩ := hj
      have hd : j / c < len := Nat.div_lt_of_lt_mul (by rw [Nat.mul_comm]; exact hjl)
      rw [List.getElem?_map, List.getElem?_range hd] at k1
      obtain rfl : F (j / c) = l := by simpa using k1
      have k3 := (World.cells?_some (hF (j / c) hd)).2.2 (j % c) (Nat.mod_lt _ h0)
      rw [k2, add_plain, add_plain] at k3
      rw [show o + j = o + j / c * c + j % c by have := Nat.div_add_mod j c; rw [Nat.mul_comm] at this; omega]
      exact k3
    refine ⟨g, o, rfl, trivial, ?_, hall, fun j hj => h2 g (o + j) ?_⟩
    · rw [add_plain, add_plain] at hu
      exact cell_in hu
    · rw [e2]
      refine List.mem_append_left _ ?_
      rw [flatten_len _ hlc, hlen2] at hj
      refine List.mem_map.2 ⟨j, List.mem_range.2 (Nat.lt_of_lt_of_le hj ?_), rfl⟩
      exact Nat.mul_le_mul_right _ (by omega)
  · rw [hlen2]
    have := h3 ((elems.length + rest.length) * P.bytesOf e) (by rw [e2]; simp only [DataW.weights, ht, List.length_map]; exact List.mem_cons_self)
    exact Nat.le_trans (Nat.mul_le_mul_right _ (by omega)) this
  · obtain ⟨i, hi, rfl⟩ := List.mem_map.1 hl
    obtain ⟨l, y, k1, k2, k3⟩ := each i (List.mem_range.1 hi)
    have e3 : F i = l := by show (W.cells? 0 (a.add (i * c)) c).getD [] = l; rw [k1]; rfl
    rw [e3]
    refine ⟨n, y, k2, fun b o' hm' => h2 b o' ?_, fun k hk => h3 k ?_⟩
    · rw [e2]
      exact List.mem_append_right _ (List.mem_flatMap.2 ⟨y, List.mem_append_left _ k3, hm'⟩)
    · rw [e2]
      simp only [DataW.weights, ht]
      exact List.mem_cons_of_mem _ (List.mem_append_left _ (weightsAll_mem (List.mem_map.2 ⟨y, k3, rfl⟩) hk))
/-- For each of a row something, all together. -/
theorem pick {α β : Type} {Q : α → β → Prop} : ∀ ls : List β, (∀ l, l ∈ ls → ∃ a, Q a l) → ∃ L : List α, L.length = ls.length ∧ ∀ (i : Nat) (a : α) (l : β), L[i]? = some a → ls[i]? = some l → Q a l
  | [], _ => ⟨[], rfl, fun i a l h => by simp at h⟩
  | l :: ls, h => by
    obtain ⟨a, ha⟩ := h l List.mem_cons_self
    obtain ⟨L, h1, h2⟩ := pick ls (fun x hx => h x (List.mem_cons_of_mem _ hx))
    refine ⟨a :: L, by simp [h1], fun i b m e1 e2 => ?_⟩
    match i, e1, e2 with
    | 0, e1, e2 =>
      obtain rfl : a = b := by simpa using e1
      obtain rfl : l = m := by simpa using e2
      exact ha
    | i + 1, e1, e2 => exact h2 i b m (by simpa using e1) (by simpa using e2)
end
theorem cut3 {cs : List Value} (h : cs.length = 3) : ∃ a b c, cs = [a, b, c] := by
  match cs, h with
  | [a, b, c], _ => exact ⟨a, b, c, rfl⟩
theorem cut2 {cs : List Value} (h : cs.length = 2) : ∃ a b, cs = [a, b] := by
  match cs, h with
  | [a, b], _ => exact ⟨a, b, rfl⟩
theorem cut1 {cs : List Value} (h : cs.length = 1) : ∃ a, cs = [a] := by
  match cs, h with
  | [a], _ => exact ⟨a, rfl⟩
theorem fields_at {fs : Array Field} {l : List (TypeId × Nat)} (h : fs.toList.map (fun f => (f.type, f.offset)) = l) {i : Nat} {t : TypeId} {o : Nat} (hi : l[i]? = some (t, o)) : ∃ f, fs[i]? = some f ∧ f.type = t ∧ f.offset = o := by
  subst h
  rw [List.getElem?_map, Option.map_eq_some_iff] at hi
  obtain ⟨f, h1, h2⟩ := hi
  injection h2 with h2 h3
  exact ⟨f, by rw [← Array.getElem?_toList]; exact h1, h2, h3⟩
theorem Op.at {H : Type} {enc : TypeId × Value → H} {P : Program} {W : World} {R : Nat} {t : TypeId} {cs : List Value} {fs : Array Field} {l : List (TypeId × Nat)} (ht : P.underlying t = some (.struct fs)) (hl : fs.toList.map (fun f => (f.type, f.offset)) = l) (h : Op enc P W R t cs)
    (i : Nat) {u : TypeId} {o c : Nat} (hi : l[i]? = some (u, o)) (hc : P.cellsOf u = c) : Op enc P W R u ((cs.drop o).take c) := by
  obtain ⟨f, h1, h2, h3⟩ := fields_at hl hi
  have := (h.field ht).2 i f h1
  rw [h2, h3, hc] at this
  exact this

section
variable {H : Type} {enc : TypeId × Value → H} {W : World} {R : Nat} {cs : List Value}
theorem Try.bytesStr : Try.prog.bytesOf 9 = 16 := by kernel_rfl
theorem Try.cellsStr : Try.prog.cellsOf 9 = 1 := by kernel_rfl
theorem Try.cellsBool : Try.prog.cellsOf 4 = 1 := by kernel_rfl
theorem reads_len {v v' : Value} {n n' : Nat} {xs xs' : List Value} (h : Reads W Any v n xs) (h' : Reads W Any v' n' xs') (e : v = v') : n = n' := by
  obtain ⟨p, c, e1, _⟩ := h
  obtain ⟨p', c', e2, _⟩ := h'
  rw [e1, e2] at e
  injection e
/-- A struct, out of what a law says of its argument j. -/
theorem open_agg {P : Program} {t : TypeId} {base j : Nat} {v : Value} {d : DataW H} {p : List MemPlace} {ts : List TypeId} {ds : List (DataW H)} {fs : Array Field} (hu : P.underlying t = some (.struct fs)) (hv : Value.okWide P W .any base t v) (h : DataW.Trod enc P W 0 (fun _ => true) true t v d p) (hf : W.noneFrozen p)
    (hs : (DataW.weightsEach P ts ds).all (· ≤ R) = true) (ht : ts[j]? = some t) (hd : ds[j]? = some d) : ∃ l : List Value, v = .agg l.toArray ∧ Op enc P W R t l := by
  obtain ⟨cs, rfl, -⟩ := okWide_struct hu hv
  obtain ⟨fuel, hfu⟩ := h
  exact ⟨cs.toList, by simp, fuel, (d, p), hfu, hf, fun k hk => by
    have h1 := DataW.weights_mem_each ht hd k hk
    rw [List.all_eq_true] at hs
    exact of_decide_eq_true (hs k h1)⟩
end
end Go.Proofs.Ytgeajdfajfdjcaa
