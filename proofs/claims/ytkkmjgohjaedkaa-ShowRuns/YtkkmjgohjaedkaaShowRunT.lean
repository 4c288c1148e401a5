/- Bytes one by one are one text; ranges and names stand alone: a text built as the symbols come. No program in sight. -/
import Derived.Test.YtkkmjgohjaedkaaShowAwake
namespace Go.Proofs.Ytkkmjgohjaedkaa
set_option linter.unusedVariables false

def gR (l : List Sy) : Gr := ⟨0, [⟨#[113]⟩], [⟨0, [⟨true, l⟩]⟩]⟩
def psR (l : List Sy) : List Part := l.foldl (symP [⟨#[113]⟩]) []
def jP (ps : List Part) : List UInt8 := joinN [32] (partAt ps) ps.length
def spT (n : Nat) : List UInt8 := if 0 < n then [32] else []
theorem jP_snoc (ps : List Part) (p : Part) : jP (ps ++ [p]) = jP ps ++ spT ps.length ++ partT p := by
  unfold jP
  rw [List.length_append, List.length_cons, List.length_nil, Nat.zero_add]
  show joinN [32] (partAt (ps ++ [p])) ps.length ++ (if 0 < ps.length then [32] else []) ++ partAt (ps ++ [p]) ps.length = _
  rw [joinN_congr [32] (partAt (ps ++ [p])) (partAt ps) ps.length (fun i hi => by
    unfold partAt
    rw [List.getD_eq_getElem?_getD, List.getD_eq_getElem?_getD, List.getElem?_append_left hi])]
  have e : partAt (ps ++ [p]) ps.length = partT p := by
    unfold partAt
    rw [List.getD_eq_getElem?_getD, List.getElem?_append_right (Nat.le_refl _), Nat.sub_self]; rfl
  rw [e]; rfl
theorem part_ne {p : Part} (h : ∀ s, p ≠ .inr (.inr s)) : partT p ≠ [] := by
  match p, h with
  | .inl l, _ => simp [partT, quoT]
  | .inr (.inl (a, b)), _ => simp [partT, quoT]
  | .inr (.inr s), h => exact absurd rfl (h s)
/-- The parts so far, the text so far, whether it stands inside a text. -/
def RI (ps : List Part) (t : List UInt8) : Bool → Prop
  | true => ∃ ps' l, ps = ps' ++ [.inl l] ∧ t = jP ps' ++ spT ps'.length ++ [34] ++ l.flatMap (escT 34)
  | false => t = jP ps ∧ (∀ ps' l, ps ≠ ps' ++ [.inl l]) ∧ (t = [] ↔ ps = [])
theorem RI.shut {ps : List Part} {t : List UInt8} (h : RI ps t true) : t ++ [34] = jP ps ∧ ps ≠ [] := by
  obtain ⟨ps', l, rfl, rfl⟩ := h
  refine ⟨?_, by simp⟩
  rw [jP_snoc]
  simp [partT, quoT]
theorem add_new {ps : List Part} (h : ∀ ps' l, ps ≠ ps' ++ [Sum.inl l]) (c : UInt8) : addT ps c = ps ++ [.inl [c]] := by
  rcases List.eq_nil_or_concat ps with e | ⟨qs, p, e⟩
  · subst e; rfl
  · rw [List.concat_eq_append] at e
    subst e
    rw [addT_snoc]
    match p, h with
    | .inl l, h => exact absurd rfl (h qs l)
    | .inr x, _ => simp
theorem sp_of {ps : List Part} {t : List UInt8} (h : t = [] ↔ ps = []) : (if t = [] then t else t ++ [32]) = t ++ spT ps.length := by
  by_cases e : ps = []
  · have := h.2 e
    subst e; subst this; rfl
  · have h1 : ¬ t = [] := fun k => e (h.1 k)
    rw [if_neg h1]
    unfold spT
    rw [if_pos (List.length_pos_iff.2 e)]
theorem RI.byteIn {ps : List Part} {t : List UInt8} (h : RI ps t true) : RI (symP [⟨#[113]⟩] ps ⟨-1, 97, 97⟩) (t ++ [97]) true := by
  obtain ⟨ps', l, rfl, rfl⟩ := h
  show RI (addT (ps' ++ [.inl l]) 97) _ true
  rw [addT_snoc]
  refine ⟨ps', l ++ [97], rfl, ?_⟩
  rw [List.flatMap_append, show List.flatMap (escT 34) [97] = [97] by decide]
  simp
theorem RI.byteNew {ps : List Part} {t : List UInt8} (h : RI ps t false) : RI (symP [⟨#[113]⟩] ps ⟨-1, 97, 97⟩) ((if t = [] then t else t ++ [32]) ++ [34] ++ [97]) true := by
  obtain ⟨h1, h2, h3⟩ := h
  show RI (addT ps 97) _ true
  rw [add_new h2, sp_of h3]
  refine ⟨ps, [97], rfl, ?_⟩
  rw [show List.flatMap (escT 34) [97] = [97] by decide, h1]
theorem RI.other {ps : List Part} {t : List UInt8} (e1 : t = jP ps) (e3 : t = [] ↔ ps = []) (x : (UInt8 × UInt8) ⊕ ByteArray) (hx : partT (.inr x) ≠ []) : RI (ps ++ [.inr x]) ((if t = [] then t else t ++ [32]) ++ partT (.inr x)) false := by
  refine ⟨?_, fun ps' l e => ?_, ?_⟩
  · rw [sp_of e3, jP_snoc, e1]
  · have := congrArg List.getLast? e
    simp at this
  · constructor
    · intro e
      rw [List.append_eq_nil_iff] at e
      exact absurd e.2 hx
    · intro e; simp at e
theorem shut_iff {ps : List Part} {t : List UInt8} (h : RI ps t true) : t ++ [34] = [] ↔ ps = [] := by
  constructor
  · intro e; simp at e
  · intro e; exact absurd e h.shut.2
/-- The symbols so far, the text so far. -/
def Rn (l : List Sy) (t : ByteArray) (b : Bool) : Prop := (∀ s, s ∈ l → maySym 1 s = true) ∧ (l = [] ↔ psR l = []) ∧ RI (psR l) t.data.toList b
theorem psR_snoc (l : List Sy) (s : Sy) : psR (l ++ [s]) = symP [⟨#[113]⟩] (psR l) s := by
  unfold psR; rw [List.foldl_append]; rfl
theorem may_snoc {l : List Sy} {s : Sy} (h : ∀ x, x ∈ l → maySym 1 x = true) (hs : maySym 1 s = true) : ∀ x, x ∈ l ++ [s] → maySym 1 x = true := by
  intro x hx
  rcases List.mem_append.1 hx with e | e
  · exact h x e
  · rw [List.mem_singleton] at e; rw [e]; exact hs
theorem em_iff (t : ByteArray) : t.data.toList = [] ↔ t = ⟨#[]⟩ := by
  constructor
  · intro h
    apply ByteArray.ext
    apply Array.toList_inj.1
    rw [h]
  · rintro rfl; rfl
theorem ne_iff {l : List Sy} {s : Sy} {ps : List Part} {t : List UInt8} {b : Bool} (h : RI ps t b) (e : ps = psR (l ++ [s])) (hn : b = true ∨ t ≠ []) : (l ++ [s] = [] ↔ psR (l ++ [s]) = []) := by
  constructor
  · intro h; simp at h
  · intro h0
    subst e
    cases b with
    | true => exact absurd h0 h.shut.2
    | false =>
      rcases hn with e | e
      · simp at e
      · exact absurd (h.2.2.2 h0) e
theorem Rn.nil : Rn [] ⟨#[]⟩ false := ⟨fun s hs => by simp at hs, ⟨fun _ => rfl, fun _ => rfl⟩, rfl, fun ps' l e => by have := congrArg List.length e; simp [psR] at this, ⟨fun _ => rfl, fun _ => rfl⟩⟩
theorem Rn.mk {l : List Sy} {s : Sy} {t : ByteArray} {b : Bool} (h : ∀ x, x ∈ l → maySym 1 x = true) (hs : maySym 1 s = true) (hr : RI (symP [⟨#[113]⟩] (psR l) s) t.data.toList b) (hn : b = true ∨ t.data.toList ≠ []) : Rn (l ++ [s]) t b := by
  rw [← psR_snoc] at hr
  exact ⟨may_snoc h hs, ne_iff hr rfl hn, hr⟩
theorem Rn.a1 {l : List Sy} {t : ByteArray} (h : Rn l t true) : Rn (l ++ [⟨-1, 97, 97⟩]) (t ++ ⟨#[97]⟩) true := by
  refine Rn.mk h.1 (by decide) ?_ (.inl rfl)
  rw [data_app]; exact h.2.2.byteIn
theorem Rn.a2 {l : List Sy} (h : Rn l ⟨#[]⟩ false) : Rn (l ++ [⟨-1, 97, 97⟩]) (((⟨#[]⟩ : ByteArray) ++ ⟨#[34]⟩) ++ ⟨#[97]⟩) true := by
  refine Rn.mk h.1 (by decide) ?_ (.inl rfl)
  rw [data_app, data_app]
  have := h.2.2.byteNew
  rwa [if_pos rfl] at this
theorem Rn.a3 {l : List Sy} {t : ByteArray} (h : Rn l t false) (ht : t ≠ ⟨#[]⟩) : Rn (l ++ [⟨-1, 97, 97⟩]) (((t ++ ⟨#[32]⟩) ++ ⟨#[34]⟩) ++ ⟨#[97]⟩) true := by
  refine Rn.mk h.1 (by decide) ?_ (.inl rfl)
  rw [data_app, data_app, data_app]
  have := h.2.2.byteNew
  rwa [if_neg (fun e => ht ((em_iff t).1 e))] at this
/-- A symbol that is no byte alone, and how it is shown. -/
def OtR (s : Sy) (u : ByteArray) : Prop := maySym 1 s = true ∧ u.data.toList ≠ [] ∧ ∃ x, (∀ ps, symP [⟨#[113]⟩] ps s = ps ++ [.inr x]) ∧ partT (.inr x) = u.data.toList
theorem ot1 : OtR ⟨0, 0, 0⟩ ⟨#[113]⟩ := ⟨by decide, by decide, .inr ⟨#[113]⟩, fun ps => rfl, rfl⟩
theorem ot2 : OtR ⟨-1, 97, 98⟩ ⟨#[39, 97, 39, 46, 46, 39, 98, 39]⟩ := ⟨by decide, by decide, .inl (97, 98), fun ps => rfl, by decide⟩
theorem Rn.b1 {l : List Sy} {t : ByteArray} {s : Sy} {u : ByteArray} (h : Rn l t true) (o : OtR s u) : Rn (l ++ [s]) (((t ++ ⟨#[34]⟩) ++ ⟨#[32]⟩) ++ u) false := by
  obtain ⟨o1, o2, x, o3, o4⟩ := o
  refine Rn.mk h.1 o1 ?_ (.inr ?_)
  · rw [data_app, data_app, data_app, o3]
    have := RI.other h.2.2.shut.1 (shut_iff h.2.2) x (by rw [o4]; exact o2)
    rwa [if_neg (by simp), o4] at this
  · rw [data_app]; intro e; rw [List.append_eq_nil_iff] at e; exact o2 e.2
theorem Rn.b2 {l : List Sy} {s : Sy} {u : ByteArray} (h : Rn l ⟨#[]⟩ false) (o : OtR s u) : Rn (l ++ [s]) ((⟨#[]⟩ : ByteArray) ++ u) false := by
  obtain ⟨o1, o2, x, o3, o4⟩ := o
  refine Rn.mk h.1 o1 ?_ (.inr ?_)
  · rw [data_app, o3]
    have := RI.other h.2.2.1 h.2.2.2.2 x (by rw [o4]; exact o2)
    rwa [if_pos rfl, o4] at this
  · rw [data_app]; intro e; rw [List.append_eq_nil_iff] at e; exact o2 e.2
theorem Rn.b3 {l : List Sy} {t : ByteArray} {s : Sy} {u : ByteArray} (h : Rn l t false) (ht : t ≠ ⟨#[]⟩) (o : OtR s u) : Rn (l ++ [s]) ((t ++ ⟨#[32]⟩) ++ u) false := by
  obtain ⟨o1, o2, x, o3, o4⟩ := o
  refine Rn.mk h.1 o1 ?_ (.inr ?_)
  · rw [data_app, data_app, o3]
    have := RI.other h.2.2.1 h.2.2.2.2 x (by rw [o4]; exact o2)
    rwa [if_neg (fun e => ht ((em_iff t).1 e)), o4] at this
  · rw [data_app]; intro e; rw [List.append_eq_nil_iff] at e; exact o2 e.2
theorem mayR {l : List Sy} (h : ∀ s, s ∈ l → maySym 1 s = true) (hl : l.length ≤ 40) : mayG (gR l) = true := by
  have hn : mayNames [⟨#[113]⟩] = true := by kernel_rfl
  have h1 : mayRow 1 l = true := by
    simp only [mayRow, Bool.and_eq_true, decide_eq_true_eq, List.all_eq_true]
    exact ⟨by omega, h⟩
  have h2 : l.length ≤ 1024 := by omega
  simp [mayG, gR, hn, isNum, mayHeads, mayRules, mayRs, mayCs, h1, h2]
theorem showR (l : List Sy) : showL (gR l) = [115, 116, 97, 114, 116, 32, 113, 59, 10, 113, 32, 61, 32, 126] ++ jP (partsT [⟨#[113]⟩] l) ++ [59, 10] := by
  simp [showL, gR, defsT, defT, altsT, rulesOfT, joinN, ruleAt, conjsT, conjAt, conjT, jP]
theorem parts_is {l : List Sy} (h : l ≠ []) : partsT [⟨#[113]⟩] l = psR l := by
  unfold partsT psR
  rw [if_neg (by simpa using h)]
theorem Rn.end1 {l : List Sy} {t : ByteArray} (h : Rn l t true) : showT (gR l) = ((⟨#[115, 116, 97, 114, 116, 32, 113, 59, 10, 113, 32, 61, 32, 126]⟩ : ByteArray) ++ (t ++ ⟨#[34]⟩)) ++ ⟨#[59, 10]⟩ := by
  have hl : l ≠ [] := fun e => h.2.2.shut.2 (h.2.1.1 e)
  apply ByteArray.ext; apply Array.toList_inj.1
  rw [data_app, data_app, data_app]
  show showL (gR l) = _
  rw [showR, parts_is hl, ← h.2.2.shut.1]
theorem end0 : showT (gR []) = ((⟨#[115, 116, 97, 114, 116, 32, 113, 59, 10, 113, 32, 61, 32, 126]⟩ : ByteArray) ++ ⟨#[34, 34]⟩) ++ ⟨#[59, 10]⟩ := by kernel_rfl
theorem Rn.end2 {l : List Sy} (h : Rn l ⟨#[]⟩ false) : showT (gR l) = ((⟨#[115, 116, 97, 114, 116, 32, 113, 59, 10, 113, 32, 61, 32, 126]⟩ : ByteArray) ++ ⟨#[34, 34]⟩) ++ ⟨#[59, 10]⟩ := by
  have hl : l = [] := h.2.1.2 (h.2.2.2.2.1 rfl)
  rw [hl]; exact end0
theorem Rn.end3 {l : List Sy} {t : ByteArray} (h : Rn l t false) (ht : t ≠ ⟨#[]⟩) : showT (gR l) = ((⟨#[115, 116, 97, 114, 116, 32, 113, 59, 10, 113, 32, 61, 32, 126]⟩ : ByteArray) ++ t) ++ ⟨#[59, 10]⟩ := by
  have hl : l ≠ [] := fun e => ht ((em_iff t).1 (h.2.2.2.2.2 (h.2.1.1 e)))
  apply ByteArray.ext; apply Array.toList_inj.1
  rw [data_app, data_app]
  show showL (gR l) = _
  rw [showR, parts_is hl, ← h.2.2.1]
end Go.Proofs.Ytkkmjgohjaedkaa
