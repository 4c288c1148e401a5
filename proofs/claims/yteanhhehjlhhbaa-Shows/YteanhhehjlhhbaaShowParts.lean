import Derived.Test.YteanhhehjlhhbaaShowPart
import Derived.Deep.AppendLies
import Derived.Deep.RegionLaw
/- The parts of a conjunct in memory; a byte more. -/
namespace Go.Proofs.Yteanhhehjlhhbaa
set_option linter.unusedVariables false
open Go.ChangeShapes Go.WideShapes Go.ChangeAt Go.RowKit

/-- The last part: a text is owned still. -/
def PartLast (W : World) (w : World) (F : Nat → Prop) : Part → Value → Prop
  | .inl l, u => ∃ v, u = .iface 97 v ∧ w.ownsRow W.heap.size 5 1 v l.length (Lib.byteCells l) ∧ ∀ b, v.ownBlock = some b → ¬ F b
  | .inr (.inl (a, c)), u => u = .iface 100 (.agg #[.int .u8 (a.toNat : Int), .int .u8 (c.toNat : Int)])
  | .inr (.inr s), u => u = .iface 98 (.string s)
/-- The parts ps, their values us, in the row o. -/
structure PS (W : World) (F : Nat → Prop) (ps : List Part) (us : List Value) (o : Value) (w : World) : Prop where
  fl : ∀ b, F b → W.heap.size ≤ b ∧ b < w.heap.size
  oo : w.ownsRow W.heap.size 20 1 o ps.length us
  no : ∀ b, o.ownBlock = some b → ¬ F b
  ri : ∀ (k : Nat) (p : Part) (u : Value), ps[k]? = some p → us[k]? = some u → k + 1 < ps.length → PartIn w F p u
  rl : ∀ (k : Nat) (p : Part) (u : Value), ps[k]? = some p → us[k]? = some u → k + 1 = ps.length → PartLast W w F p u
  bl : Below W.heap.size W w
section
variable {W w w' w1 w2 : World} {F : Nat → Prop} {ps : List Part} {us : List Value} {o : Value}
theorem PS.new (w : World) : PS w (fun _ => False) [] [] (.slice none 0 0) w :=
  ⟨fun b h => h.elim, World.ownsRow_nil _ _ _ _, fun b h => by simp [Value.ownBlock] at h, fun k p u h => by simp at h, fun k p u h => by simp at h, Below.refl _ _⟩
theorem PS.len (m : PS W F ps us o w) : us.length = ps.length := by simpa using m.oo.1
theorem PartLast.keep {p : Part} {u : Value} (h : PartLast W w F p u) (hb : Below w.heap.size w w') : PartLast W w' F p u := by
  match p, h with
  | .inl l, ⟨v, h1, h2, h3⟩ => exact ⟨v, h1, row_keep h2 hb, h3⟩
  | .inr (.inl (a, c)), h => exact h
  | .inr (.inr s), h => exact h
theorem PS.stays (m : PS W F ps us o w) (hb : Below w.heap.size w w') : Stay F w w' := ⟨hb.size, fun b hF => hb.block b (m.fl b hF).2⟩
theorem PS.keep (m : PS W F ps us o w) (hb : Below w.heap.size w w') : PS W F ps us o w' :=
  ⟨fun b hF => ⟨(m.fl b hF).1, Nat.lt_of_lt_of_le (m.fl b hF).2 hb.size⟩, row_keep m.oo hb, m.no, fun k p u e1 e2 e3 => (m.ri k p u e1 e2 e3).keep (m.stays hb) (fun _ h => h), fun k p u e1 e2 e3 => (m.rl k p u e1 e2 e3).keep hb, m.bl.trans (hb.mono m.bl.size)⟩
/-- The blocks of the last part. -/
def lastB (us : List Value) (b : Nat) : Prop := ∃ v, us.getLast? = some (.iface 97 v) ∧ v.ownBlock = some b
theorem getLast_at {α : Type} {l : List α} {k : Nat} {a : α} (h : l[k]? = some a) (hk : k + 1 = l.length) : l.getLast? = some a := by
  rw [List.getLast?_eq_getElem?, show l.length - 1 = k by omega]; exact h
theorem last_at {α : Type} {l : List α} {a : α} (h : l.getLast? = some a) : ∃ k, l[k]? = some a ∧ k + 1 = l.length := by
  rw [List.getLast?_eq_getElem?] at h
  have := (List.getElem?_eq_some_iff.1 h).1
  exact ⟨l.length - 1, h, by omega⟩
theorem PS.lastF (m : PS W F ps us o w) {b : Nat} (h : lastB us b) : ¬ F b ∧ W.heap.size ≤ b ∧ b < w.heap.size ∧ o.ownBlock ≠ some b := by
  obtain ⟨v, h1, h2⟩ := h
  obtain ⟨k, h3, h4⟩ := last_at h1
  have hl := m.len
  obtain ⟨p, hp⟩ : ∃ p, ps[k]? = some p := ⟨_, List.getElem?_eq_getElem (by omega)⟩
  have h5 := m.rl k p _ hp h3 (by omega)
  match p, h5 with
  | .inl l, ⟨v', e1, h6, h7⟩ =>
    injection e1 with _ e1
    subst e1
    exact ⟨h7 b h2, (h6.lt b h2).1, (h6.lt b h2).2, fun e => row_apart h6 m.oo (by decide) b h2 e⟩
  | .inr (.inl (a, c)), h5 => injection (show Value.iface _ _ = Value.iface _ _ from h5) with e1; exact absurd e1 (by decide)
  | .inr (.inr s), h5 => injection (show Value.iface _ _ = Value.iface _ _ from h5) with e1; exact absurd e1 (by decide)
/-- A part just made: a text's bytes in a new block. -/
def PartNew (W w w1 : World) : Part → Value → Prop
  | .inl l, u => ∃ v, u = .iface 97 v ∧ w1.ownsRow W.heap.size 5 1 v l.length (Lib.byteCells l) ∧ ∀ b, v.ownBlock = some b → w.heap.size ≤ b
  | .inr (.inl (a, c)), u => u = .iface 100 (.agg #[.int .u8 (a.toNat : Int), .int .u8 (c.toNat : Int)])
  | .inr (.inr s), u => u = .iface 98 (.string s)
/-- One part more, in a row that grew: what stood last is done. -/
theorem PS.push (m : PS W F ps us o w) (hb : Below w.heap.size w w1) {p : Part} {u : Value} (hp : PartNew W w w1 p u) {g cap : Nat}
    (hg : w1.grownBy w2 o.ownBlock) (hown : w2.ownsRow W.heap.size 20 1 (.slice (some ⟨g, 0, none⟩) (ps.length + 1) cap) (ps.length + 1) (us ++ [u])) (hat : o.ownBlock = some g ∨ g = w1.heap.size) :
    PS W (fun b => F b ∨ lastB us b) (ps ++ [p]) (us ++ [u]) (.slice (some ⟨g, 0, none⟩) (ps.length + 1) cap) w2 := by
  have m1 := m.keep hb
  have hs := hb.size
  have hgs := hg.size
  have hlen := m.len
  have hF : ∀ b, (F b ∨ lastB us b) → W.heap.size ≤ b ∧ b < w.heap.size ∧ o.ownBlock ≠ some b := fun b h => by
    rcases h with h | h
    · exact ⟨(m.fl b h).1, (m.fl b h).2, fun e => m.no b e h⟩
    · exact ⟨(m.lastF h).2.1, (m.lastF h).2.2.1, (m.lastF h).2.2.2⟩
  have hst : Stay (fun b => F b ∨ lastB us b) w1 w2 := ⟨hgs, fun b h => hg.block b (by have := (hF b h).2.1; omega) (fun e => (hF b h).2.2 e.symm)⟩
  refine ⟨fun b h => ⟨(hF b h).1, by have := (hF b h).2.1; omega⟩, by rw [List.length_append]; exact hown, fun b e h => ?_, fun k q x e1 e2 e3 => ?_, fun k q x e1 e2 e3 => ?_, ?_⟩
  · obtain rfl : g = b := by injection e
    rcases hat with e' | e'
    · exact (hF g h).2.2 e'
    · have := (hF g h).2.1; omega
  · rw [List.length_append] at e3
    have hk : k < ps.length := by simpa using e3
    rw [List.getElem?_append_left hk] at e1
    rw [List.getElem?_append_left (by omega)] at e2
    by_cases hl : k + 1 < ps.length
    · exact (m1.ri k q x e1 e2 hl).keep ⟨hst.size, fun b h => hst.blk b (Or.inl h)⟩ (fun b h => Or.inl h)
    · have h5 := m1.rl k q x e1 e2 (by omega)
      match q, h5 with
      | .inl l, ⟨v, h6, h7, h8⟩ =>
        refine ⟨v, h6, (Reads.of h7 (F := fun b => F b ∨ lastB us b) (fun b h9 => Or.inr ⟨v, ?_, h9⟩)).keep hst (fun b h => h)⟩
        rw [← h6]
        exact getLast_at e2 (by omega)
      | .inr (.inl (a, c)), h5 => exact h5
      | .inr (.inr s), h5 => exact h5
  · rw [List.length_append] at e3
    have hk : k = ps.length := by simpa using e3
    subst hk
    rw [List.getElem?_append_right (Nat.le_refl _)] at e1
    rw [List.getElem?_append_right (by omega), hlen] at e2
    obtain rfl : p = q := by simpa using e1
    obtain rfl : u = x := by simpa using e2
    match p, hp with
    | .inl l, ⟨v, h6, h7, h8⟩ =>
      exact ⟨v, h6, row_grown h7 m1.oo (by decide) hg, fun b e h => by have := h8 b e; have := (hF b h).2.1; omega⟩
    | .inr (.inl (a, c)), h5 => exact h5
    | .inr (.inr s), h5 => exact h5
  · exact m1.bl.grown hg (by have := m.bl.size; omega) (fun k hk => (m.oo.lt k hk).1)
theorem row_set {base e go n cap : Nat} {xs : List Value} (h : w.ownsRow base e 1 (.slice (some ⟨go, 0, none⟩) n cap) n xs) (k : Nat) (x : Value) : (w.setCell ⟨go, k, none⟩ x).ownsRow base e 1 (.slice (some ⟨go, 0, none⟩) n cap) n (xs.set k x) := by
  obtain ⟨h1, ⟨h2, _⟩ | ⟨g, c, cur, h2, h3, h4, h5, h6, h7, h8⟩⟩ := h
  · cases h2
  · injection h2 with e1 _ e2
    injection e1 with e1
    injection e1 with e1
    subst e1 e2
    refine ⟨by rw [List.length_set]; exact h1, Or.inr ⟨go, cap, cur.setIfInBounds k x, rfl, h3, ?_, h5, h6, by rw [Array.size_setIfInBounds]; exact h7, ?_⟩⟩
    · simp [World.setCell, Array.getElem?_modify, h4]
    · rw [Array.toList_setIfInBounds, List.take_set, h8]
/-- The last text has a byte more. -/
theorem PS.more {l : List UInt8} {vs : List Value} {v v' : Value} {n go cap : Nat} {c : UInt8} (m : PS W F (ps ++ [.inl l]) (vs ++ [.iface 97 v]) (.slice (some ⟨go, 0, none⟩) n cap) w) (hn : n = ps.length + 1) (hb : Below w.heap.size w w1)
    (hg : w1.grownBy w2 v.ownBlock) (hown : w2.ownsRow W.heap.size 5 1 v' (l.length + 1) (Lib.byteCells l ++ [.int .u8 (c.toNat : Int)])) (hat : v'.ownBlock = v.ownBlock ∨ v'.ownBlock = some w1.heap.size) :
    PS W F (ps ++ [.inl (l ++ [c])]) (vs ++ [.iface 97 v']) (.slice (some ⟨go, 0, none⟩) n cap) (w2.setCell ⟨go, ps.length, none⟩ (.iface 97 v')) := by
  have m1 := m.keep hb
  have hlen : vs.length = ps.length := by have := m.len; simpa using this
  have hvl : ∀ b, v.ownBlock = some b → lastB (vs ++ [.iface 97 v]) b := fun b e => ⟨v, by simp, e⟩
  have hgs := hg.size
  have hs := hb.size
  have hbs := m.bl.size
  have hgo : W.heap.size ≤ go ∧ go < w.heap.size := m.oo.lt go rfl
  have hov : ∀ b, v.ownBlock = some b → b ≠ go := fun b e e' => (m.lastF (hvl b e)).2.2.2 (by rw [e']; rfl)
  have hz : (w2.setCell ⟨go, ps.length, none⟩ (.iface 97 v')).heap.size = w2.heap.size := by simp [World.setCell]
  have hvgo : v'.ownBlock ≠ some go := by
    rcases hat with e | e
    · rw [e]; intro e'; exact hov go e' rfl
    · rw [e]; intro e'; injection e' with e'; omega
  have hst : Stay F w1 (w2.setCell ⟨go, ps.length, none⟩ (.iface 97 v')) := by
    refine ⟨by rw [hz]; exact hgs, fun b hF => ?_⟩
    have h1 : b ≠ go := fun e => m.no go rfl (e ▸ hF)
    exact (Go.Deep.blk_setCell_other w2 ⟨go, ps.length, none⟩ _ b h1).trans (hg.block b (m1.fl b hF).2 (fun e => (m.lastF (hvl b e.symm)).1 hF))
  have hoo : w2.ownsRow W.heap.size 20 1 (.slice (some ⟨go, 0, none⟩) n cap) n (vs ++ [.iface 97 v]) := by
    have h1 : w1.ownsRow W.heap.size 20 1 (.slice (some ⟨go, 0, none⟩) n cap) n (vs ++ [.iface 97 v]) := by
      have := m1.oo
      rwa [List.length_append, ← (by simpa using hn : n = ps.length + [(Sum.inl l : Part)].length)] at this
    refine h1.kept hg ?_
    right
    intro e
    exact hov go e.symm rfl
  refine ⟨fun b hF => ⟨(m.fl b hF).1, by rw [hz]; have := (m.fl b hF).2; omega⟩, ?_, m.no, fun k q x e1 e2 e3 => ?_, fun k q x e1 e2 e3 => ?_, ?_⟩
  · have h2 := row_set hoo ps.length (.iface 97 v')
    rw [List.length_append, List.length_cons, List.length_nil, Nat.zero_add, ← hn]
    rw [List.set_append_right _ _ (by omega), hlen, Nat.sub_self] at h2
    exact h2
  · rw [List.length_append] at e3
    have hk : k < ps.length := by simpa using e3
    rw [List.getElem?_append_left hk] at e1
    rw [List.getElem?_append_left (by omega)] at e2
    exact (m1.ri k q x (by rw [List.getElem?_append_left hk]; exact e1) (by rw [List.getElem?_append_left (by omega)]; exact e2) (by simp; omega)).keep hst (fun b h => h)
  · rw [List.length_append] at e3
    have hk : k = ps.length := by simpa using e3
    subst hk
    rw [List.getElem?_append_right (Nat.le_refl _)] at e1
    rw [List.getElem?_append_right (by omega), hlen] at e2
    obtain rfl : (Sum.inl (l ++ [c]) : Part) = q := by simpa using e1
    obtain rfl : Value.iface 97 v' = x := by simpa using e2
    refine ⟨v', rfl, ?_, fun b e hF => ?_⟩
    · rw [List.length_append]
      have : Lib.byteCells (l ++ [c]) = Lib.byteCells l ++ [.int .u8 (c.toNat : Int)] := by simp [Lib.byteCells]
      rw [this]
      exact ownsRow_setCell_other hown (a := ⟨go, ps.length, none⟩) hvgo _
    · rcases hat with e' | e'
      · rw [e'] at e; exact (m.lastF (hvl b e)).1 hF
      · rw [e'] at e; injection e with e; have := (m.fl b hF).2; omega
  · refine (m1.bl.grown hg (by omega) (fun k hk => (m.lastF (hvl k hk)).2.1)).setCell (p := ⟨go, ps.length, none⟩) hgo.1 _
end
end Go.Proofs.Yteanhhehjlhhbaa
/- A byte more among the parts: the program's addByte. -/
namespace Go.Proofs.Yteanhhehjlhhbaa
set_option linter.unusedVariables false
open Go.ChangeShapes Go.WideShapes Go.ChangeAt Go.RowKit

theorem Try.infoAny : (Try.prog.info? 20).map (fun i => (i.zero, i.size, i.bytes)) = some (some .nilIface, 1, 16) := by kernel_rfl
/-- What holds of parts all along: not too many, no text too long. -/
def Small (ps : List Part) : Prop := ps.length ≤ 1048576 ∧ ∀ l, (.inl l : Part) ∈ ps → l.length ≤ 1048576
theorem new_text (W w : World) (hW : W.heap.size ≤ w.heap.size) (c : UInt8) (o : Obj) : PartNew W w ((w.alloc (.cells #[.int .u8 (c.toNat : Int)] 5)).alloc o) (.inl [c]) (.iface 97 (.slice (some ⟨w.heap.size, 0, none⟩) 1 1)) := by
  have h := heap_alloc_new w (.cells #[.int .u8 (c.toNat : Int)] 5)
  refine ⟨_, rfl, ?_, fun b e => ?_⟩
  · refine row_keep ?_ (bel1 _ _)
    exact ⟨rfl, Or.inr ⟨w.heap.size, 1, _, rfl, hW, h, Nat.le_refl _, by unfold maxLen; omega, rfl, rfl⟩⟩
  · injection e with e
    have e : w.heap.size = b := e
    omega
theorem belA (w : World) (o o' : Obj) : Below w.heap.size w ((w.alloc o).alloc o') := (bel1 w o).trans ((bel1 _ _).mono (le_alloc _ _))
set_option maxHeartbeats 4000000 in
set_option maxRecDepth 100000 in
theorem addByte_any {W w : World} {F : Nat → Prop} {ps : List Part} {us : List Value} {o : Value} (m : PS W F ps us o w) (hs : Small ps) (c : UInt8) :
    Calls Try.prog 50 #[o, .int .u8 (c.toNat : Int)] w fun e w' => ∃ (F' : Nat → Prop) (us' : List Value) (p' : Option Addr) (c' : Nat), e = .returned (.slice p' (addT ps c).length c') ∧ Hid (PS W F' (addT ps c) us' (.slice p' (addT ps c).length c') w') := by
  obtain ⟨i, hi0, hz0, hz1, hz2⟩ := info_parts Try.infoAny
  have HI : Hid (Try.prog.info? 20 = some i ∧ i.zero = some .nilIface ∧ i.size = 1 ∧ i.bytes = 16) := ⟨hi0, hz0, hz1, hz2⟩
  obtain ⟨j, hj0, hy0, hy1, hy2⟩ := info_parts Try.infoU8
  have HJ : Hid (Try.prog.info? 5 = some j ∧ j.zero = some (.int .u8 0) ∧ j.size = 1 ∧ j.bytes = 1) := ⟨hj0, hy0, hy1, hy2⟩
  clear hi0 hz0 hz1 hz2 hj0 hy0 hy1 hy2
  obtain ⟨po, co, ho⟩ := row_slice m.oo
  subst ho
  have HM : Hid (PS W F ps us (.slice po ps.length co) w) := m
  have hsz : W.heap.size ≤ w.heap.size := m.bl.size
  have hlen := m.len
  have A1 := as_tt
  have A2 := as_st
  have A4 := as_nt
  have ONE : Hid (∀ u, u ∈ [Value.iface 97 (.slice (some ⟨w.heap.size, 0, none⟩) 1 1)] → u.oneCell' = true) := by show ∀ u, _ → _; simp [Value.oneCell']
  have MX : Hid (ps.length + 1 ≤ maxLen) := by show _ ≤ _; unfold maxLen; have := hs.1; omega
  have BY : Hid ((ps.length + 1) * 16 ≤ 140737488355328) := by show _ ≤ _; have := hs.1; omega
  have hp1 := hs.1
  -- a text of its own, behind all
  have PU : Hid (∀ (g cap : Nat) (w2 : World), ((w.alloc (.cells #[.int .u8 (c.toNat : Int)] 5)).alloc (.cells #[.iface 97 (.slice (some ⟨w.heap.size, 0, none⟩) 1 1)] 20)).grownBy w2 (Value.slice po ps.length co).ownBlock → w2.ownsRow W.heap.size 20 1 (.slice (some ⟨g, 0, none⟩) (ps.length + 1) cap) (ps.length + 1) (us ++ [.iface 97 (.slice (some ⟨w.heap.size, 0, none⟩) 1 1)]) → ((Value.slice po ps.length co).ownBlock = some g ∨ g = w.heap.size + 1 + 1) → PS W (fun b => F b ∨ lastB us b) (ps ++ [.inl [c]]) (us ++ [.iface 97 (.slice (some ⟨w.heap.size, 0, none⟩) 1 1)]) (.slice (some ⟨g, 0, none⟩) (ps.length + 1) cap) w2) := fun g cap w2 h1 h2 h3 =>
    HM.out.push (belA _ _ _) (new_text W w hsz c _) h1 h2 (by simpa using h3)
  have ARM : Hid (((w.alloc (.cells #[.int .u8 (c.toNat : Int)] 5)).alloc (.cells #[.iface 97 (.slice (some ⟨w.heap.size, 0, none⟩) 1 1)] 20)).ownsRow W.heap.size 20 1 (.slice po ps.length co) ps.length us) := (HM.out.oo.alloc _).alloc _
  clear m
  rcases List.eq_nil_or_concat ps with e | ⟨qs, q, e⟩
  · subst e
    have E : addT [] c = [.inl [c]] := rfl
    rw [E]
    go_enter Try.func50, Try.ntmps50
    go_wp2_with (at_builtin; refine wpList_append_lies _ rfl _ _ 90 rfl W.heap.size 20 i .nilIface 1 16 Try.underlying90 HI.out.1 HI.out.2.1 HI.out.2.2.1 HI.out.2.2.2 rfl (by decide) _ _ _ rfl ARM.out ⟨w.heap.size + 1, 0, none⟩ 1 1 [.iface 97 (.slice (some ⟨w.heap.size, 0, none⟩) 1 1)] rfl rfl (World.news_of_block (cs := #[.iface 97 (.slice (some ⟨w.heap.size, 0, none⟩) 1 1)]) (t := 20) (fr := (0, 0)) (by simpa using heap_alloc_new (w.alloc (.cells #[.int .u8 (c.toNat : Int)] 5)) (.cells #[.iface 97 (.slice (some ⟨w.heap.size, 0, none⟩) 1 1)] 20))) ONE.out (by decide) MX.out BY.out (Nat.le_trans hsz (Nat.le_trans (le_alloc _ _) (le_alloc _ _))) (w.heap.size + 1 + 1) (by simp) ?_)
    intro g cap w2 hown hgrow hat hlt
    have P2 := PU.out g cap w2 hgrow hown hat
    have HP : Hid (PS W (fun b => F b ∨ lastB us b) [.inl [c]] (us ++ [.iface 97 (.slice (some ⟨w.heap.size, 0, none⟩) 1 1)]) (.slice (some ⟨g, 0, none⟩) 1 cap) w2) := P2
    clear P2 hown hgrow hat hlt
    go_wp2
    go_ret
    exact ⟨_, _, _, _, rfl, HP⟩
  · rw [List.concat_eq_append] at e
    subst e
    have hk : (qs ++ [q]).length = qs.length + 1 := by simp
    obtain ⟨go, hpo⟩ : ∃ go, po = some ⟨go, 0, none⟩ := by
      obtain ⟨_, ⟨h1, h2⟩ | ⟨g, cp, cur, h1, _⟩⟩ := HM.out.oo
      · rw [hk] at h2; omega
      · injection h1 with h1; exact ⟨g, h1⟩
    subst hpo
    obtain ⟨vs, x, hx⟩ : ∃ vs x, us = vs ++ [x] := by
      rcases List.eq_nil_or_concat us with e | ⟨vs, x, e⟩
      · rw [e, hk] at hlen; simp at hlen
      · exact ⟨vs, x, by rw [e, List.concat_eq_append]⟩
    subst hx
    have hvl : vs.length = qs.length := by simpa using hlen
    have hlast : PartLast W w F q x := HM.out.rl qs.length q x (by simp) (by rw [← hvl]; simp) (by simp)
    have hcell : w.cell? ⟨go, qs.length, none⟩ = some x := by
      have := HM.out.oo.cells (g := go) rfl qs.length x (by rw [← hvl]; simp)
      simpa [add_plain] using this
    rw [hk] at HM PU ARM MX BY hp1
    rw [hk]
    rw [addT_snoc]
    have fz : w.frozen? ⟨go, qs.length, none⟩ = false := by
      obtain ⟨_, ⟨h1, h2⟩ | ⟨g, cp, cur, h1, _, h3, _⟩⟩ := HM.out.oo
      · cases h1
      · injection h1 with h1; injection h1 with h1; injection h1 with h1; subst h1
        exact Lib.frozen_of_heap h3 _
    have hgol := cell_lt hcell
    have hql : (qs.length : Int) + 1 ≤ 1048576 := by omega
    match q, hlast, hs with
    | .inl l, ⟨v, e1, h2, h3⟩, hs =>
      subst e1
      have hll := hs.2 l (by simp)
      obtain ⟨pv, cv, hv⟩ := row_slice h2
      subst hv
      have HV : Hid (w.ownsRow W.heap.size 5 1 (.slice pv l.length cv) l.length (Lib.byteCells l)) := h2
      have MO : Hid (∀ (v' : Value) (w2 : World), (w.alloc (.cells #[.int .u8 (c.toNat : Int)] 5)).grownBy w2 (Value.slice pv l.length cv).ownBlock → w2.ownsRow W.heap.size 5 1 v' (l.length + 1) (Lib.byteCells l ++ [.int .u8 (c.toNat : Int)]) → (v'.ownBlock = (Value.slice pv l.length cv).ownBlock ∨ v'.ownBlock = some (w.alloc (.cells #[.int .u8 (c.toNat : Int)] 5)).heap.size) → PS W F (qs ++ [.inl (l ++ [c])]) (vs ++ [.iface 97 v']) (.slice (some ⟨go, 0, none⟩) (qs.length + 1) co) (w2.setCell ⟨go, qs.length, none⟩ (.iface 97 v'))) := fun v' w2 h1 h2 h3 =>
        HM.out.more rfl (bel1 _ _) h1 h2 h3
      have NG : Hid ((Value.slice pv l.length cv).ownBlock ≠ some go) := by
        show _ ≠ _
        intro e
        exact (HM.out.lastF (b := go) ⟨_, by simp, e⟩).2.2.2 rfl
      have ON2 : Hid (∀ u, u ∈ [Value.int .u8 (c.toNat : Int)] → u.oneCell' = true) := by show ∀ u, _ → _; simp [Value.oneCell']
      have MX2 : Hid (l.length + 1 ≤ maxLen) := by show _ ≤ _; unfold maxLen; omega
      have BY2 : Hid ((l.length + 1) * 1 ≤ 140737488355328) := by show _ ≤ _; omega
      clear h2 h3 PU ARM ONE hlen hs
      generalize hnl : l.length = nl at *
      show Calls _ _ _ _ fun e w' => ∃ F' us' p' c', e = .returned (.slice p' (qs ++ [Sum.inl (l ++ [c])]).length c') ∧ Hid (PS W F' (qs ++ [.inl (l ++ [c])]) us' (.slice p' (qs ++ [Sum.inl (l ++ [c])]).length c') w')
      rw [show (qs ++ [(Sum.inl (l ++ [c]) : Part)]).length = qs.length + 1 by simp]
      clear hnl
      go_enter Try.func50, Try.ntmps50
      go_wp2_with (at_builtin; refine wpList_append_own_at _ rfl _ _ 97 rfl W.heap.size 5 j (.int .u8 0) 1 1 Try.underlying97 HJ.out.1 HJ.out.2.1 HJ.out.2.2.1 HJ.out.2.2.2 rfl (by decide) _ _ _ rfl (HV.out.alloc _) ⟨w.heap.size, 0, none⟩ 1 1 [.int .u8 (c.toNat : Int)] rfl rfl (cell_one_new _ _ _) ON2.out MX2.out BY2.out (Nat.le_trans hsz (le_alloc _ _)) ?_)
      intro v' w2 hown hgrow _ hat
      obtain ⟨pw, cw, hv'⟩ := row_slice hown
      subst hv'
      have hgz := hgrow.size
      have d1 : w2.cell? ⟨go, qs.length, none⟩ = some (.iface 97 (.slice pv nl cv)) := (hgrow.cell_far ⟨go, qs.length, none⟩ (by simp; omega) (Ne.symm NG.out)).trans ((World.cell?_alloc_past _ _ _ hgol).trans hcell)
      have f1 : w2.frozen? ⟨go, qs.length, none⟩ = false := (hgrow.frozen_far ⟨go, qs.length, none⟩ (by simp; omega) (Ne.symm NG.out)).trans ((World.frozen?_alloc_past _ _ _ hgol).trans fz)
      have HP : Hid (PS W F (qs ++ [.inl (l ++ [c])]) (vs ++ [.iface 97 (.slice pw (nl + 1) cw)]) (.slice (some ⟨go, 0, none⟩) (qs.length + 1) co) (w2.setCell ⟨go, qs.length, none⟩ (.iface 97 (.slice pw (nl + 1) cw)))) := MO.out _ _ hgrow hown (by simpa using hat)
      clear hown hgrow hat hgz
      go_wp2
      go_ret
      exact ⟨_, _, _, _, rfl, HP⟩
    | .inr (.inl (a, d)), hl, hs =>
      subst hl
      show Calls _ _ _ _ fun e w' => ∃ F' us' p' c', e = .returned (.slice p' (qs ++ [(.inr (.inl (a, d)) : Part), Sum.inl [c]]).length c') ∧ Hid (PS W F' (qs ++ [.inr (.inl (a, d)), .inl [c]]) us' (.slice p' (qs ++ [(.inr (.inl (a, d)) : Part), Sum.inl [c]]).length c') w')
      rw [show qs ++ [(.inr (.inl (a, d)) : Part), Sum.inl [c]] = (qs ++ [.inr (.inl (a, d))]) ++ [.inl [c]] by simp, show ((qs ++ [(.inr (.inl (a, d)) : Part)]) ++ [(Sum.inl [c] : Part)]).length = qs.length + 1 + 1 by simp]
      clear hlen hs hvl
      go_enter Try.func50, Try.ntmps50
      go_wp2_with (at_builtin; refine wpList_append_lies _ rfl _ _ 90 rfl W.heap.size 20 i .nilIface 1 16 Try.underlying90 HI.out.1 HI.out.2.1 HI.out.2.2.1 HI.out.2.2.2 rfl (by decide) _ _ _ rfl ARM.out ⟨w.heap.size + 1, 0, none⟩ 1 1 [.iface 97 (.slice (some ⟨w.heap.size, 0, none⟩) 1 1)] rfl rfl (World.news_of_block (cs := #[.iface 97 (.slice (some ⟨w.heap.size, 0, none⟩) 1 1)]) (t := 20) (fr := (0, 0)) (by simpa using heap_alloc_new (w.alloc (.cells #[.int .u8 (c.toNat : Int)] 5)) (.cells #[.iface 97 (.slice (some ⟨w.heap.size, 0, none⟩) 1 1)] 20))) ONE.out (by decide) MX.out BY.out (Nat.le_trans hsz (Nat.le_trans (le_alloc _ _) (le_alloc _ _))) (w.heap.size + 1 + 1) (by simp) ?_)
      intro g cap w2 hown hgrow hat hlt
      have HP : Hid (PS W (fun b => F b ∨ lastB (vs ++ [_]) b) ((qs ++ [.inr (.inl (a, d))]) ++ [.inl [c]]) _ (.slice (some ⟨g, 0, none⟩) (qs.length + 1 + 1) cap) w2) := PU.out g cap w2 hgrow (by simpa using hown) hat
      clear hown hgrow hat hlt
      go_wp2
      go_ret
      exact ⟨_, _, _, _, rfl, HP⟩
    | .inr (.inr s), hl, hs =>
      subst hl
      show Calls _ _ _ _ fun e w' => ∃ F' us' p' c', e = .returned (.slice p' (qs ++ [(.inr (.inr s) : Part), Sum.inl [c]]).length c') ∧ Hid (PS W F' (qs ++ [.inr (.inr s), .inl [c]]) us' (.slice p' (qs ++ [(.inr (.inr s) : Part), Sum.inl [c]]).length c') w')
      rw [show qs ++ [(.inr (.inr s) : Part), Sum.inl [c]] = (qs ++ [.inr (.inr s)]) ++ [.inl [c]] by simp, show ((qs ++ [(.inr (.inr s) : Part)]) ++ [(Sum.inl [c] : Part)]).length = qs.length + 1 + 1 by simp]
      clear hlen hs hvl
      go_enter Try.func50, Try.ntmps50
      go_wp2_with (at_builtin; refine wpList_append_lies _ rfl _ _ 90 rfl W.heap.size 20 i .nilIface 1 16 Try.underlying90 HI.out.1 HI.out.2.1 HI.out.2.2.1 HI.out.2.2.2 rfl (by decide) _ _ _ rfl ARM.out ⟨w.heap.size + 1, 0, none⟩ 1 1 [.iface 97 (.slice (some ⟨w.heap.size, 0, none⟩) 1 1)] rfl rfl (World.news_of_block (cs := #[.iface 97 (.slice (some ⟨w.heap.size, 0, none⟩) 1 1)]) (t := 20) (fr := (0, 0)) (by simpa using heap_alloc_new (w.alloc (.cells #[.int .u8 (c.toNat : Int)] 5)) (.cells #[.iface 97 (.slice (some ⟨w.heap.size, 0, none⟩) 1 1)] 20))) ONE.out (by decide) MX.out BY.out (Nat.le_trans hsz (Nat.le_trans (le_alloc _ _) (le_alloc _ _))) (w.heap.size + 1 + 1) (by simp) ?_)
      intro g cap w2 hown hgrow hat hlt
      have HP : Hid (PS W (fun b => F b ∨ lastB (vs ++ [_]) b) ((qs ++ [.inr (.inr s)]) ++ [.inl [c]]) _ (.slice (some ⟨g, 0, none⟩) (qs.length + 1 + 1) cap) w2) := PU.out g cap w2 hgrow (by simpa using hown) hat
      clear hown hgrow hat hlt
      go_wp2
      go_ret
      exact ⟨_, _, _, _, rfl, HP⟩
end Go.Proofs.Yteanhhehjlhhbaa
/- The parts of a conjunct: the program's parts. -/
namespace Go.Proofs.Yteanhhehjlhhbaa
set_option linter.unusedVariables false
open Go.ChangeShapes Go.WideShapes Go.ChangeAt Go.RowKit

theorem addT_size : ∀ (ps : List Part) (c : UInt8), (addT ps c).length ≤ ps.length + 1 ∧ ∀ m, (∀ l, (.inl l : Part) ∈ ps → l.length ≤ m) → ∀ l, (.inl l : Part) ∈ addT ps c → l.length ≤ m + 1
  | [], c => ⟨by simp [addT], fun m _ l hl => by
      have : l = [c] := by simpa [addT] using hl
      subst this; simp⟩
  | [.inl x], c => ⟨by simp [addT], fun m h l hl => by
      have e : l = x ++ [c] := by simpa [addT] using hl
      have := h x (by simp)
      subst e; simpa using this⟩
  | [.inr x], c => ⟨by simp [addT], fun m h l hl => by
      have : l = [c] := by simpa [addT] using hl
      subst this; simp⟩
  | p :: q :: ps, c => by
    obtain ⟨h1, h2⟩ := addT_size (q :: ps) c
    refine ⟨by simp only [addT, List.length_cons] at h1 ⊢; omega, fun m h l hl => ?_⟩
    have hl' : (.inl l : Part) ∈ p :: addT (q :: ps) c := by simpa only [addT] using hl
    rcases List.mem_cons.1 hl' with e | e
    · have := h l (by rw [e]; exact List.mem_cons_self); omega
    · exact h2 m (fun x hx => h x (List.mem_cons_of_mem _ hx)) l e
theorem symP_size (names : List ByteArray) (ps : List Part) (s : Sy) : (symP names ps s).length ≤ ps.length + 1 ∧ ∀ m, (∀ l, (.inl l : Part) ∈ ps → l.length ≤ m) → ∀ l, (.inl l : Part) ∈ symP names ps s → l.length ≤ m + 1 := by
  unfold symP
  split
  · exact ⟨by simp, fun m h l hl => by have := h l (by simpa using hl); omega⟩
  · split
    · exact ⟨by simp, fun m h l hl => by have := h l (by simpa using hl); omega⟩
    · exact addT_size ps _
theorem fold_size (names : List ByteArray) (l : List Sy) : ∀ k, k ≤ l.length → ((l.take k).foldl (symP names) []).length ≤ k ∧ ∀ x, (.inl x : Part) ∈ (l.take k).foldl (symP names) [] → x.length ≤ k
  | 0, _ => by simp
  | k + 1, h => by
    obtain ⟨h1, h2⟩ := fold_size names l k (by omega)
    rw [List.take_add_one, List.getElem?_eq_getElem (by omega), Option.toList_some, List.foldl_append]
    have h3 := symP_size names ((l.take k).foldl (symP names) []) l[k]
    exact ⟨Nat.le_trans h3.1 (by omega), h3.2 k h2⟩
theorem fold_take {names : List ByteArray} {l : List Sy} {k : Nat} {s : Sy} (h : l[k]? = some s) : (l.take (k + 1)).foldl (symP names) [] = symP names ((l.take k).foldl (symP names) []) s := by
  rw [List.take_add_one, h, Option.toList_some, List.foldl_append]; rfl
/-- What parts hands back. -/
def PartsEnd (W w' : World) (ps : List Part) (v : Value) : Prop := ∃ (F : Nat → Prop) (us : List Value), (∀ b, F b → W.heap.size ≤ b ∧ b < w'.heap.size) ∧ Reads w' F v ps.length us ∧ (∀ (k : Nat) (p : Part) (u : Value), ps[k]? = some p → us[k]? = some u → PartIn w' F p u) ∧ us.length = ps.length ∧ Below W.heap.size W w'
theorem PS.out {W w : World} {F : Nat → Prop} {ps : List Part} {us : List Value} {o : Value} (m : PS W F ps us o w) : PartsEnd W w ps o := by
  have hF : ∀ b, ((F b ∨ lastB us b) ∨ o.ownBlock = some b) → W.heap.size ≤ b ∧ b < w.heap.size := fun b h => by
    rcases h with (h | h) | h
    · exact m.fl b h
    · exact ⟨(m.lastF h).2.1, (m.lastF h).2.2.1⟩
    · exact m.oo.lt b h
  refine ⟨fun b => (F b ∨ lastB us b) ∨ o.ownBlock = some b, us, hF, Reads.of m.oo (fun b e => Or.inr e), fun k p u e1 e2 => ?_, m.len, m.bl⟩
  by_cases hl : k + 1 < ps.length
  · exact (m.ri k p u e1 e2 hl).keep ⟨Nat.le_refl _, fun _ _ => rfl⟩ (fun b h => Or.inl (Or.inl h))
  · have hk := (List.getElem?_eq_some_iff.1 e1).1
    have h5 := m.rl k p u e1 e2 (by omega)
    match p, h5 with
    | .inl l, ⟨v, h6, h7, h8⟩ =>
      refine ⟨v, h6, Reads.of h7 (fun b h9 => Or.inl (Or.inr ⟨v, ?_, h9⟩))⟩
      rw [← h6]
      exact getLast_at e2 (by have := m.len; omega)
    | .inr (.inl (a, c)), h5 => exact h5
    | .inr (.inr s), h5 => exact h5
theorem parts_nil (W : World) : PartsEnd W ((W.alloc (.cells #[] 5)).alloc (.cells #[.iface 97 (.slice (some ⟨W.heap.size, 0, none⟩) 0 0)] 20)) [.inl []] (.slice (some ⟨W.heap.size + 1, 0, none⟩) 1 1) := by
  have hz : (W.alloc (.cells #[] 5)).heap.size = W.heap.size + 1 := by simp
  have h := heap_alloc_new (W.alloc (.cells #[] 5)) (.cells #[.iface 97 (.slice (some ⟨W.heap.size, 0, none⟩) 0 0)] 20)
  rw [hz] at h
  refine ⟨fun b => b = W.heap.size + 1, [.iface 97 (.slice (some ⟨W.heap.size, 0, none⟩) 0 0)], fun b hb => ⟨by omega, by rw [hb]; exact heap_lt h⟩, ?_, fun k p u e1 e2 => ?_, rfl, belA _ _ _⟩
  · refine ⟨_, _, rfl, ⟨by unfold maxLen; simp, Nat.le_refl _⟩, fun _ => ⟨W.heap.size + 1, 0, rfl, rfl, heap_lt h, fun j c hj => ?_, fun j _ => Lib.frozen_of_heap h _⟩⟩
    rw [Nat.zero_add, Lib.cell_of_heap h]
    simpa using hj
  · match k, e1, e2 with
    | 0, e1, e2 =>
      obtain rfl : (.inl [] : Part) = p := by simpa using e1
      obtain rfl : Value.iface 97 (.slice (some ⟨W.heap.size, 0, none⟩) 0 0) = u := by simpa using e2
      exact ⟨_, rfl, ⟨_, _, rfl, ⟨Nat.zero_le _, Nat.le_refl _⟩, fun h => absurd h (Nat.lt_irrefl _)⟩⟩
    | k + 1, e1, e2 => simp at e1
theorem byte_of {n : Int} (h0 : 0 ≤ n) (h1 : n ≤ 255) : ((byteOf n).toNat : Int) = n := byteOf_nat h0 h1
set_option maxHeartbeats 8000000 in
set_option maxRecDepth 100000 in
theorem parts_any {B b : Nat} {nv : Value} {acc : List UInt8} {W : World} (h : Wr B b nv acc W) (v : Value) (l : List Sy) {F0 : Nat → Prop} (hv : IsSys W F0 v l) {Fn : Nat → Prop} {names : List ByteArray} (hn : IsTexts W Fn nv names) (hm : mayRow names.length l = true) :
    Calls Try.prog 45 #[.pointer (some ⟨b, 0, none⟩), v] W fun e w' => ∃ (p' : Option Addr) (c' : Nat), e = .returned (.slice p' (partsT names l).length c') ∧ Hid (PartsEnd W w' (partsT names l) (.slice p' (partsT names l).length c')) := by
  obtain ⟨i, hi0, hz0, hz1, hz2⟩ := info_parts Try.infoAny
  have HI : Hid (Try.prog.info? 20 = some i ∧ i.zero = some .nilIface ∧ i.size = 1 ∧ i.bytes = 16) := ⟨hi0, hz0, hz1, hz2⟩
  clear hi0 hz0 hz1 hz2
  simp only [mayRow, Bool.and_eq_true, decide_eq_true_eq, List.all_eq_true] at hm
  have hl64 := hm.1
  have HM : Hid (∀ s, s ∈ l → maySym names.length s = true) := hm.2
  clear hm
  obtain ⟨p, cp, rfl, -, hca⟩ := hv
  have HA : Hid (0 < l.length → ∃ g o, p = some ⟨g, o, none⟩ ∧ F0 g ∧ g < W.heap.size ∧ (∀ j c, (sysV l)[j]? = some c → W.cell? ⟨g, o + j, none⟩ = some c) ∧ ∀ j, j < (sysV l).length → W.frozen? ⟨g, o + j, none⟩ = false) := hca
  obtain ⟨pn, cn, hnv, hnm, hcn⟩ := hn
  subst hnv
  have hnm1 := hnm.1
  unfold maxLen at hnm1
  have HN : Hid (0 < names.length → ∃ g o, pn = some ⟨g, o, none⟩ ∧ Fn g ∧ g < W.heap.size ∧ (∀ j c, (txV names)[j]? = some c → W.cell? ⟨g, o + j, none⟩ = some c) ∧ ∀ j, j < (txV names).length → W.frozen? ⟨g, o + j, none⟩ = false) := hcn
  have HW : Hid (b < W.heap.size ∧ W.cell? ⟨b, 2, none⟩ = some (.slice pn names.length cn)) := by
    obtain ⟨_, q, x, _, hb, _⟩ := id h
    exact ⟨h.lt, by rw [Lib.cell_of_heap hb]; rfl⟩
  clear hca hcn hnm h
  by_cases h0 : l.length = 0
  · have e : l = [] := List.length_eq_zero_iff.1 h0
    subst e
    have E : partsT names [] = [.inl []] := rfl
    rw [E]
    go_enter Try.func45, Try.ntmps45
    go_wp2
    go_ret
    exact ⟨_, _, rfl, parts_nil W⟩
  · have E : partsT names l = l.foldl (symP names) [] := by
      unfold partsT
      match l, h0 with
      | [], h0 => exact absurd rfl h0
      | s :: l, _ => rfl
    rw [E]
    clear E
    have h0' : ((l.length : Int) == 0) = false := by rw [beq_eq_false_iff_ne]; omega
    go_enter Try.func45, Try.ntmps45
    go_wp2
    go_loopw [5, 16] (fun o j wr => ∃ (k n : Nat) (F : Nat → Prop) (us : List Value) (po : Option Addr) (co : Nat), k ≤ l.length ∧ j = .int .i64 k ∧ o = .slice po n co ∧ Hid (n = ((l.take k).foldl (symP names) []).length) ∧ Hid (PS W F ((l.take k).foldl (symP names) []) us (.slice po n co) wr)) (fun _ j _ => l.length - (intOf j).toNat)
    case atStart => exact ⟨0, 0, _, _, none, 0, Nat.zero_le _, rfl, rfl, rfl, PS.new W⟩
    case round =>
      obtain ⟨k, n, F, us, po, co, hk, rfl, rfl, HL, MM⟩ := hrel
      have hwz : W.heap.size ≤ wr.heap.size := MM.out.bl.size
      by_cases hlt : k < l.length
      · obtain ⟨t, ht⟩ : ∃ t, l[k]? = some t := ⟨_, List.getElem?_eq_getElem hlt⟩
        obtain ⟨g1, o1, hp, -, hg1, ca, -⟩ := HA.out (by omega)
        subst hp
        obtain ⟨i0, i1, i2⟩ := sysV_at l k t ht
        have a0 := (MM.out.bl.cell (p := ⟨_, _, none⟩) hg1).trans (ca _ _ i0)
        have a1 := (MM.out.bl.cell (p := ⟨_, _, none⟩) hg1).trans (reas (ca _ _ i1))
        have a2 := (MM.out.bl.cell (p := ⟨_, _, none⟩) hg1).trans (reas (ca _ _ i2))
        have hmt := HM.out t (List.mem_of_getElem? ht)
        have HT : Hid ((l.take (k + 1)).foldl (symP names) [] = symP names ((l.take k).foldl (symP names) []) t) := fold_take ht
        have SZ := fold_size names l k hk
        have hn64 : n ≤ 64 := by rw [HL.out]; exact Nat.le_trans SZ.1 (by omega)
        have HSm : Hid (Small ((l.take k).foldl (symP names) [])) := ⟨by have := SZ.1; omega, fun x hx => by have := SZ.2 x hx; omega⟩
        generalize hps : (l.take k).foldl (symP names) [] = ps at *
        obtain ⟨nm, lo, hi⟩ := t
        simp only at a0 a1 a2
        clear ca ht hg1 i0 i1 i2 SZ hps
        unfold maySym at hmt
        simp only at hmt
        have MX : Hid (n + 1 ≤ maxLen) := by show _ ≤ _; unfold maxLen; omega
        have BY : Hid ((n + 1) * 16 ≤ 140737488355328) := by show _ ≤ _; omega
        by_cases e0 : nm = -1
        · rw [if_pos e0] at hmt
          simp only [Bool.and_eq_true, decide_eq_true_eq] at hmt
          obtain ⟨l0, l1, l2⟩ := hmt
          subst e0
          by_cases e1 : lo = hi
          · subst e1
            have ES : symP names ps ⟨-1, lo, lo⟩ = addT ps (byteOf lo) := by unfold symP; simp
            have HT2 := HT.out
            rw [ES] at HT2
            have HT3 : Hid ((l.take (k + 1)).foldl (symP names) [] = addT ps (byteOf lo)) := HT2
            have hb := byte_of l0 l2
            have ADD : ∀ ob, Calls Try.prog 50 #[.slice po n co, .int .u8 lo] (wr.alloc ob) fun e w' => ∃ (F' : Nat → Prop) (us' : List Value) (p' : Option Addr) (c' : Nat), e = .returned (.slice p' (addT ps (byteOf lo)).length c') ∧ Hid (PS W F' (addT ps (byteOf lo)) us' (.slice p' (addT ps (byteOf lo)).length c') w') := fun ob => by
              have := addByte_any (MM.out.keep (bel1 wr ob)) HSm.out (byteOf lo)
              rwa [hb] at this
            generalize hln : (addT ps (byteOf lo)).length = n2 at ADD
            have HLN : Hid (n2 = (addT ps (byteOf lo)).length) := hln.symm
            clear HT2 ES hb hln HT
            have el : (lo != lo) = false := by simp
            go_wp2_with (go_at_call 50; refine (ADD _).mono ?_; rintro e w2 ⟨F2, us2, p2, c2, rfl, M2⟩)
            go_roundw
            case rel => exact ⟨k + 1, n2, F2, us2, p2, c2, by omega, by go_num, rfl, (by show _ = _; rw [HT3.out]; exact HLN.out), (by show PS _ _ _ _ _ _; rw [HT3.out]; exact M2.out)⟩
            case measure => simp [intOf]; omega
          · have ES : symP names ps ⟨-1, lo, hi⟩ = ps ++ [.inr (.inl (byteOf lo, byteOf hi))] := by unfold symP; simp [e1]
            have HT2 := HT.out
            rw [ES] at HT2
            have HT3 : Hid ((l.take (k + 1)).foldl (symP names) [] = ps ++ [.inr (.inl (byteOf lo, byteOf hi))]) := HT2
            have hbl := byte_of l0 (by omega : lo ≤ 255)
            have hbh := byte_of (by omega : 0 ≤ hi) l2
            have PU : Hid (∀ (g cap : Nat) (ob ob2 : Obj) (w2 : World), ((wr.alloc ob).alloc ob2).grownBy w2 (Value.slice po n co).ownBlock → w2.ownsRow W.heap.size 20 1 (.slice (some ⟨g, 0, none⟩) (n + 1) cap) (n + 1) (us ++ [.iface 100 (.agg #[.int .u8 lo, .int .u8 hi])]) → ((Value.slice po n co).ownBlock = some g ∨ g = wr.heap.size + 1 + 1) → PS W (fun b => F b ∨ lastB us b) ((l.take (k + 1)).foldl (symP names) []) (us ++ [.iface 100 (.agg #[.int .u8 lo, .int .u8 hi])]) (.slice (some ⟨g, 0, none⟩) (n + 1) cap) w2) := fun g cap ob ob2 w2 h1 h2 h3 => by
              have hnl := HL.out
              subst hnl
              rw [HT3.out]
              refine MM.out.push (belA _ _ _) (p := .inr (.inl (byteOf lo, byteOf hi))) ?_ h1 h2 (by simpa using h3)
              show _ = _
              rw [hbl, hbh]
            have ONE : Hid (∀ u, u ∈ [Value.iface 100 (.agg #[.int .u8 lo, .int .u8 hi])] → u.oneCell' = true) := by show ∀ u, _ → _; simp [Value.oneCell']
            have ARM : Hid (∀ ob ob2, ((wr.alloc ob).alloc ob2).ownsRow W.heap.size 20 1 (.slice po n co) n us) := fun ob ob2 => by
              have := (MM.out.oo.alloc ob).alloc ob2
              rwa [← HL.out] at this
            have el : (lo != hi) = true := by simp [e1]
            clear HT2 ES hbl hbh HT
            go_wp2_with (at_builtin; refine wpList_append_lies _ rfl _ _ 90 rfl W.heap.size 20 i .nilIface 1 16 Try.underlying90 HI.out.1 HI.out.2.1 HI.out.2.2.1 HI.out.2.2.2 rfl (by decide) _ _ _ rfl (ARM.out _ _) ⟨wr.heap.size + 1, 0, none⟩ 1 1 [.iface 100 (.agg #[.int .u8 lo, .int .u8 hi])] rfl rfl (World.news_of_block (cs := #[.iface 100 (.agg #[.int .u8 lo, .int .u8 hi])]) (t := 20) (fr := (0, 0)) (by simpa using heap_alloc_new (wr.alloc (.cells #[.int .i64 (-1), .int .i64 lo, .int .i64 hi] 59)) (.cells #[.iface 100 (.agg #[.int .u8 lo, .int .u8 hi])] 20))) ONE.out (by decide) MX.out BY.out (Nat.le_trans hwz (Nat.le_trans (le_alloc _ _) (le_alloc _ _))) (wr.heap.size + 1 + 1) (by simp) ?_)
            intro g cap w2 hown hgrow hat hltg
            have M2 := PU.out g cap _ _ w2 hgrow hown hat
            have HP : Hid (PS W (fun b => F b ∨ lastB us b) ((l.take (k + 1)).foldl (symP names) []) (us ++ [.iface 100 (.agg #[.int .u8 lo, .int .u8 hi])]) (.slice (some ⟨g, 0, none⟩) (n + 1) cap) w2) := M2
            clear hown hgrow hat hltg M2
            go_wp2
            go_roundw
            case rel => exact ⟨k + 1, n + 1, _, _, _, _, by omega, by go_num, rfl, (by show _ = _; rw [HT3.out, List.length_append, ← HL.out]; rfl), HP⟩
            case measure => simp [intOf]; omega
        · rw [if_neg e0] at hmt
          simp only [isNum, Bool.and_eq_true, decide_eq_true_eq] at hmt
          obtain ⟨⟨n0, n1⟩, rfl, rfl⟩ := hmt
          obtain ⟨kk, rfl⟩ : ∃ kk : Nat, nm = (kk : Int) := ⟨nm.toNat, by omega⟩
          have hkk : kk < names.length := by omega
          obtain ⟨s, hs⟩ : ∃ s, names[kk]? = some s := ⟨_, List.getElem?_eq_getElem hkk⟩
          obtain ⟨g2, o2, hp2, -, hg2, cb, -⟩ := HN.out (by omega)
          subst hp2
          have x0 := (MM.out.bl.cell (p := ⟨_, _, none⟩) hg2).trans (cb kk (.string s) (by simp [txV, hs]))
          have x1 := (MM.out.bl.cell (p := ⟨_, _, none⟩) HW.out.1).trans HW.out.2
          have hbw : b < wr.heap.size := Nat.lt_of_lt_of_le HW.out.1 hwz
          have hgw : g2 < wr.heap.size := Nat.lt_of_lt_of_le hg2 hwz
          have ES : symP names ps ⟨(kk : Int), 0, 0⟩ = ps ++ [.inr (.inr s)] := by
            unfold symP
            rw [if_pos e0]
            simp [List.getD, hs]
          have HT2 := HT.out
          rw [ES] at HT2
          have HT3 : Hid ((l.take (k + 1)).foldl (symP names) [] = ps ++ [.inr (.inr s)]) := HT2
          have PU : Hid (∀ (g cap : Nat) (ob ob2 : Obj) (w2 : World), ((wr.alloc ob).alloc ob2).drew.grownBy w2 (Value.slice po n co).ownBlock → w2.ownsRow W.heap.size 20 1 (.slice (some ⟨g, 0, none⟩) (n + 1) cap) (n + 1) (us ++ [.iface 98 (.string s)]) → ((Value.slice po n co).ownBlock = some g ∨ g = wr.heap.size + 1 + 1) → PS W (fun b => F b ∨ lastB us b) ((l.take (k + 1)).foldl (symP names) []) (us ++ [.iface 98 (.string s)]) (.slice (some ⟨g, 0, none⟩) (n + 1) cap) w2) := fun g cap ob ob2 w2 h1 h2 h3 => by
            have hnl := HL.out
            subst hnl
            rw [HT3.out]
            exact MM.out.push (belA wr ob ob2).drew (p := .inr (.inr s)) rfl h1 h2 (by simpa using h3)
          have ONE : Hid (∀ u, u ∈ [Value.iface 98 (.string s)] → u.oneCell' = true) := by show ∀ u, _ → _; simp [Value.oneCell']
          have ARM : Hid (∀ ob ob2, ((wr.alloc ob).alloc ob2).drew.ownsRow W.heap.size 20 1 (.slice po n co) n us) := fun ob ob2 => by
            have := (MM.out.oo.alloc ob).alloc ob2
            rwa [← HL.out] at this
          have el : ((kk : Int) != -1) = true := by simp
          have k0 : (0 : Int) ≤ (kk : Int) := by omega
          have NW : Hid (((wr.alloc (.cells #[.int .i64 (kk : Int), .int .i64 0, .int .i64 0] 59)).alloc (.cells #[.iface 98 (.string s)] 20)).drew.heap[wr.heap.size + 1]? = some (.cells #[.iface 98 (.string s)] 20)) := by
            have := heap_alloc_new (wr.alloc (.cells #[.int .i64 (kk : Int), .int .i64 0, .int .i64 0] 59)) (.cells #[.iface 98 (.string s)] 20)
            rw [show (wr.alloc (.cells #[.int .i64 (kk : Int), .int .i64 0, .int .i64 0] 59)).heap.size = wr.heap.size + 1 by simp] at this
            exact this
          clear HT2 ES HT cb hs e0
          go_wp2_with (fail)
          go_region_law ((refine step_append_lies _ (by rfl) _ _ _ (by rfl) W.heap.size 20 i _ 1 16 Try.underlying90 HI.out.1 HI.out.2.1 HI.out.2.2.1 HI.out.2.2.2 rfl (by decide) (.slice po n co) n us (by rfl) (ARM.out _ _) ⟨wr.heap.size + 1, 0, none⟩ 1 1 [.iface 98 (.string s)] (by rfl) (by rfl) (World.news_of_block (cs := #[.iface 98 (.string s)]) (t := 20) (fr := (0, 0)) NW.out) ONE.out (by decide) MX.out BY.out (Nat.le_trans hwz (Nat.le_trans (le_alloc _ _) (le_alloc _ _))) (wr.heap.size + 1 + 1) (by simp) ?_; intro g cap w2 hown hgrow hat hltg))
          all_goals
            have HP : Hid (PS W (fun b => F b ∨ lastB us b) ((l.take (k + 1)).foldl (symP names) []) (us ++ [.iface 98 (.string s)]) (.slice (some ⟨g, 0, none⟩) (n + 1) cap) w2) := PU.out g cap _ _ w2 hgrow hown hat
            clear hown hgrow hat hltg
            go_wp2
            go_roundw
            case rel => exact ⟨k + 1, n + 1, _, _, _, _, by omega, by go_num, rfl, (by show _ = _; rw [HT3.out, List.length_append, ← HL.out]; rfl), HP⟩
            case measure => simp [intOf]; omega
      · obtain rfl : k = l.length := by omega
        have M2 := MM.out.out
        have hn2 := HL.out
        rw [List.take_length] at M2 hn2
        subst hn2
        have HE : Hid (PartsEnd W wr (l.foldl (symP names) []) (.slice po (l.foldl (symP names) []).length co)) := M2
        clear M2 HL MM
        go_wp2
        go_ret
        exact ⟨_, _, rfl, HE⟩
end Go.Proofs.Yteanhhehjlhhbaa
