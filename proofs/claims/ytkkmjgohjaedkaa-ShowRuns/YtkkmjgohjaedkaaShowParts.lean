/- The parts of a conjunct: the program's parts. -/
import Derived.Test.YtkkmjgohjaedkaaShowByte
import Derived.Deep.RegionLaw
namespace Go.Proofs.Ytkkmjgohjaedkaa
set_option linter.unusedVariables false
open Go.ChangeShapes Go.WideShapes Go.ChangeAt Go.RowKit

theorem addT_size : ∀ (ps : List Part) (c : UInt8), (addT ps c).length ≤ ps.length + 1 ∧ ∀ m, (∀ l, (.inl l : Part) ∈ ps → l.length ≤ m) → ∀ l, (.inl l : Part) ∈ addT ps c → l.length ≤ m + 1
  | [], c => ⟨by simp [addT], fun m _ l hl => by
      have : l = [c] := by simpa [addT] using hl
      subst this; simp⟩
  | [.inl x], c => ⟨by simp [addT], fun m h l hl => by
      have e : l = x ++ [c] := by simpa [addT] using hl
      have := h x (by simp)
      subst e; simpa using this⟩
  | [.inr x], c => ⟨by simp [addT], fun m h l hl => by
      have : l = [c] := by simpa [addT] using hl
      subst this; simp⟩
  | p :: q :: ps, c => by
    obtain ⟨h1, h2⟩ := addT_size (q :: ps) c
    refine ⟨by simp only [addT, List.length_cons] at h1 ⊢; omega, fun m h l hl => ?_⟩
    have hl' : (.inl l : Part) ∈ p :: addT (q :: ps) c := by simpa only [addT] using hl
    rcases List.mem_cons.1 hl' with e | e
    · have := h l (by rw [e]; exact List.mem_cons_self); omega
    · exact h2 m (fun x hx => h x (List.mem_cons_of_mem _ hx)) l e
theorem symP_size (names : List ByteArray) (ps : List Part) (s : Sy) : (symP names ps s).length ≤ ps.length + 1 ∧ ∀ m, (∀ l, (.inl l : Part) ∈ ps → l.length ≤ m) → ∀ l, (.inl l : Part) ∈ symP names ps s → l.length ≤ m + 1 := by
  unfold symP
  split
  · exact ⟨by simp, fun m h l hl => by have := h l (by simpa using hl); omega⟩
  · split
    · exact ⟨by simp, fun m h l hl => by have := h l (by simpa using hl); omega⟩
    · exact addT_size ps _
theorem fold_size (names : List ByteArray) (l : List Sy) : ∀ k, k ≤ l.length → ((l.take k).foldl (symP names) []).length ≤ k ∧ ∀ x, (.inl x : Part) ∈ (l.take k).foldl (symP names) [] → x.length ≤ k
  | 0, _ => by simp
  | k + 1, h => by
    obtain ⟨h1, h2⟩ := fold_size names l k (by omega)
    rw [List.take_add_one, List.getElem?_eq_getElem (by omega), Option.toList_some, List.foldl_append]
    have h3 := symP_size names ((l.take k).foldl (symP names) []) l[k]
    exact ⟨Nat.le_trans h3.1 (by omega), h3.2 k h2⟩
theorem fold_take {names : List ByteArray} {l : List Sy} {k : Nat} {s : Sy} (h : l[k]? = some s) : (l.take (k + 1)).foldl (symP names) [] = symP names ((l.take k).foldl (symP names) []) s := by
  rw [List.take_add_one, h, Option.toList_some, List.foldl_append]; rfl
/-- What parts hands back. -/
def PartsEnd (W w' : World) (ps : List Part) (v : Value) : Prop := ∃ (F : Nat → Prop) (us : List Value), (∀ b, F b → W.heap.size ≤ b ∧ b < w'.heap.size) ∧ Reads w' F v ps.length us ∧ (∀ (k : Nat) (p : Part) (u : Value), ps[k]? = some p → us[k]? = some u → PartIn w' F p u) ∧ us.length = ps.length ∧ Below W.heap.size W w'
theorem PS.out {W w : World} {F : Nat → Prop} {ps : List Part} {us : List Value} {o : Value} (m : PS W F ps us o w) : PartsEnd W w ps o := by
  have hF : ∀ b, ((F b ∨ lastB us b) ∨ o.ownBlock = some b) → W.heap.size ≤ b ∧ b < w.heap.size := fun b h => by
    rcases h with (h | h) | h
    · exact m.fl b h
    · exact ⟨(m.lastF h).2.1, (m.lastF h).2.2.1⟩
    · exact m.oo.lt b h
  refine ⟨fun b => (F b ∨ lastB us b) ∨ o.ownBlock = some b, us, hF, Reads.of m.oo (fun b e => Or.inr e), fun k p u e1 e2 => ?_, m.len, m.bl⟩
  by_cases hl : k + 1 < ps.length
  · exact (m.ri k p u e1 e2 hl).keep ⟨Nat.le_refl _, fun _ _ => rfl⟩ (fun b h => Or.inl (Or.inl h))
  · have hk := (List.getElem?_eq_some_iff.1 e1).1
    have h5 := m.rl k p u e1 e2 (by omega)
    match p, h5 with
    | .inl l, ⟨v, h6, h7, h8⟩ =>
      refine ⟨v, h6, Reads.of h7 (fun b h9 => Or.inl (Or.inr ⟨v, ?_, h9⟩))⟩
      rw [← h6]
      exact getLast_at e2 (by have := m.len; omega)
    | .inr (.inl (a, c)), h5 => exact h5
    | .inr (.inr s), h5 => exact h5
theorem parts_nil (W : World) : PartsEnd W ((W.alloc (.cells #[] 5)).alloc (.cells #[.iface 198 (.slice (some ⟨W.heap.size, 0, none⟩) 0 0)] 20)) [.inl []] (.slice (some ⟨W.heap.size + 1, 0, none⟩) 1 1) := by
  have hz : (W.alloc (.cells #[] 5)).heap.size = W.heap.size + 1 := by simp
  have h := heap_alloc_new (W.alloc (.cells #[] 5)) (.cells #[.iface 198 (.slice (some ⟨W.heap.size, 0, none⟩) 0 0)] 20)
  rw [hz] at h
  refine ⟨fun b => b = W.heap.size + 1, [.iface 198 (.slice (some ⟨W.heap.size, 0, none⟩) 0 0)], fun b hb => ⟨by omega, by rw [hb]; exact heap_lt h⟩, ?_, fun k p u e1 e2 => ?_, rfl, belA _ _ _⟩
  · refine ⟨_, _, rfl, ⟨by unfold maxLen; simp, Nat.le_refl _⟩, fun _ => ⟨W.heap.size + 1, 0, rfl, rfl, heap_lt h, fun j c hj => ?_, fun j _ => Lib.frozen_of_heap h _⟩⟩
    rw [Nat.zero_add, Lib.cell_of_heap h]
    simpa using hj
  · match k, e1, e2 with
    | 0, e1, e2 =>
      obtain rfl : (.inl [] : Part) = p := by simpa using e1
      obtain rfl : Value.iface 198 (.slice (some ⟨W.heap.size, 0, none⟩) 0 0) = u := by simpa using e2
      exact ⟨_, rfl, ⟨_, _, rfl, ⟨Nat.zero_le _, Nat.le_refl _⟩, fun h => absurd h (Nat.lt_irrefl _)⟩⟩
    | k + 1, e1, e2 => simp at e1
theorem byte_of {n : Int} (h0 : 0 ≤ n) (h1 : n ≤ 255) : ((byteOf n).toNat : Int) = n := byteOf_nat h0 h1
set_option maxHeartbeats 8000000 in
set_option maxRecDepth 100000 in
theorem parts_any {B b : Nat} {nv : Value} {acc : List UInt8} {W : World} (h : Wr B b nv acc W) (v : Value) (l : List Sy) {F0 : Nat → Prop} (hv : IsSys W F0 v l) {Fn : Nat → Prop} {names : List ByteArray} (hn : IsTexts W Fn nv names) (hm : mayRow names.length l = true) :
    Calls Try.prog 156 #[.pointer (some ⟨b, 0, none⟩), v] W fun e w' => ∃ (p' : Option Addr) (c' : Nat), e = .returned (.slice p' (partsT names l).length c') ∧ Hid (PartsEnd W w' (partsT names l) (.slice p' (partsT names l).length c')) := by
  obtain ⟨i, hi0, hz0, hz1, hz2⟩ := info_parts Try.infoAny
  have HI : Hid (Try.prog.info? 20 = some i ∧ i.zero = some .nilIface ∧ i.size = 1 ∧ i.bytes = 16) := ⟨hi0, hz0, hz1, hz2⟩
  clear hi0 hz0 hz1 hz2
  simp only [mayRow, Bool.and_eq_true, decide_eq_true_eq, List.all_eq_true] at hm
  have hl64 := hm.1
  have HM : Hid (∀ s, s ∈ l → maySym names.length s = true) := hm.2
  clear hm
  obtain ⟨p, cp, rfl, -, hca⟩ := hv
  have HA : Hid (0 < l.length → ∃ g o, p = some ⟨g, o, none⟩ ∧ F0 g ∧ g < W.heap.size ∧ (∀ j c, (sysV l)[j]? = some c → W.cell? ⟨g, o + j, none⟩ = some c) ∧ ∀ j, j < (sysV l).length → W.frozen? ⟨g, o + j, none⟩ = false) := hca
  obtain ⟨pn, cn, hnv, hnm, hcn⟩ := hn
  subst hnv
  have hnm1 := hnm.1
  unfold maxLen at hnm1
  have HN : Hid (0 < names.length → ∃ g o, pn = some ⟨g, o, none⟩ ∧ Fn g ∧ g < W.heap.size ∧ (∀ j c, (txV names)[j]? = some c → W.cell? ⟨g, o + j, none⟩ = some c) ∧ ∀ j, j < (txV names).length → W.frozen? ⟨g, o + j, none⟩ = false) := hcn
  have HW : Hid (b < W.heap.size ∧ W.cell? ⟨b, 2, none⟩ = some (.slice pn names.length cn)) := by
    obtain ⟨_, q, x, _, hb, _⟩ := id h
    exact ⟨h.lt, by rw [Lib.cell_of_heap hb]; rfl⟩
  clear hca hcn hnm h
  by_cases h0 : l.length = 0
  · have e : l = [] := List.length_eq_zero_iff.1 h0
    subst e
    have E : partsT names [] = [.inl []] := rfl
    rw [E]
    go_enter Try.func156, Try.ntmps156
    go_wp2
    go_ret
    exact ⟨_, _, rfl, parts_nil W⟩
  · have E : partsT names l = l.foldl (symP names) [] := by
      unfold partsT
      match l, h0 with
      | [], h0 => exact absurd rfl h0
      | s :: l, _ => rfl
    rw [E]
    clear E
    have h0' : ((l.length : Int) == 0) = false := by rw [beq_eq_false_iff_ne]; omega
    go_enter Try.func156, Try.ntmps156
    go_wp2
    go_loopw [5, 16] (fun o j wr => ∃ (k n : Nat) (F : Nat → Prop) (us : List Value) (po : Option Addr) (co : Nat), k ≤ l.length ∧ j = .int .i64 k ∧ o = .slice po n co ∧ Hid (n = ((l.take k).foldl (symP names) []).length) ∧ Hid (PS W F ((l.take k).foldl (symP names) []) us (.slice po n co) wr)) (fun _ j _ => l.length - (intOf j).toNat)
    case atStart => exact ⟨0, 0, _, _, none, 0, Nat.zero_le _, rfl, rfl, rfl, PS.new W⟩
    case round =>
      obtain ⟨k, n, F, us, po, co, hk, rfl, rfl, HL, MM⟩ := hrel
      have hwz : W.heap.size ≤ wr.heap.size := MM.out.bl.size
      by_cases hlt : k < l.length
      · obtain ⟨t, ht⟩ : ∃ t, l[k]? = some t := ⟨_, List.getElem?_eq_getElem hlt⟩
        obtain ⟨g1, o1, hp, -, hg1, ca, -⟩ := HA.out (by omega)
        subst hp
        obtain ⟨i0, i1, i2⟩ := sysV_at l k t ht
        have a0 := (MM.out.bl.cell (p := ⟨_, _, none⟩) hg1).trans (ca _ _ i0)
        have a1 := (MM.out.bl.cell (p := ⟨_, _, none⟩) hg1).trans (reas (ca _ _ i1))
        have a2 := (MM.out.bl.cell (p := ⟨_, _, none⟩) hg1).trans (reas (ca _ _ i2))
        have hmt := HM.out t (List.mem_of_getElem? ht)
        have HT : Hid ((l.take (k + 1)).foldl (symP names) [] = symP names ((l.take k).foldl (symP names) []) t) := fold_take ht
        have SZ := fold_size names l k hk
        have hn64 : n ≤ 64 := by rw [HL.out]; exact Nat.le_trans SZ.1 (by omega)
        have HSm : Hid (Small ((l.take k).foldl (symP names) [])) := ⟨by have := SZ.1; omega, fun x hx => by have := SZ.2 x hx; omega⟩
        generalize hps : (l.take k).foldl (symP names) [] = ps at *
        obtain ⟨nm, lo, hi⟩ := t
        simp only at a0 a1 a2
        clear ca ht hg1 i0 i1 i2 SZ hps
        unfold maySym at hmt
        simp only at hmt
        have MX : Hid (n + 1 ≤ maxLen) := by show _ ≤ _; unfold maxLen; omega
        have BY : Hid ((n + 1) * 16 ≤ 140737488355328) := by show _ ≤ _; omega
        by_cases e0 : nm = -1
        · rw [if_pos e0] at hmt
          simp only [Bool.and_eq_true, decide_eq_true_eq] at hmt
          obtain ⟨l0, l1, l2⟩ := hmt
          subst e0
          by_cases e1 : lo = hi
          · subst e1
            have ES : symP names ps ⟨-1, lo, lo⟩ = addT ps (byteOf lo) := by unfold symP; simp
            have HT2 := HT.out
            rw [ES] at HT2
            have HT3 : Hid ((l.take (k + 1)).foldl (symP names) [] = addT ps (byteOf lo)) := HT2
            have hb := byte_of l0 l2
            have ADD : ∀ ob, Calls Try.prog 160 #[.slice po n co, .int .u8 lo] (wr.alloc ob) fun e w' => ∃ (F' : Nat → Prop) (us' : List Value) (p' : Option Addr) (c' : Nat), e = .returned (.slice p' (addT ps (byteOf lo)).length c') ∧ Hid (PS W F' (addT ps (byteOf lo)) us' (.slice p' (addT ps (byteOf lo)).length c') w') := fun ob => by
              have := addByte_any (MM.out.keep (bel1 wr ob)) HSm.out (byteOf lo)
              rwa [hb] at this
            generalize hln : (addT ps (byteOf lo)).length = n2 at ADD
            have HLN : Hid (n2 = (addT ps (byteOf lo)).length) := hln.symm
            clear HT2 ES hb hln HT
            have el : (lo != lo) = false := by simp
            go_wp2_with (go_at_call 160; refine (ADD _).mono ?_; rintro e w2 ⟨F2, us2, p2, c2, rfl, M2⟩)
            go_roundw
            case rel => exact ⟨k + 1, n2, F2, us2, p2, c2, by omega, by go_num, rfl, (by show _ = _; rw [HT3.out]; exact HLN.out), (by show PS _ _ _ _ _ _; rw [HT3.out]; exact M2.out)⟩
            case measure => simp [intOf]; omega
          · have ES : symP names ps ⟨-1, lo, hi⟩ = ps ++ [.inr (.inl (byteOf lo, byteOf hi))] := by unfold symP; simp [e1]
            have HT2 := HT.out
            rw [ES] at HT2
            have HT3 : Hid ((l.take (k + 1)).foldl (symP names) [] = ps ++ [.inr (.inl (byteOf lo, byteOf hi))]) := HT2
            have hbl := byte_of l0 (by omega : lo ≤ 255)
            have hbh := byte_of (by omega : 0 ≤ hi) l2
            have PU : Hid (∀ (g cap : Nat) (ob ob2 : Obj) (w2 : World), ((wr.alloc ob).alloc ob2).grownBy w2 (Value.slice po n co).ownBlock → w2.ownsRow W.heap.size 20 1 (.slice (some ⟨g, 0, none⟩) (n + 1) cap) (n + 1) (us ++ [.iface 201 (.agg #[.int .u8 lo, .int .u8 hi])]) → ((Value.slice po n co).ownBlock = some g ∨ g = wr.heap.size + 1 + 1) → PS W (fun b => F b ∨ lastB us b) ((l.take (k + 1)).foldl (symP names) []) (us ++ [.iface 201 (.agg #[.int .u8 lo, .int .u8 hi])]) (.slice (some ⟨g, 0, none⟩) (n + 1) cap) w2) := fun g cap ob ob2 w2 h1 h2 h3 => by
              have hnl := HL.out
              subst hnl
              rw [HT3.out]
              refine MM.out.push (belA _ _ _) (p := .inr (.inl (byteOf lo, byteOf hi))) ?_ h1 h2 (by simpa using h3)
              show _ = _
              rw [hbl, hbh]
            have ONE : Hid (∀ u, u ∈ [Value.iface 201 (.agg #[.int .u8 lo, .int .u8 hi])] → u.oneCell' = true) := by show ∀ u, _ → _; simp [Value.oneCell']
            have ARM : Hid (∀ ob ob2, ((wr.alloc ob).alloc ob2).ownsRow W.heap.size 20 1 (.slice po n co) n us) := fun ob ob2 => by
              have := (MM.out.oo.alloc ob).alloc ob2
              rwa [← HL.out] at this
            have el : (lo != hi) = true := by simp [e1]
            clear HT2 ES hbl hbh HT
            go_wp2_with (at_builtin; refine wpList_append_lies _ rfl _ _ 193 rfl W.heap.size 20 i .nilIface 1 16 Try.underlying193 HI.out.1 HI.out.2.1 HI.out.2.2.1 HI.out.2.2.2 rfl (by decide) _ _ _ rfl (ARM.out _ _) ⟨wr.heap.size + 1, 0, none⟩ 1 1 [.iface 201 (.agg #[.int .u8 lo, .int .u8 hi])] rfl rfl (World.news_of_block (cs := #[.iface 201 (.agg #[.int .u8 lo, .int .u8 hi])]) (t := 20) (fr := (0, 0)) (by simpa using heap_alloc_new (wr.alloc (.cells #[.int .i64 (-1), .int .i64 lo, .int .i64 hi] 84)) (.cells #[.iface 201 (.agg #[.int .u8 lo, .int .u8 hi])] 20))) ONE.out (by decide) MX.out BY.out (Nat.le_trans hwz (Nat.le_trans (le_alloc _ _) (le_alloc _ _))) (wr.heap.size + 1 + 1) (by simp) ?_)
            intro g cap w2 hown hgrow hat hltg
            have M2 := PU.out g cap _ _ w2 hgrow hown hat
            have HP : Hid (PS W (fun b => F b ∨ lastB us b) ((l.take (k + 1)).foldl (symP names) []) (us ++ [.iface 201 (.agg #[.int .u8 lo, .int .u8 hi])]) (.slice (some ⟨g, 0, none⟩) (n + 1) cap) w2) := M2
            clear hown hgrow hat hltg M2
            go_wp2
            go_roundw
            case rel => exact ⟨k + 1, n + 1, _, _, _, _, by omega, by go_num, rfl, (by show _ = _; rw [HT3.out, List.length_append, ← HL.out]; rfl), HP⟩
            case measure => simp [intOf]; omega
        · rw [if_neg e0] at hmt
          simp only [isNum, Bool.and_eq_true, decide_eq_true_eq] at hmt
          obtain ⟨⟨n0, n1⟩, rfl, rfl⟩ := hmt
          obtain ⟨kk, rfl⟩ : ∃ kk : Nat, nm = (kk : Int) := ⟨nm.toNat, by omega⟩
          have hkk : kk < names.length := by omega
          obtain ⟨s, hs⟩ : ∃ s, names[kk]? = some s := ⟨_, List.getElem?_eq_getElem hkk⟩
          obtain ⟨g2, o2, hp2, -, hg2, cb, -⟩ := HN.out (by omega)
          subst hp2
          have x0 := (MM.out.bl.cell (p := ⟨_, _, none⟩) hg2).trans (cb kk (.string s) (by simp [txV, hs]))
          have x1 := (MM.out.bl.cell (p := ⟨_, _, none⟩) HW.out.1).trans HW.out.2
          have hbw : b < wr.heap.size := Nat.lt_of_lt_of_le HW.out.1 hwz
          have hgw : g2 < wr.heap.size := Nat.lt_of_lt_of_le hg2 hwz
          have ES : symP names ps ⟨(kk : Int), 0, 0⟩ = ps ++ [.inr (.inr s)] := by
            unfold symP
            rw [if_pos e0]
            simp [List.getD, hs]
          have HT2 := HT.out
          rw [ES] at HT2
          have HT3 : Hid ((l.take (k + 1)).foldl (symP names) [] = ps ++ [.inr (.inr s)]) := HT2
          have PU : Hid (∀ (g cap : Nat) (ob ob2 : Obj) (w2 : World), ((wr.alloc ob).alloc ob2).drew.grownBy w2 (Value.slice po n co).ownBlock → w2.ownsRow W.heap.size 20 1 (.slice (some ⟨g, 0, none⟩) (n + 1) cap) (n + 1) (us ++ [.iface 199 (.string s)]) → ((Value.slice po n co).ownBlock = some g ∨ g = wr.heap.size + 1 + 1) → PS W (fun b => F b ∨ lastB us b) ((l.take (k + 1)).foldl (symP names) []) (us ++ [.iface 199 (.string s)]) (.slice (some ⟨g, 0, none⟩) (n + 1) cap) w2) := fun g cap ob ob2 w2 h1 h2 h3 => by
            have hnl := HL.out
            subst hnl
            rw [HT3.out]
            exact MM.out.push (belA wr ob ob2).drew (p := .inr (.inr s)) rfl h1 h2 (by simpa using h3)
          have ONE : Hid (∀ u, u ∈ [Value.iface 199 (.string s)] → u.oneCell' = true) := by show ∀ u, _ → _; simp [Value.oneCell']
          have ARM : Hid (∀ ob ob2, ((wr.alloc ob).alloc ob2).drew.ownsRow W.heap.size 20 1 (.slice po n co) n us) := fun ob ob2 => by
            have := (MM.out.oo.alloc ob).alloc ob2
            rwa [← HL.out] at this
          have el : ((kk : Int) != -1) = true := by simp
          have k0 : (0 : Int) ≤ (kk : Int) := by omega
          have NW : Hid (((wr.alloc (.cells #[.int .i64 (kk : Int), .int .i64 0, .int .i64 0] 84)).alloc (.cells #[.iface 199 (.string s)] 20)).drew.heap[wr.heap.size + 1]? = some (.cells #[.iface 199 (.string s)] 20)) := by
            have := heap_alloc_new (wr.alloc (.cells #[.int .i64 (kk : Int), .int .i64 0, .int .i64 0] 84)) (.cells #[.iface 199 (.string s)] 20)
            rw [show (wr.alloc (.cells #[.int .i64 (kk : Int), .int .i64 0, .int .i64 0] 84)).heap.size = wr.heap.size + 1 by simp] at this
            exact this
          clear HT2 ES HT cb hs e0
          go_wp2_with (fail)
          go_region_law ((refine step_append_lies _ (by rfl) _ _ _ (by rfl) W.heap.size 20 i _ 1 16 Try.underlying193 HI.out.1 HI.out.2.1 HI.out.2.2.1 HI.out.2.2.2 rfl (by decide) (.slice po n co) n us (by rfl) (ARM.out _ _) ⟨wr.heap.size + 1, 0, none⟩ 1 1 [.iface 199 (.string s)] (by rfl) (by rfl) (World.news_of_block (cs := #[.iface 199 (.string s)]) (t := 20) (fr := (0, 0)) NW.out) ONE.out (by decide) MX.out BY.out (Nat.le_trans hwz (Nat.le_trans (le_alloc _ _) (le_alloc _ _))) (wr.heap.size + 1 + 1) (by simp) ?_; intro g cap w2 hown hgrow hat hltg))
          all_goals
            have HP : Hid (PS W (fun b => F b ∨ lastB us b) ((l.take (k + 1)).foldl (symP names) []) (us ++ [.iface 199 (.string s)]) (.slice (some ⟨g, 0, none⟩) (n + 1) cap) w2) := PU.out g cap _ _ w2 hgrow hown hat
            clear hown hgrow hat hltg
            go_wp2
            go_roundw
            case rel => exact ⟨k + 1, n + 1, _, _, _, _, by omega, by go_num, rfl, (by show _ = _; rw [HT3.out, List.length_append, ← HL.out]; rfl), HP⟩
            case measure => simp [intOf]; omega
      · obtain rfl : k = l.length := by omega
        have M2 := MM.out.out
        have hn2 := HL.out
        rw [List.take_length] at M2 hn2
        subst hn2
        have HE : Hid (PartsEnd W wr (l.foldl (symP names) []) (.slice po (l.foldl (symP names) []).length co)) := M2
        clear M2 HL MM
        go_wp2
        go_ret
        exact ⟨_, _, rfl, HE⟩
end Go.Proofs.Ytkkmjgohjaedkaa
