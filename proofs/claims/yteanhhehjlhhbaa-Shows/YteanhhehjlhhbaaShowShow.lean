/- The program's Show against its plain function. -/
import Derived.Test.YteanhhehjlhhbaaShowRules
import Derived.Test.YteanhhehjlhhbaaGramMayG
namespace Go.Proofs.Yteanhhehjlhhbaa
set_option linter.unusedVariables false
open Go.ChangeShapes Go.WideShapes Go.ChangeAt Go.RowKit

theorem Try.infoRule : (Try.prog.info? 38).map (fun i => (i.zero, i.size, i.bytes)) = some (some (.agg #[.int .i64 0, .slice none 0 0]), 2, 32) := by kernel_rfl
theorem filt_yes {l : List Ru} {k : Nat} {r : Ru} (hd : Nat) (h : l[k]? = some r) (e : r.head = (hd : Int)) : rulesOfT (l.take (k + 1)) hd = rulesOfT (l.take k) hd ++ [r] := by
  rw [take_snoc h, rulesOfT, List.filter_append]
  simp [rulesOfT, e]
theorem filt_no {l : List Ru} {k : Nat} {r : Ru} (hd : Nat) (h : l[k]? = some r) (e : r.head ≠ (hd : Int)) : rulesOfT (l.take (k + 1)) hd = rulesOfT (l.take k) hd := by
  rw [take_snoc h, rulesOfT, List.filter_append]
  simp [rulesOfT, e]
theorem filt_len (l : List Ru) (k hd : Nat) : (rulesOfT (l.take k) hd).length ≤ l.length := by
  have h1 := List.length_filter_le (fun r : Ru => decide (r.head = (hd : Int))) (l.take k)
  have h2 : (l.take k).length ≤ l.length := by rw [List.length_take]; exact Nat.min_le_right _ _
  exact Nat.le_trans h1 h2
set_option maxRecDepth 100000 in
set_option maxHeartbeats 4000000 in
theorem rulesOf_any (v : Value) (l : List Ru) (hd : Nat) (w : World) {F : Nat → Prop} (hv : IsRus w F v l) (hl : l.length ≤ 1048576) :
    Calls Try.prog 13 #[v, .int .i64 (hd : Int)] w fun e w' => ∃ (p' : Option Addr) (c' : Nat), e = .returned (.slice p' (rulesOfT l hd).length c') ∧ Hid (IsRus w' (fun b => F b ∨ (w.heap.size ≤ b ∧ b < w'.heap.size)) (.slice p' (rulesOfT l hd).length c') (rulesOfT l hd) ∧ Below w.heap.size w w') := by
  obtain ⟨i, hi0, hz0, hz1, hz2⟩ := info_parts Try.infoRule
  have HI : Hid (Try.prog.info? 38 = some i ∧ i.zero = some (.agg #[.int .i64 0, .slice none 0 0]) ∧ i.size = 2 ∧ i.bytes = 32) := ⟨hi0, hz0, hz1, hz2⟩
  clear hi0 hz0 hz1 hz2
  obtain ⟨us, ⟨p, cp, rfl, hm, hca⟩, hla, hia⟩ := hv
  have HA : Hid (0 < l.length → ∃ g o, p = some ⟨g, o, none⟩ ∧ F g ∧ g < w.heap.size ∧ (∀ j c, (rusV l us)[j]? = some c → w.cell? ⟨g, o + j, none⟩ = some c) ∧ ∀ j, j < (rusV l us).length → w.frozen? ⟨g, o + j, none⟩ = false) := hca
  have IA : Hid (us.length = l.length ∧ ∀ (k : Nat) (c : Ru) (u : Value), l[k]? = some c → us[k]? = some u → IsCns w F u c.conj) := ⟨hla, hia⟩
  clear hca hla hia hm
  go_enter Try.func13, Try.ntmps13
  go_wp2
  go_loopw [5, 10] (fun o j wr => ∃ (k n : Nat) (vs : List Value) (po : Option Addr) (co : Nat), k ≤ l.length ∧ j = .int .i64 k ∧ o = .slice po n co ∧ Hid (n = (rulesOfT (l.take k) hd).length) ∧ Hid (wr.ownsRow w.heap.size 38 2 (.slice po n co) n (rusV (rulesOfT (l.take k) hd) vs) ∧ RusIn w F (rulesOfT (l.take k) hd) vs ∧ Below w.heap.size w wr)) (fun _ j _ => l.length - (intOf j).toNat)
  case atStart => exact ⟨0, 0, [], none, 0, Nat.zero_le _, rfl, rfl, rfl, World.ownsRow_nil _ _ _ _, RusIn.nil _ _, Below.refl _ _⟩
  case round =>
    obtain ⟨k, n, vs, po, co, hk, rfl, rfl, HN, OW⟩ := hrel
    have hsz : w.heap.size ≤ wr.heap.size := OW.out.2.2.size
    have hn : n ≤ 1048576 := by rw [HN.out]; exact Nat.le_trans (filt_len l k hd) hl
    by_cases hlt : k < l.length
    · obtain ⟨r, hr⟩ : ∃ t, l[k]? = some t := ⟨_, List.getElem?_eq_getElem hlt⟩
      obtain ⟨u, hu⟩ : ∃ u, us[k]? = some u := ⟨_, List.getElem?_eq_getElem (by rw [IA.out.1]; exact hlt)⟩
      obtain ⟨g1, o1, hp, -, hg1, ca, -⟩ := HA.out (by omega)
      subst hp
      obtain ⟨i0, i1⟩ := rusV_at l us k r u hr hu
      have a0 := (OW.out.2.2.cell (p := ⟨_, _, none⟩) hg1).trans (ca _ _ i0)
      have a1 := (OW.out.2.2.cell (p := ⟨_, _, none⟩) hg1).trans (reas (ca _ _ i1))
      have HC := IA.out.2 k r u hr hu
      obtain ⟨u1, u2, hx⟩ := HC.slc
      subst hx
      by_cases e0 : r.head = (hd : Int)
      · have HT : Hid (rulesOfT (l.take (k + 1)) hd = rulesOfT (l.take k) hd ++ [r]) := filt_yes hd hr e0
        have HR : Hid (RusIn w F (rulesOfT (l.take k) hd ++ [r]) (vs ++ [.slice u1 r.conj.length u2])) := OW.out.2.1.snoc HC
        have e0' : (r.head == (hd : Int)) = true := by simp [e0]
        obtain ⟨rh, cj⟩ := r
        simp only at a0 a1 e0 e0' HT HR
        have HV : Hid (rusV (rulesOfT (l.take k) hd ++ [⟨rh, cj⟩]) (vs ++ [.slice u1 cj.length u2]) = rusV (rulesOfT (l.take k) hd) vs ++ [.int .i64 rh, .slice u1 cj.length u2]) := rusV_append _ _ _ _ OW.out.2.1.1
        clear ca hr hu hg1 i0 i1 HC e0
        have ONE : Hid (∀ u, u ∈ [Value.int .i64 rh, .slice u1 cj.length u2] → u.oneCell' = true) := by show ∀ u, _ → _; simp [Value.oneCell']
        have MX : Hid (n + 1 ≤ maxLen) := by show _ ≤ _; unfold maxLen; omega
        have BY : Hid ((n + 1) * 32 ≤ 140737488355328) := by show _ ≤ _; omega
        go_wp2_with (at_builtin; refine wpList_append_own _ rfl _ _ 23 rfl w.heap.size 38 i (.agg #[.int .i64 0, .slice none 0 0]) 2 32 Try.underlying23 HI.out.1 HI.out.2.1 HI.out.2.2.1 HI.out.2.2.2 rfl (by decide) _ _ _ rfl ((OW.out.1.alloc _).alloc _) ⟨wr.heap.size + 1, 0, none⟩ 1 1 [.int .i64 rh, .slice u1 cj.length u2] rfl rfl (World.news_of_block (cs := #[.int .i64 rh, .slice u1 cj.length u2]) (t := 38) (fr := (0, 0)) (by simpa using heap_alloc_new (wr.alloc (.cells #[.int .i64 rh, .slice u1 cj.length u2] 38)) (.cells #[.int .i64 rh, .slice u1 cj.length u2] 38))) ONE.out MX.out BY.out (Nat.le_trans hsz (Nat.le_trans (le_alloc _ _) (le_alloc _ _))) ?_)
        intro v' w2 hown' hgrow hnil
        clear hnil
        obtain ⟨po', co', hv'⟩ := row_slice hown'
        subst hv'
        have OW2 : Hid (w2.ownsRow w.heap.size 38 2 (.slice po' (n + 1) co') (n + 1) (rusV (rulesOfT (l.take (k + 1)) hd) (vs ++ [.slice u1 cj.length u2])) ∧ RusIn w F (rulesOfT (l.take (k + 1)) hd) (vs ++ [.slice u1 cj.length u2]) ∧ Below w.heap.size w w2) := by
          refine ⟨?_, by rw [HT.out]; exact HR.out, ((OW.out.2.2.alloc hsz _).alloc (Nat.le_trans hsz (le_alloc _ _)) _).grown hgrow (Nat.le_trans hsz (Nat.le_trans (le_alloc _ _) (le_alloc _ _))) (fun x hx => ((OW.out.1.alloc (.cells #[] 0)).lt x hx).1)⟩
          rw [HT.out, HV.out]; exact hown'
        clear hown' hgrow
        go_wp2
        go_roundw
        case rel => exact ⟨k + 1, n + 1, _, _, _, by omega, by go_num, rfl, (by show _ = _; rw [HT.out, List.length_append, ← HN.out]; rfl), OW2⟩
        case measure => simp [intOf]; omega
      · have HT : Hid (rulesOfT (l.take (k + 1)) hd = rulesOfT (l.take k) hd) := filt_no hd hr e0
        have e0' : (r.head == (hd : Int)) = false := by simp [e0]
        obtain ⟨rh, cj⟩ := r
        simp only at a0 a1 e0 e0' HT
        clear ca hr hu hg1 i0 i1 HC
        have OW2 : Hid ((wr.alloc (.cells #[.int .i64 rh, .slice u1 cj.length u2] 38)).ownsRow w.heap.size 38 2 (.slice po n co) n (rusV (rulesOfT (l.take (k + 1)) hd) vs) ∧ RusIn w F (rulesOfT (l.take (k + 1)) hd) vs ∧ Below w.heap.size w (wr.alloc (.cells #[.int .i64 rh, .slice u1 cj.length u2] 38))) := by
          show _ ∧ _ ∧ _
          rw [HT.out]
          exact ⟨OW.out.1.alloc _, OW.out.2.1, OW.out.2.2.alloc hsz _⟩
        go_wp2
        go_roundw
        case rel => exact ⟨k + 1, n, _, _, _, by omega, by go_num, rfl, (by show _ = _; rw [HT.out]; exact HN.out), OW2⟩
        case measure => simp [intOf]; omega
    · obtain rfl : k = l.length := by omega
      have O2 := OW.out
      have hn2 := HN.out
      rw [List.take_length] at O2 hn2
      subst hn2
      have HE : Hid (IsRus wr (fun b => F b ∨ (w.heap.size ≤ b ∧ b < wr.heap.size)) (.slice po (rulesOfT l hd).length co) (rulesOfT l hd) ∧ Below w.heap.size w wr) := by
        refine ⟨⟨vs, Reads.of O2.1 (fun b e => Or.inr (O2.1.lt b e)), O2.2.1.1, fun k c u e1 e2 => ?_⟩, O2.2.2⟩
        exact ((O2.2.1.2 k c u e1 e2).any O2.2.2).keep ⟨Nat.le_refl _, fun _ _ => rfl⟩ (fun b h => Or.inl h)
      clear O2 OW HN
      go_wp2
      go_ret
      exact ⟨_, _, rfl, HE⟩
theorem Reads.small {w : World} {F : Nat → Prop} {v : Value} {n : Nat} {cs : List Value} (h : Reads w F v n cs) : Reads w (fun i => i < w.heap.size) v n cs := by
  obtain ⟨p, cap, hv, hmx, hc⟩ := h
  refine ⟨p, cap, hv, hmx, fun hn => ?_⟩
  obtain ⟨g, o, hp, hF, hg, hx⟩ := hc hn
  exact ⟨g, o, hp, hg, hg, hx⟩
theorem GrIs.small {w : World} {F : Nat → Prop} {v1 v2 : Value} {g : Gr} (h : GrIs w F v1 v2 g) : GrIs w (fun i => i < w.heap.size) v1 v2 g := by
  obtain ⟨h1, vs, h2, h3, h4⟩ := h
  refine ⟨Reads.small h1, vs, h2.small, h3, fun k c u e1 e2 => ?_⟩
  obtain ⟨us, h5, h6, h7⟩ := h4 k c u e1 e2
  exact ⟨us, h5.small, h6, fun k c u e1 e2 => Reads.small (h7 k c u e1 e2)⟩
/-- While a grammar is written: block b is the writer, block x the grammar's variable. -/
structure StS (w : World) (x b : Nat) (v1 v2 : Value) (g : Gr) (a : List UInt8) (w' : World) : Prop where
  wr : Wr b b v1 a w'
  gr : GrIs w' (fun i => i < b) v1 v2 g
  bx : w'.heap[x]? = some (.cells #[.int .i64 g.start, v1, v2] 25)
  xb : x < b
  bl : Below w.heap.size w w'
  wx : w.heap.size ≤ x
theorem StS.next {w : World} {x b : Nat} {v1 v2 : Value} {g : Gr} {a a' : List UInt8} {w1 w2 : World} (h : StS w x b v1 v2 g a w1) (hw : Wr b b v1 a' w2) (k : Wk b w1 w2) : StS w x b v1 v2 g a' w2 := by
  have hB : Below b w1 w2 := h.wr.below k
  have hs : Stay (fun i => i < b) w1 w2 := ⟨hB.size, fun i hi => hB.block i hi⟩
  have := h.xb
  have := h.wx
  exact ⟨hw, ⟨h.gr.1.keep hs (fun _ h => h), h.gr.2.keep hs (fun _ h => h)⟩, (hB.block x h.xb).trans h.bx, h.xb, h.bl.trans (hB.mono (by omega)), h.wx⟩
theorem StS.off {w : World} {x b : Nat} {v1 v2 : Value} {g : Gr} {a : List UInt8} {w1 : World} (h : StS w x b v1 v2 g a w1) : Off b (fun i => i < b) w1 := Off.old h.wr (fun _ h => h)
theorem StS.cell {w : World} {x b : Nat} {v1 v2 : Value} {g : Gr} {a : List UInt8} {w1 : World} (h : StS w x b v1 v2 g a w1) : w1.cell? ⟨x, 0, none⟩ = some (.int .i64 g.start) ∧ w1.cell? ⟨x, 1, none⟩ = some v1 ∧ w1.cell? ⟨x, 2, none⟩ = some v2 ∧ x < w1.heap.size := by
  refine ⟨?_, ?_, ?_, heap_lt h.bx⟩
  all_goals (rw [Lib.cell_of_heap h.bx]; rfl)
theorem StS.name {w : World} {x b gn on n c : Nat} {v2 : Value} {g : Gr} {a : List UInt8} {w1 : World} (h : StS w x b (.slice (some ⟨gn, on, none⟩) n c) v2 g a w1) {k : Nat} {s : ByteArray} (hs : g.names[k]? = some s) : w1.cell? ⟨gn, on + k, none⟩ = some (.string s) ∧ gn < w1.heap.size := by
  obtain ⟨p, cap, hv, hm, hc⟩ := h.gr.1
  have hk := (List.getElem?_eq_some_iff.1 hs).1
  obtain ⟨g', o', hp, hF, hg, hx, -⟩ := hc (by omega)
  injection hv with e1 e2 e3
  rw [hp] at e1
  injection e1 with e1
  injection e1 with e1 e4
  subst e1 e4
  exact ⟨hx k (.string s) (by simp [txV, hs]), hg⟩
/-- The rules of one name, written. -/
theorem rulesS {w : World} {x b : Nat} {v1 v2 : Value} {g : Gr} {a : List UInt8} {w1 : World} (h : StS w x b v1 v2 g a w1) (hS : Showable g) (k : Nat) (hL : a.length + (altsT g.names (rulesOfT g.rules k)).length ≤ 1000000000) :
    Calls Try.prog 13 #[v2, .int .i64 (k : Int)] w1 fun e w2 => ∃ (p' : Option Addr) (n c' : Nat), e = .returned (.slice p' n c') ∧ Hid (Calls Try.prog 12 #[.pointer (some ⟨b, 0, none⟩), .slice p' n c'] w2 fun e w' => e = .returned (.tuple #[]) ∧ StS w x b v1 v2 g (a ++ altsT g.names (rulesOfT g.rules k)) w') := by
  refine (rulesOf_any v2 g.rules k w1 h.gr.2 (by have := hS.r2; omega)).mono ?_
  rintro e w2 ⟨p', c', rfl, HE⟩
  obtain ⟨hr, hb⟩ := HE.out
  have k2 : Wk b w1 w2 := Wk.below hb h.wr.lt
  have h2 := h.next (h.wr.keep hb) k2
  refine ⟨p', _, c', rfl, ?_⟩
  have hn : IsTexts w2 (fun i => i < b ∨ (w1.heap.size ≤ i ∧ i < w2.heap.size)) v1 g.names := h2.gr.1.keep ⟨Nat.le_refl _, fun _ _ => rfl⟩ (fun _ h => Or.inl h)
  have ho : Off b (fun i => i < b ∨ (w1.heap.size ≤ i ∧ i < w2.heap.size)) w2 := h2.off.or (Off.fresh h.wr hb (fun i hi => hi))
  refine (rules_any h2.wr (rulesOfT g.rules k) _ hr hn ho (fun r hr => hS.ru r (List.mem_filter.1 hr).1) hS.nm hL (Nat.le_trans (List.length_filter_le _ _) (by have := hS.r2; omega))).mono ?_
  rintro e w3 ⟨rfl, r1, r2⟩
  exact ⟨rfl, h2.next r1 r2⟩
theorem defsT_mono (names : List ByteArray) (rules : List Ru) : ∀ n k, k ≤ n → (defsT names rules k).length ≤ (defsT names rules n).length
  | 0, k, h => by
    obtain rfl : k = 0 := by omega
    exact Nat.le_refl _
  | n + 1, k, h => by
    by_cases e : k = n + 1
    · subst e; exact Nat.le_refl _
    · have := defsT_mono names rules n k (by omega)
      simp only [defsT, List.length_append]; omega
def preL (g : Gr) : List UInt8 := [115, 116, 97, 114, 116, 32] ++ (g.names.getD g.start.toNat ⟨#[]⟩).data.toList ++ [59, 10]
theorem showL_eq (g : Gr) : showL g = preL g ++ defsT g.names g.rules g.names.length := by simp [showL, preL]
theorem name_getD {l : List ByteArray} {k : Nat} {s : ByteArray} (h : l[k]? = some s) (d : ByteArray) : l.getD k d = s := by rw [List.getD, h]; rfl
theorem data_app (s t : ByteArray) : (s ++ t).data.toList = s.data.toList ++ t.data.toList := by simp [ByteArray.data_append]
set_option maxRecDepth 100000 in
set_option maxHeartbeats 4000000 in
theorem show_ok (g : Gr) (v1 v2 : Value) (w : World) {F : Nat → Prop} (hg : GrIs w F v1 v2 g) (hl : ∀ s, s ∈ g.names → s.size ≤ maxLen) (hSh : Short g.rules) (hM : mayG g = true) (hL : (showL g).length ≤ 1000000000) :
    Calls Try.prog 5 #[.agg #[.int .i64 g.start, v1, v2]] w fun e w' => e = .returned (.tuple #[.string (showT g), .int .i64 0]) ∧ Below w.heap.size w w' := by
  have hS := showable hM
  have KM : ∀ w2, Below w.heap.size w w2 → Calls Try.prog 10 #[.agg #[.int .i64 g.start, v1, v2]] w2 fun e w' => e = .returned (.bool true) ∧ Below w2.heap.size w2 w' := fun w2 hb => by
    have := may_any g v1 v2 w2 (hg.any hb) hl hSh
    rwa [hM] at this
  have HG : Hid (GrIs w F v1 v2 g ∧ Showable g) := ⟨hg, hS⟩
  have HS0 : Hid (∀ w2, Below (w.heap.size + 1) (w.alloc (.cells #[.int .i64 g.start, v1, v2] 25)) w2 → w.heap.size < w2.heap.size → StS w w.heap.size w2.heap.size v1 v2 g [] (w2.alloc (.cells #[.pointer none, .slice none 0 0, v1] 47))) := fun w2 hb hlt => by
    have b0 : Below w.heap.size w w2 := (bel1 w _).trans (hb.mono (by omega))
    have g2 := ((hg.any b0).small.any (bel1 w2 (.cells #[.pointer none, .slice none 0 0, v1] 47)))
    refine ⟨Wr.new w2 v1, g2, ?_, hlt, b0.trans ((bel1 _ _).mono b0.size), Nat.le_refl _⟩
    exact ((bel1 w2 _).block _ hlt).trans ((hb.block _ (by omega)).trans (heap_alloc_new _ _))
  obtain ⟨p1, c1, hv1, hm1, -⟩ := hg.1
  obtain ⟨p2, c2, hv2⟩ := hg.2.slc
  have hn64 := hS.n2
  have hst0 := hS.st
  obtain ⟨st, hst⟩ : ∃ st : Nat, g.start = (st : Int) := ⟨g.start.toNat, by omega⟩
  have hstl : st < g.names.length := by omega
  obtain ⟨s0, hs0⟩ : ∃ s, g.names[st]? = some s := ⟨_, List.getElem?_eq_getElem hstl⟩
  have PR : Hid (preL g = (((⟨#[115, 116, 97, 114, 116, 32]⟩ : ByteArray) ++ s0) ++ ⟨#[59, 10]⟩ : ByteArray).data.toList) := by
    show _ = _
    unfold preL
    rw [hst, Int.toNat_natCast, name_getD hs0, data_app, data_app]
  obtain ⟨gn, on, hp1⟩ : ∃ gn on, p1 = some ⟨gn, on, none⟩ := by
    obtain ⟨p, cap, hv, hm, hc⟩ := hg.1
    obtain ⟨g', o', hp, _⟩ := hc (by omega)
    rw [hv1] at hv
    injection hv with e1
    exact ⟨g', o', e1.trans hp⟩
  subst hp1 hv1 hv2
  have HLn : Hid ((preL g).length + (defsT g.names g.rules g.names.length).length ≤ 1000000000) := by show _ ≤ _; rw [showL_eq, List.length_append] at hL; exact hL
  have hsz0 : (([] : List UInt8)).length + (((⟨#[115, 116, 97, 114, 116, 32]⟩ : ByteArray) ++ s0) ++ ⟨#[59, 10]⟩ : ByteArray).size ≤ 1099511627776 := by
    have h1 := HLn.out
    rw [PR.out, Array.length_toList] at h1
    have h2 : (((⟨#[115, 116, 97, 114, 116, 32]⟩ : ByteArray) ++ s0) ++ ⟨#[59, 10]⟩ : ByteArray).data.size = (((⟨#[115, 116, 97, 114, 116, 32]⟩ : ByteArray) ++ s0) ++ ⟨#[59, 10]⟩ : ByteArray).size := rfl
    simp only [List.length_nil]
    omega
  have HZ0 : Hid ((([] : List UInt8)).length + (((⟨#[115, 116, 97, 114, 116, 32]⟩ : ByteArray) ++ s0) ++ ⟨#[59, 10]⟩ : ByteArray).size ≤ 1099511627776) := hsz0
  have HST : Hid (g.start = (st : Int)) := hst
  have hz0 : s0.size ≤ 1000 := hS.nm s0 (List.mem_of_getElem? hs0)
  rw [hst] at KM HS0 ⊢
  have HN0 : Hid (g.names[st]? = some s0) := hs0
  have hss := (bel1 w (.cells #[.int .i64 (st : Int), .slice (some ⟨gn, on, none⟩) g.names.length c1, .slice p2 g.rules.length c2] 25))
  have hgn : gn < w.heap.size ∧ w.cell? ⟨gn, on + st, none⟩ = some (.string s0) := by
    obtain ⟨p, cap, hv, hm, hc⟩ := hg.1
    obtain ⟨g', o', hp, hF, hg', hx, -⟩ := hc (by omega)
    injection hv with e1 e2 e3
    rw [hp] at e1
    injection e1 with e1
    injection e1 with e1 e4
    subst e1 e4
    exact ⟨hg', hx st (.string s0) (by simp [txV, hs0])⟩
  have HGN : Hid (gn < w.heap.size ∧ w.cell? ⟨gn, on + st, none⟩ = some (.string s0)) := hgn
  have z0 : (0 : Int) ≤ (st : Int) := by omega
  have z1 : (st : Int) < (g.names.length : Int) := by omega
  clear hg hS hL hl hSh hM hst hst0 hm1 hs0 hsz0 hss hgn
  go_enter Try.func5, Try.ntmps5
  go_wp2_with (first
    | (go_at_call 10; refine (KM _ (bel1 _ _)).mono ?_; rintro e w2 ⟨rfl, b2⟩; obtain ⟨x0, x1, x2⟩ := var3 b2; have hw2 : w.heap.size < w2.heap.size := cell_lt x0; have b02 : Below w.heap.size w w2 := bel_al (Below.refl _ _) (Nat.le_refl _) _ b2; have y0 : w2.cell? ⟨gn, on + st, none⟩ = some (.string s0) := (b02.cell (p := ⟨_, _, none⟩) HGN.out.1).trans HGN.out.2; have hg2 : gn < w2.heap.size := Nat.lt_trans HGN.out.1 hw2; have S0 : Hid (StS w w.heap.size w2.heap.size (.slice (some ⟨gn, on, none⟩) g.names.length c1) (.slice p2 g.rules.length c2) g [] (w2.alloc (.cells #[.pointer none, .slice none 0 0, .slice (some ⟨gn, on, none⟩) g.names.length c1] 47))) := (HS0.out w2 (by simpa using b2) hw2); clear b2 b02)
    | (go_at_call 11; refine (wStr_any S0.out.wr _ HZ0.out).mono ?_; rintro e w4 ⟨rfl, k4, b4⟩; have S4 : Hid (StS w w.heap.size w2.heap.size (.slice (some ⟨gn, on, none⟩) g.names.length c1) (.slice p2 g.rules.length c2) g (preL g) w4) := (S0.out.next (by rw [PR.out]; exact k4) b4); obtain ⟨u0, u1, u2, u3⟩ := S4.out.cell; clear k4 b4))
  generalize hbw : w2.heap.size = b at *
  clear x0 x1 x2 y0
  go_loopw [26] (fun j wr => ∃ k : Nat, k ≤ g.names.length ∧ j = .int .i64 k ∧ Hid (StS w w.heap.size b (.slice (some ⟨gn, on, none⟩) g.names.length c1) (.slice p2 g.rules.length c2) g (preL g ++ defsT g.names g.rules k) wr)) (fun j _ => g.names.length - (intOf j).toNat)
  case atStart => exact ⟨0, Nat.zero_le _, rfl, by show StS _ _ _ _ _ _ _ _; simpa [defsT] using S4.out⟩
  case round =>
    obtain ⟨k, hk, rfl, SK⟩ := hrel
    by_cases hlt : k < g.names.length
    · obtain ⟨s, hs⟩ : ∃ s, g.names[k]? = some s := ⟨_, List.getElem?_eq_getElem hlt⟩
      obtain ⟨n0, n1⟩ := SK.out.name hs
      have hsz : s.size ≤ 1000 := HG.out.2.nm s (List.mem_of_getElem? hs)
      have ED : Hid (preL g ++ defsT g.names g.rules (k + 1) = (((preL g ++ defsT g.names g.rules k) ++ (s ++ ⟨#[32, 61, 32]⟩ : ByteArray).data.toList) ++ altsT g.names (rulesOfT g.rules k)) ++ (⟨#[59, 10]⟩ : ByteArray).data.toList) := by
        show _ = _
        rw [defsT, defT, name_getD hs, data_app]
        simp
      have LEN := defsT_mono g.names g.rules g.names.length (k + 1) (by omega)
      have HLE : Hid ((((preL g ++ defsT g.names g.rules k) ++ (s ++ ⟨#[32, 61, 32]⟩ : ByteArray).data.toList) ++ altsT g.names (rulesOfT g.rules k)).length + 2 ≤ 1000000000) := by
        have h1 := HLn.out
        have h2 := congrArg List.length ED.out
        show _ ≤ _
        have h3 : (⟨#[59, 10]⟩ : ByteArray).data.toList.length = 2 := rfl
        simp only [List.length_append, List.length_cons, List.length_nil] at h1 h2 h3 LEN ⊢
        omega
      have L1 : Hid ((preL g ++ defsT g.names g.rules k).length + (s ++ ⟨#[32, 61, 32]⟩ : ByteArray).size ≤ 1099511627776) := by
        have h1 := HLE.out
        show _ ≤ _
        have h3 : (s ++ ⟨#[32, 61, 32]⟩ : ByteArray).data.toList.length = (s ++ ⟨#[32, 61, 32]⟩ : ByteArray).size := Array.length_toList ..
        simp only [List.length_append] at h1 ⊢
        omega
      have L2 : Hid (((preL g ++ defsT g.names g.rules k) ++ (s ++ ⟨#[32, 61, 32]⟩ : ByteArray).data.toList).length + (altsT g.names (rulesOfT g.rules k)).length ≤ 1000000000) := by
        have h1 := HLE.out
        show _ ≤ _
        simp only [List.length_append] at h1 ⊢
        omega
      have L3 : Hid ((((preL g ++ defsT g.names g.rules k) ++ (s ++ ⟨#[32, 61, 32]⟩ : ByteArray).data.toList) ++ altsT g.names (rulesOfT g.rules k)).length + (⟨#[59, 10]⟩ : ByteArray).size ≤ 1099511627776) := by
        have h1 := HLE.out
        show _ + 2 ≤ _
        omega
      clear LEN hs
      go_wp2_with (first
        | (go_at_call 11; first
          | (have hh := S7; clear hh; refine (wStr_any S7.out.wr _ L3.out).mono ?_; rintro e w8 ⟨rfl, k8, b8⟩; have S8 : Hid (StS w w.heap.size b (.slice (some ⟨gn, on, none⟩) g.names.length c1) (.slice p2 g.rules.length c2) g (preL g ++ defsT g.names g.rules (k + 1)) w8) := (S7.out.next (by rw [ED.out]; exact k8) b8); clear k8 b8)
          | (refine (wStr_any SK.out.wr _ L1.out).mono ?_; rintro e w5 ⟨rfl, k5, b5⟩; have S5 : Hid (StS w w.heap.size b (.slice (some ⟨gn, on, none⟩) g.names.length c1) (.slice p2 g.rules.length c2) g ((preL g ++ defsT g.names g.rules k) ++ (s ++ ⟨#[32, 61, 32]⟩ : ByteArray).data.toList) w5) := SK.out.next k5 b5; obtain ⟨t0, t1, t2, t3⟩ := S5.out.cell; clear k5 b5))
        | (go_at_call 13; refine (rulesS S5.out HG.out.2 k L2.out).mono ?_; rintro e w6 ⟨p6, n6, c6, rfl, R6⟩)
        | (go_at_call 12; refine R6.out.mono ?_; rintro e w7 ⟨rfl, s7⟩; have S7 : Hid (StS w w.heap.size b (.slice (some ⟨gn, on, none⟩) g.names.length c1) (.slice p2 g.rules.length c2) g (((preL g ++ defsT g.names g.rules k) ++ (s ++ ⟨#[32, 61, 32]⟩ : ByteArray).data.toList) ++ altsT g.names (rulesOfT g.rules k)) w7) := s7; clear s7))
      go_roundw
      case rel => exact ⟨k + 1, by omega, by go_num, S8⟩
      case measure => simp [intOf]; omega
    · obtain rfl : k = g.names.length := by omega
      have EN : Hid (preL g ++ defsT g.names g.rules g.names.length ≠ []) := by show _ ≠ _; simp [preL]
      have ES : Hid ((⟨(preL g ++ defsT g.names g.rules g.names.length).toArray⟩ : ByteArray) = showT g) := by show _ = _; unfold showT; rw [showL_eq]
      go_wp2_with (go_at_call 14; refine (wEnd_any SK.out.wr EN.out).mono ?_; rintro e w9 ⟨rfl, b9⟩; rw [ES.out])
      go_ret2
      exact ⟨rfl, SK.out.bl.trans (b9.mono (by have := SK.out.xb; omega))⟩
set_option maxRecDepth 100000 in
set_option maxHeartbeats 4000000 in
theorem show_no (g : Gr) (v1 v2 : Value) (w : World) {F : Nat → Prop} (hg : GrIs w F v1 v2 g) (hl : ∀ s, s ∈ g.names → s.size ≤ maxLen) (hSh : Short g.rules) (hM : mayG g = false) :
    Calls Try.prog 5 #[.agg #[.int .i64 g.start, v1, v2]] w fun e w' => e = .returned (.tuple #[.string ⟨#[]⟩, .int .i64 500]) ∧ Below w.heap.size w w' := by
  have KM : ∀ w2, Below w.heap.size w w2 → Calls Try.prog 10 #[.agg #[.int .i64 g.start, v1, v2]] w2 fun e w' => e = .returned (.bool false) ∧ Below w2.heap.size w2 w' := fun w2 hb => by
    have := may_any g v1 v2 w2 (hg.any hb) hl hSh
    rwa [hM] at this
  obtain ⟨p1, c1, hv1, hm1, -⟩ := hg.1
  obtain ⟨p2, c2, hv2⟩ := hg.2.slc
  subst hv1 hv2
  generalize g.start = st at *
  generalize g.names.length = n1 at *
  generalize g.rules.length = n2 at *
  clear hg hl hSh hM hm1
  go_enter Try.func5, Try.ntmps5
  go_wp2_with (go_at_call 10; refine (KM _ (bel1 _ _)).mono ?_; rintro e w2 ⟨rfl, b2⟩)
  go_ret2
  exact ⟨rfl, bel_al (Below.refl _ _) (Nat.le_refl _) _ b2⟩
end Go.Proofs.Yteanhhehjlhhbaa
