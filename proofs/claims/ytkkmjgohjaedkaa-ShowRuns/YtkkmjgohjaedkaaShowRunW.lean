/- ShowRuns, walked. -/
import Derived.Test.YtkkmjgohjaedkaaShowRunT
import Derived.Test.YtkkmjgohjaedkaaLawOpen
namespace Go.Proofs.Ytkkmjgohjaedkaa
set_option linter.unusedVariables false
open Go.ChangeShapes Go.WideShapes Go.ChangeAt Go.RowKit

theorem Try.infoSyR : (Try.prog.info? 84).map (fun i => (i.zero, i.size, i.bytes)) = some (some (.agg #[.int .i64 0, .int .i64 0, .int .i64 0]), 3, 24) := by kernel_rfl
theorem tmod3R (x : Int) : (IntKind.u64.wrap x).tmod 3 = 0 ∨ (IntKind.u64.wrap x).tmod 3 = 1 ∨ (IntKind.u64.wrap x).tmod 3 = 2 := by
  have h1 : 0 ≤ IntKind.u64.wrap x := by rw [IntKind.wrap_u64]; omega
  rw [Int.tmod_eq_emod_of_nonneg h1]
  omega
theorem irow_at {w : World} {p : Option Addr} {n cap : Nat} {zs : List Int} (h : IRow w (.slice p n cap) zs) {k : Nat} {z : Int} (hk : zs[k]? = some z) : ∃ g o, p = some ⟨g, o, none⟩ ∧ g < w.heap.size ∧ w.cell? ⟨g, o + k, none⟩ = some (.int .i64 z) := by
  obtain ⟨p', c', e, _, hc⟩ := h
  injection e with e1 e2 e3
  subst e1
  exact hc k z hk
/-- The literal round the row. -/
def rP (n : Nat) (v : Value) : List Obj :=
  [.cells #[.string ⟨#[113]⟩] 9, .cells #[.bool true, v] 82, .cells #[.int .i64 0, .slice (some ⟨n + 1, 0, none⟩) 1 1] 79]
theorem gR_gram (w : World) (v : Value) (l : List Sy) (n : Nat) (hn : w.heap.size = n) (hv : IsSys w Any v l) : GrIs (blks w (rP n v)) Any (.slice (some ⟨n, 0, none⟩) 1 1) (.slice (some ⟨n + 2, 0, none⟩) 1 1) (gR l) := by
  subst hn
  have h := fun k o => blks_at (rP w.heap.size v) w k o
  have i1 : IsSys (blks w (rP w.heap.size v)) Any v l := hv.any (blks_below _ _)
  have c1 : IsCns (blks w (rP w.heap.size v)) Any (.slice (some ⟨w.heap.size + 1, 0, none⟩) 1 1) [⟨true, l⟩] := ⟨[_], reads_laid (h 1 _ rfl) le11 rfl, (CnsIn.nil _ _).snoc (c := ⟨true, l⟩) i1⟩
  exact ⟨reads_laid (h 0 _ rfl) le11 rfl, [_], reads_laid (h 2 _ rfl) le11 rfl, (RusIn.nil _ _).snoc (c := ⟨0, _⟩) c1⟩
theorem showR_is {l : List Sy} {t : ByteArray} (h : ∀ s, s ∈ l → maySym 1 s = true) (hl : l.length ≤ 40) (ht : showT (gR l) = t) (hs : t.size ≤ 1000) (w : World) (v : Value) (hv : IsSys w Any v l) (n : Nat) (hn : w.heap.size = n) :
    Calls Try.prog 51 #[.agg #[.int .i64 0, .slice (some ⟨n, 0, none⟩) 1 1, .slice (some ⟨n + 1 + 1, 0, none⟩) 1 1]] (blks w (rP n v)) fun e w' => e = .returned (.tuple #[.string t, .int .i64 0]) ∧ Hid (Below w.heap.size w w') := by
  refine (show_is (g := gR l) (mayR h hl) ?_ rfl ht (by omega) _ _ _ (gR_gram w v l n hn hv)).mono ?_
  · show (([⟨0, [⟨true, l⟩]⟩] : List Ru).all fun r => r.conj.all fun c => decide (c.seq.length ≤ 140737488355328)) = true
    simp; omega
  rintro e w' ⟨rfl, b⟩
  exact ⟨rfl, (blks_below _ _).trans (b.out.mono (blks_below _ _).size)⟩
theorem ne_empty {t : ByteArray} (h : ¬ t = ⟨#[]⟩) : t.toList.isEmpty = false := by
  rw [Bool.eq_false_iff]
  intro e
  rw [List.isEmpty_iff] at e
  exact h (ba_inj (e.trans (ByteArray.toList_mk ..).symm))
theorem ne_quo (t : ByteArray) : (t ++ ⟨#[34]⟩).toList.isEmpty = false := ne_empty fun e => by
  have h := congrArg ByteArray.size e
  rw [ByteArray.size_append] at h
  exact absurd h (by show ¬ t.size + 1 = 0; omega)
theorem newS2 (w : World) (o1 o2 o3 : Obj) : (((w.alloc o1).alloc o2).alloc o3).heap[w.heap.size + 1 + 1]? = some o3 := by
  have := heap_alloc_new ((w.alloc o1).alloc o2) o3
  rwa [show ((w.alloc o1).alloc o2).heap.size = w.heap.size + 1 + 1 by simp] at this
theorem leS1 {n : Nat} {w : World} (h : n ≤ w.heap.size) (o1 : Obj) : n ≤ (w.alloc o1).heap.size := Nat.le_trans h (le_alloc _ _)
set_option maxHeartbeats 8000000 in
set_option maxRecDepth 100000 in
theorem showRuns_walk (w : World) (v : Value) (zs : List Int) (hr : IRow w v zs) (hw : ∀ z ∈ zs, (Lit.int .i64 z).wf = true) (hz : zs.length * 8 ≤ 140737488351232) :
    Calls Try.prog 27 #[v] w fun e w' => e = .returned (.bool true) ∧ Below w.heap.size w w' := by
  obtain ⟨p, cap, rfl, hcap, -⟩ := id hr
  have HR : Hid (IRow w (.slice p zs.length cap) zs) := hr
  obtain ⟨i, hi0, hz0, hz1, hz2⟩ := info_parts Try.infoSyR
  have HI : Hid (Try.prog.info? 84 = some i ∧ i.zero = some (.agg #[.int .i64 0, .int .i64 0, .int .i64 0]) ∧ i.size = 3 ∧ i.bytes = 24) := ⟨hi0, hz0, hz1, hz2⟩
  clear hr hw hi0 hz0 hz1 hz2
  go_enter Try.func27, Try.ntmps27
  go_wp2_with (first | (go_at_call 53; refine (awake5_any _).mono ?_; rintro e wa ⟨rfl, ha⟩; have B0 : Hid (Below w.heap.size w wa) := ha; have hwa : w.heap.size ≤ wa.heap.size := ha.size; clear ha))
  go_loopw [3, 4, 5, 6] (fun x t r j wr => ∃ (k : Nat) (T : ByteArray) (b : Bool) (L : List Sy), k ≤ zs.length ∧ k ≤ 40 ∧ j = .int .i64 k ∧ t = .string T ∧ r = .bool b ∧ T.size ≤ 10 * k ∧ (∃ po co, x = .slice po k co) ∧ L.length = k ∧ Hid (wr.ownsRow wa.heap.size 84 3 x k (sysV L)) ∧ Hid (Below wa.heap.size wa wr) ∧ Hid (Rn L T b)) (fun _ _ _ j _ => 40 - (intOf j).toNat)
  case atStart => exact ⟨0, ⟨#[]⟩, false, [], by omega, by omega, rfl, rfl, rfl, Nat.le_refl _, ⟨_, _, rfl⟩, rfl, World.ownsRow_nil _ _ _ _, Below.refl _ _, Rn.nil⟩
  case round =>
    obtain ⟨k, T, b, L, hk1, hk2, rfl, rfl, rfl, hT, ⟨po, co, rfl⟩, hL, OW, BB, HN⟩ := hrel
    have hsz := BB.out.size
    have HL : Hid (L.length = k) := hL
    clear hL
    by_cases hgo : k < zs.length ∧ k < 40
    · obtain ⟨hlt, h40⟩ := hgo
      obtain ⟨z, hzk⟩ : ∃ z, zs[k]? = some z := ⟨_, List.getElem?_eq_getElem hlt⟩
      obtain ⟨g, o, hp, hg, hcl⟩ := irow_at HR.out hzk
      subst hp
      have c0 : wr.cell? ⟨g, o + k, none⟩ = some (.int .i64 z) := (BB.out.cell (p := ⟨g, _, none⟩) (Nat.lt_of_lt_of_le hg hwa)).trans ((B0.out.cell (p := ⟨g, _, none⟩) hg).trans hcl)
      have MX : Hid (k + 1 ≤ maxLen) := by show _ ≤ _; unfold maxLen; omega
      have BY : Hid ((k + 1) * 24 ≤ 140737488355328) := by show _ ≤ _; omega
      have ONE : Hid (∀ a b c : Int, ∀ u, u ∈ [Value.int .i64 a, .int .i64 b, .int .i64 c] → u.oneCell' = true) := by intro a b c; simp [Value.oneCell']
      have kk1 : (k : Int) < (zs.length : Int) := by omega
      have kk2 : (k : Int) < 40 := by omega
      clear hzk hcl hg
      rcases tmod3R z with ek | ek | ek
      · cases b
        · by_cases hT0 : T = ⟨#[]⟩
          · subst hT0
            go_wp2_with (first | (at_builtin; refine wpList_append_own _ rfl _ _ 80 rfl wa.heap.size 84 i (.agg #[.int .i64 0, .int .i64 0, .int .i64 0]) 3 24 Try.underlying80 HI.out.1 HI.out.2.1 HI.out.2.2.1 HI.out.2.2.2 rfl (by decide) _ _ _ rfl (OW.out.alloc _) ⟨wr.heap.size, 0, none⟩ 1 1 [.int .i64 (-1), .int .i64 97, .int .i64 97] rfl rfl (World.news_of_block (cs := #[.int .i64 (-1), .int .i64 97, .int .i64 97]) (t := 84) (fr := (0, 0)) (heap_alloc_new wr _)) (ONE.out _ _ _) MX.out BY.out (leS1 hsz _) ?_))
            intro v' w2 hown' hgrow hnil
            clear hnil
            obtain ⟨po', co', hv'⟩ := row_slice hown'
            subst hv'
            have OW2 : Hid (w2.ownsRow wa.heap.size 84 3 (.slice po' (k + 1) co') (k + 1) (sysV (L ++ [⟨-1, 97, 97⟩]))) := by rw [sysV_append]; exact hown'
            have BB2 : Hid (Below wa.heap.size wa w2) := (BB.out.alloc hsz _).grown hgrow (leS1 hsz _) (fun x hx => ((OW.out.alloc (.cells #[] 0)).lt x hx).1)
            have HN2 : Hid (Rn (L ++ [⟨-1, 97, 97⟩]) (((⟨#[]⟩ : ByteArray) ++ ⟨#[34]⟩) ++ ⟨#[97]⟩) true) := HN.out.a2
            clear hown' hgrow
            go_wp2
            go_roundw
            case rel => exact ⟨k + 1, _, true, L ++ [⟨-1, 97, 97⟩], by omega, by omega, by go_num, rfl, rfl, by simp only [ByteArray.size_append]; show 0 + 1 + 1 ≤ _; omega, ⟨_, _, rfl⟩, by rw [List.length_append, HL.out]; rfl, OW2, BB2, HN2⟩
            case measure => simp [intOf]; omega
          · have hTe := ne_empty hT0
            go_wp2_with (first | (at_builtin; refine wpList_append_own _ rfl _ _ 80 rfl wa.heap.size 84 i (.agg #[.int .i64 0, .int .i64 0, .int .i64 0]) 3 24 Try.underlying80 HI.out.1 HI.out.2.1 HI.out.2.2.1 HI.out.2.2.2 rfl (by decide) _ _ _ rfl (OW.out.alloc _) ⟨wr.heap.size, 0, none⟩ 1 1 [.int .i64 (-1), .int .i64 97, .int .i64 97] rfl rfl (World.news_of_block (cs := #[.int .i64 (-1), .int .i64 97, .int .i64 97]) (t := 84) (fr := (0, 0)) (heap_alloc_new wr _)) (ONE.out _ _ _) MX.out BY.out (leS1 hsz _) ?_))
            intro v' w2 hown' hgrow hnil
            clear hnil
            obtain ⟨po', co', hv'⟩ := row_slice hown'
            subst hv'
            have OW2 : Hid (w2.ownsRow wa.heap.size 84 3 (.slice po' (k + 1) co') (k + 1) (sysV (L ++ [⟨-1, 97, 97⟩]))) := by rw [sysV_append]; exact hown'
            have BB2 : Hid (Below wa.heap.size wa w2) := (BB.out.alloc hsz _).grown hgrow (leS1 hsz _) (fun x hx => ((OW.out.alloc (.cells #[] 0)).lt x hx).1)
            have HN2 : Hid (Rn (L ++ [⟨-1, 97, 97⟩]) (((T ++ ⟨#[32]⟩) ++ ⟨#[34]⟩) ++ ⟨#[97]⟩) true) := HN.out.a3 hT0
            clear hown' hgrow
            go_wp2
            go_roundw
            case rel => exact ⟨k + 1, _, true, L ++ [⟨-1, 97, 97⟩], by omega, by omega, by go_num, rfl, rfl, by simp only [ByteArray.size_append]; show T.size + 1 + 1 + 1 ≤ _; omega, ⟨_, _, rfl⟩, by rw [List.length_append, HL.out]; rfl, OW2, BB2, HN2⟩
            case measure => simp [intOf]; omega
        · go_wp2_with (first | (at_builtin; refine wpList_append_own _ rfl _ _ 80 rfl wa.heap.size 84 i (.agg #[.int .i64 0, .int .i64 0, .int .i64 0]) 3 24 Try.underlying80 HI.out.1 HI.out.2.1 HI.out.2.2.1 HI.out.2.2.2 rfl (by decide) _ _ _ rfl (OW.out.alloc _) ⟨wr.heap.size, 0, none⟩ 1 1 [.int .i64 (-1), .int .i64 97, .int .i64 97] rfl rfl (World.news_of_block (cs := #[.int .i64 (-1), .int .i64 97, .int .i64 97]) (t := 84) (fr := (0, 0)) (heap_alloc_new wr _)) (ONE.out _ _ _) MX.out BY.out (leS1 hsz _) ?_))
          intro v' w2 hown' hgrow hnil
          clear hnil
          obtain ⟨po', co', hv'⟩ := row_slice hown'
          subst hv'
          have OW2 : Hid (w2.ownsRow wa.heap.size 84 3 (.slice po' (k + 1) co') (k + 1) (sysV (L ++ [⟨-1, 97, 97⟩]))) := by rw [sysV_append]; exact hown'
          have BB2 : Hid (Below wa.heap.size wa w2) := (BB.out.alloc hsz _).grown hgrow (leS1 hsz _) (fun x hx => ((OW.out.alloc (.cells #[] 0)).lt x hx).1)
          have HN2 : Hid (Rn (L ++ [⟨-1, 97, 97⟩]) (T ++ ⟨#[97]⟩) true) := HN.out.a1
          clear hown' hgrow
          go_wp2
          go_roundw
          case rel => exact ⟨k + 1, _, true, L ++ [⟨-1, 97, 97⟩], by omega, by omega, by go_num, rfl, rfl, by simp only [ByteArray.size_append]; show T.size + 1 ≤ _; omega, ⟨_, _, rfl⟩, by rw [List.length_append, HL.out]; rfl, OW2, BB2, HN2⟩
          case measure => simp [intOf]; omega
      · cases b
        · by_cases hT0 : T = ⟨#[]⟩
          · subst hT0
            go_wp2_with (first | (at_builtin; refine wpList_append_own _ rfl _ _ 80 rfl wa.heap.size 84 i (.agg #[.int .i64 0, .int .i64 0, .int .i64 0]) 3 24 Try.underlying80 HI.out.1 HI.out.2.1 HI.out.2.2.1 HI.out.2.2.2 rfl (by decide) _ _ _ rfl (((OW.out.alloc _).alloc _).alloc _) ⟨wr.heap.size + 1 + 1, 0, none⟩ 1 1 [.int .i64 0, .int .i64 0, .int .i64 0] rfl rfl (World.news_of_block (cs := #[.int .i64 0, .int .i64 0, .int .i64 0]) (t := 84) (fr := (0, 0)) (newS2 wr _ _ _)) (ONE.out _ _ _) MX.out BY.out (leS1 (leS1 (leS1 hsz _) _) _) ?_))
            intro v' w2 hown' hgrow hnil
            clear hnil
            obtain ⟨po', co', hv'⟩ := row_slice hown'
            subst hv'
            have OW2 : Hid (w2.ownsRow wa.heap.size 84 3 (.slice po' (k + 1) co') (k + 1) (sysV (L ++ [⟨0, 0, 0⟩]))) := by rw [sysV_append]; exact hown'
            have BB2 : Hid (Below wa.heap.size wa w2) := (((BB.out.alloc hsz _).alloc (leS1 hsz _) _).alloc (leS1 (leS1 hsz _) _) _).grown hgrow (leS1 (leS1 (leS1 hsz _) _) _) (fun x hx => ((((OW.out.alloc (.cells #[] 0)).alloc (.cells #[] 0)).alloc (.cells #[] 0)).lt x hx).1)
            have HN2 : Hid (Rn (L ++ [⟨0, 0, 0⟩]) ((⟨#[]⟩ : ByteArray) ++ ⟨#[113]⟩) false) := HN.out.b2 ot1
            clear hown' hgrow
            go_wp2
            go_roundw
            case rel => exact ⟨k + 1, _, false, L ++ [⟨0, 0, 0⟩], by omega, by omega, by go_num, rfl, rfl, by simp only [ByteArray.size_append]; show 0 + 1 ≤ _; omega, ⟨_, _, rfl⟩, by rw [List.length_append, HL.out]; rfl, OW2, BB2, HN2⟩
            case measure => simp [intOf]; omega
          · have hTe := ne_empty hT0
            go_wp2_with (first | (at_builtin; refine wpList_append_own _ rfl _ _ 80 rfl wa.heap.size 84 i (.agg #[.int .i64 0, .int .i64 0, .int .i64 0]) 3 24 Try.underlying80 HI.out.1 HI.out.2.1 HI.out.2.2.1 HI.out.2.2.2 rfl (by decide) _ _ _ rfl (((OW.out.alloc _).alloc _).alloc _) ⟨wr.heap.size + 1 + 1, 0, none⟩ 1 1 [.int .i64 0, .int .i64 0, .int .i64 0] rfl rfl (World.news_of_block (cs := #[.int .i64 0, .int .i64 0, .int .i64 0]) (t := 84) (fr := (0, 0)) (newS2 wr _ _ _)) (ONE.out _ _ _) MX.out BY.out (leS1 (leS1 (leS1 hsz _) _) _) ?_))
            intro v' w2 hown' hgrow hnil
            clear hnil
            obtain ⟨po', co', hv'⟩ := row_slice hown'
            subst hv'
            have OW2 : Hid (w2.ownsRow wa.heap.size 84 3 (.slice po' (k + 1) co') (k + 1) (sysV (L ++ [⟨0, 0, 0⟩]))) := by rw [sysV_append]; exact hown'
            have BB2 : Hid (Below wa.heap.size wa w2) := (((BB.out.alloc hsz _).alloc (leS1 hsz _) _).alloc (leS1 (leS1 hsz _) _) _).grown hgrow (leS1 (leS1 (leS1 hsz _) _) _) (fun x hx => ((((OW.out.alloc (.cells #[] 0)).alloc (.cells #[] 0)).alloc (.cells #[] 0)).lt x hx).1)
            have HN2 : Hid (Rn (L ++ [⟨0, 0, 0⟩]) ((T ++ ⟨#[32]⟩) ++ ⟨#[113]⟩) false) := HN.out.b3 hT0 ot1
            clear hown' hgrow
            go_wp2
            go_roundw
            case rel => exact ⟨k + 1, _, false, L ++ [⟨0, 0, 0⟩], by omega, by omega, by go_num, rfl, rfl, by simp only [ByteArray.size_append]; show T.size + 1 + 1 ≤ _; omega, ⟨_, _, rfl⟩, by rw [List.length_append, HL.out]; rfl, OW2, BB2, HN2⟩
            case measure => simp [intOf]; omega
        · have hTe := ne_quo T
          go_wp2_with (first | (at_builtin; refine wpList_append_own _ rfl _ _ 80 rfl wa.heap.size 84 i (.agg #[.int .i64 0, .int .i64 0, .int .i64 0]) 3 24 Try.underlying80 HI.out.1 HI.out.2.1 HI.out.2.2.1 HI.out.2.2.2 rfl (by decide) _ _ _ rfl (((OW.out.alloc _).alloc _).alloc _) ⟨wr.heap.size + 1 + 1, 0, none⟩ 1 1 [.int .i64 0, .int .i64 0, .int .i64 0] rfl rfl (World.news_of_block (cs := #[.int .i64 0, .int .i64 0, .int .i64 0]) (t := 84) (fr := (0, 0)) (newS2 wr _ _ _)) (ONE.out _ _ _) MX.out BY.out (leS1 (leS1 (leS1 hsz _) _) _) ?_))
          intro v' w2 hown' hgrow hnil
          clear hnil
          obtain ⟨po', co', hv'⟩ := row_slice hown'
          subst hv'
          have OW2 : Hid (w2.ownsRow wa.heap.size 84 3 (.slice po' (k + 1) co') (k + 1) (sysV (L ++ [⟨0, 0, 0⟩]))) := by rw [sysV_append]; exact hown'
          have BB2 : Hid (Below wa.heap.size wa w2) := (((BB.out.alloc hsz _).alloc (leS1 hsz _) _).alloc (leS1 (leS1 hsz _) _) _).grown hgrow (leS1 (leS1 (leS1 hsz _) _) _) (fun x hx => ((((OW.out.alloc (.cells #[] 0)).alloc (.cells #[] 0)).alloc (.cells #[] 0)).lt x hx).1)
          have HN2 : Hid (Rn (L ++ [⟨0, 0, 0⟩]) (((T ++ ⟨#[34]⟩) ++ ⟨#[32]⟩) ++ ⟨#[113]⟩) false) := HN.out.b1 ot1
          clear hown' hgrow
          go_wp2
          go_roundw
          case rel => exact ⟨k + 1, _, false, L ++ [⟨0, 0, 0⟩], by omega, by omega, by go_num, rfl, rfl, by simp only [ByteArray.size_append]; show T.size + 1 + 1 + 1 ≤ _; omega, ⟨_, _, rfl⟩, by rw [List.length_append, HL.out]; rfl, OW2, BB2, HN2⟩
          case measure => simp [intOf]; omega
      · cases b
        · by_cases hT0 : T = ⟨#[]⟩
          · subst hT0
            go_wp2_with (first | (at_builtin; refine wpList_append_own _ rfl _ _ 80 rfl wa.heap.size 84 i (.agg #[.int .i64 0, .int .i64 0, .int .i64 0]) 3 24 Try.underlying80 HI.out.1 HI.out.2.1 HI.out.2.2.1 HI.out.2.2.2 rfl (by decide) _ _ _ rfl (((OW.out.alloc _).alloc _).alloc _) ⟨wr.heap.size + 1 + 1, 0, none⟩ 1 1 [.int .i64 (-1), .int .i64 97, .int .i64 98] rfl rfl (World.news_of_block (cs := #[.int .i64 (-1), .int .i64 97, .int .i64 98]) (t := 84) (fr := (0, 0)) (newS2 wr _ _ _)) (ONE.out _ _ _) MX.out BY.out (leS1 (leS1 (leS1 hsz _) _) _) ?_))
            intro v' w2 hown' hgrow hnil
            clear hnil
            obtain ⟨po', co', hv'⟩ := row_slice hown'
            subst hv'
            have OW2 : Hid (w2.ownsRow wa.heap.size 84 3 (.slice po' (k + 1) co') (k + 1) (sysV (L ++ [⟨-1, 97, 98⟩]))) := by rw [sysV_append]; exact hown'
            have BB2 : Hid (Below wa.heap.size wa w2) := (((BB.out.alloc hsz _).alloc (leS1 hsz _) _).alloc (leS1 (leS1 hsz _) _) _).grown hgrow (leS1 (leS1 (leS1 hsz _) _) _) (fun x hx => ((((OW.out.alloc (.cells #[] 0)).alloc (.cells #[] 0)).alloc (.cells #[] 0)).lt x hx).1)
            have HN2 : Hid (Rn (L ++ [⟨-1, 97, 98⟩]) ((⟨#[]⟩ : ByteArray) ++ ⟨#[39, 97, 39, 46, 46, 39, 98, 39]⟩) false) := HN.out.b2 ot2
            clear hown' hgrow
            go_wp2
            go_roundw
            case rel => exact ⟨k + 1, _, false, L ++ [⟨-1, 97, 98⟩], by omega, by omega, by go_num, rfl, rfl, by simp only [ByteArray.size_append]; show 0 + 8 ≤ _; omega, ⟨_, _, rfl⟩, by rw [List.length_append, HL.out]; rfl, OW2, BB2, HN2⟩
            case measure => simp [intOf]; omega
          · have hTe := ne_empty hT0
            go_wp2_with (first | (at_builtin; refine wpList_append_own _ rfl _ _ 80 rfl wa.heap.size 84 i (.agg #[.int .i64 0, .int .i64 0, .int .i64 0]) 3 24 Try.underlying80 HI.out.1 HI.out.2.1 HI.out.2.2.1 HI.out.2.2.2 rfl (by decide) _ _ _ rfl (((OW.out.alloc _).alloc _).alloc _) ⟨wr.heap.size + 1 + 1, 0, none⟩ 1 1 [.int .i64 (-1), .int .i64 97, .int .i64 98] rfl rfl (World.news_of_block (cs := #[.int .i64 (-1), .int .i64 97, .int .i64 98]) (t := 84) (fr := (0, 0)) (newS2 wr _ _ _)) (ONE.out _ _ _) MX.out BY.out (leS1 (leS1 (leS1 hsz _) _) _) ?_))
            intro v' w2 hown' hgrow hnil
            clear hnil
            obtain ⟨po', co', hv'⟩ := row_slice hown'
            subst hv'
            have OW2 : Hid (w2.ownsRow wa.heap.size 84 3 (.slice po' (k + 1) co') (k + 1) (sysV (L ++ [⟨-1, 97, 98⟩]))) := by rw [sysV_append]; exact hown'
            have BB2 : Hid (Below wa.heap.size wa w2) := (((BB.out.alloc hsz _).alloc (leS1 hsz _) _).alloc (leS1 (leS1 hsz _) _) _).grown hgrow (leS1 (leS1 (leS1 hsz _) _) _) (fun x hx => ((((OW.out.alloc (.cells #[] 0)).alloc (.cells #[] 0)).alloc (.cells #[] 0)).lt x hx).1)
            have HN2 : Hid (Rn (L ++ [⟨-1, 97, 98⟩]) ((T ++ ⟨#[32]⟩) ++ ⟨#[39, 97, 39, 46, 46, 39, 98, 39]⟩) false) := HN.out.b3 hT0 ot2
            clear hown' hgrow
            go_wp2
            go_roundw
            case rel => exact ⟨k + 1, _, false, L ++ [⟨-1, 97, 98⟩], by omega, by omega, by go_num, rfl, rfl, by simp only [ByteArray.size_append]; show T.size + 1 + 8 ≤ _; omega, ⟨_, _, rfl⟩, by rw [List.length_append, HL.out]; rfl, OW2, BB2, HN2⟩
            case measure => simp [intOf]; omega
        · have hTe := ne_quo T
          go_wp2_with (first | (at_builtin; refine wpList_append_own _ rfl _ _ 80 rfl wa.heap.size 84 i (.agg #[.int .i64 0, .int .i64 0, .int .i64 0]) 3 24 Try.underlying80 HI.out.1 HI.out.2.1 HI.out.2.2.1 HI.out.2.2.2 rfl (by decide) _ _ _ rfl (((OW.out.alloc _).alloc _).alloc _) ⟨wr.heap.size + 1 + 1, 0, none⟩ 1 1 [.int .i64 (-1), .int .i64 97, .int .i64 98] rfl rfl (World.news_of_block (cs := #[.int .i64 (-1), .int .i64 97, .int .i64 98]) (t := 84) (fr := (0, 0)) (newS2 wr _ _ _)) (ONE.out _ _ _) MX.out BY.out (leS1 (leS1 (leS1 hsz _) _) _) ?_))
          intro v' w2 hown' hgrow hnil
          clear hnil
          obtain ⟨po', co', hv'⟩ := row_slice hown'
          subst hv'
          have OW2 : Hid (w2.ownsRow wa.heap.size 84 3 (.slice po' (k + 1) co') (k + 1) (sysV (L ++ [⟨-1, 97, 98⟩]))) := by rw [sysV_append]; exact hown'
          have BB2 : Hid (Below wa.heap.size wa w2) := (((BB.out.alloc hsz _).alloc (leS1 hsz _) _).alloc (leS1 (leS1 hsz _) _) _).grown hgrow (leS1 (leS1 (leS1 hsz _) _) _) (fun x hx => ((((OW.out.alloc (.cells #[] 0)).alloc (.cells #[] 0)).alloc (.cells #[] 0)).lt x hx).1)
          have HN2 : Hid (Rn (L ++ [⟨-1, 97, 98⟩]) (((T ++ ⟨#[34]⟩) ++ ⟨#[32]⟩) ++ ⟨#[39, 97, 39, 46, 46, 39, 98, 39]⟩) false) := HN.out.b1 ot2
          clear hown' hgrow
          go_wp2
          go_roundw
          case rel => exact ⟨k + 1, _, false, L ++ [⟨-1, 97, 98⟩], by omega, by omega, by go_num, rfl, rfl, by simp only [ByteArray.size_append]; show T.size + 1 + 1 + 8 ≤ _; omega, ⟨_, _, rfl⟩, by rw [List.length_append, HL.out]; rfl, OW2, BB2, HN2⟩
          case measure => simp [intOf]; omega
    · have hl40 : L.length ≤ 40 := by rw [HL.out]; exact hk2
      have HV : Hid (IsSys wr Any (.slice po k co) L) := by
        show Reads wr Any _ L.length _
        rw [HL.out]
        exact Reads.of OW.out (fun _ _ => trivial)
      have BF : Hid (Below w.heap.size w wr) := B0.out.trans (BB.out.mono hwa)
      have key : ((k : Int) < (zs.length : Int) ∧ ¬ (k : Int) < 40) ∨ ¬ (k : Int) < (zs.length : Int) := by omega
      cases b
      · by_cases hT0 : T = ⟨#[]⟩
        · subst hT0
          have KR : Hid (Calls Try.prog 51 #[.agg #[.int .i64 0, .slice (some ⟨wr.heap.size, 0, none⟩) 1 1, .slice (some ⟨wr.heap.size + 1 + 1, 0, none⟩) 1 1]] (blks wr (rP wr.heap.size (.slice po k co))) fun e w' => e = .returned (.tuple #[.string (((⟨#[115, 116, 97, 114, 116, 32, 113, 59, 10, 113, 32, 61, 32, 126]⟩ : ByteArray) ++ ⟨#[34, 34]⟩) ++ ⟨#[59, 10]⟩), .int .i64 0]) ∧ Hid (Below wr.heap.size wr w')) := showR_is HN.out.1 hl40 (HN.out.end2) (by simp only [ByteArray.size_append]; show 14 + 2 + 2 ≤ _; omega) wr _ HV.out _ rfl
          clear HN HV hl40 hgo
          rcases key with ⟨kk1, kk2⟩ | kk1
          all_goals
            go_wp2_with (first
              | (go_at_call 51; refine KR.out.mono ?_; rintro e wc ⟨rfl, bc⟩)
              | (go_at_call 33; refine (num_any _ _).mono ?_; rintro e wn ⟨rfl, rfl⟩))
            go_ret
            exact ⟨by simp [go_sem], BF.out.trans (bc.out.mono BF.out.size)⟩
        · have hTe := ne_empty hT0
          have KR : Hid (Calls Try.prog 51 #[.agg #[.int .i64 0, .slice (some ⟨wr.heap.size, 0, none⟩) 1 1, .slice (some ⟨wr.heap.size + 1 + 1, 0, none⟩) 1 1]] (blks wr (rP wr.heap.size (.slice po k co))) fun e w' => e = .returned (.tuple #[.string (((⟨#[115, 116, 97, 114, 116, 32, 113, 59, 10, 113, 32, 61, 32, 126]⟩ : ByteArray) ++ T) ++ ⟨#[59, 10]⟩), .int .i64 0]) ∧ Hid (Below wr.heap.size wr w')) := showR_is HN.out.1 hl40 (HN.out.end3 hT0) (by simp only [ByteArray.size_append]; show 14 + T.size + 2 ≤ _; omega) wr _ HV.out _ rfl
          clear HN HV hl40 hgo
          rcases key with ⟨kk1, kk2⟩ | kk1
          all_goals
            go_wp2_with (first
              | (go_at_call 51; refine KR.out.mono ?_; rintro e wc ⟨rfl, bc⟩)
              | (go_at_call 33; refine (num_any _ _).mono ?_; rintro e wn ⟨rfl, rfl⟩))
            go_ret
            exact ⟨by simp [go_sem], BF.out.trans (bc.out.mono BF.out.size)⟩
      · have hTe := ne_quo T
        have KR : Hid (Calls Try.prog 51 #[.agg #[.int .i64 0, .slice (some ⟨wr.heap.size, 0, none⟩) 1 1, .slice (some ⟨wr.heap.size + 1 + 1, 0, none⟩) 1 1]] (blks wr (rP wr.heap.size (.slice po k co))) fun e w' => e = .returned (.tuple #[.string (((⟨#[115, 116, 97, 114, 116, 32, 113, 59, 10, 113, 32, 61, 32, 126]⟩ : ByteArray) ++ (T ++ ⟨#[34]⟩)) ++ ⟨#[59, 10]⟩), .int .i64 0]) ∧ Hid (Below wr.heap.size wr w')) := showR_is HN.out.1 hl40 (HN.out.end1) (by simp only [ByteArray.size_append]; show 14 + (T.size + 1) + 2 ≤ _; omega) wr _ HV.out _ rfl
        clear HN HV hl40 hgo
        rcases key with ⟨kk1, kk2⟩ | kk1
        all_goals
          go_wp2_with (first
            | (go_at_call 51; refine KR.out.mono ?_; rintro e wc ⟨rfl, bc⟩)
            | (go_at_call 33; refine (num_any _ _).mono ?_; rintro e wn ⟨rfl, rfl⟩))
          go_ret
          exact ⟨by simp [go_sem], BF.out.trans (bc.out.mono BF.out.size)⟩
end Go.Proofs.Ytkkmjgohjaedkaa
