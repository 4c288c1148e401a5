/- LexRows: tokens of all kinds in any row, with blanks between, are told one by one: at every argument, with no condition. -/
import Derived.Test.YtjfdgdjfgiifeaaLexBlanks
import Derived.Test.YtjfdgdjfgiifeaaLexTold
import Derived.Deep.RegionHeld3
namespace Go.Proofs.Ytjfdgdjfgiifeaa
set_option linter.unusedVariables false
open Go.ChangeShapes Go.WideShapes Go.ChangeAt Go.RowKit

def pcArr : Array Value := #[.string ⟨#[97, 98]⟩, .string ⟨#[34, 120, 92, 92, 121, 34]⟩, .string ⟨#[39, 97, 39, 46, 46, 39, 92, 120, 55, 102, 39]⟩, .string ⟨#[115, 116, 97, 114, 116]⟩, .string ⟨#[61]⟩, .string ⟨#[124]⟩, .string ⟨#[38]⟩, .string ⟨#[126]⟩, .string ⟨#[59]⟩]
theorem pcArr_at (k : Nat) (hk : k < 9) : pcArr[k]? = some (.string (pcT k)) := by
  match k, hk with
  | 0, _ => rfl
  | 1, _ => rfl
  | 2, _ => rfl
  | 3, _ => rfl
  | 4, _ => rfl
  | 5, _ => rfl
  | 6, _ => rfl
  | 7, _ => rfl
  | 8, _ => rfl
  | k + 9, h => exact absurd h (by omega)
def spArr : Array Value := #[.string ⟨#[32]⟩, .string ⟨#[10]⟩, .string ⟨#[35, 10]⟩]
theorem spArr_at (k : Nat) (hk : k < 3) : spArr[k]? = some (.string (spT k)) := by
  match k, hk with
  | 0, _ => rfl
  | 1, _ => rfl
  | 2, _ => rfl
  | k + 3, h => exact absurd h (by omega)
theorem mod3 (j : Nat) : ∃ r : Nat, r < 3 ∧ ((j : Int) % 3) = (r : Int) := ⟨j % 3, by omega, by omega⟩
/-- The four ways of the switch. -/
theorem pc_ways (m : Nat) (hm : m < 9) : m = 0 ∨ m = 1 ∨ m = 2 ∨ (3 ≤ m ∧ ((m : Int) == 0) = false ∧ ((m : Int) == 1) = false ∧ ((m : Int) == 2) = false ∧ pcK m = ⟨m, 0, ⟨#[]⟩, 0, 0⟩) := by
  match m, hm with
  | 0, _ => exact Or.inl rfl
  | 1, _ => exact Or.inr (Or.inl rfl)
  | 2, _ => exact Or.inr (Or.inr (Or.inl rfl))
  | 3, _ | 4, _ | 5, _ | 6, _ | 7, _ | 8, _ => exact Or.inr (Or.inr (Or.inr ⟨by omega, rfl, rfl, rfl, rfl⟩))
  | m + 9, h => exact absurd h (by omega)

set_option maxHeartbeats 8000000 in
set_option maxRecDepth 100000 in
theorem lexRows_walk (w : World) (v : Value) (zs : List Int) (hr : IRow w v zs) (hw : ∀ z ∈ zs, (Lit.int .i64 z).wf = true) (hz : zs.length * 8 ≤ 140737488351232) :
    Calls Try.prog 10 #[v] w fun e w' => e = .returned (.bool true) ∧ Below w.heap.size w w' := by
  obtain ⟨p, cap, rfl, hcap, -⟩ := id hr
  have HR : Hid (IRow w (.slice p zs.length cap) zs) := hr
  obtain ⟨i, hi0, hz0, hz1, hz2⟩ := info_parts Try.infoTok
  have HI : Hid (Try.prog.info? 33 = some i ∧ i.zero = some (.agg #[.int .i64 0, .int .i64 0, .string ⟨#[]⟩, .int .i64 0, .int .i64 0]) ∧ i.size = 5 ∧ i.bytes = 48) := ⟨hi0, hz0, hz1, hz2⟩
  clear hr hw hi0 hz0 hz1 hz2
  go_enter Try.func10, Try.ntmps10
  go_wp2_with (first | (go_at_call 21; refine (awake_any _).mono ?_; rintro e wa ⟨rfl, ha⟩; have B0 : Hid (Below w.heap.size w wa) := ha; have hwa : w.heap.size ≤ wa.heap.size := ha.size; clear ha))
  have PC : Hid (∀ m, m < 9 → (wa.alloc (.cells pcArr 9)).cell? ⟨wa.heap.size, m, none⟩ = some (.string (pcT m))) := fun m hm => (World.cell?_alloc_at _ _ _ _ rfl).trans (pcArr_at m hm)
  have BA : Hid (Below w.heap.size w (wa.alloc (.cells pcArr 9))) := B0.out.alloc hwa _
  have hsa : wa.heap.size + 1 = (wa.alloc (.cells pcArr 9)).heap.size := by simp
  have E0 : wa.alloc (.cells #[.string ⟨#[97, 98]⟩, .string ⟨#[34, 120, 92, 92, 121, 34]⟩, .string ⟨#[39, 97, 39, 46, 46, 39, 92, 120, 55, 102, 39]⟩, .string ⟨#[115, 116, 97, 114, 116]⟩, .string ⟨#[61]⟩, .string ⟨#[124]⟩, .string ⟨#[38]⟩, .string ⟨#[126]⟩, .string ⟨#[59]⟩] 9) = wa.alloc (.cells pcArr 9) := rfl
  rw [E0]
  clear E0
  generalize wa.alloc (.cells pcArr 9) = W0 at PC BA hsa ⊢
  go_loopw [4, 5, 6] (fun t o x wr => ∃ (j : Nat) (T : ByteArray) (l : List Tok), j ≤ zs.length ∧ j ≤ 40 ∧ x = .int .i64 j ∧ t = .string T ∧ Told T l ∧ l.length = j ∧ T.size ≤ 13 * j ∧ (∃ po co, o = .slice po j co) ∧ wr.ownsRow W0.heap.size 33 5 o j (toksV l) ∧ Below W0.heap.size W0 wr) (fun _ _ x _ => 40 - (intOf x).toNat)
  case atStart => exact ⟨0, ⟨#[]⟩, [], by omega, by omega, rfl, rfl, Told.nil, rfl, Nat.le_refl _, ⟨none, 0, rfl⟩, World.ownsRow_nil _ _ _ _, Below.refl _ _⟩
  case round =>
    obtain ⟨j, T, l, hj1, hj2, rfl, rfl, hT, hl, hTs, ⟨po, co, rfl⟩, hown, hW⟩ := hrel
    have HT : Hid (Told T l) := hT
    have HL : Hid (l.length = j) := hl
    have OW : Hid (wr.ownsRow W0.heap.size 33 5 (.slice po j co) j (toksV l)) := hown
    have HW : Hid (Below W0.heap.size W0 wr) := hW
    have hsz : W0.heap.size ≤ wr.heap.size := hW.size
    by_cases hgo : j < zs.length ∧ j < 40
    · obtain ⟨hlt, h40⟩ := hgo
      obtain ⟨z, hzk⟩ : ∃ z, zs[j]? = some z := ⟨_, List.getElem?_eq_getElem hlt⟩
      obtain ⟨m, hm, em⟩ := tmod9 z
      obtain ⟨r, hr3, er⟩ := mod3 j
      obtain ⟨g, o, hp, hg, hc⟩ := HR.out.cell hzk
      subst hp
      have c0 : wr.cell? ⟨g, o + j, none⟩ = some (.int .i64 z) := (hW.cell (p := ⟨g, _, none⟩) (Nat.lt_of_lt_of_le hg BA.out.size)).trans ((BA.out.cell (p := ⟨g, _, none⟩) hg).trans hc)
      have cP : wr.cell? ⟨wa.heap.size, m, none⟩ = some (.string (pcT m)) := (hW.cell (p := ⟨_, _, none⟩) (by show wa.heap.size < W0.heap.size; omega)).trans (PC.out m hm)
      have hps := pc_size m
      have hss := sp_size r
      have hc1 : ∀ wx : World, (wx.alloc (.cells spArr 9)).cell? ⟨wx.heap.size, r, none⟩ = some (.string (spT r)) := fun wx => (World.cell?_alloc_at _ _ _ _ rfl).trans (spArr_at r hr3)
      have hc2 := spArr_at r hr3
      simp only [spArr] at hc1 hc2
      have TD : Hid (Told ((T ++ pcT m) ++ spT r) (l ++ [⟨(pcK m).kind, T.size, (pcK m).text, (pcK m).lo, (pcK m).hi⟩])) := by
        have h := HT.out.app (pc_told m r)
        rw [← ByteArray.append_assoc] at h
        simp only [List.map_cons, List.map_nil, pcK_sh] at h
        exact h
      have MX : Hid (j + 1 ≤ maxLen) := by show _ ≤ _; unfold maxLen; omega
      have BY : Hid ((j + 1) * 48 ≤ 140737488355328) := by show _ ≤ _; omega
      clear hT hW hzk hc hg hown hl
      have hA1 : T.size + (pcT m).size ≤ 9223372036854775807 := by omega
      have hA2 : (T ++ pcT m).size + (spT r).size ≤ 9223372036854775807 := by rw [ByteArray.size_append]; omega
      have hA3 : (0 : Int) ≤ (r : Int) := by omega
      have hA4 : (r : Int) < 3 := by omega
      have hA5 : (0 : Int) ≤ (m : Int) := by omega
      have hA6 : (m : Int) < 9 := by omega
      have cPW := PC.out m hm
      generalize pcT m = P at *
      generalize spT r = Q at *
      rcases pc_ways m hm with rfl | rfl | rfl | ⟨h3, e0, e1, e2, eK⟩
      · have ONE : Hid (∀ u, u ∈ [Value.int .i64 0, .int .i64 (T.size : Int), .string ⟨#[97,98]⟩, .int .i64 0, .int .i64 0] → u.oneCell' = true) := by show ∀ u, _ → _; simp [Value.oneCell']
        have TD2 : Hid (Told ((T ++ P) ++ Q) (l ++ [⟨0, T.size, ⟨#[97,98]⟩, 0, 0⟩])) := by
          have h := TD.out
          skip
          exact h
        go_wp2_with (first | (at_builtin; refine wpList_append_own _ rfl _ _ 22 rfl W0.heap.size 33 i (.agg #[.int .i64 0, .int .i64 0, .string ⟨#[]⟩, .int .i64 0, .int .i64 0]) 5 48 Try.underlying22 HI.out.1 HI.out.2.1 HI.out.2.2.1 HI.out.2.2.2 rfl (by decide) _ _ _ rfl ((OW.out.alloc _).alloc _) ⟨wr.heap.size + 1, 0, none⟩ 1 1 [.int .i64 0, .int .i64 (T.size : Int), .string ⟨#[97,98]⟩, .int .i64 0, .int .i64 0] rfl rfl (World.news_of_block (cs := #[.int .i64 0, .int .i64 (T.size : Int), .string ⟨#[97,98]⟩, .int .i64 0, .int .i64 0]) (t := 33) (fr := (0, 0)) (heap_alloc_at _ _ _ (size_alloc1 _ _))) ONE.out MX.out BY.out (Nat.le_trans hsz (Nat.le_trans (le_alloc _ _) (le_alloc _ _))) ?_))
        intro v' w3 hown' hgrow hnil
        clear hnil
        obtain ⟨po', co', hv'⟩ := row_slice hown'
        subst hv'
        have OW3 : Hid (w3.ownsRow W0.heap.size 33 5 (.slice po' (j + 1) co') (j + 1) (toksV (l ++ [⟨0, T.size, ⟨#[97,98]⟩, 0, 0⟩]))) := by
          show w3.ownsRow _ _ _ _ _ _
          rw [toksV_append]; exact hown'
        have BB3 : Hid (Below W0.heap.size W0 w3) := ((HW.out.alloc hsz _).alloc (Nat.le_trans hsz (le_alloc _ _)) _).grown hgrow (Nat.le_trans hsz (Nat.le_trans (le_alloc _ _) (le_alloc _ _))) (fun x hx => ((OW.out.alloc (.cells #[] 0)).lt x hx).1)
        have cP3 : w3.cell? ⟨wa.heap.size, 0, none⟩ = some (.string P) := (BB3.out.cell (p := ⟨_, _, none⟩) (by show wa.heap.size < W0.heap.size; omega)).trans (cPW)
        have cP4 : ∀ o, (w3.alloc o).cell? ⟨wa.heap.size, 0, none⟩ = some (.string P) := fun o => (World.cell?_alloc_past _ _ _ (by have := BB3.out.size; show wa.heap.size < w3.heap.size; omega)).trans cP3
        have hsz3 : W0.heap.size ≤ w3.heap.size := BB3.out.size
        clear hown' hgrow c0 cP
        go_wp2
        have er3 : (j : Int).tmod 3 = (r : Int) := by rw [Int.tmod_eq_emod_of_nonneg (by omega)]; exact er
        have er4 : IntKind.i64.wrap ((j : Int).tmod 3) = (r : Int) := by rw [er3, IntKind.wrap_i64]; omega
        have er5 : IntKind.i64.wrap (r : Int) = (r : Int) := by rw [IntKind.wrap_i64]; omega
        have ha1 := fun (w : World) => run_string_add_sum (P := Try.prog) (w := w) T P hA1
        have ha2 := fun (w : World) => run_string_add_sum (P := Try.prog) (w := w) (T ++ P) Q hA2
        go_region
        all_goals go_wp2
        all_goals
          go_roundw
          case rel => exact ⟨j + 1, _, _, by omega, by omega, by go_num, rfl, TD2.out, by rw [List.length_append, HL.out]; rfl, by rw [ByteArray.size_append, ByteArray.size_append]; omega, ⟨po', co', rfl⟩, (OW3.out.alloc _).drew, (BB3.out.alloc hsz3 _).drew⟩
          case measure => simp [intOf]; omega
      · have ONE : Hid (∀ u, u ∈ [Value.int .i64 1, .int .i64 (T.size : Int), .string ⟨#[120,92,121]⟩, .int .i64 0, .int .i64 0] → u.oneCell' = true) := by show ∀ u, _ → _; simp [Value.oneCell']
        have TD2 : Hid (Told ((T ++ P) ++ Q) (l ++ [⟨1, T.size, ⟨#[120,92,121]⟩, 0, 0⟩])) := by
          have h := TD.out
          skip
          exact h
        go_wp2_with (first | (at_builtin; refine wpList_append_own _ rfl _ _ 22 rfl W0.heap.size 33 i (.agg #[.int .i64 0, .int .i64 0, .string ⟨#[]⟩, .int .i64 0, .int .i64 0]) 5 48 Try.underlying22 HI.out.1 HI.out.2.1 HI.out.2.2.1 HI.out.2.2.2 rfl (by decide) _ _ _ rfl ((OW.out.alloc _).alloc _) ⟨wr.heap.size + 1, 0, none⟩ 1 1 [.int .i64 1, .int .i64 (T.size : Int), .string ⟨#[120,92,121]⟩, .int .i64 0, .int .i64 0] rfl rfl (World.news_of_block (cs := #[.int .i64 1, .int .i64 (T.size : Int), .string ⟨#[120,92,121]⟩, .int .i64 0, .int .i64 0]) (t := 33) (fr := (0, 0)) (heap_alloc_at _ _ _ (size_alloc1 _ _))) ONE.out MX.out BY.out (Nat.le_trans hsz (Nat.le_trans (le_alloc _ _) (le_alloc _ _))) ?_))
        intro v' w3 hown' hgrow hnil
        clear hnil
        obtain ⟨po', co', hv'⟩ := row_slice hown'
        subst hv'
        have OW3 : Hid (w3.ownsRow W0.heap.size 33 5 (.slice po' (j + 1) co') (j + 1) (toksV (l ++ [⟨1, T.size, ⟨#[120,92,121]⟩, 0, 0⟩]))) := by
          show w3.ownsRow _ _ _ _ _ _
          rw [toksV_append]; exact hown'
        have BB3 : Hid (Below W0.heap.size W0 w3) := ((HW.out.alloc hsz _).alloc (Nat.le_trans hsz (le_alloc _ _)) _).grown hgrow (Nat.le_trans hsz (Nat.le_trans (le_alloc _ _) (le_alloc _ _))) (fun x hx => ((OW.out.alloc (.cells #[] 0)).lt x hx).1)
        have cP3 : w3.cell? ⟨wa.heap.size, 1, none⟩ = some (.string P) := (BB3.out.cell (p := ⟨_, _, none⟩) (by show wa.heap.size < W0.heap.size; omega)).trans (cPW)
        have cP4 : ∀ o, (w3.alloc o).cell? ⟨wa.heap.size, 1, none⟩ = some (.string P) := fun o => (World.cell?_alloc_past _ _ _ (by have := BB3.out.size; show wa.heap.size < w3.heap.size; omega)).trans cP3
        have hsz3 : W0.heap.size ≤ w3.heap.size := BB3.out.size
        clear hown' hgrow c0 cP
        go_wp2
        have er3 : (j : Int).tmod 3 = (r : Int) := by rw [Int.tmod_eq_emod_of_nonneg (by omega)]; exact er
        have er4 : IntKind.i64.wrap ((j : Int).tmod 3) = (r : Int) := by rw [er3, IntKind.wrap_i64]; omega
        have er5 : IntKind.i64.wrap (r : Int) = (r : Int) := by rw [IntKind.wrap_i64]; omega
        have ha1 := fun (w : World) => run_string_add_sum (P := Try.prog) (w := w) T P hA1
        have ha2 := fun (w : World) => run_string_add_sum (P := Try.prog) (w := w) (T ++ P) Q hA2
        go_region
        all_goals go_wp2
        all_goals
          go_roundw
          case rel => exact ⟨j + 1, _, _, by omega, by omega, by go_num, rfl, TD2.out, by rw [List.length_append, HL.out]; rfl, by rw [ByteArray.size_append, ByteArray.size_append]; omega, ⟨po', co', rfl⟩, (OW3.out.alloc _).drew, (BB3.out.alloc hsz3 _).drew⟩
          case measure => simp [intOf]; omega
      · have ONE : Hid (∀ u, u ∈ [Value.int .i64 2, .int .i64 (T.size : Int), .string ⟨#[]⟩, .int .i64 97, .int .i64 127] → u.oneCell' = true) := by show ∀ u, _ → _; simp [Value.oneCell']
        have TD2 : Hid (Told ((T ++ P) ++ Q) (l ++ [⟨2, T.size, ⟨#[]⟩, 97, 127⟩])) := by
          have h := TD.out
          skip
          exact h
        go_wp2_with (first | (at_builtin; refine wpList_append_own _ rfl _ _ 22 rfl W0.heap.size 33 i (.agg #[.int .i64 0, .int .i64 0, .string ⟨#[]⟩, .int .i64 0, .int .i64 0]) 5 48 Try.underlying22 HI.out.1 HI.out.2.1 HI.out.2.2.1 HI.out.2.2.2 rfl (by decide) _ _ _ rfl ((OW.out.alloc _).alloc _) ⟨wr.heap.size + 1, 0, none⟩ 1 1 [.int .i64 2, .int .i64 (T.size : Int), .string ⟨#[]⟩, .int .i64 97, .int .i64 127] rfl rfl (World.news_of_block (cs := #[.int .i64 2, .int .i64 (T.size : Int), .string ⟨#[]⟩, .int .i64 97, .int .i64 127]) (t := 33) (fr := (0, 0)) (heap_alloc_at _ _ _ (size_alloc1 _ _))) ONE.out MX.out BY.out (Nat.le_trans hsz (Nat.le_trans (le_alloc _ _) (le_alloc _ _))) ?_))
        intro v' w3 hown' hgrow hnil
        clear hnil
        obtain ⟨po', co', hv'⟩ := row_slice hown'
        subst hv'
        have OW3 : Hid (w3.ownsRow W0.heap.size 33 5 (.slice po' (j + 1) co') (j + 1) (toksV (l ++ [⟨2, T.size, ⟨#[]⟩, 97, 127⟩]))) := by
          show w3.ownsRow _ _ _ _ _ _
          rw [toksV_append]; exact hown'
        have BB3 : Hid (Below W0.heap.size W0 w3) := ((HW.out.alloc hsz _).alloc (Nat.le_trans hsz (le_alloc _ _)) _).grown hgrow (Nat.le_trans hsz (Nat.le_trans (le_alloc _ _) (le_alloc _ _))) (fun x hx => ((OW.out.alloc (.cells #[] 0)).lt x hx).1)
        have cP3 : w3.cell? ⟨wa.heap.size, 2, none⟩ = some (.string P) := (BB3.out.cell (p := ⟨_, _, none⟩) (by show wa.heap.size < W0.heap.size; omega)).trans (cPW)
        have cP4 : ∀ o, (w3.alloc o).cell? ⟨wa.heap.size, 2, none⟩ = some (.string P) := fun o => (World.cell?_alloc_past _ _ _ (by have := BB3.out.size; show wa.heap.size < w3.heap.size; omega)).trans cP3
        have hsz3 : W0.heap.size ≤ w3.heap.size := BB3.out.size
        clear hown' hgrow c0 cP
        go_wp2
        have er3 : (j : Int).tmod 3 = (r : Int) := by rw [Int.tmod_eq_emod_of_nonneg (by omega)]; exact er
        have er4 : IntKind.i64.wrap ((j : Int).tmod 3) = (r : Int) := by rw [er3, IntKind.wrap_i64]; omega
        have er5 : IntKind.i64.wrap (r : Int) = (r : Int) := by rw [IntKind.wrap_i64]; omega
        have ha1 := fun (w : World) => run_string_add_sum (P := Try.prog) (w := w) T P hA1
        have ha2 := fun (w : World) => run_string_add_sum (P := Try.prog) (w := w) (T ++ P) Q hA2
        go_region
        all_goals go_wp2
        all_goals
          go_roundw
          case rel => exact ⟨j + 1, _, _, by omega, by omega, by go_num, rfl, TD2.out, by rw [List.length_append, HL.out]; rfl, by rw [ByteArray.size_append, ByteArray.size_append]; omega, ⟨po', co', rfl⟩, (OW3.out.alloc _).drew, (BB3.out.alloc hsz3 _).drew⟩
          case measure => simp [intOf]; omega
      · have ONE : Hid (∀ u, u ∈ [Value.int .i64 (m:Int), .int .i64 (T.size : Int), .string ⟨#[]⟩, .int .i64 0, .int .i64 0] → u.oneCell' = true) := by show ∀ u, _ → _; simp [Value.oneCell']
        have TD2 : Hid (Told ((T ++ P) ++ Q) (l ++ [⟨m, T.size, ⟨#[]⟩, 0, 0⟩])) := by
          have h := TD.out
          (rw [eK] at h)
          exact h
        go_wp2_with (first | (at_builtin; refine wpList_append_own _ rfl _ _ 22 rfl W0.heap.size 33 i (.agg #[.int .i64 0, .int .i64 0, .string ⟨#[]⟩, .int .i64 0, .int .i64 0]) 5 48 Try.underlying22 HI.out.1 HI.out.2.1 HI.out.2.2.1 HI.out.2.2.2 rfl (by decide) _ _ _ rfl ((OW.out.alloc _).alloc _) ⟨wr.heap.size + 1, 0, none⟩ 1 1 [.int .i64 (m:Int), .int .i64 (T.size : Int), .string ⟨#[]⟩, .int .i64 0, .int .i64 0] rfl rfl (World.news_of_block (cs := #[.int .i64 (m:Int), .int .i64 (T.size : Int), .string ⟨#[]⟩, .int .i64 0, .int .i64 0]) (t := 33) (fr := (0, 0)) (heap_alloc_at _ _ _ (size_alloc1 _ _))) ONE.out MX.out BY.out (Nat.le_trans hsz (Nat.le_trans (le_alloc _ _) (le_alloc _ _))) ?_))
        intro v' w3 hown' hgrow hnil
        clear hnil
        obtain ⟨po', co', hv'⟩ := row_slice hown'
        subst hv'
        have OW3 : Hid (w3.ownsRow W0.heap.size 33 5 (.slice po' (j + 1) co') (j + 1) (toksV (l ++ [⟨m, T.size, ⟨#[]⟩, 0, 0⟩]))) := by
          show w3.ownsRow _ _ _ _ _ _
          rw [toksV_append]; exact hown'
        have BB3 : Hid (Below W0.heap.size W0 w3) := ((HW.out.alloc hsz _).alloc (Nat.le_trans hsz (le_alloc _ _)) _).grown hgrow (Nat.le_trans hsz (Nat.le_trans (le_alloc _ _) (le_alloc _ _))) (fun x hx => ((OW.out.alloc (.cells #[] 0)).lt x hx).1)
        have cP3 : w3.cell? ⟨wa.heap.size, m, none⟩ = some (.string P) := (BB3.out.cell (p := ⟨_, _, none⟩) (by show wa.heap.size < W0.heap.size; omega)).trans (cPW)
        have cP4 : ∀ o, (w3.alloc o).cell? ⟨wa.heap.size, m, none⟩ = some (.string P) := fun o => (World.cell?_alloc_past _ _ _ (by have := BB3.out.size; show wa.heap.size < w3.heap.size; omega)).trans cP3
        have hsz3 : W0.heap.size ≤ w3.heap.size := BB3.out.size
        clear hown' hgrow c0 cP
        go_wp2
        have er3 : (j : Int).tmod 3 = (r : Int) := by rw [Int.tmod_eq_emod_of_nonneg (by omega)]; exact er
        have er4 : IntKind.i64.wrap ((j : Int).tmod 3) = (r : Int) := by rw [er3, IntKind.wrap_i64]; omega
        have er5 : IntKind.i64.wrap (r : Int) = (r : Int) := by rw [IntKind.wrap_i64]; omega
        have ha1 := fun (w : World) => run_string_add_sum (P := Try.prog) (w := w) T P hA1
        have ha2 := fun (w : World) => run_string_add_sum (P := Try.prog) (w := w) (T ++ P) Q hA2
        go_region
        all_goals go_wp2
        all_goals
          go_roundw
          case rel => exact ⟨j + 1, _, _, by omega, by omega, by go_num, rfl, TD2.out, by rw [List.length_append, HL.out]; rfl, by rw [ByteArray.size_append, ByteArray.size_append]; omega, ⟨po', co', rfl⟩, (OW3.out.alloc _).drew, (BB3.out.alloc hsz3 _).drew⟩
          case measure => simp [intOf]; omega
    · have hout : zs.length ≤ j ∨ (j < zs.length ∧ 40 ≤ j) := by omega
      have hTs2 : T.size ≤ 520 := by omega
      have hA : lexT T = .ok l := hT.out (by omega)
      have L1 := fun w => lex_ok hA (by unfold maxLen; omega) w
      have l5 : Hid (l.length ≤ 65536) := by show _ ≤ _; omega
      have TW : Hid (TRow wr (.slice po j co) l) := TRow.of hown
      subst hl
      clear hA hT hW hTs hgo hown
      rcases hout with hout | ⟨hout1, hout2⟩
      all_goals
        go_wp2_with (first | (go_at_call 17; refine (L1 _).mono ?_; rintro e w1 ⟨q1, c1, rfl, t1, b1⟩; have B1 : Hid (Below W0.heap.size W0 w1) := HW.out.trans (b1.mono HW.out.size); have T1 : Hid (TRow w1 (.slice q1 l.length c1) l) := t1; have T2 : Hid (TRow w1 (.slice po l.length co) l) := TW.out.keep b1; clear b1 t1) | (go_at_call 20; refine (num_any _ _).mono ?_; rintro e wn ⟨rfl, rfl⟩) | (go_at_call 19; refine (same_yes _ _ l _ T1.out T2.out l5.out).mono ?_; rintro e w5 ⟨rfl, b5⟩; have B5 : Hid (Below W0.heap.size W0 w5) := B1.out.trans (b5.mono B1.out.size); clear b5))
        all_goals go_ret
        all_goals exact ⟨rfl, BA.out.trans (B5.out.mono BA.out.size)⟩

set_option linter.unusedVariables false
theorem lexRows_own : ownKnob Try.prog.godebug = none := by kernel_rfl
set_option maxRecDepth 100000 in
theorem lexRows_lifted (os : Os) (started : os.Started) (H : Type) (enc : TypeId × Value → H) :
    ReturnsInHanded {} Try.checked os 10 .any (Rows.lexRowsSpec.pre6 enc Try.prog Try.f10 Rows.lexRowsRow.domain false) (Rows.lexRowsSpec.post enc Try.prog Try.f10 false true false false) := by
  refine returnsInHanded_of_change_sized (C := Try.checked) lexRows_own started (by kernel_rfl) Try.func10
    (ChangeSpec.witness6 (enc := enc) (C := Try.checked) false ⟨#[], #[.slice none 0 0], []⟩ 8 (by kernel_rfl) (by kernel_rfl) (by kernel_rfl) (by kernel_rfl)) ?_
  intro W base args ds gs before hval0 hW hcnd hsz0 _
  have hsz : (DataW.weightsEach Try.prog (Try.f10.params.toList ++ Rows.lexRowsSpec.plain.varTypes Try.prog) (ds ++ gs)).all (· ≤ reachBytes) = true := hsz0
  have hval : ∀ (j : Nat) t v, Try.f10.params[j]? = some t → args[j]? = some v → Value.okWide Try.prog W .any base t v := hval0
  have hW' := hW
  obtain ⟨p, q, hA0, hV, rfl, hfz, hnd⟩ := hW
  have hA : DataW.TrodAll enc Try.prog W 0 (fun _ => true) true Try.f10.params.toList args.toList ds p := hA0
  rw [Try.params10] at hA hval hsz
  obtain ⟨v0, vs0, d0, ds0, p0, q0, hargs, rfl, rfl, h0, r0⟩ := trodAll_cons hA
  obtain ⟨rfl, rfl, rfl⟩ := trodAll_nil r0
  obtain rfl : args = #[v0] := by cases args; simp_all
  obtain ⟨rfl, rfl⟩ := trodVars_none hV
  clear hA0 hval0 hsz0
  have k0 := h0
  have lt0 : ∀ x ∈ p0, x.block < W.heap.size := fun x hx => by have := hW'.lt x (by simp [hx]); simpa using this
  obtain ⟨zs0, row0, w0, hd0⟩ := open_irow Try.underlying37 (hval 0 37 v0 rfl rfl) h0
  have z0 := irow_reach hsz (j := 0) (t := 37) rfl rfl Try.underlying37 hd0
  refine (lexRows_walk W v0 zs0 row0 w0 z0).mono fun e W' ⟨he, bel⟩ => ?_
  subst he
  exact ⟨_, rfl, _, _, _, [], _, [], hW', trodAll_mk1 (shut_bool Try.underlying4 _), (trodAll_cons_mk (Below.trod Try.laidOutB (by kernel_rfl) (of_decide_eq_true (by kernel_rfl)) k0 bel lt0) trodAll_mk0), rfl, bel.frame _, fun h => by cases h⟩

theorem lexRows_holds : Rows.LexRowsSaid :=
  OpenClaim.holds_of_wide 10 Try.f10 rfl rfl rfl rfl rfl rfl rfl ⟨rfl, rfl, rfl, rfl, rfl⟩ rfl rfl rfl rfl rfl (by kernel_rfl) Try.func10 (by kernel_rfl)
    (of_decide_eq_true (by kernel_rfl)) (by unfold Func.isWrapper; first | (rw [if_pos (by decide +kernel)]; kernel_rfl) | (rw [if_neg (by decide +kernel)]; exact ⟨rfl, rfl⟩))
    (fun os started H enc _ => lexRows_lifted os started H enc)
#print axioms lexRows_holds
end Go.Proofs.Ytjfdgdjfgiifeaa
