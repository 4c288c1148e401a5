/- GramLimits: how many rules, symbols and names there may be: its walk. -/
import Derived.Test.YtnmnjpkmkpngfaaGramVar
import Derived.Test.YtnmnjpkmkpngfaaRefDec
import Derived.Test.YtnmnjpkmkpngfaaGFormsM
import Derived.Test.YtnmnjpkmkpngfaaGramLimT
namespace Go.Proofs.Ytnmnjpkmkpngfaa
set_option linter.unusedVariables false
open Go.ChangeShapes Go.WideShapes Go.ChangeAt Go.RowKit

theorem frz_of_cells {w : World} {b : Nat} {arr : Array Value} {t : TypeId} (h : w.heap[b]? = some (.cells arr t)) (j : Nat) : w.frozen? ⟨b, j, none⟩ = false := by simp [World.frozen?, h]
theorem one_cns (w : World) : IsCns (w.alloc (.cells #[.bool false, .slice none 0 0] 82)) (fun b => b = w.heap.size) (.slice (some ⟨w.heap.size, 0, none⟩) 1 1) [⟨false, []⟩] := by
  refine ⟨[.slice none 0 0], Reads.of (World.ownsRow_lit (e := 82) (size := 2) (base := w.heap.size) w #[.bool false, .slice none 0 0] 1 (Nat.le_refl _) le11.1 rfl) (fun b e => by injection e with e; exact e.symm), rfl, fun k c u hc hu => ?_⟩
  cases k with
  | zero =>
    injection hc with hc; injection hu with hu; subst hc; subst hu
    exact Reads.nil _ _
  | succ k => cases hc
theorem undrew {w w' : World} {b : Option Nat} (h : w.drew.grownBy w' b) : w.grownBy w' b := ⟨h.os, h.tape, h.output, h.size, h.block⟩
theorem chF_zero (f : Nat) : chF f 0 = [] := by cases f <;> rfl
theorem new3 (w : World) (x y z : Obj) : (((w.alloc x).alloc y).alloc z).heap[w.heap.size + 1 + 1]? = some z := by simpa using heap_alloc_new ((w.alloc x).alloc y) z
set_option maxRecDepth 100000 in
theorem make_q (q : Nat) (hq : q ≤ 64) (w : World) : (Instr.makeSlice 80 (.int .i64 (q : Int)) (.int .i64 (q : Int))).run Try.prog w = .ok (.slice (some ⟨w.heap.size, 0, none⟩) q q) (w.alloc (.cells (madeCells #[.int .i64 0, .int .i64 0, .int .i64 0] (q * 3)) 84)) := by
  obtain ⟨i, hi, hz, hs, hb⟩ := info_parts Try.infoSym
  have h := run_make (P := Try.prog) w 80 84 i _ Try.underlying80 hi hz .i64 .i64 (q : Int) (q : Int) (by omega) (Int.le_refl _) (by rw [hb]; omega) (by omega)
  simp only [Int.toNat_natCast, hs] at h
  exact h
theorem made_sysF {X : World} {B k : Nat} {F : Nat → Prop} (hF : F B) (h : X.heap[B]? = some (.cells (madeCells #[.int .i64 0, .int .i64 0, .int .i64 0] (k * 3)) 84)) (hk : k ≤ 1000) : IsSys X F (.slice (some ⟨B, 0, none⟩) k k) (List.replicate k ⟨0, 0, 0⟩) := by
  obtain ⟨p, c, e, hm, hr⟩ := made_sys h hk
  refine ⟨p, c, e, hm, fun h0 => ?_⟩
  obtain ⟨B', e1, _, h3⟩ := hr h0
  rw [e1] at e
  injection e with e _ _
  injection e with e
  injection e with e _ _
  exact ⟨B', e1, e ▸ hF, h3⟩
theorem chunk_cns (w : World) (q : Nat) (hq : q ≤ 64) : IsCns ((w.alloc (.cells (madeCells #[.int .i64 0, .int .i64 0, .int .i64 0] (q * 3)) 84)).alloc (.cells #[.bool false, .slice (some ⟨w.heap.size, 0, none⟩) q q] 82)) (fun b => b = w.heap.size ∨ b = w.heap.size + 1) (.slice (some ⟨w.heap.size + 1, 0, none⟩) 1 1) [⟨false, List.replicate q ⟨0, 0, 0⟩⟩] := by
  have h := World.ownsRow_lit (e := 82) (size := 2) (base := w.heap.size) (w.alloc (.cells (madeCells #[.int .i64 0, .int .i64 0, .int .i64 0] (q * 3)) 84)) #[.bool false, .slice (some ⟨w.heap.size, 0, none⟩) q q] 1 (by simp) le11.1 rfl
  rw [show (w.alloc (.cells (madeCells #[.int .i64 0, .int .i64 0, .int .i64 0] (q * 3)) 84)).heap.size = w.heap.size + 1 by simp] at h
  refine ⟨[.slice (some ⟨w.heap.size, 0, none⟩) q q], Reads.of h (fun b e => by injection e with e; exact .inr e.symm), rfl, fun k c u hc hu => ?_⟩
  cases k with
  | zero =>
    injection hc with hc; injection hu with hu; subst hc; subst hu
    exact made_sysF (.inl rfl) ((heap_alloc_old _ (by simp)).trans (heap_alloc_new _ _)) (by omega)
  | succ k => cases hc
theorem nms_len (k : Nat) : (nmsT k).length = k := by simp [nmsT]
theorem rus_len (k : Nat) : (rusT k).length = k := by simp [rusT]
theorem nms_succ (k : Nat) : nmsT (k + 1) = nmsT k ++ [nmD k] := by simp [nmsT, List.range_succ]
theorem rus_succ (k : Nat) : rusT (k + 1) = rusT k ++ [⟨(k : Int), [⟨false, []⟩]⟩] := by simp [rusT, List.range_succ, ru0]
set_option maxHeartbeats 4000000 in
set_option maxRecDepth 100000 in
theorem gramLim_core (a0 a1 : Int) (r s c d : Nat) (hr : r ≤ 3) (hs : s ≤ 3) (hc : c ≤ 1) (hd : d ≤ 1) (e0 : bits .and .i64 a0 3 = (r : Int)) (e1 : bits .and .i64 a1 3 = (s : Int)) (e2 : bits .and .i64 a0 1 = (c : Int)) (e3 : bits .and .i64 a1 1 = (d : Int)) (w : World) :
    Calls Try.prog 20 #[.int .i64 a0, .int .i64 a1] w fun e w' => e = .returned (.bool true) ∧ Below w.heap.size w w' := by
  obtain ⟨i, hi0, hz0, hz1, hz2⟩ := info_parts Try.infoRu
  have HI : Hid (Try.prog.info? 79 = some i ∧ i.zero = some (.agg #[.int .i64 0, .slice none 0 0]) ∧ i.size = 2 ∧ i.bytes = 32) := ⟨hi0, hz0, hz1, hz2⟩
  clear hi0 hz0 hz1 hz2
  obtain ⟨is, hi0, hz0, hz1, hz2⟩ := info_parts Try.infoStr
  have HS : Hid (Try.prog.info? 9 = some is ∧ is.zero = some (.string ⟨#[]⟩) ∧ is.size = 1 ∧ is.bytes = 16) := ⟨hi0, hz0, hz1, hz2⟩
  clear hi0 hz0 hz1 hz2
  go_enter Try.func20, Try.ntmps20
  go_wp2_with (go_at_call 42; refine (awake4_any _).mono ?_; rintro e wa ⟨rfl, hba⟩; have hsa : w.heap.size ≤ wa.heap.size := hba.size; have BA : Hid (Below w.heap.size w wa) := hba; clear hba)
  go_loopw [7] (fun x wr => ∃ (k : Nat), ∃ (F : Nat → Prop) (nv : Value) (us : List Value) (o : Value), k ≤ 254 + r ∧ x = .int .i64 (k : Int) ∧ Hid (GV wa (wa.heap.size + 1) F 0 [nmS] nv (List.replicate k (ru0 0)) us o wr)) (fun x _ => 254 + r - (intOf x).toNat)
  case atStart => exact ⟨0, _, _, _, _, by omega, rfl, GV.new1 wa nmS⟩
  case round =>
    obtain ⟨k, F, nv, us, o, hk, rfl, GG⟩ := hrel
    by_cases hlt : k < 254 + r
    · have hwz : wa.heap.size ≤ wr.heap.size := GG.out.m0.bl.size
      have hgl : wa.heap.size + 1 < wr.heap.size := block_lt GG.out.vb
      have oo := GG.out.m0.oo
      rw [List.length_replicate] at oo
      obtain ⟨po, co, hv⟩ := row_slice oo
      subst hv
      have OR : Hid (wr.ownsRow wa.heap.size 79 2 (.slice po k co) k (rusV (List.replicate k (ru0 0)) us)) := oo
      clear oo
      have c2 : wr.cell? ⟨wa.heap.size + 1, 2, none⟩ = some (.slice po k co) := cell_of_cells GG.out.vb 2
      have f2 : wr.frozen? ⟨wa.heap.size + 1, 2, none⟩ = false := frz_of_cells GG.out.vb 2
      have RNE : Hid ((Value.slice po k co).ownBlock ≠ some (wa.heap.size + 1)) := row_no OR.out (by decide) GG.out.vb
      have MX : Hid (k + 1 ≤ maxLen) := by show _ ≤ _; unfold maxLen; omega
      have BY : Hid ((k + 1) * 32 ≤ 140737488355328) := by show _ ≤ _; omega
      have ONE : Hid (∀ u, u ∈ [Value.int .i64 0, .slice (some ⟨wr.heap.size, 0, none⟩) 1 1] → u.oneCell' = true) := by show ∀ u, _ → _; simp [Value.oneCell']
      go_wp2_with (at_builtin; refine wpList_append_lies _ rfl _ _ 62 rfl wa.heap.size 79 i (.agg #[.int .i64 0, .slice none 0 0]) 2 32 Try.underlying62 HI.out.1 HI.out.2.1 HI.out.2.2.1 HI.out.2.2.2 rfl (by decide) _ _ _ rfl ((OR.out.alloc _).alloc _) ⟨wr.heap.size + 1, 0, none⟩ 1 1 [.int .i64 0, .slice (some ⟨wr.heap.size, 0, none⟩) 1 1] rfl rfl (World.news_of_block (cs := #[.int .i64 0, .slice (some ⟨wr.heap.size, 0, none⟩) 1 1]) (t := 79) (fr := (0, 0)) (by simpa using heap_alloc_new (wr.alloc (.cells #[.bool false, .slice none 0 0] 82)) (.cells #[.int .i64 0, .slice (some ⟨wr.heap.size, 0, none⟩) 1 1] 79))) ONE.out (by decide) MX.out BY.out (Nat.le_trans hwz (Nat.le_trans (le_alloc _ _) (le_alloc _ _))) (wr.heap.size + 1 + 1) (by simp) ?_; intro gg cap1 w2 hown1 hgrow hat hltg; have x1 : w2.cell? ⟨wa.heap.size + 1, 2, none⟩ = some (.slice po k co) := (hgrow.cell_far ⟨wa.heap.size + 1, 2, none⟩ (by simp; omega) (Ne.symm RNE.out)).trans ((World.cell?_alloc_past _ _ _ (by simp; omega)).trans ((World.cell?_alloc_past _ _ _ hgl).trans c2)); have y1 : w2.frozen? ⟨wa.heap.size + 1, 2, none⟩ = false := (hgrow.frozen_far ⟨wa.heap.size + 1, 2, none⟩ (by simp; omega) (Ne.symm RNE.out)).trans ((World.frozen?_alloc_past _ _ _ (by simp; omega)).trans ((World.frozen?_alloc_past _ _ _ hgl).trans f2)))
      obtain ⟨F', FIN⟩ := GG.out.rule (bel1 wr (.cells #[.bool false, .slice none 0 0] 82)) (one_cns wr) (fun b e => Nat.le_of_eq e.symm) List.length_replicate hgrow hown1 (hat.imp id (fun e => e.trans (by simp))) (L' := List.replicate (k + 1) (ru0 0)) List.replicate_succ'
      clear hgrow hown1 hat
      go_roundw
      case rel => exact ⟨k + 1, _, _, _, _, by omega, by go_num, FIN⟩
      case measure => simp [intOf]; omega
    · have HKR : Hid (k = 254 + r) := by show _ = _; omega
      have BG : Hid (Below w.heap.size w wr) := BA.out.trans (GG.out.m0.bl.mono hsa)
      have GR : Hid (GrIs wr Any nv o ⟨0, [nmS], List.replicate k (ru0 0)⟩) := GG.out.gr
      have VB : Hid (wr.heap[wa.heap.size + 1]? = some (.cells #[.int .i64 0, nv, o] 64)) := GG.out.vb
      have hgl : wa.heap.size + 1 < wr.heap.size := block_lt GG.out.vb
      have nr := GG.out.on
      have oo := GG.out.m0.oo
      clear GG
      obtain ⟨pn, cn, hv⟩ := row_slice nr
      subst hv
      rw [List.length_replicate] at oo
      obtain ⟨po, co, hv⟩ := row_slice oo
      subst hv
      clear oo nr
      have hsw : w.heap.size ≤ wr.heap.size := BG.out.size
      obtain ⟨V, hV⟩ : ∃ V, V = wr := ⟨_, rfl⟩
      subst hV
      go_wp2
      go_loopw [9, 11] (fun x y w2 => ∃ (left f : Nat) (L : List Ru), ∃ (F2 : Nat → Prop) (nv2 : Value) (us2 : List Value) (o2 : Value), left ≤ 1022 + s ∧ x = .int .i64 (left : Int) ∧ Hid (left ≤ 64 * f) ∧ L.length + f = 20 ∧ Hid (L ++ chF f left = chF 20 (1022 + s)) ∧ Hid (GV V (V.heap.size + 1) F2 0 [nmS] nv2 L us2 o2 w2)) (fun x _ _ => (intOf x).toNat)
      case atStart => exact ⟨1022 + s, 20, [], _, _, _, _, by omega, by go_num, (by show _ ≤ _; omega), rfl, rfl, GV.new1 V nmS⟩
      case round =>
        obtain ⟨left, f, L, F2, nv2, us2, o2, hk2, rfl, HL, hlf, HC, G2⟩ := hrel
        by_cases hlt2 : 0 < left
        · have hL := HL.out
          obtain ⟨f, rfl⟩ : ∃ f', f = f' + 1 := ⟨f - 1, by omega⟩
          have hwz : V.heap.size ≤ wr.heap.size := G2.out.m0.bl.size
          have hgl2 : V.heap.size + 1 < wr.heap.size := block_lt G2.out.vb
          have oo := G2.out.m0.oo
          obtain ⟨p2, c2, hv⟩ := row_slice oo
          subst hv
          have OR : Hid (wr.ownsRow V.heap.size 79 2 (.slice p2 L.length c2) L.length (rusV L us2)) := oo
          clear oo
          have d2 : wr.cell? ⟨V.heap.size + 1, 2, none⟩ = some (.slice p2 L.length c2) := cell_of_cells G2.out.vb 2
          have f2 : wr.frozen? ⟨V.heap.size + 1, 2, none⟩ = false := frz_of_cells G2.out.vb 2
          have RNE : Hid ((Value.slice p2 L.length c2).ownBlock ≠ some (V.heap.size + 1)) := row_no OR.out (by decide) G2.out.vb
          have MX : Hid (L.length + 1 ≤ maxLen) := by show _ ≤ _; unfold maxLen; omega
          have BY : Hid ((L.length + 1) * 32 ≤ 140737488355328) := by show _ ≤ _; omega
          by_cases h64 : left ≤ 64
          · have MK : ∀ w, (Instr.makeSlice 80 (.int .i64 (left : Int)) (.int .i64 (left : Int))).run Try.prog w = .ok (.slice (some ⟨w.heap.size, 0, none⟩) left left) (w.alloc (.cells (madeCells #[.int .i64 0, .int .i64 0, .int .i64 0] (left * 3)) 84)) := make_q left (by omega)
            have NB : Hid ((((wr.alloc (.cells (madeCells #[.int .i64 0, .int .i64 0, .int .i64 0] (left * 3)) 84)).alloc (.cells #[.bool false, .slice (some ⟨wr.heap.size, 0, none⟩) left left] 82)).alloc (.cells #[.int .i64 0, .slice (some ⟨wr.heap.size + 1, 0, none⟩) 1 1] 79)).heap[wr.heap.size + 1 + 1]? = some (.cells #[.int .i64 0, .slice (some ⟨wr.heap.size + 1, 0, none⟩) 1 1] 79)) := new3 _ _ _ _
            have CN : Hid (IsCns ((wr.alloc (.cells (madeCells #[.int .i64 0, .int .i64 0, .int .i64 0] (left * 3)) 84)).alloc (.cells #[.bool false, .slice (some ⟨wr.heap.size, 0, none⟩) left left] 82)) (fun b => b = wr.heap.size ∨ b = wr.heap.size + 1) (.slice (some ⟨wr.heap.size + 1, 0, none⟩) 1 1) [⟨false, List.replicate left ⟨0, 0, 0⟩⟩]) := chunk_cns wr left (by omega)
            have HC2 : Hid ((L ++ [⟨0, [⟨false, List.replicate left ⟨0, 0, 0⟩⟩]⟩]) ++ chF f (left - left) = chF 20 (1022 + s)) := by
              show _ = _
              rw [← HC.out, List.append_assoc, chF, if_neg (by omega), show min left 64 = left by omega]
              rfl
            clear HC
            have d2a : (wr.alloc (.cells (madeCells #[.int .i64 0, .int .i64 0, .int .i64 0] (left * 3)) 84)).cell? ⟨V.heap.size + 1, 2, none⟩ = some (.slice p2 L.length c2) := (World.cell?_alloc_past _ _ _ hgl2).trans d2
            have d2b : ((wr.alloc (.cells (madeCells #[.int .i64 0, .int .i64 0, .int .i64 0] (left * 3)) 84)).alloc (.cells #[.bool false, .slice (some ⟨wr.heap.size, 0, none⟩) left left] 82)).cell? ⟨V.heap.size + 1, 2, none⟩ = some (.slice p2 L.length c2) := (World.cell?_alloc_past _ _ _ (by simp; omega)).trans d2a
            have d2c : (((wr.alloc (.cells (madeCells #[.int .i64 0, .int .i64 0, .int .i64 0] (left * 3)) 84)).alloc (.cells #[.bool false, .slice (some ⟨wr.heap.size, 0, none⟩) left left] 82)).alloc (.cells #[.int .i64 0, .slice (some ⟨wr.heap.size + 1, 0, none⟩) 1 1] 79)).cell? ⟨V.heap.size + 1, 2, none⟩ = some (.slice p2 L.length c2) := (World.cell?_alloc_past _ _ _ (by simp; omega)).trans d2b
            go_wp2_with (fail)
            go_region_law (first | (refine step_append_lies _ (by rfl) _ _ _ (by rfl) V.heap.size 79 i _ 2 32 Try.underlying62 HI.out.1 HI.out.2.1 HI.out.2.2.1 HI.out.2.2.2 rfl (by omega) (.slice p2 L.length c2) L.length (rusV L us2) (by rfl) (((OR.out.alloc _).alloc _).alloc _) ⟨wr.heap.size + 1 + 1, 0, none⟩ 1 1 [.int .i64 0, .slice (some ⟨wr.heap.size + 1, 0, none⟩) 1 1] (by rfl) (by rfl) (World.news_of_block (cs := #[.int .i64 0, .slice (some ⟨wr.heap.size + 1, 0, none⟩) 1 1]) (t := 79) (fr := (0, 0)) NB.out) (by simp [Value.oneCell']) (by omega) MX.out BY.out (Nat.le_trans hwz (Nat.le_trans (le_alloc _ _) (Nat.le_trans (le_alloc _ _) (le_alloc _ _)))) (wr.heap.size + 1 + 1 + 1) (by simp) ?_; intro gg cap1 w2 hown1 hgrow hat hltg; have x1 : w2.cell? ⟨V.heap.size + 1, 2, none⟩ = some (.slice p2 L.length c2) := (hgrow.cell_far ⟨V.heap.size + 1, 2, none⟩ (by simp; omega) (Ne.symm RNE.out)).trans ((World.cell?_alloc_past _ _ _ (by simp; omega)).trans ((World.cell?_alloc_past _ _ _ (by simp; omega)).trans ((World.cell?_alloc_past _ _ _ hgl2).trans d2))); have y1 : w2.frozen? ⟨V.heap.size + 1, 2, none⟩ = false := (hgrow.frozen_far ⟨V.heap.size + 1, 2, none⟩ (by simp; omega) (Ne.symm RNE.out)).trans ((World.frozen?_alloc_past _ _ _ (by simp; omega)).trans ((World.frozen?_alloc_past _ _ _ (by simp; omega)).trans ((World.frozen?_alloc_past _ _ _ hgl2).trans f2)))))
            all_goals
              obtain ⟨F', FIN⟩ := G2.out.rule (bel2 wr _ _) (w1 := ((wr.alloc (.cells (madeCells #[.int .i64 0, .int .i64 0, .int .i64 0] (left * 3)) 84)).alloc (.cells #[.bool false, .slice (some ⟨wr.heap.size, 0, none⟩) left left] 82))) (h := 0) (c := .slice (some ⟨wr.heap.size + 1, 0, none⟩) 1 1) CN.out (fun b e => by rcases e with e | e <;> omega) rfl (undrew hgrow) hown1 (hat.imp id (fun e => e.trans (by simp))) (L' := L ++ [⟨0, [⟨false, List.replicate left ⟨0, 0, 0⟩⟩]⟩]) rfl
              clear hgrow hown1 hat
              go_wp2
              go_roundw
              case rel => exact ⟨left - left, f, _, _, _, _, _, by omega, by go_num, (by show _ ≤ _; omega), (by simp; omega), HC2, FIN⟩
              case measure => simp [intOf]; omega
          · have MK : ∀ w, (Instr.makeSlice 80 (.int .i64 64) (.int .i64 64)).run Try.prog w = .ok (.slice (some ⟨w.heap.size, 0, none⟩) 64 64) (w.alloc (.cells (madeCells #[.int .i64 0, .int .i64 0, .int .i64 0] 192) 84)) := make_q 64 (by omega)
            have NB : Hid ((((wr.alloc (.cells (madeCells #[.int .i64 0, .int .i64 0, .int .i64 0] 192) 84)).alloc (.cells #[.bool false, .slice (some ⟨wr.heap.size, 0, none⟩) 64 64] 82)).alloc (.cells #[.int .i64 0, .slice (some ⟨wr.heap.size + 1, 0, none⟩) 1 1] 79)).heap[wr.heap.size + 1 + 1]? = some (.cells #[.int .i64 0, .slice (some ⟨wr.heap.size + 1, 0, none⟩) 1 1] 79)) := new3 _ _ _ _
            have CN : Hid (IsCns ((wr.alloc (.cells (madeCells #[.int .i64 0, .int .i64 0, .int .i64 0] 192) 84)).alloc (.cells #[.bool false, .slice (some ⟨wr.heap.size, 0, none⟩) 64 64] 82)) (fun b => b = wr.heap.size ∨ b = wr.heap.size + 1) (.slice (some ⟨wr.heap.size + 1, 0, none⟩) 1 1) [⟨false, List.replicate 64 ⟨0, 0, 0⟩⟩]) := chunk_cns wr 64 (by omega)
            have HC2 : Hid ((L ++ [⟨0, [⟨false, List.replicate 64 ⟨0, 0, 0⟩⟩]⟩]) ++ chF f (left - 64) = chF 20 (1022 + s)) := by
              show _ = _
              rw [← HC.out, List.append_assoc, chF, if_neg (by omega), show min left 64 = 64 by omega]
              rfl
            clear HC
            have d2a : (wr.alloc (.cells (madeCells #[.int .i64 0, .int .i64 0, .int .i64 0] 192) 84)).cell? ⟨V.heap.size + 1, 2, none⟩ = some (.slice p2 L.length c2) := (World.cell?_alloc_past _ _ _ hgl2).trans d2
            have d2b : ((wr.alloc (.cells (madeCells #[.int .i64 0, .int .i64 0, .int .i64 0] 192) 84)).alloc (.cells #[.bool false, .slice (some ⟨wr.heap.size, 0, none⟩) 64 64] 82)).cell? ⟨V.heap.size + 1, 2, none⟩ = some (.slice p2 L.length c2) := (World.cell?_alloc_past _ _ _ (by simp; omega)).trans d2a
            have d2c : (((wr.alloc (.cells (madeCells #[.int .i64 0, .int .i64 0, .int .i64 0] 192) 84)).alloc (.cells #[.bool false, .slice (some ⟨wr.heap.size, 0, none⟩) 64 64] 82)).alloc (.cells #[.int .i64 0, .slice (some ⟨wr.heap.size + 1, 0, none⟩) 1 1] 79)).cell? ⟨V.heap.size + 1, 2, none⟩ = some (.slice p2 L.length c2) := (World.cell?_alloc_past _ _ _ (by simp; omega)).trans d2b
            go_wp2_with (fail)
            go_region_law (first | (refine step_append_lies _ (by rfl) _ _ _ (by rfl) V.heap.size 79 i _ 2 32 Try.underlying62 HI.out.1 HI.out.2.1 HI.out.2.2.1 HI.out.2.2.2 rfl (by omega) (.slice p2 L.length c2) L.length (rusV L us2) (by rfl) (((OR.out.alloc _).alloc _).alloc _) ⟨wr.heap.size + 1 + 1, 0, none⟩ 1 1 [.int .i64 0, .slice (some ⟨wr.heap.size + 1, 0, none⟩) 1 1] (by rfl) (by rfl) (World.news_of_block (cs := #[.int .i64 0, .slice (some ⟨wr.heap.size + 1, 0, none⟩) 1 1]) (t := 79) (fr := (0, 0)) NB.out) (by simp [Value.oneCell']) (by omega) MX.out BY.out (Nat.le_trans hwz (Nat.le_trans (le_alloc _ _) (Nat.le_trans (le_alloc _ _) (le_alloc _ _)))) (wr.heap.size + 1 + 1 + 1) (by simp) ?_; intro gg cap1 w2 hown1 hgrow hat hltg; have x1 : w2.cell? ⟨V.heap.size + 1, 2, none⟩ = some (.slice p2 L.length c2) := (hgrow.cell_far ⟨V.heap.size + 1, 2, none⟩ (by simp; omega) (Ne.symm RNE.out)).trans ((World.cell?_alloc_past _ _ _ (by simp; omega)).trans ((World.cell?_alloc_past _ _ _ (by simp; omega)).trans ((World.cell?_alloc_past _ _ _ hgl2).trans d2))); have y1 : w2.frozen? ⟨V.heap.size + 1, 2, none⟩ = false := (hgrow.frozen_far ⟨V.heap.size + 1, 2, none⟩ (by simp; omega) (Ne.symm RNE.out)).trans ((World.frozen?_alloc_past _ _ _ (by simp; omega)).trans ((World.frozen?_alloc_past _ _ _ (by simp; omega)).trans ((World.frozen?_alloc_past _ _ _ hgl2).trans f2)))))
            all_goals
              obtain ⟨F', FIN⟩ := G2.out.rule (bel2 wr _ _) (w1 := ((wr.alloc (.cells (madeCells #[.int .i64 0, .int .i64 0, .int .i64 0] 192) 84)).alloc (.cells #[.bool false, .slice (some ⟨wr.heap.size, 0, none⟩) 64 64] 82))) (h := 0) (c := .slice (some ⟨wr.heap.size + 1, 0, none⟩) 1 1) CN.out (fun b e => by rcases e with e | e <;> omega) rfl (undrew hgrow) hown1 (hat.imp id (fun e => e.trans (by simp))) (L' := L ++ [⟨0, [⟨false, List.replicate 64 ⟨0, 0, 0⟩⟩]⟩]) rfl
              clear hgrow hown1 hat
              go_wp2
              go_roundw
              case rel => exact ⟨left - 64, f, _, _, _, _, _, by omega, by go_num, (by show _ ≤ _; omega), (by simp; omega), HC2, FIN⟩
              case measure => simp [intOf]; omega
        · have HL0 : Hid (left = 0) := by show _ = _; omega
          have BV : Hid (Below w.heap.size w wr) := BG.out.trans (G2.out.m0.bl.mono hsw)
          have HCC : Hid (L = chF 20 (1022 + s)) := by
            have := HC.out
            rw [HL0.out, chF_zero, List.append_nil] at this
            exact this
          have GR2 : Hid (GrIs wr Any nv2 o2 ⟨0, [nmS], L⟩) := G2.out.gr
          have GR1 : Hid (GrIs wr Any (.slice pn [nmS].length cn) (.slice po k co) ⟨0, [nmS], List.replicate k (ru0 0)⟩) := ⟨GR.out.1.any G2.out.m0.bl, GR.out.2.any G2.out.m0.bl⟩
          have VB2 : Hid (wr.heap[V.heap.size + 1]? = some (.cells #[.int .i64 0, nv2, o2] 64)) := G2.out.vb
          have VB1 : Hid (wr.heap[wa.heap.size + 1]? = some (.cells #[.int .i64 0, .slice pn [nmS].length cn, .slice po k co] 64)) := (G2.out.m0.bl.block _ hgl).trans VB.out
          have hgv : V.heap.size + 1 < wr.heap.size := block_lt G2.out.vb
          have hgw : wa.heap.size + 1 < wr.heap.size := block_lt VB1.out
          have nr := G2.out.on
          have oo := G2.out.m0.oo
          clear G2 HC GR VB
          obtain ⟨pn2, cn2, hv⟩ := row_slice nr
          subst hv
          obtain ⟨po2, co2, hv⟩ := row_slice oo
          subst hv
          clear oo nr
          have hsv : w.heap.size ≤ wr.heap.size := BV.out.size
          obtain ⟨U, hU⟩ : ∃ U, U = wr := ⟨_, rfl⟩
          subst hU
          go_wp2
          go_loopw [14] (fun x w3 => ∃ (k3 : Nat), ∃ (F3 : Nat → Prop) (nv3 : Value) (us3 : List Value) (o3 : Value), k3 ≤ 63 + c + d ∧ x = .int .i64 (k3 : Int) ∧ Hid (GV U U.heap.size F3 0 (nmsT k3) nv3 (rusT k3) us3 o3 w3)) (fun x _ => 63 + c + d - (intOf x).toNat)
          case atStart => exact ⟨0, _, _, _, _, by omega, rfl, GV.new0 U⟩
          case round =>
            obtain ⟨k3, F3, nv3, us3, o3, hk3, rfl, G3⟩ := hrel
            by_cases hlt3 : k3 < 63 + c + d
            · have hwz : U.heap.size ≤ wr.heap.size := G3.out.m0.bl.size
              have hgl3 : U.heap.size < wr.heap.size := block_lt G3.out.vb
              have nr := G3.out.on
              rw [nms_len] at nr
              obtain ⟨pn3, cn3, hv⟩ := row_slice nr
              subst hv
              have NR : Hid (wr.ownsRow U.heap.size 9 1 (.slice pn3 k3 cn3) k3 (txV (nmsT k3))) := nr
              clear nr
              have g1 : wr.cell? ⟨U.heap.size, 1, none⟩ = some (.slice pn3 k3 cn3) := cell_of_cells G3.out.vb 1
              have RN1 : Hid ((Value.slice pn3 k3 cn3).ownBlock ≠ some U.heap.size) := row_no NR.out (by decide) G3.out.vb
              have MR : Calls Try.prog 44 #[.int .i64 (k3 : Int)] wr.drew fun e w1 => e = .returned (.string (decT k3)) ∧ Hid (Below wr.heap.size wr w1) ∧ w1.cell? ⟨U.heap.size, 1, none⟩ = some (.slice pn3 k3 cn3) ∧ w1.frozen? ⟨U.heap.size, 1, none⟩ = false ∧ U.heap.size ≤ w1.heap.size ∧ U.heap.size < w1.heap.size ∧ Hid (w1.ownsRow U.heap.size 9 1 (.slice pn3 k3 cn3) k3 (txV (nmsT k3))) := by
                refine (decimal_any k3 (by omega) _).mono ?_
                rintro e w1 ⟨rfl, hb⟩
                have hb0 : Below wr.heap.size wr wr.drew := (Below.refl _ _).drew
                have hb1 := hb0.trans hb
                exact ⟨rfl, hb1, (hb1.cell (p := ⟨_, _, none⟩) hgl3).trans g1, (hb1.frozen (p := ⟨_, _, none⟩) hgl3).trans (frz_of_cells G3.out.vb 1), Nat.le_trans hwz hb1.size, Nat.lt_of_lt_of_le hgl3 hb1.size, row_keep NR.out hb1⟩
              have hds : ¬ 9223372036854775807 < 1 + (decT k3).size := by have := dec_size k3; omega
              have MX : Hid (k3 + 1 ≤ maxLen) := by show _ ≤ _; unfold maxLen; omega
              have BY : Hid ((k3 + 1) * 16 ≤ 140737488355328) := by show _ ≤ _; omega
              go_wp2_with (fail)
              go_region_law (first | (refine step_append_lies _ (by rfl) _ _ _ (by rfl) U.heap.size 9 is _ 1 16 Try.underlying38 HS.out.1 HS.out.2.1 HS.out.2.2.1 HS.out.2.2.2 rfl (by omega) (.slice pn3 k3 cn3) k3 (txV (nmsT k3)) (by rfl) (o1.out.alloc _) ⟨w1.heap.size, 0, none⟩ 1 1 [.string (nmD k3)] (by rfl) (by rfl) (World.news_of_block (cs := #[.string (nmD k3)]) (t := 9) (fr := (0, 0)) (heap_alloc_new w1 _)) (by simp [Value.oneCell']) (by omega) MX.out BY.out (Nat.le_trans hW1 (le_alloc _ _)) (w1.heap.size + 1) (by simp) ?_; intro gg cap1 w2 hown1 hgrow hat hltg; have x1 : w2.cell? ⟨U.heap.size, 1, none⟩ = some (.slice pn3 k3 cn3) := (hgrow.cell_far ⟨U.heap.size, 1, none⟩ (by simp; omega) (Ne.symm RN1.out)).trans ((World.cell?_alloc_past _ _ _ hR1).trans r1'); have y1 : w2.frozen? ⟨U.heap.size, 1, none⟩ = false := (hgrow.frozen_far ⟨U.heap.size, 1, none⟩ (by simp; omega) (Ne.symm RN1.out)).trans ((World.frozen?_alloc_past _ _ _ hR1).trans f1')) | (go_simp; refine MR.mono ?_; rintro e w1 ⟨rfl, b1, r1', f1', hW1, hR1, o1⟩))
              all_goals
                have FIN1 : Hid (GV U U.heap.size F3 0 (nmsT (k3 + 1)) (.slice (some ⟨gg, 0, none⟩) (k3 + 1) cap1) (rusT k3) us3 o3 (w2.setCell ⟨U.heap.size, 1, none⟩ (.slice (some ⟨gg, 0, none⟩) (k3 + 1) cap1))) := by
                  show GV _ _ _ _ _ _ _ _ _ _
                  rw [nms_succ]
                  exact G3.out.name b1.out (nms_len k3) hgrow hown1 hat
                clear hgrow hown1 hat x1 y1 r1' f1' hW1 hR1 o1 b1
                generalize hX : w2.setCell ⟨U.heap.size, 1, none⟩ (.slice (some ⟨gg, 0, none⟩) (k3 + 1) cap1) = X at FIN1 ⊢
                clear hX
                have hwX : U.heap.size ≤ X.heap.size := FIN1.out.m0.bl.size
                have hgX : U.heap.size < X.heap.size := block_lt FIN1.out.vb
                have oo := FIN1.out.m0.oo
                rw [rus_len] at oo
                obtain ⟨p3, c3, hv⟩ := row_slice oo
                subst hv
                have OR : Hid (X.ownsRow U.heap.size 79 2 (.slice p3 k3 c3) k3 (rusV (rusT k3) us3)) := oo
                clear oo
                have q2 : X.cell? ⟨U.heap.size, 2, none⟩ = some (.slice p3 k3 c3) := cell_of_cells FIN1.out.vb 2
                have z2 : X.frozen? ⟨U.heap.size, 2, none⟩ = false := frz_of_cells FIN1.out.vb 2
                have RNE : Hid ((Value.slice p3 k3 c3).ownBlock ≠ some U.heap.size) := row_no OR.out (by decide) FIN1.out.vb
                have BY2 : Hid ((k3 + 1) * 32 ≤ 140737488355328) := by show _ ≤ _; omega
                have ONE : Hid (∀ u, u ∈ [Value.int .i64 (k3 : Int), .slice (some ⟨X.heap.size, 0, none⟩) 1 1] → u.oneCell' = true) := by show ∀ u, _ → _; simp [Value.oneCell']
                go_wp2_with (at_builtin; refine wpList_append_lies _ rfl _ _ 62 rfl U.heap.size 79 i (.agg #[.int .i64 0, .slice none 0 0]) 2 32 Try.underlying62 HI.out.1 HI.out.2.1 HI.out.2.2.1 HI.out.2.2.2 rfl (by decide) _ _ _ rfl ((OR.out.alloc _).alloc _) ⟨X.heap.size + 1, 0, none⟩ 1 1 [.int .i64 (k3 : Int), .slice (some ⟨X.heap.size, 0, none⟩) 1 1] rfl rfl (World.news_of_block (cs := #[.int .i64 (k3 : Int), .slice (some ⟨X.heap.size, 0, none⟩) 1 1]) (t := 79) (fr := (0, 0)) (by simpa using heap_alloc_new (X.alloc (.cells #[.bool false, .slice none 0 0] 82)) (.cells #[.int .i64 (k3 : Int), .slice (some ⟨X.heap.size, 0, none⟩) 1 1] 79))) ONE.out (by decide) MX.out BY2.out (Nat.le_trans hwX (Nat.le_trans (le_alloc _ _) (le_alloc _ _))) (X.heap.size + 1 + 1) (by simp) ?_; intro g5 cap5 w5 hown5 hgrow5 hat5 hltg5; have x5 : w5.cell? ⟨U.heap.size, 2, none⟩ = some (.slice p3 k3 c3) := (hgrow5.cell_far ⟨U.heap.size, 2, none⟩ (by simp; omega) (Ne.symm RNE.out)).trans ((World.cell?_alloc_past _ _ _ (by simp; omega)).trans ((World.cell?_alloc_past _ _ _ hgX).trans q2)); have y5 : w5.frozen? ⟨U.heap.size, 2, none⟩ = false := (hgrow5.frozen_far ⟨U.heap.size, 2, none⟩ (by simp; omega) (Ne.symm RNE.out)).trans ((World.frozen?_alloc_past _ _ _ (by simp; omega)).trans ((World.frozen?_alloc_past _ _ _ hgX).trans z2)))
                obtain ⟨F', FIN⟩ := FIN1.out.rule (bel1 X (.cells #[.bool false, .slice none 0 0] 82)) (one_cns X) (fun b e => Nat.le_of_eq e.symm) (rus_len k3) hgrow5 hown5 (hat5.imp id (fun e => e.trans (by simp))) (L' := rusT (k3 + 1)) (rus_succ k3)
                clear hgrow5 hown5 hat5
                go_roundw
                case rel => exact ⟨k3 + 1, _, _, _, _, by omega, by go_num, FIN⟩
                case measure => simp [intOf]; omega
            · have HKZ : Hid (k3 = 63 + c + d) := by show _ = _; omega
              have BU : Hid (Below U.heap.size U wr) := G3.out.m0.bl
              have hUs : U.heap.size ≤ wr.heap.size := BU.out.size
              have nr := G3.out.on
              rw [nms_len] at nr
              obtain ⟨pn3, cn3, hv⟩ := row_slice nr
              subst hv
              have oo := G3.out.m0.oo
              rw [rus_len] at oo
              obtain ⟨po3, co3, hv⟩ := row_slice oo
              subst hv
              clear oo nr
              have g0 : wr.heap[wa.heap.size + 1]? = some (.cells #[.int .i64 0, .slice pn [nmS].length cn, .slice po k co] 64) := (BU.out.block _ hgw).trans VB1.out
              have g1 : wr.heap[V.heap.size + 1]? = some (.cells #[.int .i64 0, .slice pn2 [nmS].length cn2, .slice po2 L.length co2] 64) := (BU.out.block _ hgv).trans VB2.out
              have g2 := G3.out.vb
              have KEEP : ∀ w', Hid (Below wr.heap.size wr w') → (w'.cell? ⟨wa.heap.size + 1, 0, none⟩ = some (.int .i64 0) ∧ w'.cell? ⟨wa.heap.size + 1, 1, none⟩ = some (.slice pn [nmS].length cn) ∧ w'.cell? ⟨wa.heap.size + 1, 2, none⟩ = some (.slice po k co)) ∧ (w'.cell? ⟨V.heap.size + 1, 0, none⟩ = some (.int .i64 0) ∧ w'.cell? ⟨V.heap.size + 1, 1, none⟩ = some (.slice pn2 [nmS].length cn2) ∧ w'.cell? ⟨V.heap.size + 1, 2, none⟩ = some (.slice po2 L.length co2)) ∧ (w'.cell? ⟨U.heap.size, 0, none⟩ = some (.int .i64 0) ∧ w'.cell? ⟨U.heap.size, 1, none⟩ = some (.slice pn3 k3 cn3) ∧ w'.cell? ⟨U.heap.size, 2, none⟩ = some (.slice po3 k3 co3)) := fun w' hb => by
                have h0 := (hb.out.block _ (block_lt g0)).trans g0
                have h1 := (hb.out.block _ (block_lt g1)).trans g1
                have h2 := (hb.out.block _ (block_lt g2)).trans g2
                exact ⟨⟨cell_of_cells h0 0, cell_of_cells h0 1, cell_of_cells h0 2⟩, ⟨cell_of_cells h1 0, cell_of_cells h1 1, cell_of_cells h1 2⟩, ⟨cell_of_cells h2 0, cell_of_cells h2 1, cell_of_cells h2 2⟩⟩
              have M1 : ∀ w', Hid (Below wr.heap.size wr w') → Calls Try.prog 39 #[.agg #[.int .i64 0, .slice pn [nmS].length cn, .slice po k co]] w' fun e w'' => e = .returned (.bool (decide (254 + (r : Int) ≤ 256))) ∧ Hid (Below wr.heap.size wr w'') := fun w' hb => by
                have hb2 := BU.out.trans (hb.out.mono hUs)
                refine (may_any ⟨0, [nmS], List.replicate k (ru0 0)⟩ _ _ w' ⟨GR1.out.1.any hb2, GR1.out.2.any hb2⟩ smallS (short0 _ _)).mono ?_
                rintro e w2 ⟨rfl, h2⟩
                exact ⟨by rw [HKR.out, lim1 r hr], hb.out.trans (h2.mono hb.out.size)⟩
              have M2 : ∀ w', Hid (Below wr.heap.size wr w') → Calls Try.prog 39 #[.agg #[.int .i64 0, .slice pn2 [nmS].length cn2, .slice po2 L.length co2]] w' fun e w'' => e = .returned (.bool (decide (1022 + (s : Int) ≤ 1024))) ∧ Hid (Below wr.heap.size wr w'') := fun w' hb => by
                have hb2 := BU.out.trans (hb.out.mono hUs)
                refine (may_any ⟨0, [nmS], L⟩ _ _ w' ⟨GR2.out.1.any hb2, GR2.out.2.any hb2⟩ smallS (by rw [HCC.out]; exact shortC _ _)).mono ?_
                rintro e w2 ⟨rfl, h2⟩
                exact ⟨by rw [HCC.out, lim2 s hs], hb.out.trans (h2.mono hb.out.size)⟩
              have M3 : ∀ w', Hid (Below wr.heap.size wr w') → Calls Try.prog 39 #[.agg #[.int .i64 0, .slice pn3 k3 cn3, .slice po3 k3 co3]] w' fun e w'' => e = .returned (.bool (decide (63 + (c : Int) + (d : Int) ≤ 64))) ∧ Hid (Below wr.heap.size wr w'') := fun w' hb => by
                refine (may_any ⟨0, nmsT k3, rusT k3⟩ _ _ w' ⟨G3.out.gr.1.any hb.out, G3.out.gr.2.any hb.out⟩ (smallD _) (shortR _)).mono ?_
                rintro e w2 ⟨rfl, h2⟩
                exact ⟨by rw [HKZ.out, lim3 c d hc hd], hb.out.trans (h2.mono hb.out.size)⟩
              have B0 : Hid (Below wr.heap.size wr wr) := Below.refl _ _
              have BW : Hid (Below w.heap.size w wr) := BV.out.trans (BU.out.mono hsv)
              have hsW : w.heap.size ≤ wr.heap.size := BW.out.size
              obtain ⟨⟨n0, n1, n2⟩, -, -⟩ := KEEP wr B0
              clear g0 g1 g2 G3 GR1 GR2 HCC VB1 VB2 BU
              go_wp2_with (first | (go_at_call 27; refine (num_any _ _).mono ?_; rintro e wn ⟨rfl, rfl⟩) | (go_at_call 39; have hh := B2; clear hh; refine (M3 _ B2).mono ?_; rintro e w3 ⟨rfl, B3⟩) | (go_at_call 39; have hh := B1; clear hh; refine (M2 _ B1).mono ?_; rintro e w2 ⟨rfl, B2⟩; obtain ⟨-, -, ⟨n6, n7, n8⟩⟩ := KEEP w2 B2) | (go_at_call 39; refine (M1 _ B0).mono ?_; rintro e w1 ⟨rfl, B1⟩; obtain ⟨-, ⟨n3, n4, n5⟩, -⟩ := KEEP w1 B1))
              all_goals go_ret
              all_goals exact ⟨rfl, BW.out.trans (B3.out.mono hsW)⟩
end Go.Proofs.Ytnmnjpkmkpngfaa
