/- EmptysRows: walked. -/
import Derived.Test.YtkihbgikdbaelaaNulRowM
import Derived.Test.YtkihbgikdbaelaaLawOpen
import Derived.Test.YtkihbgikdbaelaaRefDec
import Derived.Deep.CutRange
import Derived.BigQuiet
namespace Go.Proofs.Ytkihbgikdbaelaa
set_option linter.unusedVariables false
set_option linter.unusedSimpArgs false
open Go.ChangeShapes Go.WideShapes Go.ChangeAt Go.RowKit

theorem and1 (x : Int) : bits .and .i64 x 1 = 0 ∨ bits .and .i64 x 1 = 1 := by
  have h : (BitVec.ofInt 64 x &&& BitVec.ofInt 64 1).toNat < 2 := by
    rw [BitVec.toNat_and]
    exact Nat.lt_of_le_of_lt Nat.and_le_right (by decide)
  have e : bits .and .i64 x 1 = IntKind.i64.wrap ((BitVec.ofInt 64 x &&& BitVec.ofInt 64 1).toNat : Int) := rfl
  generalize (BitVec.ofInt 64 x &&& BitVec.ofInt 64 1).toNat = n at h e
  rw [e, IntKind.wrap_i64]; omega
def evE (zs : List Int) (i : Nat) : Bool := match zs[i]? with | some z => decide (bits .and .i64 z 1 = 0) | none => false
theorem cellR {w : World} {b : Nat} {arr : Array Value} {t : TypeId} (h : w.heap[b]? = some (.cells arr t)) (j : Nat) : w.cell? ⟨b, j, none⟩ = arr[j]? := Lib.cell_of_heap h j
theorem frzR {w : World} {b : Nat} {arr : Array Value} {t : TypeId} (h : w.heap[b]? = some (.cells arr t)) (j : Nat) : w.frozen? ⟨b, j, none⟩ = false := by unfold World.frozen?; rw [h]; simp
theorem Try.infoStrN : (Try.prog.info? 9).map (fun i => (i.zero, i.size, i.bytes)) = some (some (.string ⟨#[]⟩), 1, 16) := by kernel_rfl
theorem Try.infoSymN : (Try.prog.info? 40).map (fun i => (i.zero, i.size, i.bytes)) = some (some (.agg #[.int .i64 0, .int .i64 0, .int .i64 0]), 3, 24) := by kernel_rfl
set_option maxHeartbeats 8000000 in
set_option maxRecDepth 100000 in
theorem emptysRows_core (W : World) (pv : Option Addr) (zn cv m : Nat) (ev : Nat → Bool) (hm : m = min zn 30) (hz8 : zn * 8 ≤ 140737488351232)
    (HNG : ∀ i, i < zn → ∀ w', Below W.heap.size W w' → ∃ g o z, pv = some ⟨g, o, none⟩ ∧ w'.cell? ⟨g, o + i, none⟩ = some (.int .i64 z) ∧ g < w'.heap.size ∧ (ev i = true ∧ bits .and .i64 z 1 = 0 ∨ ev i = false ∧ bits .and .i64 z 1 = 1))
    (KN : ∀ (u1 u2 : Value) w, GrIs w Any u1 u2 (grE m ev) → Calls Try.prog 8 #[.agg #[.int .i64 0, u1, u2]] w fun e w' => ∃ b M, e = .returned (.tuple #[.slice (some ⟨b, 0, none⟩) (m + 1) (m + 1), .int .i64 0]) ∧ M 0 = (List.range m).all ev ∧ Hid (∀ j, j < m → M (j + 1) = ev j) ∧ Hid (BlAt w' b (m + 1) M) ∧ Hid (Below w.heap.size w w')) :
    Calls Try.prog 5 #[.slice pv zn cv] W fun e W' => e = .returned (.bool true) ∧ Below W.heap.size W W' := by
  have HKN := hid_of KN
  have HN := hid_of HNG
  have hm30 : m ≤ 30 := by omega
  have hmz : m ≤ zn := by omega
  have HM := hid_of hm
  clear KN HNG hm
  go_enter Try.func5, Try.ntmps5
  go_upto_region 7 with (go_at_call 7; refine (awake9_any _).mono ?_; rintro e w1 ⟨rfl, b1⟩; have HB1 : Hid (Below W.heap.size W w1) := b1.out; clear b1)
  --BODY
  obtain ⟨X0, hX0⟩ : ∃ X, X = blks w1 (q1P w1.heap.size) := ⟨_, rfl⟩
  have hXX : ((((w1.alloc (.cells #[.int .i64 0, .slice (some ⟨w1.heap.size + 1, 0, none⟩) 1 1, .slice none 0 0] 25)).alloc (.cells #[.string ⟨#[83]⟩] 9)).alloc (.cells #[.bool false, .slice none 0 0] 38)).alloc (.cells #[.int .i64 0, .slice (some ⟨w1.heap.size + 1 + 1, 0, none⟩) 1 1] 35)) = X0 := hX0.symm
  have HQ0 : Hid (Q1 w1 w1.heap.size (w1.heap.size + 1 + 1 + 1) (w1.heap.size + 1 + 1) 0 0 (.slice (some ⟨w1.heap.size + 1, 0, none⟩) 1 1) (.slice none 0 0) X0) := by rw [hX0]; exact q1_new w1
  rw [hXX]
  clear hX0 hXX
  obtain ⟨gb, hgb⟩ : ∃ gb, gb = w1.heap.size := ⟨_, rfl⟩
  obtain ⟨rb, hrb⟩ : ∃ rb, rb = w1.heap.size + 1 + 1 + 1 := ⟨_, rfl⟩
  obtain ⟨cb, hcb⟩ : ∃ cb, cb = w1.heap.size + 1 + 1 := ⟨_, rfl⟩
  obtain ⟨sb, hsb⟩ : ∃ sb, sb = w1.heap.size + 1 := ⟨_, rfl⟩
  rw [← hrb, ← hcb, ← hsb] at HQ0 ⊢
  have HQ1 : Hid (Q1 w1 gb rb cb 0 0 (.slice (some ⟨sb, 0, none⟩) 1 1) (.slice none 0 0) X0) := by rw [hgb]; exact HQ0.out
  rw [← hgb]
  clear hgb hrb hcb hsb HQ0
  go_wp2
  go_loopw [4, 6] (fun y x wr => ∃ (i : Nat) (nv sv : Value), i ≤ m ∧ x = .int .i64 i ∧ y = .bool ((List.range i).all ev) ∧ Hid (Q1 w1 gb rb cb i i nv sv wr)) (fun _ x _ => m - (intOf x).toNat)
  case atStart => exact ⟨0, _, _, Nat.zero_le _, rfl, rfl, HQ1⟩
  case round =>
    obtain ⟨i, nv, sv, hi, rfl, rfl, HQ⟩ := hrel
    obtain ⟨V, hV⟩ : ∃ V, V = wr := ⟨_, rfl⟩
    subst hV
    have HBV : Hid (Below W.heap.size W V) := HB1.out.trans (HQ.out.bl.mono HB1.out.size)
    by_cases hlt : i < m
    · have hiz : (i : Int) < (zn : Int) := by omega
      have hi30 : (i : Int) < 30 := by omega
      have hd30 : decide ((i : Int) < 30) = true := decide_eq_true hi30
      have hn30 : i < 30 := by omega
      have hgl : gb < V.heap.size := block_lt HQ.out.vb
      have hwV : w1.heap.size ≤ V.heap.size := HQ.out.bl.size
      obtain ⟨pn, cn, hvn⟩ := row_slice HQ.out.on
      subst hvn
      have NR : Hid (V.ownsRow w1.heap.size 9 1 (.slice pn (i + 1) cn) (i + 1) (txV (nmsE i))) := HQ.out.on
      have g1 : V.cell? ⟨gb, 1, none⟩ = some (.slice pn (i + 1) cn) := cellR HQ.out.vb 1
      have RN1 : Hid ((Value.slice pn (i + 1) cn).ownBlock ≠ some gb) := row_no NR.out (by decide) HQ.out.vb
      have MR : Calls Try.prog 13 #[.int .i64 (i : Int)] V.drew fun e w2 => e = .returned (.string (decT i)) ∧ Hid (Below V.heap.size V w2) ∧ w2.cell? ⟨gb, 1, none⟩ = some (.slice pn (i + 1) cn) ∧ w2.frozen? ⟨gb, 1, none⟩ = false ∧ w1.heap.size ≤ w2.heap.size ∧ gb < w2.heap.size ∧ Hid (w2.ownsRow w1.heap.size 9 1 (.slice pn (i + 1) cn) (i + 1) (txV (nmsE i))) := by
        refine (decimal_any i (by omega) _).mono ?_
        rintro e w2 ⟨rfl, hb⟩
        have hb0 : Below V.heap.size V V.drew := (Below.refl _ _).drew
        have hb1 := hb0.trans hb
        exact ⟨rfl, hb1, (hb1.cell (p := ⟨_, _, none⟩) hgl).trans g1, (hb1.frozen (p := ⟨_, _, none⟩) hgl).trans (frzR HQ.out.vb 1), Nat.le_trans hwV hb1.size, Nat.lt_of_lt_of_le hgl hb1.size, row_keep NR.out hb1⟩
      have hds : ¬ 9223372036854775807 < 1 + (decT i).size := by have := dec_sizeR i; omega
      obtain ⟨is, hs0, hs1, hs2, hs3⟩ := info_parts Try.infoStrN
      have HS : Hid (Try.prog.info? 9 = some is ∧ is.zero = some (.string ⟨#[]⟩) ∧ is.size = 1 ∧ is.bytes = 16) := ⟨hs0, hs1, hs2, hs3⟩
      have MX : Hid (i + 1 + 1 ≤ maxLen) := by show _ ≤ _; unfold maxLen; omega
      have BY : Hid ((i + 1 + 1) * 16 ≤ 140737488355328) := by show _ ≤ _; omega
      clear hs0 hs1 hs2 hs3
      go_wp2_with (fail)
      go_cut [] from 19 to 59 (fun wc => ∃ nv2, Hid (Q1 w1 gb rb cb (i + 1) i nv2 sv wc))
      case first =>
        go_region_law (first | (refine step_append_lies _ (by rfl) _ _ _ (by rfl) w1.heap.size 9 is _ 1 16 Try.underlying22 HS.out.1 HS.out.2.1 HS.out.2.2.1 HS.out.2.2.2 rfl (by omega) (.slice pn (i + 1) cn) (i + 1) (txV (nmsE i)) (by rfl) (o1.out.alloc _) ⟨w2.heap.size, 0, none⟩ 1 1 [.string (nmR i)] (by rfl) (by rfl) (World.news_of_block (cs := #[.string (nmR i)]) (t := 9) (fr := (0, 0)) (heap_alloc_new w2 _)) (by simp [Value.oneCell']) (by omega) MX.out BY.out (Nat.le_trans hW1 (le_alloc _ _)) (w2.heap.size + 1) (by simp) ?_; intro gg cap1 w3 hown1 hgrow hat hltg; have x1 : w3.cell? ⟨gb, 1, none⟩ = some (.slice pn (i + 1) cn) := (hgrow.cell_far ⟨gb, 1, none⟩ (by simp; omega) (Ne.symm RN1.out)).trans ((World.cell?_alloc_past _ _ _ hR1).trans r1'); have y1 : w3.frozen? ⟨gb, 1, none⟩ = false := (hgrow.frozen_far ⟨gb, 1, none⟩ (by simp; omega) (Ne.symm RN1.out)).trans ((World.frozen?_alloc_past _ _ _ hR1).trans f1')) | (go_simp; refine MR.mono ?_; rintro e w2 ⟨rfl, b1, r1', f1', hW1, hR1, o1⟩))
        all_goals
          have FIN1 : Hid (Q1 w1 gb rb cb (i + 1) i (.slice (some ⟨gg, 0, none⟩) (i + 1 + 1) cap1) sv (w3.setCell ⟨gb, 1, none⟩ (.slice (some ⟨gg, 0, none⟩) (i + 1 + 1) cap1))) := HQ.out.name b1.out hgrow hown1
          clear hgrow hown1 hat x1 y1
          go_wp2
          go_meet
          case rel => exact ⟨_, FIN1⟩
      case rest =>
        obtain ⟨nv2, HQ2⟩ := hcut
        obtain ⟨Y, hY⟩ : ∃ Y, Y = wc := ⟨_, rfl⟩
        subst hY
        clear HQ NR RN1 MR g1 MX BY HS hds hgl hwV HBV
        obtain ⟨ps, cs, hvs⟩ := row_slice HQ2.out.so
        subst hvs
        have hrl : rb < Y.heap.size := block_lt HQ2.out.rv
        have hcl : cb < Y.heap.size := block_lt HQ2.out.cv
        have c1 : Y.cell? ⟨rb, 1, none⟩ = some (.slice (some ⟨cb, 0, none⟩) 1 1) := cellR HQ2.out.rv 1
        have c2 : Y.cell? ⟨cb, 1, none⟩ = some (.slice ps i cs) := cellR HQ2.out.cv 1
        have hrl' : rb < Y.heap.size + 1 := by omega
        have hwi : IntKind.i64.wrap ((i : Int) + 1) = (i : Int) + 1 := by rw [IntKind.wrap_i64]; omega
        have hcl' : cb < Y.heap.size + 1 := by omega
        obtain ⟨iy, hy0, hy1, hy2, hy3⟩ := info_parts Try.infoSymN
        obtain ⟨gg, cap1, w2, hrun, hown1, hgrow, hat, hl2⟩ := run_append_lies (P := Try.prog) (Y.alloc (.cells #[.int .i64 ((i : Int) + 1), .int .i64 0, .int .i64 0] 40)).drew 36 36 w1.heap.size 40 iy _ 3 24 Try.underlying36 hy0 hy1 hy2 hy3 rfl (by omega) (.slice ps i cs) i (sysV (symsE i)) ((HQ2.out.so.alloc _).drew) ⟨Y.heap.size, 0, none⟩ 1 1 [.int .i64 ((i : Int) + 1), .int .i64 0, .int .i64 0] rfl (World.news_of_block (cs := #[.int .i64 ((i : Int) + 1), .int .i64 0, .int .i64 0]) (t := 40) (fr := (0, 0)) (show (Y.alloc _).heap[Y.heap.size]? = _ from heap_alloc_new _ _)) (by simp [Value.oneCell']) (by omega) (by unfold maxLen; omega) (by omega) (by show _ ≤ (Y.alloc _).heap.size; have := HQ2.out.bl.size; simp; omega) (Y.heap.size + 1) (by show (Y.alloc _).heap.size = _; simp)
        have LA := stepApp hrun
        unfold StepApp at LA
        have FIN : Hid (Q1 w1 gb rb cb (i + 1) (i + 1) nv2 (.slice (some ⟨gg, 0, none⟩) (i + 1) cap1) (w2.setCell ⟨cb, 1, none⟩ (.slice (some ⟨gg, 0, none⟩) (i + 1) cap1))) := HQ2.out.sym ((bel1 Y _).drew) hgrow hown1
        have hfar : ∀ b o, (Value.slice ps i cs).ownBlock ≠ some b → b < Y.heap.size → w2.cell? ⟨b, o, none⟩ = Y.cell? ⟨b, o, none⟩ := fun b o hne hlt => by
          have h1 := hgrow.cell_far ⟨b, o, none⟩ (by show b < (Y.alloc _).heap.size; simp; omega) (Ne.symm hne)
          have h2 : ((Y.alloc (.cells #[.int .i64 ((i : Int) + 1), .int .i64 0, .int .i64 0] 40)).drew).cell? ⟨b, o, none⟩ = Y.cell? ⟨b, o, none⟩ := World.cell?_alloc_past _ _ _ hlt
          exact h1.trans h2
        have xr : w2.cell? ⟨rb, 1, none⟩ = some (.slice (some ⟨cb, 0, none⟩) 1 1) := (hfar _ 1 (row_no HQ2.out.so (by decide) HQ2.out.rv) hrl).trans c1
        have xc : w2.cell? ⟨cb, 1, none⟩ = some (.slice ps i cs) := (hfar _ 1 (row_no HQ2.out.so (by decide) HQ2.out.cv) hcl).trans c2
        have xf : w2.frozen? ⟨cb, 1, none⟩ = false := by
          have h1 := hgrow.frozen_far ⟨cb, 1, none⟩ (by show _ < (Y.alloc _).heap.size; simp; omega) (Ne.symm (row_no HQ2.out.so (by decide) HQ2.out.cv))
          exact h1.trans ((World.frozen?_alloc_past _ _ _ hcl).trans (frzR HQ2.out.cv 1))
        have zr : (w2.setCell ⟨cb, 1, none⟩ (.slice (some ⟨gg, 0, none⟩) (i + 1) cap1)).cell? ⟨rb, 1, none⟩ = some (.slice (some ⟨cb, 0, none⟩) 1 1) := (World.cell?_setCell_other _ _ _ _ (by intro e; injection e with e; exact type_ne HQ2.out.cv HQ2.out.rv (by decide) e)).trans xr
        have HBY : Hid (Below W.heap.size W (w2.setCell ⟨cb, 1, none⟩ (.slice (some ⟨gg, 0, none⟩) (i + 1) cap1))) := HB1.out.trans (FIN.out.bl.mono HB1.out.size)
        clear hrun hown1 hgrow hat hl2 hfar hy0 hy1 hy2 hy3 HQ2
        go_wp2_with (fail)
        go_cut [] from 19 to 59 (fun wc => ∃ sv2, Hid (Q1 w1 gb rb cb (i + 1) (i + 1) nv2 sv2 wc))
        case first =>
          refine wp_region_noPanic ?_
          refine wp_region_held_drew (S := (fun w' => w'.cell? ⟨rb, 1, none⟩ = some (.slice (some ⟨cb, 0, none⟩) 1 1))) (by kernel_rfl) ?_ (fun hHeld => ?_)
          · (try dsimp only); go_keep
          refine wpAnyH_take (i := 0) (oi := _) (v := ?_) rfl (by kernel_rfl) (by kernel_rfl) (by kernel_rfl) (fun _ _ _ h => h) (Or.inl ⟨by rfl, ?_⟩) (by assumption) ?_
          rotate_left
          · intro w' hSw; (try dsimp only at hSw); go_simp; (try with_reducible rfl)
          simp only [Act.put, List.setIfInBounds_toArray, List.set_cons_zero, List.set_cons_succ]
          refine wpAnyH_take (i := 1) (oi := _) (v := ?_) rfl (by kernel_rfl) (by kernel_rfl) (by kernel_rfl) (fun _ _ _ h => h) (Or.inl ⟨by rfl, ?_⟩) (by assumption) ?_
          rotate_left
          · intro w' hSw; (try dsimp only at hSw); go_simp; (try with_reducible rfl)
          simp only [Act.put, List.setIfInBounds_toArray, List.set_cons_zero, List.set_cons_succ]
          refine wpAnyH_take (i := 2) (oi := _) (v := ?_) rfl (by kernel_rfl) (by kernel_rfl) (by kernel_rfl) (fun _ _ _ h => h) (Or.inl ⟨by rfl, ?_⟩) (by assumption) ?_
          rotate_left
          · intro w' hSw; (try dsimp only at hSw); go_simp; (try with_reducible rfl)
          simp only [Act.put, List.setIfInBounds_toArray, List.set_cons_zero, List.set_cons_succ]
          refine wpAnyH_take (i := 3) (oi := _) (v := ?_) rfl (by kernel_rfl) (by kernel_rfl) (by kernel_rfl) (fun _ _ _ h => h) (Or.inl ⟨by rfl, ?_⟩) (by assumption) ?_
          rotate_left
          · intro w' hSw; (try dsimp only at hSw); go_simp; (try with_reducible rfl)
          simp only [Act.put, List.setIfInBounds_toArray, List.set_cons_zero, List.set_cons_succ]
          refine wpAnyH_take (i := 4) (oi := _) (v := ?_) rfl (by kernel_rfl) (by kernel_rfl) (by kernel_rfl) (fun _ _ _ h => h) (Or.inl ⟨by rfl, ?_⟩) (by assumption) ?_
          rotate_left
          · intro w' hSw; (try dsimp only at hSw); go_simp; (try with_reducible rfl)
          simp only [Act.put, List.setIfInBounds_toArray, List.set_cons_zero, List.set_cons_succ]
          refine wpAnyH_take (i := 5) (oi := _) (v := ?_) rfl (by kernel_rfl) (by kernel_rfl) (by kernel_rfl) (fun _ _ _ h => h) (Or.inl ⟨by rfl, ?_⟩) (by assumption) ?_
          rotate_left
          · intro w' hSw; (try dsimp only at hSw); go_simp; (try with_reducible rfl)
          simp only [Act.put, List.setIfInBounds_toArray, List.set_cons_zero, List.set_cons_succ]
          refine wpAnyH_take (i := 7) (oi := _) (v := ?_) rfl (by kernel_rfl) (by kernel_rfl) (by kernel_rfl) (fun _ _ _ h => h) (Or.inl ⟨by rfl, ?_⟩) (by assumption) ?_
          rotate_left
          · intro w' hSw; (try dsimp only at hSw); go_simp; (try with_reducible rfl)
          simp only [Act.put, List.setIfInBounds_toArray, List.set_cons_zero, List.set_cons_succ]
          refine wpAnyH_take (i := 8) (oi := _) (v := ?_) rfl (by kernel_rfl) (by kernel_rfl) (by kernel_rfl) (fun _ _ _ h => h) (Or.inl ⟨by rfl, ?_⟩) (by assumption) ?_
          rotate_left
          · intro w' hSw; (try dsimp only at hSw); go_simp; (try with_reducible rfl)
          simp only [Act.put, List.setIfInBounds_toArray, List.set_cons_zero, List.set_cons_succ]
          refine wpAnyH_take (i := 9) (oi := _) (v := ?_) rfl (by kernel_rfl) (by kernel_rfl) (by kernel_rfl) (fun _ _ _ h => h) (Or.inl ⟨by rfl, ?_⟩) (by assumption) ?_
          rotate_left
          · intro w' hSw; (try dsimp only at hSw); go_simp; (try with_reducible rfl)
          simp only [Act.put, List.setIfInBounds_toArray, List.set_cons_zero, List.set_cons_succ]
          refine wpAnyH_ready (rs := [6, 10]) (by kernel_rfl) (by simp) ?_
          refine AllReadyH.cons rfl (fun K hK => ?_) ?_
          · go_simp
            refine hK.out _ _ ?_ (fun hHeld => ?_)
            · (try dsimp only); (first | with_reducible exact xr | with_reducible exact zr | go_keep)
            clear hK K
            refine wpAnyH_ready (rs := [10]) (by kernel_rfl) (by simp) ?_
            refine AllReadyH.cons rfl (fun K hK => ?_) ?_
            · go_simp
              refine hK.out _ _ ?_ (fun hHeld => ?_)
              · (try dsimp only); (first | with_reducible exact xr | with_reducible exact zr | go_keep)
              clear hK K
              refine wpAnyH_ready (rs := [11]) (by kernel_rfl) (by simp) ?_
              refine AllReadyH.cons rfl (fun K hK => ?_) ?_
              · ((with_reducible refine LA _ _ _ _ _ _ ?_ ?_ ?_ ?_); rfl; exact ⟨_, _, rfl, rfl, rfl⟩; rfl)
                refine hK.out _ _ ?_ (fun hHeld => ?_)
                · (try dsimp only); (first | with_reducible exact xr | with_reducible exact zr | go_keep)
                clear hK K
                refine wpAnyH_take (i := 12) (oi := _) (v := ?_) rfl (by kernel_rfl) (by kernel_rfl) (by kernel_rfl) (fun _ _ _ h => h) (Or.inl ⟨by rfl, ?_⟩) (by assumption) ?_
                rotate_left
                · intro w' hSw; (try dsimp only at hSw); go_simp; (try with_reducible rfl)
                simp only [Act.put, List.setIfInBounds_toArray, List.set_cons_zero, List.set_cons_succ]
                refine wpAnyH_take (i := 13) (oi := _) (v := ?_) rfl (by kernel_rfl) (by kernel_rfl) (by kernel_rfl) (fun _ _ _ h => h) (Or.inl ⟨by rfl, ?_⟩) (by assumption) ?_
                rotate_left
                · intro w' hSw; (try dsimp only at hSw); go_simp; (try with_reducible rfl)
                simp only [Act.put, List.setIfInBounds_toArray, List.set_cons_zero, List.set_cons_succ]
                refine wpAnyH_ready (rs := [14]) (by kernel_rfl) (by simp) ?_
                refine AllReadyH.cons rfl (fun K hK => ?_) ?_
                · go_simp
                  refine hK.out _ _ ?_ (fun hHeld => ?_)
                  · (try dsimp only); (first | with_reducible exact xr | with_reducible exact zr | go_keep)
                  clear hK K
                  refine wpAnyH_done (by kernel_rfl) ?_ _
                  refine NoPanic.normal ?_
                  go_wp2
                  go_meet
                  case rel => exact ⟨_, FIN⟩
                exact AllReadyH.nil
              exact AllReadyH.nil
            exact AllReadyH.nil
          refine AllReadyH.cons rfl (fun K hK => ?_) ?_
          · go_simp
            refine hK.out _ _ ?_ (fun hHeld => ?_)
            · (try dsimp only); (first | with_reducible exact xr | with_reducible exact zr | go_keep)
            clear hK K
            refine wpAnyH_ready (rs := [6]) (by kernel_rfl) (by simp) ?_
            refine AllReadyH.cons rfl (fun K hK => ?_) ?_
            · go_simp
              refine hK.out _ _ ?_ (fun hHeld => ?_)
              · (try dsimp only); (first | with_reducible exact xr | with_reducible exact zr | go_keep)
              clear hK K
              refine wpAnyH_ready (rs := [11]) (by kernel_rfl) (by simp) ?_
              refine AllReadyH.cons rfl (fun K hK => ?_) ?_
              · ((with_reducible refine LA _ _ _ _ _ _ ?_ ?_ ?_ ?_); rfl; exact ⟨_, _, rfl, rfl, rfl⟩; rfl)
                refine hK.out _ _ ?_ (fun hHeld => ?_)
                · (try dsimp only); (first | with_reducible exact xr | with_reducible exact zr | go_keep)
                clear hK K
                refine wpAnyH_take (i := 12) (oi := _) (v := ?_) rfl (by kernel_rfl) (by kernel_rfl) (by kernel_rfl) (fun _ _ _ h => h) (Or.inl ⟨by rfl, ?_⟩) (by assumption) ?_
                rotate_left
                · intro w' hSw; (try dsimp only at hSw); go_simp; (try with_reducible rfl)
                simp only [Act.put, List.setIfInBounds_toArray, List.set_cons_zero, List.set_cons_succ]
                refine wpAnyH_take (i := 13) (oi := _) (v := ?_) rfl (by kernel_rfl) (by kernel_rfl) (by kernel_rfl) (fun _ _ _ h => h) (Or.inl ⟨by rfl, ?_⟩) (by assumption) ?_
                rotate_left
                · intro w' hSw; (try dsimp only at hSw); go_simp; (try with_reducible rfl)
                simp only [Act.put, List.setIfInBounds_toArray, List.set_cons_zero, List.set_cons_succ]
                refine wpAnyH_ready (rs := [14]) (by kernel_rfl) (by simp) ?_
                refine AllReadyH.cons rfl (fun K hK => ?_) ?_
                · go_simp
                  refine hK.out _ _ ?_ (fun hHeld => ?_)
                  · (try dsimp only); (first | with_reducible exact xr | with_reducible exact zr | go_keep)
                  clear hK K
                  refine wpAnyH_done (by kernel_rfl) ?_ _
                  refine NoPanic.normal ?_
                  go_wp2
                  go_meet
                  case rel => exact ⟨_, FIN⟩
                exact AllReadyH.nil
              exact AllReadyH.nil
            exact AllReadyH.nil
          exact AllReadyH.nil
        case rest =>
          obtain ⟨sv2, HQ3⟩ := hcut
          obtain ⟨Z, hZ⟩ : ∃ Z, Z = wc := ⟨_, rfl⟩
          subst hZ
          have HBZ : Hid (Below W.heap.size W Z) := HB1.out.trans (HQ3.out.bl.mono HB1.out.size)
          obtain ⟨g0, o0, z, hp, cz, hg0, hz⟩ := HN.out i (by omega) Z HBZ.out
          subst hp
          have hall := rangeAll_succ ev i
          obtain ⟨A, hA⟩ : ∃ A, A = (List.range i).all ev := ⟨_, rfl⟩
          rw [← hA] at hall ⊢
          clear hA HBY FIN LA xr xc xf zr c1 c2 hrl hcl hrl' hcl' hwi
          cases A with
          | false =>
            have HA : Hid ((List.range (i + 1)).all ev = false) := by show _ = _; rw [hall]; rfl
            clear hall hz
            go_wp2
            go_roundw
            case rel => exact ⟨i + 1, _, _, by omega, by go_num, by rw [HA.out], HQ3⟩
            case measure => simp [intOf]; omega
          | true =>
            rcases hz with ⟨he, hz⟩ | ⟨he, hz⟩
            · have HA : Hid ((List.range (i + 1)).all ev = true) := by show _ = _; rw [hall, he]; rfl
              clear hall he
              go_wp2
              go_roundw
              case rel => exact ⟨i + 1, _, _, by omega, by go_num, by rw [HA.out], HQ3⟩
              case measure => simp [intOf]; omega
            · have HA : Hid ((List.range (i + 1)).all ev = false) := by show _ = _; rw [hall, he]; rfl
              clear hall he
              go_wp2
              go_roundw
              case rel => exact ⟨i + 1, _, _, by omega, by go_num, by rw [HA.out], HQ3⟩
              case measure => simp [intOf]; omega
    · obtain rfl : i = m := by omega
      obtain ⟨A, hA⟩ : ∃ A, A = (List.range i).all ev := ⟨_, rfl⟩
      have HAL : Hid (A = (List.range i).all ev) := hA
      rw [← hA]
      clear hA
      have hrl : rb < V.heap.size := block_lt HQ.out.rv
      have hgl : gb < V.heap.size := block_lt HQ.out.vb
      have c0 : V.cell? ⟨rb, 0, none⟩ = some (.int .i64 0) := cellR HQ.out.rv 0
      have c1 : V.cell? ⟨rb, 1, none⟩ = some (.slice (some ⟨cb, 0, none⟩) 1 1) := cellR HQ.out.rv 1
      have g2 : V.cell? ⟨gb, 2, none⟩ = some (.slice none 0 0) := cellR HQ.out.vb 2
      have f2 : V.frozen? ⟨gb, 2, none⟩ = false := frzR HQ.out.vb 2
      obtain ⟨F, hGV⟩ := HQ.out.fin
      obtain ⟨X1, hX1⟩ : ∃ X, X = (V.alloc (.cells #[.int .i64 0, .slice (some ⟨cb, 0, none⟩) 1 1] 35)).setCell ⟨gb, 2, none⟩ (.slice (some ⟨V.heap.size, 0, none⟩) 1 1) := ⟨_, rfl⟩
      rw [← hX1] at hGV
      have hX2 : X1 = (V.setCell ⟨gb, 2, none⟩ (.slice (some ⟨V.heap.size, 0, none⟩) 1 1)).alloc (.cells #[.int .i64 0, .slice (some ⟨cb, 0, none⟩) 1 1] 35) := by rw [hX1]; exact World.setCell_alloc_past _ _ _ _ hgl
      have HGV : Hid (GV w1 gb F 0 (nmsE i) nv (rusE i ev 0) [.slice (some ⟨cb, 0, none⟩) 1 1] (.slice (some ⟨V.heap.size, 0, none⟩) 1 1) X1) := hGV
      have g2' : (V.alloc (.cells #[.int .i64 0, .slice (some ⟨cb, 0, none⟩) 1 1] 35)).cell? ⟨gb, 2, none⟩ = some (.slice none 0 0) := (World.cell?_alloc_past _ _ _ hgl).trans g2
      have f2' : (V.alloc (.cells #[.int .i64 0, .slice (some ⟨cb, 0, none⟩) 1 1] 35)).frozen? ⟨gb, 2, none⟩ = false := (World.frozen?_alloc_past _ _ _ hgl).trans f2
      clear hGV
      have hstop : i < zn ∧ (¬ (i : Int) < 30 ∧ decide ((i : Int) < 30) = false ∧ (i : Int) < (zn : Int)) ∨ i = zn := by
        have := HM.out
        by_cases h : i < zn
        · left
          have h3 : ¬ (i : Int) < 30 := by omega
          exact ⟨h, h3, decide_eq_false h3, by omega⟩
        · right; omega
      have two : ∀ {P : Prop}, (¬ (i : Int) < 30 → decide ((i : Int) < 30) = false → (i : Int) < (zn : Int) → P) → (i = zn → P) → P := fun a b => by
        rcases hstop with ⟨_, h1, h2, h3⟩ | h
        · exact a h1 h2 h3
        · exact b h
      clear hstop
      refine two (fun k1 k2 k3 => ?_) (fun k1 => ?_)
      · clear two
        go_upto_region 14 with fail
        rw [← hX2]
        clear hX1 hX2 g2' f2' g2 f2 c0 c1 hrl hgl
        go_wp2
        clear HQ
        go_loopw [7] (fun x wr => ∃ (j : Nat) (F : Nat → Prop) (nv : Value) (us : List Value) (o : Value), j ≤ i ∧ x = .int .i64 j ∧ Hid (GV w1 gb F 0 (nmsE i) nv (rusE i ev j) us o wr)) (fun x _ => i - (intOf x).toNat)
        case atStart => exact ⟨0, _, _, _, _, Nat.zero_le _, rfl, HGV⟩
        case round =>
          clear HGV
          obtain ⟨j, F, nv, us, o, hj, rfl, HGV⟩ := hrel
          obtain ⟨V, hV⟩ : ∃ V, V = wr := ⟨_, rfl⟩
          subst hV
          have HBV : Hid (Below W.heap.size W V) := HB1.out.trans (HGV.out.m0.bl.mono HB1.out.size)
          by_cases hlj : j < i
          · have hiz : (j : Int) < (zn : Int) := by omega
            have hi30 : (j : Int) < 30 := by omega
            have hd30 : decide ((j : Int) < 30) = true := decide_eq_true hi30
            have hgl : gb < V.heap.size := block_lt HGV.out.vb
            have hgl1 : gb < V.heap.size + 1 := by omega
            have hgl2 : gb < V.heap.size + 1 + 1 := by omega
            have hgl3 : gb < V.heap.size + 1 + 1 + 1 := by omega
            obtain ⟨po, co, hvo⟩ := row_slice HGV.out.m0.oo
            rw [rusE_len] at hvo
            subst hvo
            have g2c : V.cell? ⟨gb, 2, none⟩ = some (.slice po (j + 1) co) := cellR HGV.out.vb 2
            obtain ⟨g0, o0, z, hp, cz, hg0, hz⟩ := HN.out j (by omega) V HBV.out
            subst hp
            have hg01 : g0 < V.heap.size + 1 := by omega
            have hg02 : g0 < V.heap.size + 1 + 1 := by omega
            have hwj : IntKind.i64.wrap ((j : Int) + 1) = (j : Int) + 1 := by rw [IntKind.wrap_i64]; omega
            rcases hz with ⟨he, hz⟩ | ⟨he, hz⟩
            · have nz : ¬ bits .and .i64 z 1 = 1 := by rw [hz]; decide
              obtain ⟨Y, hY⟩ : ∃ Y, Y = blks V [.cells #[.bool false, .slice none 0 0] 38, .cells #[.int .i64 ((j : Int) + 1), .slice (some ⟨V.heap.size, 0, none⟩) 1 1] 35] := ⟨_, rfl⟩
              have hYY : Y = ((V.alloc (.cells #[.bool false, .slice none 0 0] 38)).alloc (.cells #[.int .i64 ((j : Int) + 1), .slice (some ⟨V.heap.size, 0, none⟩) 1 1] 35)) := hY
              have hbk : ∀ k o, ([.cells #[.bool false, .slice none 0 0] 38, .cells #[.int .i64 ((j : Int) + 1), .slice (some ⟨V.heap.size, 0, none⟩) 1 1] 35] : List Obj)[k]? = some o → Y.heap[V.heap.size + k]? = some o := fun k o ho => by rw [hY]; exact blks_at _ V k o ho
              have hbY : Below V.heap.size V Y := by rw [hY]; exact blks_below _ _
              have hsY : Y.heap.size = V.heap.size + 1 + 1 := by rw [hYY]; simp
              have hcn : IsCns Y (fun b => V.heap.size ≤ b) (.slice (some ⟨V.heap.size, 0, none⟩) 1 1) [⟨false, []⟩] :=
                ⟨[_], reads_at (reads_laid (hbk 0 _ rfl) le11 rfl) (Nat.le_refl _), (CnsIn.nil _ _).snoc (c := ⟨false, []⟩) (Reads.nil _ _)⟩
              obtain ⟨g2, cap2, w2, F2, hr2, GV2, x2, y2⟩ := HGV.out.appRule hbY (h := (j : Int) + 1) hcn (fun b h => h) rfl (by rw [rusE_len]; omega)
              rw [hsY, hYY, rusE_len] at hr2
              rw [rusE_len] at GV2
              have HGV2 : Hid (GV w1 gb F2 0 (nmsE i) nv (rusE i ev (j + 1)) (us ++ [.slice (some ⟨V.heap.size, 0, none⟩) 1 1]) (.slice (some ⟨g2, 0, none⟩) (j + 1 + 1) cap2) (w2.setCell ⟨gb, 2, none⟩ (.slice (some ⟨g2, 0, none⟩) (j + 1 + 1) cap2))) := by
                show GV _ _ _ _ _ _ _ _ _ _
                rw [rusE_succ, show ruK ev j = ⟨(j : Int) + 1, [⟨false, []⟩]⟩ by unfold ruK sqK; rw [he]; rfl]
                exact GV2
              clear hY hYY hbk hbY hsY hcn GV2 he
              go_wp2_with (at_builtin; refine wpList_run_append rfl _ _ 23 rfl _ _ rfl rfl hr2 ?_)
              go_roundw
              case rel => exact ⟨j + 1, _, _, _, _, by omega, by go_num, HGV2⟩
              case measure => simp [intOf]; omega
            · skip
              obtain ⟨Y, hY⟩ : ∃ Y, Y = blks V [.cells #[.bool false, .slice (some ⟨V.heap.size + 1 + 1, 0, none⟩) 1 1] 38, .cells #[.int .i64 ((j : Int) + 1), .slice (some ⟨V.heap.size, 0, none⟩) 1 1] 35, .cells #[.int .i64 (-1), .int .i64 0, .int .i64 255] 40] := ⟨_, rfl⟩
              have hYY : Y = (((V.alloc (.cells #[.bool false, .slice (some ⟨V.heap.size + 1 + 1, 0, none⟩) 1 1] 38)).alloc (.cells #[.int .i64 ((j : Int) + 1), .slice (some ⟨V.heap.size, 0, none⟩) 1 1] 35)).alloc (.cells #[.int .i64 (-1), .int .i64 0, .int .i64 255] 40)) := hY
              have hbk : ∀ k o, ([.cells #[.bool false, .slice (some ⟨V.heap.size + 1 + 1, 0, none⟩) 1 1] 38, .cells #[.int .i64 ((j : Int) + 1), .slice (some ⟨V.heap.size, 0, none⟩) 1 1] 35, .cells #[.int .i64 (-1), .int .i64 0, .int .i64 255] 40] : List Obj)[k]? = some o → Y.heap[V.heap.size + k]? = some o := fun k o ho => by rw [hY]; exact blks_at _ V k o ho
              have hbY : Below V.heap.size V Y := by rw [hY]; exact blks_below _ _
              have hsY : Y.heap.size = V.heap.size + 1 + 1 + 1 := by rw [hYY]; simp
              have hcn : IsCns Y (fun b => V.heap.size ≤ b) (.slice (some ⟨V.heap.size, 0, none⟩) 1 1) [⟨false, [⟨-1, 0, 255⟩]⟩] :=
                ⟨[_], reads_at (reads_laid (hbk 0 _ rfl) le11 rfl) (Nat.le_refl _), (CnsIn.nil _ _).snoc (c := ⟨false, [⟨-1, 0, 255⟩]⟩) (reads_at (reads_laid (hbk 2 _ rfl) le11 rfl) (by show V.heap.size ≤ V.heap.size + 2; omega))⟩
              obtain ⟨g2, cap2, w2, F2, hr2, GV2, x2, y2⟩ := HGV.out.appRule hbY (h := (j : Int) + 1) hcn (fun b h => h) rfl (by rw [rusE_len]; omega)
              rw [hsY, hYY, rusE_len] at hr2
              rw [rusE_len] at GV2
              have HGV2 : Hid (GV w1 gb F2 0 (nmsE i) nv (rusE i ev (j + 1)) (us ++ [.slice (some ⟨V.heap.size, 0, none⟩) 1 1]) (.slice (some ⟨g2, 0, none⟩) (j + 1 + 1) cap2) (w2.setCell ⟨gb, 2, none⟩ (.slice (some ⟨g2, 0, none⟩) (j + 1 + 1) cap2))) := by
                show GV _ _ _ _ _ _ _ _ _ _
                rw [rusE_succ, show ruK ev j = ⟨(j : Int) + 1, [⟨false, [⟨-1, 0, 255⟩]⟩]⟩ by unfold ruK sqK; rw [he]; rfl]
                exact GV2
              clear hY hYY hbk hbY hsY hcn GV2 he
              go_wp2_with (at_builtin; refine wpList_run_append rfl _ _ 23 rfl _ _ rfl rfl hr2 ?_)
              go_roundw
              case rel => exact ⟨j + 1, _, _, _, _, by omega, by go_num, HGV2⟩
              case measure => simp [intOf]; omega
          · obtain rfl : j = i := by omega
            obtain ⟨pn, cn, hvn⟩ := row_slice HGV.out.on
            rw [nmsE_len] at hvn
            obtain ⟨po, co, hvo⟩ := row_slice HGV.out.m0.oo
            rw [rusE_len] at hvo
            subst hvn hvo
            have hgl : gb < V.heap.size := block_lt HGV.out.vb
            have g0c : V.cell? ⟨gb, 0, none⟩ = some (.int .i64 0) := cellR HGV.out.vb 0
            have g1c : V.cell? ⟨gb, 1, none⟩ = some (.slice pn (j + 1) cn) := cellR HGV.out.vb 1
            have g2c : V.cell? ⟨gb, 2, none⟩ = some (.slice po (j + 1) co) := cellR HGV.out.vb 2
            have KC := HKN.out _ _ V HGV.out.gr
            go_upto_region 22 with (go_at_call 8; refine KC.mono ?_; rintro e wd ⟨b, M, rfl, hM0, HMJ, HZD, bd⟩)
            have s1 := (bd.out.cell (p := ⟨gb, 1, none⟩) hgl).trans g1c
            have hgd : gb < wd.heap.size := Nat.lt_of_lt_of_le hgl bd.out.size
            have HBD : Hid (Below W.heap.size W wd) := HBV.out.trans (bd.out.mono HBV.out.size)
            have cA := HZD.out.cell (show 0 < j + 1 by omega)
            rw [hM0, ← HAL.out] at cA
            clear hM0 g0c g1c g2c KC
            have hAA : (A == A) = true := by simp
            go_upto_region 24 with (go_at_call 9; refine (num_any _ _).mono ?_; rintro e wn ⟨rfl, rfl⟩)
            clear cA s1
            go_wp2
            go_loopw [11] (fun x wq => ∃ k : Nat, 1 ≤ k ∧ k ≤ j + 1 ∧ x = .int .i64 k ∧ Hid (Below wd.heap.size wd wq)) (fun x _ => j + 1 - (intOf x).toNat)
            case atStart => exact ⟨1, by omega, by omega, rfl, Below.refl _ _⟩
            case round =>
              obtain ⟨k, hk1, hk, rfl, HBK⟩ := hrel
              have HBW : Hid (Below W.heap.size W wr) := HBD.out.trans (HBK.out.mono HBD.out.size)
              by_cases hlk : k < j + 1
              · obtain ⟨t, rfl⟩ : ∃ t, k = t + 1 := ⟨k - 1, by omega⟩
                have ck := (HZD.out.keep HBK.out).cell hlk
                rw [HMJ.out t (by omega)] at ck
                obtain ⟨g0, o0, z, hp, cz, hg0, hz⟩ := HN.out t (by omega) wr HBW.out
                subst hp
                have hs1 : ((t + 1 : Nat) : Int) - 1 = (t : Int) := by omega
                have hs2 : IntKind.i64.wrap (((t + 1 : Nat) : Int) - 1) = (t : Int) := by rw [hs1, IntKind.wrap_i64]; omega
                have hs3 : (t : Int) < (zn : Int) := by omega
                have hs4 : ((t + 1 : Nat) : Int) < ((j + 1 : Nat) : Int) := by omega
                rcases hz with ⟨he, hz⟩ | ⟨he, hz⟩
                all_goals
                  rw [he] at ck
                  clear he
                  go_wp2
                  go_quiet (fail)
                  go_wp2
                  go_roundw
                  case rel => exact ⟨t + 1 + 1, by omega, by omega, by go_num, below_drewN HBK.out _⟩
                  case measure => simp [intOf]; omega
              · obtain rfl : k = j + 1 := by omega
                go_wp2
                go_ret
                exact ⟨rfl, HBW.out⟩
      · subst k1
        clear two
        go_upto_region 14 with fail
        rw [← hX2]
        clear hX1 hX2 g2' f2' g2 f2 c0 c1 hrl hgl
        go_wp2
        clear HQ
        go_loopw [7] (fun x wr => ∃ (j : Nat) (F : Nat → Prop) (nv : Value) (us : List Value) (o : Value), j ≤ i ∧ x = .int .i64 j ∧ Hid (GV w1 gb F 0 (nmsE i) nv (rusE i ev j) us o wr)) (fun x _ => i - (intOf x).toNat)
        case atStart => exact ⟨0, _, _, _, _, Nat.zero_le _, rfl, HGV⟩
        case round =>
          clear HGV
          obtain ⟨j, F, nv, us, o, hj, rfl, HGV⟩ := hrel
          obtain ⟨V, hV⟩ : ∃ V, V = wr := ⟨_, rfl⟩
          subst hV
          have HBV : Hid (Below W.heap.size W V) := HB1.out.trans (HGV.out.m0.bl.mono HB1.out.size)
          by_cases hlj : j < i
          · have hiz : (j : Int) < (i : Int) := by omega
            have hi30 : (j : Int) < 30 := by omega
            have hd30 : decide ((j : Int) < 30) = true := decide_eq_true hi30
            have hgl : gb < V.heap.size := block_lt HGV.out.vb
            have hgl1 : gb < V.heap.size + 1 := by omega
            have hgl2 : gb < V.heap.size + 1 + 1 := by omega
            have hgl3 : gb < V.heap.size + 1 + 1 + 1 := by omega
            obtain ⟨po, co, hvo⟩ := row_slice HGV.out.m0.oo
            rw [rusE_len] at hvo
            subst hvo
            have g2c : V.cell? ⟨gb, 2, none⟩ = some (.slice po (j + 1) co) := cellR HGV.out.vb 2
            obtain ⟨g0, o0, z, hp, cz, hg0, hz⟩ := HN.out j (by omega) V HBV.out
            subst hp
            have hg01 : g0 < V.heap.size + 1 := by omega
            have hg02 : g0 < V.heap.size + 1 + 1 := by omega
            have hwj : IntKind.i64.wrap ((j : Int) + 1) = (j : Int) + 1 := by rw [IntKind.wrap_i64]; omega
            rcases hz with ⟨he, hz⟩ | ⟨he, hz⟩
            · have nz : ¬ bits .and .i64 z 1 = 1 := by rw [hz]; decide
              obtain ⟨Y, hY⟩ : ∃ Y, Y = blks V [.cells #[.bool false, .slice none 0 0] 38, .cells #[.int .i64 ((j : Int) + 1), .slice (some ⟨V.heap.size, 0, none⟩) 1 1] 35] := ⟨_, rfl⟩
              have hYY : Y = ((V.alloc (.cells #[.bool false, .slice none 0 0] 38)).alloc (.cells #[.int .i64 ((j : Int) + 1), .slice (some ⟨V.heap.size, 0, none⟩) 1 1] 35)) := hY
              have hbk : ∀ k o, ([.cells #[.bool false, .slice none 0 0] 38, .cells #[.int .i64 ((j : Int) + 1), .slice (some ⟨V.heap.size, 0, none⟩) 1 1] 35] : List Obj)[k]? = some o → Y.heap[V.heap.size + k]? = some o := fun k o ho => by rw [hY]; exact blks_at _ V k o ho
              have hbY : Below V.heap.size V Y := by rw [hY]; exact blks_below _ _
              have hsY : Y.heap.size = V.heap.size + 1 + 1 := by rw [hYY]; simp
              have hcn : IsCns Y (fun b => V.heap.size ≤ b) (.slice (some ⟨V.heap.size, 0, none⟩) 1 1) [⟨false, []⟩] :=
                ⟨[_], reads_at (reads_laid (hbk 0 _ rfl) le11 rfl) (Nat.le_refl _), (CnsIn.nil _ _).snoc (c := ⟨false, []⟩) (Reads.nil _ _)⟩
              obtain ⟨g2, cap2, w2, F2, hr2, GV2, x2, y2⟩ := HGV.out.appRule hbY (h := (j : Int) + 1) hcn (fun b h => h) rfl (by rw [rusE_len]; omega)
              rw [hsY, hYY, rusE_len] at hr2
              rw [rusE_len] at GV2
              have HGV2 : Hid (GV w1 gb F2 0 (nmsE i) nv (rusE i ev (j + 1)) (us ++ [.slice (some ⟨V.heap.size, 0, none⟩) 1 1]) (.slice (some ⟨g2, 0, none⟩) (j + 1 + 1) cap2) (w2.setCell ⟨gb, 2, none⟩ (.slice (some ⟨g2, 0, none⟩) (j + 1 + 1) cap2))) := by
                show GV _ _ _ _ _ _ _ _ _ _
                rw [rusE_succ, show ruK ev j = ⟨(j : Int) + 1, [⟨false, []⟩]⟩ by unfold ruK sqK; rw [he]; rfl]
                exact GV2
              clear hY hYY hbk hbY hsY hcn GV2 he
              go_wp2_with (at_builtin; refine wpList_run_append rfl _ _ 23 rfl _ _ rfl rfl hr2 ?_)
              go_roundw
              case rel => exact ⟨j + 1, _, _, _, _, by omega, by go_num, HGV2⟩
              case measure => simp [intOf]; omega
            · skip
              obtain ⟨Y, hY⟩ : ∃ Y, Y = blks V [.cells #[.bool false, .slice (some ⟨V.heap.size + 1 + 1, 0, none⟩) 1 1] 38, .cells #[.int .i64 ((j : Int) + 1), .slice (some ⟨V.heap.size, 0, none⟩) 1 1] 35, .cells #[.int .i64 (-1), .int .i64 0, .int .i64 255] 40] := ⟨_, rfl⟩
              have hYY : Y = (((V.alloc (.cells #[.bool false, .slice (some ⟨V.heap.size + 1 + 1, 0, none⟩) 1 1] 38)).alloc (.cells #[.int .i64 ((j : Int) + 1), .slice (some ⟨V.heap.size, 0, none⟩) 1 1] 35)).alloc (.cells #[.int .i64 (-1), .int .i64 0, .int .i64 255] 40)) := hY
              have hbk : ∀ k o, ([.cells #[.bool false, .slice (some ⟨V.heap.size + 1 + 1, 0, none⟩) 1 1] 38, .cells #[.int .i64 ((j : Int) + 1), .slice (some ⟨V.heap.size, 0, none⟩) 1 1] 35, .cells #[.int .i64 (-1), .int .i64 0, .int .i64 255] 40] : List Obj)[k]? = some o → Y.heap[V.heap.size + k]? = some o := fun k o ho => by rw [hY]; exact blks_at _ V k o ho
              have hbY : Below V.heap.size V Y := by rw [hY]; exact blks_below _ _
              have hsY : Y.heap.size = V.heap.size + 1 + 1 + 1 := by rw [hYY]; simp
              have hcn : IsCns Y (fun b => V.heap.size ≤ b) (.slice (some ⟨V.heap.size, 0, none⟩) 1 1) [⟨false, [⟨-1, 0, 255⟩]⟩] :=
                ⟨[_], reads_at (reads_laid (hbk 0 _ rfl) le11 rfl) (Nat.le_refl _), (CnsIn.nil _ _).snoc (c := ⟨false, [⟨-1, 0, 255⟩]⟩) (reads_at (reads_laid (hbk 2 _ rfl) le11 rfl) (by show V.heap.size ≤ V.heap.size + 2; omega))⟩
              obtain ⟨g2, cap2, w2, F2, hr2, GV2, x2, y2⟩ := HGV.out.appRule hbY (h := (j : Int) + 1) hcn (fun b h => h) rfl (by rw [rusE_len]; omega)
              rw [hsY, hYY, rusE_len] at hr2
              rw [rusE_len] at GV2
              have HGV2 : Hid (GV w1 gb F2 0 (nmsE i) nv (rusE i ev (j + 1)) (us ++ [.slice (some ⟨V.heap.size, 0, none⟩) 1 1]) (.slice (some ⟨g2, 0, none⟩) (j + 1 + 1) cap2) (w2.setCell ⟨gb, 2, none⟩ (.slice (some ⟨g2, 0, none⟩) (j + 1 + 1) cap2))) := by
                show GV _ _ _ _ _ _ _ _ _ _
                rw [rusE_succ, show ruK ev j = ⟨(j : Int) + 1, [⟨false, [⟨-1, 0, 255⟩]⟩]⟩ by unfold ruK sqK; rw [he]; rfl]
                exact GV2
              clear hY hYY hbk hbY hsY hcn GV2 he
              go_wp2_with (at_builtin; refine wpList_run_append rfl _ _ 23 rfl _ _ rfl rfl hr2 ?_)
              go_roundw
              case rel => exact ⟨j + 1, _, _, _, _, by omega, by go_num, HGV2⟩
              case measure => simp [intOf]; omega
          · obtain rfl : j = i := by omega
            obtain ⟨pn, cn, hvn⟩ := row_slice HGV.out.on
            rw [nmsE_len] at hvn
            obtain ⟨po, co, hvo⟩ := row_slice HGV.out.m0.oo
            rw [rusE_len] at hvo
            subst hvn hvo
            have hgl : gb < V.heap.size := block_lt HGV.out.vb
            have g0c : V.cell? ⟨gb, 0, none⟩ = some (.int .i64 0) := cellR HGV.out.vb 0
            have g1c : V.cell? ⟨gb, 1, none⟩ = some (.slice pn (j + 1) cn) := cellR HGV.out.vb 1
            have g2c : V.cell? ⟨gb, 2, none⟩ = some (.slice po (j + 1) co) := cellR HGV.out.vb 2
            have KC := HKN.out _ _ V HGV.out.gr
            go_upto_region 22 with (go_at_call 8; refine KC.mono ?_; rintro e wd ⟨b, M, rfl, hM0, HMJ, HZD, bd⟩)
            have s1 := (bd.out.cell (p := ⟨gb, 1, none⟩) hgl).trans g1c
            have hgd : gb < wd.heap.size := Nat.lt_of_lt_of_le hgl bd.out.size
            have HBD : Hid (Below W.heap.size W wd) := HBV.out.trans (bd.out.mono HBV.out.size)
            have cA := HZD.out.cell (show 0 < j + 1 by omega)
            rw [hM0, ← HAL.out] at cA
            clear hM0 g0c g1c g2c KC
            have hAA : (A == A) = true := by simp
            go_upto_region 24 with (go_at_call 9; refine (num_any _ _).mono ?_; rintro e wn ⟨rfl, rfl⟩)
            clear cA s1
            go_wp2
            go_loopw [11] (fun x wq => ∃ k : Nat, 1 ≤ k ∧ k ≤ j + 1 ∧ x = .int .i64 k ∧ Hid (Below wd.heap.size wd wq)) (fun x _ => j + 1 - (intOf x).toNat)
            case atStart => exact ⟨1, by omega, by omega, rfl, Below.refl _ _⟩
            case round =>
              obtain ⟨k, hk1, hk, rfl, HBK⟩ := hrel
              have HBW : Hid (Below W.heap.size W wr) := HBD.out.trans (HBK.out.mono HBD.out.size)
              by_cases hlk : k < j + 1
              · obtain ⟨t, rfl⟩ : ∃ t, k = t + 1 := ⟨k - 1, by omega⟩
                have ck := (HZD.out.keep HBK.out).cell hlk
                rw [HMJ.out t (by omega)] at ck
                obtain ⟨g0, o0, z, hp, cz, hg0, hz⟩ := HN.out t (by omega) wr HBW.out
                subst hp
                have hs1 : ((t + 1 : Nat) : Int) - 1 = (t : Int) := by omega
                have hs2 : IntKind.i64.wrap (((t + 1 : Nat) : Int) - 1) = (t : Int) := by rw [hs1, IntKind.wrap_i64]; omega
                have hs3 : (t : Int) < (j : Int) := by omega
                have hs4 : ((t + 1 : Nat) : Int) < ((j + 1 : Nat) : Int) := by omega
                rcases hz with ⟨he, hz⟩ | ⟨he, hz⟩
                all_goals
                  rw [he] at ck
                  clear he
                  go_wp2
                  go_quiet (fail)
                  go_wp2
                  go_roundw
                  case rel => exact ⟨t + 1 + 1, by omega, by omega, by go_num, below_drewN HBK.out _⟩
                  case measure => simp [intOf]; omega
              · obtain rfl : k = j + 1 := by omega
                go_wp2
                go_ret
                exact ⟨rfl, HBW.out⟩
end Go.Proofs.Ytkihbgikdbaelaa
