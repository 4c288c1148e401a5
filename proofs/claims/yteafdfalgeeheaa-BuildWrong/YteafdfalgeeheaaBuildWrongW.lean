/- BuildWrong, walked. -/
import Derived.Test.YteafdfalgeeheaaBWrong
import Derived.Deep.RegionHeldLaw
import Derived.Deep.Cut
namespace Go.Proofs.Yteafdfalgeeheaa
set_option linter.unusedVariables false
set_option linter.unusedSimpArgs false
open Go.ChangeShapes Go.WideShapes Go.ChangeAt Go.RowKit

/-- An append that is known. -/
theorem wpList_run_append {P : Program} {w : World} {ops : Array Oper} {rest : List Oper} {o : Oper} {a : Act} {Q : Exit → Act → World → Prop} (hgd : o.guard = none) (s x : Operand) (t : TypeId)
    (ho : o.op = .call { callee := .builtin .append, args := #[s, x], argTypes := #[t, t] }) (v u : Value) (hs : a.eval s = v) (hx : a.eval x = u) {v' : Value} {w' : World} (hr : (Builtin.append_ #[t, t] o.type #[v, u]).run P w = .ok v' w') (h : wpList P ops Q rest (a.put o.dst v') w') :
    wpList P ops Q (o :: rest) a w := wpList_plain hgd fun K hK => by
  unfold Oper.wp execOp
  simp only [ho, resolve, invoke, builtin, Sem.run_bind, Sem.run_pure, Result.andThen_ok, List.map_toArray, List.map_cons, List.map_nil, hs, hx, hr]
  exact hK _ _ h
theorem W1.drew {wa X : World} {b : Bool} {lo : Int} {v : Value} (h : W1 wa b lo v X) : W1 wa b lo v X.drew := ⟨⟨h.o.n1, h.o.n2, h.o.n3, h.o.n5, h.o.n6, h.o.n8, h.o.bl.drew⟩, h.n0, h.n4, h.n7, h.a⟩
theorem W3.drew {wa X : World} {a b c : Bool} {v u : Value} (h : W3 wa a b c v u X) : W3 wa a b c v u X.drew := ⟨⟨h.o.n1, h.o.n2, h.o.n3, h.o.n5, h.o.n6, h.o.n8, h.o.bl.drew⟩, h.n0, h.n7, h.a, h.i⟩
theorem cellW {X : World} {b : Nat} {arr : Array Value} {t : TypeId} (h : X.heap[b]? = some (.cells arr t)) (j : Nat) {u : Value} (hu : arr[j]? = some u) : X.cell? ⟨b, j, none⟩ = some u := (cell_of_cells h j).trans hu
theorem frzW {X : World} {b : Nat} {arr : Array Value} {t : TypeId} (h : X.heap[b]? = some (.cells arr t)) (j : Nat) : X.frozen? ⟨b, j, none⟩ = false := by simp [World.frozen?, h]
theorem set_alloc {X : World} {o : Obj} {p : Addr} {v : Value} (h : p.block < X.heap.size) : (X.alloc o).setCell p v = (X.setCell p v).alloc o := by
  simp only [World.setCell, World.alloc]
  congr 1
  apply Array.ext_getElem?
  intro i
  rw [Array.getElem?_modify, Array.getElem?_push, Array.getElem?_push, Array.getElem?_modify, Array.size_modify]
  by_cases e : i = X.heap.size
  · subst e
    rw [if_neg (by omega), if_pos rfl, if_pos rfl]
  · rw [if_neg e, if_neg e]
/-- Far cells behind an append onto the block r. -/
theorem far_cell {X w2 : World} {o : Obj} {r b : Nat} (hg : (X.alloc o).grownBy w2 (some r)) (hb : b < X.heap.size) (hne : b ≠ r) : w2.heap[b]? = X.heap[b]? := (hg.block b (by simp; omega) (fun e => hne (by injection e))).trans (Go.Deep.blk_alloc_lt _ _ _ hb)
set_option maxHeartbeats 8000000 in
set_option maxRecDepth 100000 in
theorem buildWrong_walk (w : World) (a0 : Int) (w0 : (Lit.int .i64 a0).wf = true) :
    Calls Try.prog 4 #[.int .i64 a0] w fun e w' => e = .returned (.bool true) ∧ Below w.heap.size w w' := by
  obtain ⟨b16, e16⟩ : ∃ b, (bits .and .i64 a0 16 == 16) = b := ⟨_, rfl⟩
  obtain ⟨b8, e8⟩ : ∃ b, (bits .and .i64 a0 8 == 8) = b := ⟨_, rfl⟩
  obtain ⟨b4, e4⟩ : ∃ b, (bits .and .i64 a0 4 == 4) = b := ⟨_, rfl⟩
  obtain ⟨b2, e2⟩ : ∃ b, (bits .and .i64 a0 2 == 2) = b := ⟨_, rfl⟩
  obtain ⟨b1, e1⟩ : ∃ b, (bits .and .i64 a0 1 == 1) = b := ⟨_, rfl⟩
  clear w0
  go_enter Try.func4, Try.ntmps4
  go_upto_region 3 with (go_at_call 9; refine (awake4_any _).mono ?_; rintro e wa ⟨rfl, ha⟩; have B0 : Hid (Below w.heap.size w wa) := ha; clear ha)
  go_cut [3] from 11 (fun p wc => p = .pointer (some ⟨wa.heap.size + 1 + 1 + 1 + 1 + 1 + 1 + 1 + 1, 0, none⟩) ∧ Hid (W1 wa false 1 (.slice (some ⟨wa.heap.size + 1 + 1, 0, none⟩) 1 1) wc))
  case first =>
    go_wp2
    go_meet
    case rel => exact ⟨rfl, W1.new wa⟩
  case rest =>
    obtain ⟨rfl, H0⟩ := hcut
    obtain ⟨X, hX⟩ : ∃ X, X = wc := ⟨_, rfl⟩
    subst hX
    go_upto_if 28 with fail
    go_cut [4] from 26 (fun x wc => x = .int .i64 ((wantW b16 false false false false : Nat) : Int) ∧ ∃ vA, Hid (W1 wa b16 1 vA wc))
    case first =>
      cases b16 with
      | false =>
        go_wp2
        go_meet
        case rel => exact ⟨rfl, _, H0⟩
      | true =>
        have LL := H0.out
        have FIN := LL.t16
        rw [set_alloc (by show _ < _; have := block_lt LL.o.n3; omega)] at FIN
        have c8 := cellW LL.o.n8 1 rfl
        have c7 := cellW LL.n7 1 rfl
        have c3 := cellW LL.o.n3 0 rfl
        have f3 := frzW LL.o.n3 0
        have q8 := block_lt LL.o.n8
        have q7 := block_lt LL.n7
        have q3 := block_lt LL.o.n3
        have q8' := Nat.lt_succ_of_lt q8
        have q7' := Nat.lt_succ_of_lt q7
        have q3' := Nat.lt_succ_of_lt q3
        have HF : Hid (W1 wa true 1 _ _) := FIN
        have mk := make9
        clear FIN LL
        go_wp2
        go_region
        all_goals
          go_wp2
          go_meet
          case rel => exact ⟨rfl, _, by first | exact HF | exact HF.out.drew⟩
    case rest =>
      obtain ⟨rfl, vA, H1⟩ := hcut
      obtain ⟨X, hX⟩ : ∃ X, X = wc := ⟨_, rfl⟩
      subst hX
      go_upto_if 38 with fail
      go_cut [4, 5] from 26 (fun x y wc => x = .int .i64 ((wantW b16 b8 false false false : Nat) : Int) ∧ y = .string (whoW b8 false false false) ∧ Hid (W1 wa b16 (loW b8) vA wc))
      case first =>
        cases b8 with
        | false =>
          go_wp2
          go_meet
          case rel => exact ⟨rfl, rfl, H1⟩
        | true =>
          have LL := H1.out
          have FIN : Hid (W1 wa b16 (loW true) vA _) := LL.t8
          have c8 := cellW LL.o.n8 1 rfl
          have c7 := cellW LL.n7 3 rfl
          have c6 := cellW LL.o.n6 0 rfl
          have c5 := cellW LL.o.n5 1 rfl
          have c4 := cellW LL.n4 2 rfl
          have f4 := frzW LL.n4 2
          clear LL
          go_wp2
          go_meet
          case rel => exact ⟨rfl, rfl, FIN⟩
      case rest =>
        obtain ⟨rfl, rfl, H2⟩ := hcut
        obtain ⟨X, hX⟩ : ∃ X, X = wc := ⟨_, rfl⟩
        subst hX
        go_upto_if 53 with fail
        go_cut [4, 5] from 26 (fun x y wc => x = .int .i64 ((wantW b16 b8 b4 false false : Nat) : Int) ∧ y = .string (whoW b8 b4 false false) ∧ ∃ vI, Hid (W3 wa b16 b8 b4 vI vA wc))
        case first =>
          cases b4 with
          | false =>
            go_wp2
            go_meet
            case rel => exact ⟨rfl, rfl, _, H2.out.to3⟩
          | true =>
            have LL := H2.out
            have c8 := cellW LL.o.n8 1 rfl
            have c7 := cellW LL.n7 3 rfl
            have c6 := cellW LL.o.n6 0 rfl
            have c5 := cellW LL.o.n5 1 rfl
            have f5 := frzW LL.o.n5 1
            have q8 := block_lt LL.o.n8
            have q7 := block_lt LL.n7
            have q6 := block_lt LL.o.n6
            have q5 := block_lt LL.o.n5
            have q8' := Nat.lt_succ_of_lt q8
            have q7' := Nat.lt_succ_of_lt q7
            have q6' := Nat.lt_succ_of_lt q6
            have q5' := Nat.lt_succ_of_lt q5
            obtain ⟨i, hi0, hz0, hz1, hz2⟩ := info_parts Try.infoItem
            have hown0 : X.ownsRow wa.heap.size 33 4 (.slice (some ⟨wa.heap.size + 1 + 1 + 1 + 1, 0, none⟩) 1 1) 1 [.int .i64 2, .string ⟨#[]⟩, .int .i64 (loW b8), .int .i64 2] := owns_exact LL.n4 rfl (by unfold maxLen; omega) (by omega)
            obtain ⟨gg, cap1, w2, hrun, hown1, hgrow, hat, hl2⟩ := run_append_lies (P := Try.prog) (X.alloc (.cells #[.int .i64 0, .string ⟨#[85]⟩, .int .i64 0, .int .i64 0] 33)).drew 34 34 wa.heap.size 33 i _ 4 40 Try.underlying34 hi0 hz0 hz1 hz2 rfl (by omega) (.slice (some ⟨wa.heap.size + 1 + 1 + 1 + 1, 0, none⟩) 1 1) 1 _ ((hown0.alloc _).drew) ⟨X.heap.size, 0, none⟩ 1 1 [.int .i64 0, .string ⟨#[85]⟩, .int .i64 0, .int .i64 0] rfl (World.news_of_block (cs := #[.int .i64 0, .string ⟨#[85]⟩, .int .i64 0, .int .i64 0]) (t := 33) (fr := (0, 0)) (heap_alloc_new X _)) (by simp [Value.oneCell']) (by omega) (by unfold maxLen; omega) (by omega) (by show _ ≤ (X.alloc _).heap.size; simp; omega) (X.heap.size + 1) (by show (X.alloc _).heap.size = _; simp)
            have hg' : (X.alloc (.cells #[.int .i64 0, .string ⟨#[85]⟩, .int .i64 0, .int .i64 0] 33)).grownBy w2 (some (wa.heap.size + 1 + 1 + 1 + 1)) := ⟨hgrow.os, hgrow.tape, hgrow.output, hgrow.size, hgrow.block⟩
            have LA := stepApp hrun
            unfold StepApp at LA
            have FIN : Hid (W3 wa b16 b8 true (.slice (some ⟨gg, 0, none⟩) 2 cap1) vA (w2.setCell ⟨wa.heap.size + 1 + 1 + 1 + 1 + 1, 1, none⟩ (.slice (some ⟨gg, 0, none⟩) 2 cap1))) := LL.t4 hg' (Nat.le_refl _) hown1 hat
            have x8 := cellW ((far_cell hg' q8 (by omega)).trans LL.o.n8) 1 rfl
            have x7 := cellW ((far_cell hg' q7 (by omega)).trans LL.n7) 3 rfl
            have x6 := cellW ((far_cell hg' q6 (by omega)).trans LL.o.n6) 0 rfl
            have x5 := cellW ((far_cell hg' q5 (by omega)).trans LL.o.n5) 1 rfl
            have y5 := frzW ((far_cell hg' q5 (by omega)).trans LL.o.n5) 1
            have z8 : (w2.setCell ⟨wa.heap.size + 1 + 1 + 1 + 1 + 1, 1, none⟩ (.slice (some ⟨gg, 0, none⟩) 2 cap1)).cell? ⟨wa.heap.size + 1 + 1 + 1 + 1 + 1 + 1 + 1 + 1, 1, none⟩ = some (.slice (some ⟨wa.heap.size + 1 + 1 + 1 + 1 + 1 + 1 + 1, 0, none⟩) 2 2) := (World.cell?_setCell_other _ _ _ _ (by intro e; injection e with e; omega)).trans x8
            have z7 : (w2.setCell ⟨wa.heap.size + 1 + 1 + 1 + 1 + 1, 1, none⟩ (.slice (some ⟨gg, 0, none⟩) 2 cap1)).cell? ⟨wa.heap.size + 1 + 1 + 1 + 1 + 1 + 1 + 1, 3, none⟩ = some (.slice (some ⟨wa.heap.size + 1 + 1 + 1 + 1 + 1 + 1, 0, none⟩) 1 1) := (World.cell?_setCell_other _ _ _ _ (by intro e; injection e with e; omega)).trans x7
            have z6 : (w2.setCell ⟨wa.heap.size + 1 + 1 + 1 + 1 + 1, 1, none⟩ (.slice (some ⟨gg, 0, none⟩) 2 cap1)).cell? ⟨wa.heap.size + 1 + 1 + 1 + 1 + 1 + 1, 0, none⟩ = some (.slice (some ⟨wa.heap.size + 1 + 1 + 1 + 1 + 1, 0, none⟩) 1 1) := (World.cell?_setCell_other _ _ _ _ (by intro e; injection e with e; omega)).trans x6
            clear hrun hown1 hgrow hat hl2 hg' hown0 LL
            go_wp2_with (fail)
            refine wp_region_held_drew (S := (fun w' => w'.cell? ⟨wa.heap.size + 1 + 1 + 1 + 1 + 1 + 1 + 1 + 1, 1, none⟩ = some (.slice (some ⟨wa.heap.size + 1 + 1 + 1 + 1 + 1 + 1 + 1, 0, none⟩) 2 2) ∧ w'.cell? ⟨wa.heap.size + 1 + 1 + 1 + 1 + 1 + 1 + 1, 3, none⟩ = some (.slice (some ⟨wa.heap.size + 1 + 1 + 1 + 1 + 1 + 1, 0, none⟩) 1 1) ∧ w'.cell? ⟨wa.heap.size + 1 + 1 + 1 + 1 + 1 + 1, 0, none⟩ = some (.slice (some ⟨wa.heap.size + 1 + 1 + 1 + 1 + 1, 0, none⟩) 1 1))) (by kernel_rfl) ?_ (fun hHeld => ?_)
            · (try dsimp only); go_keep
            refine wpAnyH_take (i := 0) (oi := _) (v := ?_) rfl (by kernel_rfl) (by kernel_rfl) (by kernel_rfl) (fun _ _ _ h => h) (Or.inl ⟨by rfl, ?_⟩) (by assumption) ?_
            rotate_left
            · intro w' hSw; (try dsimp only at hSw); go_simp; (try with_reducible rfl)
            simp only [Act.put, List.setIfInBounds_toArray, List.set_cons_zero, List.set_cons_succ]
            refine wpAnyH_take (i := 1) (oi := _) (v := ?_) rfl (by kernel_rfl) (by kernel_rfl) (by kernel_rfl) (fun _ _ _ h => h) (Or.inl ⟨by rfl, ?_⟩) (by assumption) ?_
            rotate_left
            · intro w' hSw; (try dsimp only at hSw); go_simp; (try with_reducible rfl)
            simp only [Act.put, List.setIfInBounds_toArray, List.set_cons_zero, List.set_cons_succ]
            refine wpAnyH_take (i := 2) (oi := _) (v := ?_) rfl (by kernel_rfl) (by kernel_rfl) (by kernel_rfl) (fun _ _ _ h => h) (Or.inl ⟨by rfl, ?_⟩) (by assumption) ?_
            rotate_left
            · intro w' hSw; (try dsimp only at hSw); go_simp; (try with_reducible rfl)
            simp only [Act.put, List.setIfInBounds_toArray, List.set_cons_zero, List.set_cons_succ]
            refine wpAnyH_take (i := 3) (oi := _) (v := ?_) rfl (by kernel_rfl) (by kernel_rfl) (by kernel_rfl) (fun _ _ _ h => h) (Or.inl ⟨by rfl, ?_⟩) (by assumption) ?_
            rotate_left
            · intro w' hSw; (try dsimp only at hSw); go_simp; (try with_reducible rfl)
            simp only [Act.put, List.setIfInBounds_toArray, List.set_cons_zero, List.set_cons_succ]
            refine wpAnyH_take (i := 4) (oi := _) (v := ?_) rfl (by kernel_rfl) (by kernel_rfl) (by kernel_rfl) (fun _ _ _ h => h) (Or.inl ⟨by rfl, ?_⟩) (by assumption) ?_
            rotate_left
            · intro w' hSw; (try dsimp only at hSw); go_simp; (try with_reducible rfl)
            simp only [Act.put, List.setIfInBounds_toArray, List.set_cons_zero, List.set_cons_succ]
            refine wpAnyH_take (i := 5) (oi := _) (v := ?_) rfl (by kernel_rfl) (by kernel_rfl) (by kernel_rfl) (fun _ _ _ h => h) (Or.inl ⟨by rfl, ?_⟩) (by assumption) ?_
            rotate_left
            · intro w' hSw; (try dsimp only at hSw); go_simp; (try with_reducible rfl)
            simp only [Act.put, List.setIfInBounds_toArray, List.set_cons_zero, List.set_cons_succ]
            refine wpAnyH_take (i := 6) (oi := _) (v := ?_) rfl (by kernel_rfl) (by kernel_rfl) (by kernel_rfl) (fun _ _ _ h => h) (Or.inl ⟨by rfl, ?_⟩) (by assumption) ?_
            rotate_left
            · intro w' hSw; (try dsimp only at hSw); go_simp; (try with_reducible rfl)
            simp only [Act.put, List.setIfInBounds_toArray, List.set_cons_zero, List.set_cons_succ]
            refine wpAnyH_take (i := 7) (oi := _) (v := ?_) rfl (by kernel_rfl) (by kernel_rfl) (by kernel_rfl) (fun _ _ _ h => h) (Or.inl ⟨by rfl, ?_⟩) (by assumption) ?_
            rotate_left
            · intro w' hSw; (try dsimp only at hSw); go_simp; (try with_reducible rfl)
            simp only [Act.put, List.setIfInBounds_toArray, List.set_cons_zero, List.set_cons_succ]
            refine wpAnyH_take (i := 8) (oi := _) (v := ?_) rfl (by kernel_rfl) (by kernel_rfl) (by kernel_rfl) (fun _ _ _ h => h) (Or.inl ⟨by rfl, ?_⟩) (by assumption) ?_
            rotate_left
            · intro w' hSw; (try dsimp only at hSw); go_simp; (try with_reducible rfl)
            simp only [Act.put, List.setIfInBounds_toArray, List.set_cons_zero, List.set_cons_succ]
            refine wpAnyH_take (i := 9) (oi := _) (v := ?_) rfl (by kernel_rfl) (by kernel_rfl) (by kernel_rfl) (fun _ _ _ h => h) (Or.inl ⟨by rfl, ?_⟩) (by assumption) ?_
            rotate_left
            · intro w' hSw; (try dsimp only at hSw); go_simp; (try with_reducible rfl)
            simp only [Act.put, List.setIfInBounds_toArray, List.set_cons_zero, List.set_cons_succ]
            refine wpAnyH_take (i := 10) (oi := _) (v := ?_) rfl (by kernel_rfl) (by kernel_rfl) (by kernel_rfl) (fun _ _ _ h => h) (Or.inl ⟨by rfl, ?_⟩) (by assumption) ?_
            rotate_left
            · intro w' hSw; (try dsimp only at hSw); go_simp; (try with_reducible rfl)
            simp only [Act.put, List.setIfInBounds_toArray, List.set_cons_zero, List.set_cons_succ]
            refine wpAnyH_take (i := 11) (oi := _) (v := ?_) rfl (by kernel_rfl) (by kernel_rfl) (by kernel_rfl) (fun _ _ _ h => h) (Or.inl ⟨by rfl, ?_⟩) (by assumption) ?_
            rotate_left
            · intro w' hSw; (try dsimp only at hSw); go_simp; (try with_reducible rfl)
            simp only [Act.put, List.setIfInBounds_toArray, List.set_cons_zero, List.set_cons_succ]
            refine wpAnyH_take (i := 12) (oi := _) (v := ?_) rfl (by kernel_rfl) (by kernel_rfl) (by kernel_rfl) (fun _ _ _ h => h) (Or.inl ⟨by rfl, ?_⟩) (by assumption) ?_
            rotate_left
            · intro w' hSw; (try dsimp only at hSw); go_simp; (try with_reducible rfl)
            simp only [Act.put, List.setIfInBounds_toArray, List.set_cons_zero, List.set_cons_succ]
            refine wpAnyH_take (i := 13) (oi := _) (v := ?_) rfl (by kernel_rfl) (by kernel_rfl) (by kernel_rfl) (fun _ _ _ h => h) (Or.inl ⟨by rfl, ?_⟩) (by assumption) ?_
            rotate_left
            · intro w' hSw; (try dsimp only at hSw); go_simp; (try with_reducible rfl)
            simp only [Act.put, List.setIfInBounds_toArray, List.set_cons_zero, List.set_cons_succ]
            refine wpAnyH_take (i := 14) (oi := _) (v := ?_) rfl (by kernel_rfl) (by kernel_rfl) (by kernel_rfl) (fun _ _ _ h => h) (Or.inl ⟨by rfl, ?_⟩) (by assumption) ?_
            rotate_left
            · intro w' hSw; (try dsimp only at hSw); go_simp; (try with_reducible rfl)
            simp only [Act.put, List.setIfInBounds_toArray, List.set_cons_zero, List.set_cons_succ]
            refine wpAnyH_take (i := 15) (oi := _) (v := ?_) rfl (by kernel_rfl) (by kernel_rfl) (by kernel_rfl) (fun _ _ _ h => h) (Or.inl ⟨by rfl, ?_⟩) (by assumption) ?_
            rotate_left
            · intro w' hSw; (try dsimp only at hSw); go_simp; (try with_reducible rfl)
            simp only [Act.put, List.setIfInBounds_toArray, List.set_cons_zero, List.set_cons_succ]
            refine wpAnyH_take (i := 17) (oi := _) (v := ?_) rfl (by kernel_rfl) (by kernel_rfl) (by kernel_rfl) (fun _ _ _ h => h) (Or.inl ⟨by rfl, ?_⟩) (by assumption) ?_
            rotate_left
            · intro w' hSw; (try dsimp only at hSw); go_simp; (try with_reducible rfl)
            simp only [Act.put, List.setIfInBounds_toArray, List.set_cons_zero, List.set_cons_succ]
            refine wpAnyH_ready (rs := [16, 18]) (by kernel_rfl) (by simp) ?_
            refine AllReadyH.cons rfl (fun K hK => ?_) ?_
            · go_simp
              refine hK.out _ _ ?_ (fun hHeld => ?_)
              · (try dsimp only); (first | go_keep | exact ⟨x8, x7, x6⟩ | exact ⟨z8, z7, z6⟩)
              clear hK K
              refine wpAnyH_ready (rs := [18]) (by kernel_rfl) (by simp) ?_
              refine AllReadyH.cons rfl (fun K hK => ?_) ?_
              · go_simp
                refine hK.out _ _ ?_ (fun hHeld => ?_)
                · (try dsimp only); (first | go_keep | exact ⟨x8, x7, x6⟩ | exact ⟨z8, z7, z6⟩)
                clear hK K
                refine wpAnyH_ready (rs := [19]) (by kernel_rfl) (by simp) ?_
                refine AllReadyH.cons rfl (fun K hK => ?_) ?_
                · ((with_reducible refine LA _ _ _ _ _ _ ?_ ?_ ?_ ?_); rfl; exact ⟨_, _, rfl, rfl, rfl⟩; rfl)
                  refine hK.out _ _ ?_ (fun hHeld => ?_)
                  · (try dsimp only); (first | go_keep | exact ⟨x8, x7, x6⟩ | exact ⟨z8, z7, z6⟩)
                  clear hK K
                  refine wpAnyH_take (i := 20) (oi := _) (v := ?_) rfl (by kernel_rfl) (by kernel_rfl) (by kernel_rfl) (fun _ _ _ h => h) (Or.inl ⟨by rfl, ?_⟩) (by assumption) ?_
                  rotate_left
                  · intro w' hSw; (try dsimp only at hSw); go_simp; (try with_reducible rfl)
                  simp only [Act.put, List.setIfInBounds_toArray, List.set_cons_zero, List.set_cons_succ]
                  refine wpAnyH_take (i := 21) (oi := _) (v := ?_) rfl (by kernel_rfl) (by kernel_rfl) (by kernel_rfl) (fun _ _ _ h => h) (Or.inl ⟨by rfl, ?_⟩) (by assumption) ?_
                  rotate_left
                  · intro w' hSw; (try dsimp only at hSw); go_simp; (try with_reducible rfl)
                  simp only [Act.put, List.setIfInBounds_toArray, List.set_cons_zero, List.set_cons_succ]
                  refine wpAnyH_ready (rs := [22]) (by kernel_rfl) (by simp) ?_
                  refine AllReadyH.cons rfl (fun K hK => ?_) ?_
                  · go_simp
                    refine hK.out _ _ ?_ (fun hHeld => ?_)
                    · (try dsimp only); (first | go_keep | exact ⟨x8, x7, x6⟩ | exact ⟨z8, z7, z6⟩)
                    clear hK K
                    refine wpAnyH_done (by kernel_rfl) ?_ _
                    go_wp2
                    go_meet
                    case rel => exact ⟨rfl, rfl, _, FIN⟩
                  exact AllReadyH.nil
                exact AllReadyH.nil
              exact AllReadyH.nil
            refine AllReadyH.cons rfl (fun K hK => ?_) ?_
            · go_simp
              refine hK.out _ _ ?_ (fun hHeld => ?_)
              · (try dsimp only); (first | go_keep | exact ⟨x8, x7, x6⟩ | exact ⟨z8, z7, z6⟩)
              clear hK K
              refine wpAnyH_ready (rs := [16]) (by kernel_rfl) (by simp) ?_
              refine AllReadyH.cons rfl (fun K hK => ?_) ?_
              · go_simp
                refine hK.out _ _ ?_ (fun hHeld => ?_)
                · (try dsimp only); (first | go_keep | exact ⟨x8, x7, x6⟩ | exact ⟨z8, z7, z6⟩)
                clear hK K
                refine wpAnyH_ready (rs := [19]) (by kernel_rfl) (by simp) ?_
                refine AllReadyH.cons rfl (fun K hK => ?_) ?_
                · ((with_reducible refine LA _ _ _ _ _ _ ?_ ?_ ?_ ?_); rfl; exact ⟨_, _, rfl, rfl, rfl⟩; rfl)
                  refine hK.out _ _ ?_ (fun hHeld => ?_)
                  · (try dsimp only); (first | go_keep | exact ⟨x8, x7, x6⟩ | exact ⟨z8, z7, z6⟩)
                  clear hK K
                  refine wpAnyH_take (i := 20) (oi := _) (v := ?_) rfl (by kernel_rfl) (by kernel_rfl) (by kernel_rfl) (fun _ _ _ h => h) (Or.inl ⟨by rfl, ?_⟩) (by assumption) ?_
                  rotate_left
                  · intro w' hSw; (try dsimp only at hSw); go_simp; (try with_reducible rfl)
                  simp only [Act.put, List.setIfInBounds_toArray, List.set_cons_zero, List.set_cons_succ]
                  refine wpAnyH_take (i := 21) (oi := _) (v := ?_) rfl (by kernel_rfl) (by kernel_rfl) (by kernel_rfl) (fun _ _ _ h => h) (Or.inl ⟨by rfl, ?_⟩) (by assumption) ?_
                  rotate_left
                  · intro w' hSw; (try dsimp only at hSw); go_simp; (try with_reducible rfl)
                  simp only [Act.put, List.setIfInBounds_toArray, List.set_cons_zero, List.set_cons_succ]
                  refine wpAnyH_ready (rs := [22]) (by kernel_rfl) (by simp) ?_
                  refine AllReadyH.cons rfl (fun K hK => ?_) ?_
                  · go_simp
                    refine hK.out _ _ ?_ (fun hHeld => ?_)
                    · (try dsimp only); (first | go_keep | exact ⟨x8, x7, x6⟩ | exact ⟨z8, z7, z6⟩)
                    clear hK K
                    refine wpAnyH_done (by kernel_rfl) ?_ _
                    go_wp2
                    go_meet
                    case rel => exact ⟨rfl, rfl, _, FIN⟩
                  exact AllReadyH.nil
                exact AllReadyH.nil
              exact AllReadyH.nil
            exact AllReadyH.nil
        case rest =>
          obtain ⟨rfl, rfl, vI, H3⟩ := hcut
          obtain ⟨X, hX⟩ : ∃ X, X = wc := ⟨_, rfl⟩
          subst hX
          go_upto_if 78 with fail
          go_cut [4, 5] from 26 (fun x y wc => x = .int .i64 ((wantW b16 b8 b4 b2 false : Nat) : Int) ∧ y = .string (whoW b8 b4 b2 false) ∧ ∃ vS, Hid (W4 wa b16 b8 b4 b2 vS vI vA wc))
          case first =>
            cases b2 with
            | false =>
              go_wp2
              go_meet
              case rel => exact ⟨rfl, rfl, _, H3.out.to4⟩
            | true =>
              have LL := H3.out
              have c8 := cellW LL.o.n8 0 rfl
              have q8 := block_lt LL.o.n8
              obtain ⟨i, hi0, hz0, hz1, hz2⟩ := info_parts Try.infoStr
              have hown0 : X.ownsRow wa.heap.size 9 1 (.slice (some ⟨wa.heap.size, 0, none⟩) 1 1) 1 [.string ⟨#[83]⟩] := owns_exact LL.n0 rfl (by unfold maxLen; omega) (Nat.le_refl _)
              obtain ⟨gg, cap1, w2, hrun, hown1, hgrow, hat, hl2⟩ := run_append_lies (P := Try.prog) (X.alloc (.cells #[.string ⟨#[83]⟩] 9)) 24 24 wa.heap.size 9 i _ 1 16 Try.underlying24 hi0 hz0 hz1 hz2 rfl (by omega) (.slice (some ⟨wa.heap.size, 0, none⟩) 1 1) 1 _ (hown0.alloc _) ⟨X.heap.size, 0, none⟩ 1 1 [.string ⟨#[83]⟩] rfl (World.news_of_block (cs := #[.string ⟨#[83]⟩]) (t := 9) (fr := (0, 0)) (heap_alloc_new X _)) (by simp [Value.oneCell']) (by omega) (by unfold maxLen; omega) (by omega) (by simp; omega) (X.heap.size + 1) (by simp)
              have hg' : (X.alloc (.cells #[.string ⟨#[83]⟩] 9)).grownBy w2 (some wa.heap.size) := hgrow
              have FIN : Hid (W4 wa b16 b8 b4 true (.slice (some ⟨gg, 0, none⟩) 2 cap1) vI vA (w2.setCell ⟨wa.heap.size + 1 + 1 + 1 + 1 + 1 + 1 + 1 + 1, 0, none⟩ (.slice (some ⟨gg, 0, none⟩) 2 cap1))) := LL.t2 hg' (Nat.le_refl _) hown1 hat
              have x8 := cellW ((far_cell hg' q8 (by omega)).trans LL.o.n8) 0 rfl
              have y8 := frzW ((far_cell hg' q8 (by omega)).trans LL.o.n8) 0
              clear hown1 hgrow hg' hat hl2 hown0 LL
              go_wp2_with (at_builtin; refine wpList_run_append rfl _ _ 24 rfl _ _ rfl rfl hrun ?_)
              go_meet
              case rel => exact ⟨rfl, rfl, _, FIN⟩
          case rest =>
            obtain ⟨rfl, rfl, vS, H4⟩ := hcut
            obtain ⟨X, hX⟩ : ∃ X, X = wc := ⟨_, rfl⟩
            subst hX
            go_upto_if 86 with fail
            go_cut [4, 5] from 26 (fun x y wc => x = .int .i64 ((wantW b16 b8 b4 b2 b1 : Nat) : Int) ∧ y = .string (whoW b8 b4 b2 b1) ∧ ∃ vD, Hid (WA wa b16 b8 b4 b2 b1 vS vD vI vA wc))
            case first =>
              cases b1 with
              | false =>
                go_wp2
                go_meet
                case rel => exact ⟨rfl, rfl, _, H4.out.to5⟩
              | true =>
                have LL := H4.out
                have c8 := cellW LL.o.n8 1 rfl
                have q8 := block_lt LL.o.n8
                obtain ⟨i, hi0, hz0, hz1, hz2⟩ := info_parts Try.infoDef
                have hown0 : X.ownsRow wa.heap.size 31 2 (.slice (some ⟨wa.heap.size + 1 + 1 + 1 + 1 + 1 + 1 + 1, 0, none⟩) 2 2) 2 [.string ⟨#[83]⟩, .slice (some ⟨wa.heap.size + 1 + 1 + 1, 0, none⟩) 1 1, .string ⟨#[84]⟩, .slice (some ⟨wa.heap.size + 1 + 1 + 1 + 1 + 1 + 1, 0, none⟩) 1 1] := owns_exact LL.n7 rfl (by unfold maxLen; omega) (by omega)
                obtain ⟨gg, cap1, w2, hrun, hown1, hgrow, hat, hl2⟩ := run_append_lies (P := Try.prog) (X.alloc (.cells #[.string ⟨#[84]⟩, .slice none 0 0, .string ⟨#[83]⟩, .slice none 0 0] 31)) 25 25 wa.heap.size 31 i _ 2 40 Try.underlying25 hi0 hz0 hz1 hz2 rfl (by omega) (.slice (some ⟨wa.heap.size + 1 + 1 + 1 + 1 + 1 + 1 + 1, 0, none⟩) 2 2) 2 _ (hown0.alloc _) ⟨X.heap.size, 0, none⟩ 2 2 [.string ⟨#[84]⟩, .slice none 0 0, .string ⟨#[83]⟩, .slice none 0 0] rfl (World.news_of_block (cs := #[.string ⟨#[84]⟩, .slice none 0 0, .string ⟨#[83]⟩, .slice none 0 0]) (t := 31) (fr := (0, 0)) (heap_alloc_new X _)) (by simp [Value.oneCell']) (by omega) (by unfold maxLen; omega) (by omega) (by simp; omega) (X.heap.size + 1) (by simp)
                have hg' : (X.alloc (.cells #[.string ⟨#[84]⟩, .slice none 0 0, .string ⟨#[83]⟩, .slice none 0 0] 31)).grownBy w2 (some (wa.heap.size + 1 + 1 + 1 + 1 + 1 + 1 + 1)) := hgrow
                have FIN : Hid (WA wa b16 b8 b4 b2 true vS (.slice (some ⟨gg, 0, none⟩) 4 cap1) vI vA (w2.setCell ⟨wa.heap.size + 1 + 1 + 1 + 1 + 1 + 1 + 1 + 1, 1, none⟩ (.slice (some ⟨gg, 0, none⟩) 4 cap1))) := LL.t1 hg' (Nat.le_refl _) hown1 hat
                have x8 := cellW ((far_cell hg' q8 (by omega)).trans LL.o.n8) 1 rfl
                have y8 := frzW ((far_cell hg' q8 (by omega)).trans LL.o.n8) 1
                clear hown1 hgrow hg' hat hl2 hown0 LL
                go_wp2_with (at_builtin; refine wpList_run_append rfl _ _ 25 rfl _ _ rfl rfl hrun ?_)
                go_meet
                case rel => exact ⟨rfl, rfl, _, FIN⟩
            case rest =>
              obtain ⟨rfl, rfl, vD, H5⟩ := hcut
              obtain ⟨X, hX⟩ : ∃ X, X = wc := ⟨_, rfl⟩
              subst hX
              have HB := wr_all b16 b8 b4 b2 b1
              unfold wrB at HB
              rw [Bool.and_eq_true] at HB
              obtain ⟨hs, hb⟩ := HB
              have c8 := cellW H5.out.o.n8 0 rfl
              have d8 := cellW H5.out.o.n8 1 rfl
              have BW : Hid (Below w.heap.size w X) := B0.out.trans (H5.out.o.bl.mono B0.out.size)
              obtain ⟨Wn, hWn⟩ : ∃ Wn, Wn = wantW b16 b8 b4 b2 b1 := ⟨_, rfl⟩
              obtain ⟨Qn, hQn⟩ : ∃ Qn, Qn = whoW b8 b4 b2 b1 := ⟨_, rfl⟩
              rw [← hWn, ← hQn] at hb
              rw [← hWn, ← hQn]
              have RW := H5.out.raw
              cases hbt : buildT (wrR b16 b8 b4 b2 b1) with
              | error e =>
                obtain ⟨n, x⟩ := e
                rw [hbt] at hb
                simp only [Bool.and_eq_true, decide_eq_true_eq, Bool.not_eq_true', decide_eq_false_iff_not] at hb
                obtain ⟨h1, h2, h3⟩ := hb
                have h1' := bytes_eq h1
                subst h1' h2
                have BE := build_err hbt hs _ _ X RW.1 RW.2
                have h4 : ((x : Int) == 0) = false := by rw [beq_eq_false_iff_ne]; omega
                have h5 : ¬ ((x : Int) = 0) := by omega
                clear hbt hs h1 hWn hQn RW
                go_wp2_with (first | (go_at_call 10; refine BE.mono ?_; rintro e w5 ⟨rfl, b5⟩) | (go_at_call 11; refine (num_any _ _).mono ?_; rintro e wn ⟨rfl, rfl⟩))
                go_ret
                exact ⟨rfl, (BW.out.trans (b5.out.mono BW.out.size)).alloc (Nat.le_trans BW.out.size b5.out.size) _⟩
              | ok g =>
                rw [hbt] at hb
                simp only [Bool.and_eq_true, decide_eq_true_eq] at hb
                obtain ⟨h1, h2, h3⟩ := hb
                have h2' : Qn = ⟨#[]⟩ := bytes_eq h2
                subst h1 h2'
                have BO := build_ok hbt hs _ _ X RW.1 RW.2
                rw [h3] at BO
                clear hbt hs h2 hWn hQn RW h3
                go_wp2_with (first | (go_at_call 10; refine BO.mono ?_; rintro e w5 ⟨p1, c1, p2, c2, F', rfl, -, b5, -⟩) | (go_at_call 11; refine (num_any _ _).mono ?_; rintro e wn ⟨rfl, rfl⟩))
                go_ret
                exact ⟨rfl, (BW.out.trans (b5.out.mono BW.out.size)).alloc (Nat.le_trans BW.out.size b5.out.size) _⟩
end Go.Proofs.Yteafdfalgeeheaa
