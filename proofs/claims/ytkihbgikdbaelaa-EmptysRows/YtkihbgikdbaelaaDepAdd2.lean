/- add, walked. -/
import Derived.Test.YtkihbgikdbaelaaDepAdd
namespace Go.Proofs.Ytkihbgikdbaelaa
set_option linter.unusedVariables false
open Go.ChangeShapes Go.WideShapes Go.ChangeAt Go.RowKit Go.Maps

theorem Try.zeroUnit (w : World) : (zeroValue 106).run Try.prog w = .ok (.agg #[]) w := by kernel_rfl
theorem Try.underEd : Try.prog.underlying 71 = some (.map 63 106) := by kernel_rfl
theorem Try.infoEd : (Try.prog.info? 63).map (fun i => (i.zero, i.size, i.bytes)) = some (some (.agg #[.int .i64 0, .int .i64 0, .bool false]), 3, 24) := by kernel_rfl
theorem belE_alloc {W w' : World} {o : Obj} (h : Below W.heap.size W w') : Below W.heap.size W (w'.alloc o) := h.alloc h.size o
theorem look_ed {w : World} {M : Nat} {l : List Ed} (h : EdMap w M l) (e : Ed) (he : okE e) : (Instr.lookup 71 (.map (some M)) (edA e) true).run Try.prog w = .ok (.tuple #[.agg #[], .bool (decide (e ∈ l))]) w := by
  obtain ⟨D, ho, hm, hd⟩ := h
  obtain ⟨v, ps, hr, hv⟩ := ho.look_ok Try.keyedEd Try.underEd (Try.zeroUnit w) unitElem_mk (key_ed e he)
  obtain ⟨rfl, _⟩ := unitElem_inv hv
  rw [hr, hd e he]
set_option maxHeartbeats 8000000 in
set_option maxRecDepth 100000 in
theorem addEd_any {B b M : Nat} {l : List Ed} {w : World} (e : Ed) (h : Es B b M l w) (he : okE e) (hl : l.length ≤ 100000) :
    Calls Try.prog 42 #[.pointer (some ⟨b, 0, none⟩), edA e] w fun x w' => x = .returned (.tuple #[]) ∧ Hid (Es B b M (addE l e) w') ∧ Hid (Ek b M w w') := by
  obtain ⟨x1, x2, x3⟩ := e
  obtain ⟨W1, hW1⟩ : ∃ W1, W1 = w.alloc (.cells #[.int .i64 x1, .int .i64 x2, .bool x3] 63) := ⟨_, rfl⟩
  have bW1 : Below w.heap.size w W1 := by rw [hW1]; exact bel1 _ _
  have hz : W1.heap.size = w.heap.size + 1 := by rw [hW1]; simp
  have q1 : ∀ j, W1.cell? ⟨w.heap.size, j, none⟩ = (#[.int .i64 x1, .int .i64 x2, .bool x3] : Array Value)[j]? := fun j => by rw [hW1]; exact World.cell?_alloc_at _ _ _ _ rfl
  have E1 := h.keep bW1
  have HSS : Hid (∀ w', Below W1.heap.size W1 w' → (Below W1.heap.size W1 w' ∧ w'.cell? ⟨b, 1, none⟩ = some (.map (some M)) ∧ w'.cell? ⟨w.heap.size, 0, none⟩ = some (.int .i64 x1) ∧ w'.cell? ⟨w.heap.size, 1, none⟩ = some (.int .i64 x2) ∧ w'.cell? ⟨w.heap.size, 2, none⟩ = some (.bool x3) ∧ (Instr.lookup 71 (.map (some M)) (.agg #[.int .i64 x1, .int .i64 x2, .bool x3]) true).run Try.prog w' = .ok (.tuple #[.agg #[], .bool (decide ((x1, x2, x3) ∈ l))]) w')) := fun w' hb => by
    have E2 := E1.keep hb
    obtain ⟨_, _, _, hm, v, hbb, _⟩ := E2
    exact ⟨hb, by rw [Lib.cell_of_heap hbb]; rfl, (hb.cell (p := ⟨_, _, none⟩) (by simp; omega)).trans (q1 0), (hb.cell (p := ⟨_, _, none⟩) (by simp; omega)).trans (q1 1), (hb.cell (p := ⟨_, _, none⟩) (by simp; omega)).trans (q1 2), look_ed hm (x1, x2, x3) he⟩
  have HE : Hid (Es B b M l w) := h
  have HB1 : Hid (Below w.heap.size w W1) := bW1
  cases hin : decide ((x1, x2, x3) ∈ l) with
  | true =>
    rw [hin] at HSS
    rw [show addE l (x1, x2, x3) = l from if_pos (of_decide_eq_true hin)]
    show Calls Try.prog 42 #[.pointer (some ⟨b, 0, none⟩), .agg #[.int .i64 x1, .int .i64 x2, .bool x3]] w _
    go_enter Try.func42, Try.ntmps42
    go_wp2
    rw [← hW1]
    clear q1 bW1 E1 h hW1
    go_region_held3 (fun w' => Below W1.heap.size W1 w' ∧ w'.cell? ⟨b, 1, none⟩ = some (.map (some M)) ∧ w'.cell? ⟨w.heap.size, 0, none⟩ = some (.int .i64 x1) ∧ w'.cell? ⟨w.heap.size, 1, none⟩ = some (.int .i64 x2) ∧ w'.cell? ⟨w.heap.size, 2, none⟩ = some (.bool x3) ∧ (Instr.lookup 71 (.map (some M)) (.agg #[.int .i64 x1, .int .i64 x2, .bool x3]) true).run Try.prog w' = .ok (.tuple #[.agg #[], .bool true]) w')
      ((refine HSS.out _ ?_; (repeat' (first | with_reducible assumption | with_reducible exact Below.refl _ _ | with_reducible apply Below.drew | with_reducible apply belE_alloc)); all_goals omega))
      (fail)
    all_goals
      go_wp2
      refine bodyPost_ret (v := .tuple #[]) (results_none rfl _ _ _) rfl ?_
      refine ⟨rfl, HE.out.keep (HB1.out.trans (Below.mono ?_ HB1.out.size)), Ek.below (HB1.out.trans (Below.mono ?_ HB1.out.size)) HE.out.lt⟩
      all_goals repeat' (first | exact Below.refl _ _ | apply Below.drew | apply belE_alloc)
  | false =>
    rw [hin] at HSS
    rw [show addE l (x1, x2, x3) = l ++ [(x1, x2, x3)] from if_neg (of_decide_eq_false hin)]
    show Calls Try.prog 42 #[.pointer (some ⟨b, 0, none⟩), .agg #[.int .i64 x1, .int .i64 x2, .bool x3]] w _
    go_enter Try.func42, Try.ntmps42
    go_wp2
    rw [← hW1]
    clear q1 bW1 E1 h hW1
    go_cut [4, 5] from 6 (fun p x wc => (∃ q, p = .pointer (some ⟨q, 0, none⟩)) ∧ x = .bool false ∧ Hid (Below W1.heap.size W1 wc))
    case first =>
      go_region_held3 (fun w' => Below W1.heap.size W1 w' ∧ w'.cell? ⟨b, 1, none⟩ = some (.map (some M)) ∧ w'.cell? ⟨w.heap.size, 0, none⟩ = some (.int .i64 x1) ∧ w'.cell? ⟨w.heap.size, 1, none⟩ = some (.int .i64 x2) ∧ w'.cell? ⟨w.heap.size, 2, none⟩ = some (.bool x3) ∧ (Instr.lookup 71 (.map (some M)) (.agg #[.int .i64 x1, .int .i64 x2, .bool x3]) true).run Try.prog w' = .ok (.tuple #[.agg #[], .bool false]) w')
      ((refine HSS.out _ ?_; (repeat' (first | with_reducible assumption | with_reducible exact Below.refl _ _ | with_reducible apply Below.drew | with_reducible apply belE_alloc)); all_goals omega))
        (fail)
      all_goals
        go_wp2
        go_meet
        case rel => exact ⟨⟨_, rfl⟩, rfl, by repeat' (first | exact Below.refl _ _ | apply Below.drew | apply belE_alloc)⟩
    case rest =>
      obtain ⟨⟨q, rfl⟩, rfl, HW2⟩ := hcut
      obtain ⟨V, hV⟩ : ∃ V, V = wc := ⟨_, rfl⟩
      subst hV
      obtain ⟨-, y1, z0, z1, z2, -⟩ := HSS.out _ HW2.out
      have HB2 : Hid (Below w.heap.size w V) := HB1.out.trans (HW2.out.mono HB1.out.size)
      have E2 := HE.out.keep HB2.out
      have HE2 : Hid (Es B b M l V) := E2
      obtain ⟨_, _, hok, ⟨D, hown, hD, hd⟩, v, hbb, hrow⟩ := E2
      have hkey : keyOf Try.prog 63 (.agg #[.int .i64 x1, .int .i64 x2, .bool x3]) = some (edLit (x1, x2, x3)) := key_ed (x1, x2, x3) he
      have hlm : l.length < maxLen := by unfold maxLen; omega
      have HP : Hid (∀ w3, w3.ownsMap Try.prog 63 unitElem M (l.length + 1) (D.put (edLit (x1, x2, x3)) (.agg [])) → EdMap w3 M (l ++ [(x1, x2, x3)])) := fun w3 h3 => EdMap.put hD hd he hok h3
      have HRW : Hid (V.ownsRow B 63 3 v l.length (edsV l)) := hrow
      have HBB : Hid (V.heap[b]? = some (.cells #[v, .map (some M)] 73)) := hbb
      obtain ⟨w3, hrun, hown3, hturn3⟩ := hown.drew.store (val := .agg #[]) Try.keyedEd Try.underEd hlm hkey unitElem_mk
      clear hok hd hD hrow hbb HSS
      go_wp2
      go_cut [] from 16 (fun w3 => Hid (V.drew.mapTurned w3 M) ∧ Hid (EdMap w3 M (l ++ [(x1, x2, x3)])))
      case first =>
        go_region
        all_goals
          go_wp2
          go_meet
          case rel => exact ⟨hturn3, HP.out _ hown3⟩
      case rest =>
        obtain ⟨HT3, HM3⟩ := hcut
        obtain ⟨w3, hV3⟩ : ∃ w3, w3 = wc := ⟨_, rfl⟩
        subst hV3
        clear hown hkey HP
        have tg := HT3.out.grown
        have hbM : b ≠ M := fun e => by
          obtain ⟨es1, c1, es2, c2, hx, _⟩ := HT3.out
          rw [← e] at hx
          have := HBB.out.symm.trans hx
          cases this
        have hblt : b < V.heap.size := HE2.out.lt
        have hzl : w.heap.size < V.heap.size := by have := HW2.out.size; omega
        have hzM : w.heap.size ≠ M := fun e => by
          have := HE.out.2.2.2.1.lt
          omega
        have hb3 : w3.heap[b]? = some (.cells #[v, .map (some M)] 73) := (tg.block b hblt (fun e => hbM (by injection e))).trans HBB.out
        have hr3 : w3.ownsRow B 63 3 v l.length (edsV l) := HRW.out.kept (w' := w3) ⟨tg.os, tg.tape, tg.output, tg.size, tg.block⟩ (Or.inr (HE2.out.2.2.2.1.not_row HRW.out))
        obtain ⟨pv, cv, hv⟩ := row_slice hr3
        subst hv
        have hne : (Value.slice pv l.length cv).ownBlock ≠ some b := own_ne hr3 hb3 (by decide)
        have hnz : (Value.slice pv l.length cv).ownBlock ≠ some w.heap.size := fun e => by
          have q1 : rowAt b w = some w.heap.size := by rw [← rowAt_below HB2.out HE.out.lt, rowAt_eq HBB.out]; exact e
          have := (HE.out.row q1).2.1
          omega
        have z3 := tg.size
        have c0 : w3.cell? ⟨b, 0, none⟩ = some (.slice pv l.length cv) := by rw [Lib.cell_of_heap hb3]; rfl
        have k0 : w3.cell? ⟨w.heap.size, 0, none⟩ = some (.int .i64 x1) := (tg.cell_far ⟨w.heap.size, 0, none⟩ (by simpa using hzl) (fun e => hzM (by injection e))).trans z0
        have k1 : w3.cell? ⟨w.heap.size, 1, none⟩ = some (.int .i64 x2) := (tg.cell_far ⟨w.heap.size, 1, none⟩ (by simpa using hzl) (fun e => hzM (by injection e))).trans z1
        have k2 : w3.cell? ⟨w.heap.size, 2, none⟩ = some (.bool x3) := (tg.cell_far ⟨w.heap.size, 2, none⟩ (by simpa using hzl) (fun e => hzM (by injection e))).trans z2
        have f0 : w3.frozen? ⟨b, 0, none⟩ = false := by unfold World.frozen?; rw [hb3]; simp
        obtain ⟨i, hi0, hz0, hz1, hz2⟩ := info_parts Try.infoEd
        have hA : l.length + 1 ≤ maxLen := by unfold maxLen; omega
        have hB' : (l.length + 1) * 24 ≤ 140737488355328 := by omega
        have R3 : Hid (w3.ownsRow B 63 3 (.slice pv l.length cv) l.length (edsV l)) := hr3
        have hlt3 : b < w3.heap.size := Nat.lt_of_lt_of_le hblt z3
        have hBw : B ≤ w3.heap.size := by have := HE.out.1; omega
        have cz0 : ∀ o, (w3.alloc o).cell? ⟨b, 0, none⟩ = some (.slice pv l.length cv) := fun o => (World.cell?_alloc_past _ _ _ hlt3).trans c0
        have fz0 : ∀ o, (w3.alloc o).frozen? ⟨b, 0, none⟩ = false := fun o => (World.frozen?_alloc_past _ _ _ hlt3).trans f0
        have HB2d : Hid (Below w.heap.size w V.drew) := HB2.out.drew
        have HRW2 : Hid (V.drew.ownsRow B 63 3 (.slice pv l.length cv) l.length (edsV l)) := HRW.out
        clear hb3 hr3 tg hlm y1 z0 z1 z2 hz hnz hzl hzM hbM HW2 HB1 HE2 HB2 HRW
        go_wp2_with fail
        go_region_law
          ((refine step_append_lies _ (by rfl) _ _ _ (by rfl) B 63 i _ 3 24 Try.underlying59 hi0 hz0 hz1 hz2 rfl (by omega) (.slice pv l.length cv) l.length (edsV l) (by rfl) ((R3.out.alloc _).drew)
              ⟨w3.heap.size, 0, none⟩ 1 1 [.int .i64 x1, .int .i64 x2, .bool x3] (by rfl) (by rfl) (World.news_of_block (cs := #[.int .i64 x1, .int .i64 x2, .bool x3]) (t := 63) (fr := (0, 0)) (heap_alloc_new w3 _)) (by simp [Value.oneCell'])
              (by omega) hA hB' (by simp; omega) (w3.heap.size + 1) (by simp) ?_; intro gg cap1 w5 hown5 hgrow hat hltg
            have d0 : w5.cell? ⟨b, 0, none⟩ = some (.slice pv l.length cv) := (hgrow.cell_far ⟨b, 0, none⟩ (by simp; omega) (Ne.symm hne)).trans (cz0 _)
            have df0 : w5.frozen? ⟨b, 0, none⟩ = false := (hgrow.frozen_far ⟨b, 0, none⟩ (by simp; omega) (Ne.symm hne)).trans (fz0 _)))
        all_goals
          have hg' : (w3.alloc (.cells #[.int .i64 x1, .int .i64 x2, .bool x3] 63)).grownBy w5 (Value.slice pv l.length cv).ownBlock := ⟨hgrow.os, hgrow.tape, hgrow.output, hgrow.size, hgrow.block⟩
          have FIN := Es.fin (e := (x1, x2, x3)) HE.out he HB2d.out HBB.out HRW2.out HT3.out HM3.out (bel1 w3 (.cells #[.int .i64 x1, .int .i64 x2, .bool x3] 63)) hg' hown5 hat (by simp)
          have F1 : Hid _ := FIN.1
          have F2 : Hid _ := FIN.2
          clear hg' hown5 hgrow hat FIN
          go_wp2
          go_end0
          exact ⟨rfl, F1, F2⟩
end Go.Proofs.Ytkihbgikdbaelaa
