/- The document's Parse, walked whole. -/
import Derived.Test.YtdlpmefdeeokhaaParG
import Derived.Test.YtdlpmefdeeokhaaLexDoc
namespace Go.Proofs.Ytdlpmefdeeokhaa
set_option linter.unusedVariables false
set_option linter.unusedSimpArgs false
open Go.ChangeShapes Go.WideShapes Go.ChangeAt Go.RowKit

theorem parseL_ok (n : Nat) (l : List Tok) : parseL n (.ok l) = rs n l ⟨0, [], [], ⟨#[]⟩, ⟨#[]⟩, [], [], false, []⟩ 0 := rfl
theorem rs_end {n : Nat} {ts : List Tok} {S : List ByteArray} {D : List Df} {sn nm : ByteArray} {k : Nat} (hk : ts.length ≤ k) : rs n ts ⟨0, S, D, sn, nm, [], [], false, []⟩ k = .ok ⟨S, D⟩ := by
  unfold rs
  rw [List.drop_eq_nil_of_le hk]
  rfl
theorem Rz.new {pb : Nat} {W0 : World} (hp : pb < W0.heap.size) : Rz pb W0 [] [] none 0 0 none 0 0 [] (fun _ => False) (W0.alloc (.cells #[.slice none 0 0, .slice none 0 0] 25)) :=
  ⟨Bx.of (bel1 _ _), heap_alloc_new _ _, World.ownsRow_nil _ _ _ _, World.ownsRow_nil _ _ _ _, ⟨rfl, fun k d u h => by simp at h⟩, fun b h => h.elim, hp, rfl, rfl⟩
/-- What is declared at the end. -/
theorem Rz.raw {pb m1 m2 c1 c2 : Nat} {W0 V : World} {S : List ByteArray} {D : List Df} {p1 p2 : Option Addr} {vs : List Value} {F : Nat → Prop} (d : Rz pb W0 S D p1 m1 c1 p2 m2 c2 vs F V) : RawIs V (fun b => W0.heap.size ≤ b ∧ b < V.heap.size) (.slice p1 m1 c1) (.slice p2 m2 c2) ⟨S, D⟩ := by
  refine ⟨?_, vs, ?_, d.din.keep ⟨Nat.le_refl _, fun _ _ => rfl⟩ (fun b hb => ⟨by have := (d.fl b hb).1; omega, (d.fl b hb).2.1⟩)⟩
  · show Reads _ _ _ S.length _
    rw [← d.l1]; exact Reads.of d.os (fun b e => d.os.lt b e)
  · rw [show (⟨S, D⟩ : Rw).defs.length = D.length from rfl, ← d.l2]; exact Reads.of d.od (fun b e => d.od.lt b e)
set_option maxHeartbeats 16000000 in
set_option maxRecDepth 100000 in
theorem rparse_any (s : ByteArray) (w : World) (hs0 : s.size ≤ maxLen) : Calls Try.prog 5 #[.string s] w (ParseEnd w (parseT s)) := by
  have hs1 := hs0
  unfold maxLen at hs1
  by_cases hs : s.size ≤ 65536
  · have E : parseT s = parseL s.size (lexT s) := if_neg (by omega)
    have hsI : ¬ (65536 : Int) < (s.size : Int) := by omega
    have KL := rlex_any s (w.alloc (.cells #[.slice none 0 0, .slice none 0 0] 25)) hs0
    have HX0 : Hid ((w.alloc (.cells #[.slice none 0 0, .slice none 0 0] 25)).heap[w.heap.size]? = some (.cells #[.slice none 0 0, .slice none 0 0] 25)) := heap_alloc_new _ _
    rw [E]
    clear E
    cases hL : lexT s with
    | error pe =>
      obtain ⟨lp, le⟩ := pe
      have hx : ((le : Int) != 0) = true := by
        have h := lexErrK hL
        rcases h with h | h <;> subst h <;> rfl
      rw [hL] at KL
      have KL2 : Calls Try.prog 12 #[.string s] (w.alloc (.cells #[.slice none 0 0, .slice none 0 0] 25)) fun e w' => ∃ p c, e = .returned (.tuple #[.slice p 0 c, .int .i64 (lp : Int), .int .i64 (le : Int)]) ∧ Hid (Below (w.heap.size + 1) (w.alloc (.cells #[.slice none 0 0, .slice none 0 0] 25)) w') := by
        refine KL.mono fun e w' h => ?_
        obtain ⟨v, h1, h2, h3⟩ := h
        have e1 : (w.alloc (.cells #[.slice none 0 0, .slice none 0 0] 25)).heap.size = w.heap.size + 1 := by simp
        rw [e1] at h3
        obtain ⟨p, c, hv⟩ := row_slice h2
        subst hv
        exact ⟨p, c, h1, h3⟩
      show Calls _ _ _ _ (ParseEnd w (.error (lp, 300)))
      clear hL KL
      go_enter Try.func5, Try.ntmps5
      go_wp2_with (go_at_call 12; refine KL2.mono ?_; rintro e w2 ⟨tp, tc, rfl, b2⟩; have hq := (b2.out.block w.heap.size (Nat.lt_succ_self _)).trans HX0.out; have HQ := hid_ofP hq; have q0 : w2.cell? ⟨w.heap.size, 0, none⟩ = some (.slice none 0 0) := cellP hq 0; have q1 : w2.cell? ⟨w.heap.size, 1, none⟩ = some (.slice none 0 0) := cellP hq 1; have f0 : w2.frozen? ⟨w.heap.size, 0, none⟩ = false := frzP hq 0; have f1 : w2.frozen? ⟨w.heap.size, 1, none⟩ = false := frzP hq 1; clear hq)
      have hS := set2 HQ.out (.slice none 0 0) (.slice none 0 0)
      have g0 := cellP hS 0
      have g1 := cellP hS 1
      have hB := (bel1 w (.cells #[.slice none 0 0, .slice none 0 0] 25)).trans (b2.out.mono (Nat.le_succ _))
      refine bodyPost_ret (v := .tuple #[.agg #[.slice none 0 0, .slice none 0 0], .int .i64 (lp : Int), .int .i64 300]) (by simp [results, Try.results5, go_sem, g0, g1]) rfl ?_
      exact ⟨_, _, fun _ => False, rfl, fun b h => h.elim, raw_nil _ _, (hB.setCell (p := ⟨w.heap.size, 0, none⟩) (Nat.le_refl _) _).setCell (p := ⟨w.heap.size, 1, none⟩) (Nat.le_refl _) _⟩
    | ok ts =>
      have hM := lexLenOk hL
      rw [hL] at KL
      have KL2 : Calls Try.prog 12 #[.string s] (w.alloc (.cells #[.slice none 0 0, .slice none 0 0] 25)) fun e w' => ∃ p c, e = .returned (.tuple #[.slice p ts.length c, .int .i64 0, .int .i64 0]) ∧ Hid (w'.ownsRow (w.heap.size + 1) 49 5 (.slice p ts.length c) ts.length (toksV ts)) ∧ Hid (Below (w.heap.size + 1) (w.alloc (.cells #[.slice none 0 0, .slice none 0 0] 25)) w') := by
        refine KL.mono fun e w' h => ?_
        obtain ⟨v, h1, h2, h3⟩ := h
        have e1 : (w.alloc (.cells #[.slice none 0 0, .slice none 0 0] 25)).heap.size = w.heap.size + 1 := by simp
        rw [e1] at h2 h3
        obtain ⟨p, c, hv⟩ := row_slice h2
        subst hv
        exact ⟨p, c, h1, h2, h3⟩
      rw [parseL_ok]
      obtain ⟨R, hR⟩ : ∃ R, R = rs s.size ts ⟨0, [], [], ⟨#[]⟩, ⟨#[]⟩, [], [], false, []⟩ 0 := ⟨_, rfl⟩
      rw [← hR]
      have HR : Hid (rs s.size ts ⟨0, [], [], ⟨#[]⟩, ⟨#[]⟩, [], [], false, []⟩ 0 = R) := hR.symm
      obtain ⟨N, hN⟩ : ∃ N, N = ts.length := ⟨_, rfl⟩
      have HN : Hid (N = ts.length) := hN
      rw [← hN] at KL2 hM
      clear hR hN hL KL
      go_enter Try.func5, Try.ntmps5
      go_upto_region 8 with (go_at_call 12; refine KL2.mono ?_; rintro e w2 ⟨tp, tc, rfl, ow, b2⟩)
      -- where all stands
      obtain ⟨pb, hpb⟩ : ∃ x, x = w2.heap.size := ⟨_, rfl⟩
      obtain ⟨W0, hW0⟩ : ∃ x, x = w2.alloc (.cells #[.slice tp N tc, .int .i64 0] 55) := ⟨_, rfl⟩
      have hs2 := b2.out.size
      have hw0 : W0.heap.size = w2.heap.size + 1 := by rw [hW0]; simp
      have hB0 : Below w2.heap.size w2 W0 := by rw [hW0]; exact bel1 _ _
      have HZ0 : Hid (Zs pb tp N tc ts 0 W0) := by
        refine ⟨by rw [hpb, hW0]; exact heap_alloc_new _ _, fun j t ht => ?_, Nat.zero_le _, HN.out, hM⟩
        have hj : j < N := by rw [HN.out]; exact (List.getElem?_eq_some_iff.1 ht).1
        have ow0 := row_keep ow.out hB0
        obtain ⟨h0, ⟨h1, _⟩ | ⟨g, cap, cur, h1, h2, h3, h4, h5⟩⟩ := id ow.out
        · omega
        · injection h1 with h1 _ _
          obtain ⟨a0, a1, a2, a3, a4⟩ := toksV_at ts j t ht
          have hgl : g < w2.heap.size := (Array.getElem?_eq_some_iff.1 h3).1
          subst h1
          exact ⟨g, rfl, by omega, by omega, (ow0.cellAt _ (by omega)).trans a0, (ow0.cellAt _ (by omega)).trans a1, (ow0.cellAt _ (by omega)).trans a2, (ow0.cellAt _ (by omega)).trans a3, (ow0.cellAt _ (by omega)).trans a4⟩
      have HRZ : Hid (Rz pb W0 [] [] none 0 0 none 0 0 [] (fun _ => False) (W0.alloc (.cells #[.slice none 0 0, .slice none 0 0] 25))) := Rz.new (by omega)
      have HZ1 : Hid (Zs pb tp N tc ts 0 (W0.alloc (.cells #[.slice none 0 0, .slice none 0 0] 25))) := HZ0.out.keep (bel1 _ _)
      have HW0 : Hid (Below w.heap.size w W0 ∧ w.heap.size < pb ∧ pb < W0.heap.size) := by
        simp at hs2
        refine ⟨?_, by omega, by omega⟩
        have h1 := (bel1 w (.cells #[.slice none 0 0, .slice none 0 0] 25)).trans (b2.out.mono (by omega))
        exact h1.trans (hB0.mono (by omega))
      have HQ0 : Hid (W0.heap[w.heap.size]? = some (.cells #[.slice none 0 0, .slice none 0 0] 25)) := by
        show _ = _
        simp at hs2
        exact (hB0.block _ (by omega)).trans ((b2.out.block _ (by omega)).trans HX0.out)
      obtain ⟨V1, hV1⟩ : ∃ x, x = W0.alloc (.cells #[.slice none 0 0, .slice none 0 0] 25) := ⟨_, rfl⟩
      rw [show w2.heap.size + 1 = W0.heap.size from hw0.symm, ← hW0, ← hpb]
      rw [← hV1] at HRZ HZ1 ⊢
      have HTG : Hid (∀ g, tp = some ⟨g, 0, none⟩ → w.heap.size < g) := fun g e => by have := (ow.out.lt g (by rw [e]; rfl)).1; omega
      clear hV1 hpb hW0 hs2 hw0 hB0 ow b2 HX0
      go_loopg [] (N + 1) (fun gk wr => ∃ (kk : Nat) (S : List ByteArray) (D : List Df) (sn nm : ByteArray) (p1 : Option Addr) (m1 c1 : Nat) (p2 : Option Addr) (m2 c2 : Nat) (vs : List Value) (F : Nat → Prop), kk + gk = N + 1 ∧ kk ≤ N ∧ m1 ≤ kk ∧ m2 ≤ kk ∧ Hid (Zs pb tp N tc ts kk wr) ∧ Hid (Rz pb W0 S D p1 m1 c1 p2 m2 c2 vs F wr) ∧ Hid (rs s.size ts ⟨0, S, D, sn, nm, [], [], false, []⟩ kk = R))
      case atStart => exact ⟨0, [], [], ⟨#[]⟩, ⟨#[]⟩, none, 0, 0, none, 0, 0, [], _, by omega, Nat.zero_le _, Nat.le_refl _, Nat.le_refl _, HZ1, HRZ, HR⟩
      case round =>
        obtain ⟨kk, S, D, sn, nm, p1, m1, c1, p2, m2, c2, vs, F, hgk, hkN, hm1, hm2, HZk, HDk, HRk⟩ := hrel
        clear HZ1 HRZ HR
        obtain ⟨V, hV⟩ : ∃ x, x = wr := ⟨_, rfl⟩
        subst hV
        have z1 : V.cell? ⟨pb, 1, none⟩ = some (.int .i64 (kk : Int)) := cellP HZk.out.pz 1
        by_cases hlt : kk < N
        · have hltI : (kk : Int) < (N : Int) := by omega
          have KD := pDecl_any (n := s.size) HZ0.out HZk.out hlt HDk.out hm1 hm2 HRk.out
          have hpl := HW0.out.2.2
          have HSS : Hid (W0.heap.size = W0.heap.size) := rfl
          clear hlt
          go_upto_if 36 with (go_at_call 13; refine KD.mono ?_; rintro e w5 ⟨k5, ok, rfl, z5, dc⟩)
          clear KD z1
          cases ok with
          | true =>
            obtain ⟨hk5, S', D', sn', nm', p1', m1', c1', p2', m2', c2', vs', F', hm', hD', hR'⟩ := dc.out.1 rfl
            have HD' := hid_ofP hD'
            have HR' := hid_ofP hR'
            have hz5 := z5.out.hk
            clear dc hD' hR'
            go_wp2
            go_roundg (N + 1 - k5)
            case measure => omega
            case rel => exact ⟨k5, S', D', sn', nm', p1', m1', c1', p2', m2', c2', vs', F', by omega, hz5, hm'.1, hm'.2, z5, HD', HR'⟩
          | false =>
            obtain ⟨hE, hX⟩ := dc.out.2 rfl
            have HE := hid_ofP hE
            have hz5 := z5.out.hk
            have hB5 := hX.below HW0.out.1 (by have := HW0.out; omega) HW0.out.1.size
            have HB5 := hid_ofP hB5
            have hq := (hX.block w.heap.size (by have := HW0.out; omega) (by have := HW0.out; omega)).trans HQ0.out
            have HQ := hid_ofP hq
            have q0 : w5.cell? ⟨w.heap.size, 0, none⟩ = some (.slice none 0 0) := cellP hq 0
            have q1 : w5.cell? ⟨w.heap.size, 1, none⟩ = some (.slice none 0 0) := cellP hq 1
            have f0 : w5.frozen? ⟨w.heap.size, 0, none⟩ = false := frzP hq 0
            have f1 : w5.frozen? ⟨w.heap.size, 1, none⟩ = false := frzP hq 1
            have y1 : w5.cell? ⟨pb, 1, none⟩ = some (.int .i64 (k5 : Int)) := cellP z5.out.pz 1
            have hpw : ¬ pb = w.heap.size := by have := HW0.out; omega
            have hpw2 : ¬ w.heap.size = pb := by have := HW0.out; omega
            clear dc hE hX hB5 hq
            cases ht : ts[k5]? with
            | none =>
              obtain rfl : N = k5 := (z5.out.noT ht).symm
              have hlI : ¬ (N : Int) < (N : Int) := by omega
              have HE2 : Hid (R = .error (s.size, 300)) := by show _ = _; rw [HE.out]; unfold plc; rw [ht]
              clear ht HE
              go_wp2
              have hS := set2 HQ.out (.slice none 0 0) (.slice none 0 0)
              have g0 := cellP hS 0
              have g1 := cellP hS 1
              rw [HE2.out]
              refine bodyPost_ret (v := .tuple #[.agg #[.slice none 0 0, .slice none 0 0], .int .i64 (s.size : Int), .int .i64 300]) (by simp [results, Try.results5, go_sem, g0, g1]) rfl ?_
              exact ⟨_, _, fun _ => False, rfl, fun b h => h.elim, raw_nil _ _, (HB5.out.setCell (p := ⟨w.heap.size, 0, none⟩) (Nat.le_refl _) _).setCell (p := ⟨w.heap.size, 1, none⟩) (Nat.le_refl _) _⟩
            | some t =>
              obtain ⟨g, hg, -, hgp, -, y2, -⟩ := z5.out.tz k5 t ht
              subst hg
              have hl5 : k5 < N := z5.out.smT ht
              have hlI : (k5 : Int) < (N : Int) := by omega
              have hk0 : (0 : Int) ≤ (k5 : Int) := by omega
              have hgw : ¬ g = w.heap.size := by have := HTG.out g rfl; omega
              have HE2 : Hid (R = .error (t.pl, 300)) := by show _ = _; rw [HE.out]; unfold plc; rw [ht]
              obtain ⟨tp', htp⟩ : ∃ x, x = t.pl := ⟨_, rfl⟩
              rw [← htp] at HE2 y2
              clear ht HE htp
              go_upto_region 11 with fail
              go_region
              go_wp2
              have hS := set2 HQ.out (.slice none 0 0) (.slice none 0 0)
              have g0 := cellP hS 0
              have g1 := cellP hS 1
              rw [HE2.out]
              refine bodyPost_ret (v := .tuple #[.agg #[.slice none 0 0, .slice none 0 0], .int .i64 (tp' : Int), .int .i64 300]) (by simp [results, Try.results5, go_sem, g0, g1]) rfl ?_
              exact ⟨_, _, fun _ => False, rfl, fun b h => h.elim, raw_nil _ _, ((HB5.out.setCell (p := ⟨w.heap.size, 0, none⟩) (Nat.le_refl _) _).setCell (p := ⟨w.heap.size, 1, none⟩) (Nat.le_refl _) _).drew⟩
        · obtain rfl : N = kk := by omega
          have hltI : ¬ (N : Int) < (N : Int) := by omega
          have HE : Hid (R = .ok ⟨S, D⟩) := by show _ = _; rw [← HRk.out]; exact rs_end (by rw [← HN.out]; exact Nat.le_refl _)
          have r0 : V.cell? ⟨W0.heap.size, 0, none⟩ = some (.slice p1 m1 c1) := cellP HDk.out.rv 0
          have r1 : V.cell? ⟨W0.heap.size, 1, none⟩ = some (.slice p2 m2 c2) := cellP HDk.out.rv 1
          have hq := (HDk.out.xw.block w.heap.size (by have := HW0.out; omega) (by have := HW0.out; omega)).trans HQ0.out
          have HQ := hid_ofP hq
          have q0 : V.cell? ⟨w.heap.size, 0, none⟩ = some (.slice none 0 0) := cellP hq 0
          have q1 : V.cell? ⟨w.heap.size, 1, none⟩ = some (.slice none 0 0) := cellP hq 1
          have f0 : V.frozen? ⟨w.heap.size, 0, none⟩ = false := frzP hq 0
          have f1 : V.frozen? ⟨w.heap.size, 1, none⟩ = false := frzP hq 1
          clear hlt hq
          go_wp2
          have hS := set2 HQ.out (.slice p1 m1 c1) (.slice p2 m2 c2)
          have g0 := cellP hS 0
          have g1 := cellP hS 1
          rw [HE.out]
          refine bodyPost_ret (v := .tuple #[.agg #[.slice p1 m1 c1, .slice p2 m2 c2], .int .i64 0, .int .i64 0]) (by simp [results, Try.results5, go_sem, g0, g1]) rfl ?_
          have hw := HW0.out
          have hz : ((V.setCell ⟨w.heap.size, 0, none⟩ (.slice p1 m1 c1)).setCell ⟨w.heap.size, 1, none⟩ (.slice p2 m2 c2)).heap.size = V.heap.size := by simp [World.setCell]
          have st : ∀ b, b ≠ w.heap.size → ((V.setCell ⟨w.heap.size, 0, none⟩ (.slice p1 m1 c1)).setCell ⟨w.heap.size, 1, none⟩ (.slice p2 m2 c2)).heap[b]? = V.heap[b]? := fun b hb => (Go.Deep.blk_setCell_other _ ⟨w.heap.size, 1, none⟩ _ b hb).trans (Go.Deep.blk_setCell_other _ ⟨w.heap.size, 0, none⟩ _ b hb)
          have hR := HDk.out.raw
          have hSt : Stay (fun b => W0.heap.size ≤ b ∧ b < V.heap.size) V ((V.setCell ⟨w.heap.size, 0, none⟩ (.slice p1 m1 c1)).setCell ⟨w.heap.size, 1, none⟩ (.slice p2 m2 c2)) := ⟨by omega, fun b hb => st b (by have := hb.1; omega)⟩
          have hV := HDk.out.xw.below hw.1 (by omega) hw.1.size
          exact ⟨_, _, fun b => W0.heap.size ≤ b ∧ b < V.heap.size, rfl, fun b hb => ⟨by have := hb.1; omega, by have := hb.2; omega⟩, ⟨hR.1.keep hSt (fun _ h => h), hR.2.keep hSt (fun _ h => h)⟩, (hV.setCell (p := ⟨w.heap.size, 0, none⟩) (Nat.le_refl _) _).setCell (p := ⟨w.heap.size, 1, none⟩) (Nat.le_refl _) _⟩
  · have E : parseT s = .error (0, 301) := if_pos (by omega)
    rw [E]
    have hsI : (65536 : Int) < (s.size : Int) := by omega
    have n0 : (w.alloc (.cells #[.slice none 0 0, .slice none 0 0] 25)).cell? ⟨w.heap.size, 0, none⟩ = some (.slice none 0 0) := cellP (heap_alloc_new w _) 0
    have n1 : (w.alloc (.cells #[.slice none 0 0, .slice none 0 0] 25)).cell? ⟨w.heap.size, 1, none⟩ = some (.slice none 0 0) := cellP (heap_alloc_new w _) 1
    go_enter Try.func5, Try.ntmps5
    go_wp2
    refine bodyPost_ret (v := .tuple #[.agg #[.slice none 0 0, .slice none 0 0], .int .i64 0, .int .i64 301]) (by simp [results, Try.results5, go_sem, n0, n1]) rfl ?_
    exact ⟨_, _, fun _ => False, rfl, fun b h => h.elim, raw_nil _ _, bel1 _ _⟩
end Go.Proofs.Ytdlpmefdeeokhaa
