/- begin of the program: the work on an empty table. -/
import Derived.Test.YtfjejnkjlnkkhaaGreatDoorMeaBp
namespace Go.Proofs.YtfjejnkjlnkkhaaGreatDoor
set_option linter.unusedVariables false
set_option linter.unusedSimpArgs false
open Go.ChangeShapes Go.WideShapes Go.ChangeAt Go.RowKit Go.Maps

theorem Bg.ofK {N nr P n : Nat} {W : ByteArray} {st : Int} {v1 v2 v5 : Value} {w : World} {tb hb rb mb wb nb ab kb : Nat} {V : World} (em : Em N (N + P) n w tb hb rb mb V) (wc : V.heap[wb]? = some (rowsZ nr)) (nc : V.heap[nb]? = some (ndsZ nr)) (ac : V.heap[ab]? = some (rowsZ N)) (l1 : w.heap.size ≤ wb) (l2 : w.heap.size ≤ nb) (l3 : w.heap.size ≤ ab) (wa : wb ≠ ab) (hk : V.heap.size = kb) :
    Bg N nr P n W st v1 v2 v5 w tb hb rb mb wb nb ab kb (V.alloc (.cells #[.pointer (some ⟨tb, 0, none⟩), .int .i64 st, v1, v2, .string W, v5, .slice (some ⟨wb, 0, none⟩) nr nr, .slice (some ⟨nb, 0, none⟩) nr nr, .slice (some ⟨ab, 0, none⟩) N N] 72)) := hk ▸ Bg.of em wc nc ac ⟨l1, l2, l3⟩ wa
theorem hpNew {w : World} {o : Obj} {k : Nat} (h : w.heap.size = k) : (w.alloc o).heap[k]? = some o := h ▸ heap_alloc_new w o
theorem hpOld {w : World} {o x : Obj} {k : Nat} (h : w.heap[k]? = some x) : (w.alloc o).heap[k]? = some x := ((bel1 w o).block k (Array.getElem?_eq_some_iff.1 h).1).trans h
theorem hpDrew {w : World} {x : Obj} {k : Nat} (h : w.heap[k]? = some x) : w.drew.heap[k]? = some x := h
theorem hpBel {w w' : World} (hb : Below w.heap.size w w') {x : Obj} {k : Nat} (h : w.heap[k]? = some x) : w'.heap[k]? = some x := (hb.block k (Array.getElem?_eq_some_iff.1 h).1).trans h
set_option maxHeartbeats 8000000 in
set_option maxRecDepth 100000 in
theorem begin_any (g : Gr) (W : ByteArray) (v1 v2 : Value) (w : World) {F : Nat → Prop} (hg : GrIs w F v1 v2 g) (hl : ∀ s, s ∈ g.names → s.size ≤ maxLen) (hSh : Short g.rules) (hM : mayG g = true) {f : Nat → Nat} (hgo : GrOk g f) (hn : W.size ≤ 32) :
    Calls Tryz.prog 28 #[.agg #[.int .i64 g.start, v1, v2], .string W] w fun e w' => ∃ (F' : Nat → Prop) (D : Md) (mb : Nat), e = .returned (.pointer (some ⟨D.kb, 0, none⟩)) ∧ Hid (Be F' g W D mb w w') := by
  obtain ⟨V, hV⟩ : ∃ V, V = w.alloc (.cells #[.int .i64 g.start, v1, v2] 25) := ⟨_, rfl⟩
  obtain ⟨gb, hgb⟩ : ∃ gb, gb = w.heap.size := ⟨_, rfl⟩
  have hVb : Below w.heap.size w V := by rw [hV]; exact bel1 _ _
  have u0 : V.cell? ⟨gb, 0, none⟩ = some (.int .i64 g.start) := by rw [hgb, hV]; exact World.cell?_alloc_at _ _ _ _ rfl
  have u1 : V.cell? ⟨gb, 1, none⟩ = some v1 := by rw [hgb, hV]; exact World.cell?_alloc_at _ _ _ _ rfl
  have u2 : V.cell? ⟨gb, 2, none⟩ = some v2 := by rw [hgb, hV]; exact World.cell?_alloc_at _ _ _ _ rfl
  have KP := places_ok g v1 v2 V ⟨Reads.any hg.1 hVb, hg.2.any hVb⟩ hl hSh hM
  obtain ⟨pr, cr, e2⟩ := lngR hg.2
  obtain ⟨pn, cn, e1, -⟩ := hg.1
  have HG : Hid (IsRus w F v2 g.rules) := hg.2
  have HGO : Hid (GrOk g f) := hgo
  have hpl : (ruP 0 g.rules).length ≤ 133120 := hgo.pl.len
  have hNl := hgo.nn
  have hrl := hgo.pl.1
  obtain ⟨P, hP⟩ : ∃ P, P = (ruP 0 g.rules).length := ⟨_, rfl⟩
  have HP : Hid (P = (ruP 0 g.rules).length) := hP
  obtain ⟨N, hN⟩ : ∃ N, N = g.names.length := ⟨_, rfl⟩
  have HN : Hid (N = g.names.length) := hN
  obtain ⟨nr, hnr⟩ : ∃ nr, nr = g.rules.length := ⟨_, rfl⟩
  have HNR : Hid (nr = g.rules.length) := hnr
  have HVB : Hid (Below w.heap.size w V) := hVb
  have KE : Hid (∀ w', Calls Tryz.prog 43 #[.int .i64 (N : Int), .int .i64 (P : Int), .int .i64 (W.size : Int)] w' fun e w'' => ∃ tb hb rb mb, e = .returned (.pointer (some ⟨tb, 0, none⟩)) ∧ Hid (Em N (N + P) W.size w' tb hb rb mb w'')) := fun w' => empty_any N P W.size (by omega) (by omega) hn w'
  rw [← hP] at KP hpl
  rw [← hN] at hNl e1
  rw [← hnr] at hrl e2
  have mkR := make_rows nr (by omega)
  have mkN := make_nds nr (by omega)
  have mkA := make_rows N (by omega)
  subst e1 e2
  clear hg hl hSh hM hgo hVb hP hN hnr
  go_enter Tryz.func28, Tryz.ntmps28
  go_upto_region 1 with fail
  rw [← hV, ← hgb]
  clear hV hgb
  go_wp2_with (go_at_call 42; refine KP.mono ?_; rintro e w2 ⟨p5, c5, rfl, O2, B2⟩)
  have q0 := (B2.out.cell (p := ⟨gb, 0, none⟩) (block_lt_of_cell u0)).trans u0
  have q1 := (B2.out.cell (p := ⟨gb, 1, none⟩) (block_lt_of_cell u1)).trans u1
  have q2 := (B2.out.cell (p := ⟨gb, 2, none⟩) (block_lt_of_cell u2)).trans u2
  have hgl : gb < w2.heap.size := block_lt_of_cell q0
  have HB2 : Hid (Below w.heap.size w w2) := HVB.out.trans (B2.out.mono HVB.out.size)
  have HSS : Hid (∀ w', Below w2.heap.size w2 w' → w'.cell? ⟨gb, 0, none⟩ = some (.int .i64 g.start) ∧ w'.cell? ⟨gb, 1, none⟩ = some (.slice pn N cn) ∧ w'.cell? ⟨gb, 2, none⟩ = some (.slice pr nr cr)) := fun w' hb => ⟨(hb.cell (p := ⟨gb, 0, none⟩) hgl).trans q0, (hb.cell (p := ⟨gb, 1, none⟩) hgl).trans q1, (hb.cell (p := ⟨gb, 2, none⟩) hgl).trans q2⟩
  clear u0 u1 u2 KP
  go_cut [7] from 15 (fun x wc => ∃ tb hb rb mb wb nb ab kb, x = .pointer (some ⟨kb, 0, none⟩) ∧ Hid (Bg N nr P W.size W g.start (.slice pn N cn) (.slice pr nr cr) (.slice p5 P c5) w2 tb hb rb mb wb nb ab kb wc))
  case first =>
    go_region_held3 (fun w' => Below w2.heap.size w2 w' ∧ w'.cell? ⟨gb, 0, none⟩ = some (.int .i64 g.start) ∧ w'.cell? ⟨gb, 1, none⟩ = some (.slice pn N cn) ∧ w'.cell? ⟨gb, 2, none⟩ = some (.slice pr nr cr))
      ((refine (fun hb => ⟨hb, HSS.out _ hb⟩ : Below w2.heap.size w2 _ → _) ?_; repeat' (first | with_reducible assumption | with_reducible exact Below.refl _ _ | with_reducible apply Below.drew | with_reducible refine Below.alloc ?_ ?_ _ | (have := b4.size; simp; omega) | (simp; omega) | simp)))
      ((go_at_call 43; refine (KE.out _).mono ?_; rintro e w4 ⟨tb, hb, rb, mb, rfl, fe⟩; have b4 : Below w2.heap.size w2 w4 := (show Below w2.heap.size w2 _ from by repeat' (first | with_reducible exact Below.refl _ _ | with_reducible apply Below.drew | with_reducible refine Below.alloc ?_ ?_ _ | (simp; omega) | simp)).trans (fe.out.be.mono (by simp; try omega))))
    all_goals
      clear mkR mkN mkA KE HSS q0 q1 q2
      go_wp2
      go_meet
      case rel =>
        have hX9 := fe.out.be.size
        have hB9 := b4.size
        simp at hX9
        refine ⟨tb, hb, rb, mb, _, _, _, _, rfl, Bg.ofK ?_ ?_ ?_ ?_ ?_ ?_ ?_ ?_ ?_⟩
        · refine Em.any (Em.from fe.out ?_) ?_
          · (repeat' (first | with_reducible exact Below.refl _ _ | with_reducible apply Below.drew | with_reducible refine Below.alloc ?_ ?_ _ | (simp; done) | (simp; omega)))
          · (repeat' (first | with_reducible exact Below.refl _ _ | with_reducible apply Below.drew | with_reducible refine Below.alloc ?_ ?_ _ | (simp; done) | (simp; omega)))
        · (repeat' (first | exact hpNew (by simp; done) | refine hpOld ?_ | refine hpBel fe.out.be ?_ | refine hpDrew ?_))
        · (repeat' (first | exact hpNew (by simp; done) | refine hpOld ?_ | refine hpBel fe.out.be ?_ | refine hpDrew ?_))
        · (repeat' (first | exact hpNew (by simp; done) | refine hpOld ?_ | refine hpBel fe.out.be ?_ | refine hpDrew ?_))
        · omega
        · omega
        · omega
        · omega
        · simp
  case rest =>
    obtain ⟨tb, hb, rb, mb, wb, nb, ab, kb, rfl, HBG⟩ := hcut
    obtain ⟨w0, hw0⟩ : ∃ w0, w0 = wc := ⟨_, rfl⟩
    subst hw0
    clear q0 q1 q2 HSS hgl mkR mkN mkA KE
    have HRU : Hid (IsRus w2 (fun i => i < w2.heap.size) (.slice pr g.rules.length cr) g.rules) := by
      have h1 := HG.out
      rw [HNR.out] at h1
      exact (h1.low (F' := fun i => i < w.heap.size) (fun i _ h => h)).keep ⟨HB2.out.size, fun i hi => HB2.out.block i hi⟩ (fun i hi => Nat.lt_of_lt_of_le hi HB2.out.size)
    have HPL : Hid (IsPls w2 (fun i => i < w2.heap.size) (.slice p5 (ruP 0 g.rules).length c5) (ruP 0 g.rules)) := by
      obtain ⟨b, hb1, ho⟩ := O2.out
      rw [HP.out] at ho
      exact Reads.of ho (fun i hi => (ho.lt i hi).2)
    have HBG2 : Hid (Bg g.names.length g.rules.length (ruP 0 g.rules).length W.size W g.start (.slice pn g.names.length cn) (.slice pr g.rules.length cr) (.slice p5 (ruP 0 g.rules).length c5) w2 tb hb rb mb wb nb ab kb w0) := by
      have h1 := HBG.out
      rw [HN.out, HNR.out, HP.out] at h1
      exact h1
    have h0 := HBG2.out.l0 HRU.out
    have hx0 := HBG2.out.lx
    have hok := HBG2.out.ok
    have HEND : Hid (∀ w', Lx (mkS mb wb nb ab w0.heap.size g.rules.length g.names.length) g.names.length g.rules w0 (ruP 0 g.rules) (ruP 0 g.rules) (fM (mkS mb wb nb ab w0.heap.size g.rules.length g.names.length) g (ruP 0 g.rules).length (ruP 0 g.rules).length) (fun _ => False) w' → ∃ (F' : Nat → Prop) (D : Md) (mb : Nat), D.kb = kb ∧ Be F' g W D mb w w') := fun w' hx => ⟨_, _, _, rfl, Lx.end HBG2.out HB2.out HRU.out HPL.out hx HGO.out.pl HGO.out.nn⟩
    have hpl0 : IsPls w0 (mkF w0.heap.size hb rb mb wb nb ab) (.slice p5 (ruP 0 g.rules).length c5) (ruP 0 g.rules) := Reads.keep HPL.out ⟨HBG2.out.em.be.size, fun i hi => HBG2.out.em.be.block i hi⟩ (fun i hi => HBG2.out.low hi)
    obtain ⟨FF, hFF⟩ : ∃ FF, FF = mkF w0.heap.size hb rb mb wb nb ab := ⟨_, rfl⟩
    obtain ⟨S, hSd⟩ : ∃ S, S = mkS mb wb nb ab w0.heap.size g.rules.length g.names.length := ⟨_, rfl⟩
    have hlo : w0.heap.size = S.lo := by rw [hSd]; rfl
    have hnr : S.nr = g.rules.length := by rw [hSd]; rfl
    have hnn : S.nn = g.names.length := by rw [hSd]; rfl
    rw [← hSd] at h0 hx0 hok HEND
    rw [← hFF] at h0 hpl0
    have HOK : Hid (LsOk S) := hok
    have HPW : Hid (∀ wr, Lk S w0 wr → IsPls wr FF (.slice p5 (ruP 0 g.rules).length c5) (ruP 0 g.rules) ∧ wr.cell? ⟨kb, 0, none⟩ = some (.pointer (some ⟨tb, 0, none⟩)) ∧ wr.cell? ⟨tb, 1, none⟩ = some (.int .i64 (g.names.length : Int))) := fun wr hk => by
      refine ⟨Reads.keep hpl0 ⟨by rw [hlo]; exact hk.size, fun i hi => ?_⟩ (fun i hi => hi), (h0.at hk hlo).k0, (h0.at hk hlo).t1⟩
      obtain ⟨a1, a2, a3, a4, a5⟩ := h0.fo i hi
      exact hk.block i a1 a2 a3 a4 a5
    have KL : Hid (∀ (m q c p : Nat) (r : Ru) (d : Cn) (wr : World), g.rules[q]? = some r → r.conj[c]? = some d → p ≤ d.seq.length → m = ofRu g.rules q c + p → Lx S g.names.length g.rules w0 ((ruP 0 g.rules).take m) ((ruP 0 g.rules).take m) (fM S g m m) (fun _ => False) wr → Calls Tryz.prog 44 #[.pointer (some ⟨kb, 0, none⟩), .agg #[.int .i64 (q : Int), .int .i64 (c : Int), .int .i64 (p : Int)], .int .i64 ((g.names.length : Int) + (m : Int))] wr fun e w' => e = .returned (.tuple #[]) ∧ Hid (Lx S g.names.length g.rules w0 ((ruP 0 g.rules).take (m + 1)) ((ruP 0 g.rules).take (m + 1)) (fM S g (m + 1) (m + 1)) (fun _ => False) w')) := fun m q c p r d wr hr hd hp hm hx => lay_any HOK.out h0 hlo HGO.out hnr hnn m hr hd hp hm wr hx
    obtain ⟨LX, hLX⟩ : ∃ LX : Nat → World → Prop, LX = fun m wr => Lx S g.names.length g.rules w0 ((ruP 0 g.rules).take m) ((ruP 0 g.rules).take m) (fM S g m m) (fun _ => False) wr := ⟨_, rfl⟩
    have HLX : Hid (LX = fun m wr => Lx S g.names.length g.rules w0 ((ruP 0 g.rules).take m) ((ruP 0 g.rules).take m) (fM S g m m) (fun _ => False) wr) := hLX
    have HX0 : Hid (LX 0 w0) := by show LX 0 w0; rw [hLX]; exact hx0
    have HBEL : Hid (∀ m w1 w2, LX m w1 → Below w1.heap.size w1 w2 → LX m w2) := fun m w1 w2 h hb => by rw [HLX.out] at h ⊢; exact (h.below HOK.out hb).less fun i hi => Or.inl hi
    have HLK : Hid (∀ m wr, LX m wr → IsPls wr FF (.slice p5 P c5) (ruP 0 g.rules) ∧ wr.cell? ⟨kb, 0, none⟩ = some (.pointer (some ⟨tb, 0, none⟩)) ∧ wr.cell? ⟨tb, 1, none⟩ = some (.int .i64 (N : Int))) := fun m wr h => by rw [HLX.out] at h; rw [HP.out, HN.out]; exact HPW.out wr h.lk
    have KL2 : Hid (∀ (m q c p : Nat) (r : Ru) (d : Cn) (wr : World), g.rules[q]? = some r → r.conj[c]? = some d → p ≤ d.seq.length → m = ofRu g.rules q c + p → LX m wr → Calls Tryz.prog 44 #[.pointer (some ⟨kb, 0, none⟩), .agg #[.int .i64 (q : Int), .int .i64 (c : Int), .int .i64 (p : Int)], .int .i64 ((N : Int) + (m : Int))] wr fun e w' => e = .returned (.tuple #[]) ∧ Hid (LX (m + 1) w')) := fun m q c p r d wr hr hd hp hm hx => by rw [HLX.out] at hx ⊢; rw [HN.out]; exact KL.out m q c p r d wr hr hd hp hm hx
    have HEN : Hid (∀ wr, LX P wr → ∃ (F' : Nat → Prop) (D : Md) (mb : Nat), D.kb = kb ∧ Be F' g W D mb w wr) := fun wr h => by
      rw [HLX.out] at h
      rw [HP.out] at h
      have tk : (ruP 0 g.rules).take (ruP 0 g.rules).length = ruP 0 g.rules := List.take_length
      rw [tk] at h
      exact HEND.out wr h
    clear h0 hx0 hok hpl0 hFF hSd hlo hnr hnn HPW KL hLX HEND HBG HBG2 HPL HRU O2 B2 HVB HB2 HG
    go_wp2
    go_loopw [42] (fun x wr => ∃ m : Nat, m ≤ P ∧ x = .int .i64 (m : Int) ∧ Hid (LX m wr)) (fun x _ => P - (intOf x).toNat)
    case atStart => exact ⟨0, Nat.zero_le _, rfl, HX0⟩
    case round =>
      clear HX0
      obtain ⟨m, hm, rfl, HM⟩ := hrel
      by_cases hlt : m < P
      · obtain ⟨e, he⟩ : ∃ e, (ruP 0 g.rules)[m]? = some e := ⟨_, List.getElem?_eq_getElem (by rw [← HP.out]; exact hlt)⟩
        obtain ⟨q, c, r, d, p, hr, hd, hp, hmm, hee⟩ := ruP_num he
        rw [Nat.zero_add] at hee
        subst hee
        obtain ⟨hpl1, k0, t1⟩ := HLK.out m wr HM.out
        obtain ⟨g5, o5, e5, hg5, p0, p1, p2⟩ := hpl1.at he
        dsimp only at p0 p1 p2
        subst e5
        obtain ⟨V, hV⟩ : ∃ V, V = wr.alloc (.cells #[.int .i64 (q : Int), .int .i64 (c : Int), .int .i64 (p : Int)] 56) := ⟨_, rfl⟩
        obtain ⟨pb, hpb⟩ : ∃ pb, pb = wr.heap.size := ⟨_, rfl⟩
        have hVb : Below wr.heap.size wr V := by rw [hV]; exact bel1 _ _
        have v0 : V.cell? ⟨pb, 0, none⟩ = some (.int .i64 (q : Int)) := by rw [hpb, hV]; exact World.cell?_alloc_at _ _ _ _ rfl
        have v1 : V.cell? ⟨pb, 1, none⟩ = some (.int .i64 (c : Int)) := by rw [hpb, hV]; exact World.cell?_alloc_at _ _ _ _ rfl
        have v2 : V.cell? ⟨pb, 2, none⟩ = some (.int .i64 (p : Int)) := by rw [hpb, hV]; exact World.cell?_alloc_at _ _ _ _ rfl
        have hLV := HBEL.out m wr V HM.out hVb
        have HC : Hid (V.cell? ⟨kb, 0, none⟩ = some (.pointer (some ⟨tb, 0, none⟩)) ∧ V.cell? ⟨tb, 1, none⟩ = some (.int .i64 (N : Int)) ∧ V.cell? ⟨pb, 0, none⟩ = some (.int .i64 (q : Int)) ∧ V.cell? ⟨pb, 1, none⟩ = some (.int .i64 (c : Int)) ∧ V.cell? ⟨pb, 2, none⟩ = some (.int .i64 (p : Int))) := ⟨(HLK.out m V hLV).2.1, (HLK.out m V hLV).2.2, v0, v1, v2⟩
        have K1 : Hid (Calls Tryz.prog 44 #[.pointer (some ⟨kb, 0, none⟩), .agg #[.int .i64 (q : Int), .int .i64 (c : Int), .int .i64 (p : Int)], .int .i64 ((N : Int) + (m : Int))] V.drew fun e w' => e = .returned (.tuple #[]) ∧ Hid (LX (m + 1) w')) := KL2.out m q c p r d V.drew hr hd hp hmm (HBEL.out m V V.drew hLV (Below.refl _ V).drew)
        have HC2 : Hid (∀ w', LX (m + 1) w' → True) := fun _ _ => trivial
        have hwm : IntKind.i64.wrap ((N : Int) + (m : Int)) = (N : Int) + (m : Int) := by rw [IntKind.wrap_i64]; omega
        clear he hr hd hp hmm hpl1 k0 t1 hVb v0 v1 v2 hLV HM hg5
        go_upto_region 6 with fail
        rw [← hV, ← hpb]
        clear hV hpb p0 p1 p2
        obtain ⟨c1, c2, c3, c4, c5'⟩ := HC.out
        go_region_with (go_at_call 44; refine K1.out.mono ?_; rintro e w5 ⟨rfl, L5⟩)
        all_goals
          go_wp2
          go_roundw
          case rel => exact ⟨m + 1, by omega, by go_num, L5⟩
          case measure => simp [intOf]; omega
      · obtain rfl : m = P := by omega
        obtain ⟨F', D, mb', hkb, hbe⟩ := HEN.out wr HM.out
        have FIN : Hid (Be F' g W D mb' w wr) := hbe
        clear hbe HM
        go_wp2
        go_ret
        exact ⟨F', D, mb', by rw [hkb]; rfl, FIN⟩
end Go.Proofs.YtfjejnkjlnkkhaaGreatDoor
