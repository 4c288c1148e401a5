/- part and parts of layer 11's statements: a rest by its parts. -/
import Derived.Test.YtclceeghjgeplaaGreatDoorMhA
namespace Go.Proofs.YtclceeghjgeplaaGreatDoor
set_option linter.unusedVariables false
set_option linter.unusedSimpArgs false
open Go.ChangeShapes Go.WideShapes Go.ChangeAt Go.RowKit Go.Maps

theorem restB_nil {b : Nat → Nat} {M : SpM} {l : List Sy} {p i j : Nat} (hp : l.length ≤ p) : restB b M (l.drop p) i j = decide (i = j) := by
  rw [List.drop_eq_nil_of_le hp]; rfl
theorem restB_byte {b : Nat → Nat} {M : SpM} {l : List Sy} {p i j : Nat} {s : Sy} (hs : l[p]? = some s) (hn : s.name = -1) : restB b M (l.drop p) i j = (decide (i < j) && (inR b s i && restB b M (l.drop (p + 1)) (i + 1) j)) := by
  rw [drop_cons hs]
  show (if s.name = -1 then _ else _) = _
  rw [if_pos hn]
theorem restB_name {b : Nat → Nat} {M : SpM} {l : List Sy} {p i j : Nat} {s : Sy} (hs : l[p]? = some s) (hn : s.name ≠ -1) : restB b M (l.drop p) i j = (List.range (j + 1)).any fun k => decide (i ≤ k) && (M s.name.toNat i k && restB b M (l.drop (p + 1)) k j) := by
  rw [drop_cons hs]
  show (if s.name = -1 then _ else _) = _
  rw [if_neg hn]
theorem rangeAny {p : Nat → Bool} {k : Nat} : (List.range (k + 1)).any p = ((List.range k).any p || p k) := by
  rw [List.range_succ]; simp
set_option maxHeartbeats 8000000 in
set_option maxRecDepth 100000 in
theorem part_any {F : Nat → Prop} {g : Gr} {W : ByteArray} {M : SpM} {n tb : Nat} (w : World) (h : TbM g W M n tb w) {q c p : Nat} {r : Ru} {d : Cn} (hr : g.rules[q]? = some r) (hd : r.conj[c]? = some d) (hp : p ≤ d.seq.length) {v : Value} (hs : IsSys w F v d.seq) (hsy : ∀ s, s ∈ d.seq → s.name = -1 ∨ (0 ≤ s.name ∧ s.name < (g.names.length : Int))) {i j : Nat} (hi : i ≤ j) (hj : j ≤ W.size) :
    Calls Tryz.prog 33 #[v, .string W, .pointer (some ⟨tb, 0, none⟩), .agg #[.int .i64 (q : Int), .int .i64 (c : Int), .int .i64 (p : Int)], .int .i64 (i : Int), .int .i64 (j : Int)] w fun e w' => e = .returned (.bool (restB (btsW W) M (d.seq.drop p) i j)) ∧ Hid (Below w.heap.size w w') := by
  have h64 : d.seq.length ≤ 64 := (h.pl.2 r (List.mem_of_getElem? hr)).2 d (List.mem_of_getElem? hd)
  have hW32 := h.hm
  obtain ⟨V0, hV0⟩ : ∃ V0, V0 = w.alloc (.cells #[.int .i64 (q : Int), .int .i64 (c : Int), .int .i64 (p : Int)] 56) := ⟨_, rfl⟩
  obtain ⟨V, hV⟩ : ∃ V, V = V0.alloc (.cells #[.int .i64 (q : Int), .int .i64 (c : Int), .int .i64 ((p : Int) + 1)] 56) := ⟨_, rfl⟩
  obtain ⟨pb, hpb⟩ : ∃ pb, pb = w.heap.size := ⟨_, rfl⟩
  obtain ⟨xb, hxb⟩ : ∃ xb, xb = w.heap.size + 1 := ⟨_, rfl⟩
  have hs1 : V0.heap.size = w.heap.size + 1 := by rw [hV0]; simp
  have hb0 : Below w.heap.size w V0 := by rw [hV0]; exact bel1 _ _
  have hb1 : Below V0.heap.size V0 V := by rw [hV]; exact bel1 _ _
  have hVb : Below w.heap.size w V := hb0.trans (hb1.mono hb0.size)
  have w0 : V0.cell? ⟨pb, 0, none⟩ = some (.int .i64 (q : Int)) := by rw [hpb, hV0]; exact World.cell?_alloc_at _ _ _ _ rfl
  have w1 : V0.cell? ⟨pb, 1, none⟩ = some (.int .i64 (c : Int)) := by rw [hpb, hV0]; exact World.cell?_alloc_at _ _ _ _ rfl
  have w2 : V0.cell? ⟨pb, 2, none⟩ = some (.int .i64 (p : Int)) := by rw [hpb, hV0]; exact World.cell?_alloc_at _ _ _ _ rfl
  have hl0 : pb < V0.heap.size := block_lt_of_cell w0
  have u2 : V.cell? ⟨pb, 2, none⟩ = some (.int .i64 (p : Int)) := (hb1.cell (p := ⟨pb, 2, none⟩) hl0).trans w2
  have y0 : V.cell? ⟨xb, 0, none⟩ = some (.int .i64 (q : Int)) := by rw [hxb, ← hs1, hV]; exact World.cell?_alloc_at _ _ _ _ rfl
  have y1 : V.cell? ⟨xb, 1, none⟩ = some (.int .i64 (c : Int)) := by rw [hxb, ← hs1, hV]; exact World.cell?_alloc_at _ _ _ _ rfl
  have y2 : V.cell? ⟨xb, 2, none⟩ = some (.int .i64 ((p : Int) + 1)) := by rw [hxb, ← hs1, hV]; exact World.cell?_alloc_at _ _ _ _ rfl
  have hwp : IntKind.i64.wrap ((p : Int) + 1) = (p : Int) + 1 := by rw [IntKind.wrap_i64]; omega
  have HVB : Hid (Below w.heap.size w V) := hVb
  have HTV : Hid (TbM g W M n tb V) := h.any hVb
  have hsV := hs.any hVb
  obtain ⟨p1, c1, hv⟩ := hsV.slc
  subst hv
  obtain ⟨b, hb⟩ : ∃ b, b = btsW W := ⟨_, rfl⟩
  have HBW : Hid (b = btsW W) := hb
  rw [← hb]
  have hlx : xb < V.heap.size := block_lt_of_cell y0
  have hlp : pb < V.heap.size := block_lt_of_cell u2
  by_cases hpl : p = d.seq.length
  · have hres := restB_nil (b := b) (M := M) (i := i) (j := j) (Nat.le_of_eq hpl.symm)
    rw [hres]
    obtain ⟨l, hl⟩ : ∃ l, l = d.seq.length := ⟨_, rfl⟩
    rw [← hl] at hpl ⊢
    subst hpl
    have hij : ((i : Int) == (j : Int)) = decide (i = j) := by
      by_cases e : i = j
      · subst e; simp
      · rw [decide_eq_false e, beq_eq_false_iff_ne]; omega
    have hij2 : decide ((i : Int) = (j : Int)) = decide (i = j) := by
      by_cases e : i = j
      · subst e; simp
      · rw [decide_eq_false e]; exact decide_eq_false (by omega)
    generalize decide (i = j) = bb at *
    clear hres hl hsV hs h hr hd hsy HTV hb y0 y1 y2
    go_enter Tryz.func33, Tryz.ntmps33
    go_upto_region 2 with fail
    rw [← hV0, ← hV]
    rw [← hxb, ← hpb]
    clear hV0 hV hpb hxb w0 w1 w2 hs1
    go_wp2
    go_ret
    exact ⟨rfl, HVB⟩
  · have hlt : p < d.seq.length := by omega
    obtain ⟨s, hps⟩ : ∃ s, d.seq[p]? = some s := ⟨_, List.getElem?_eq_getElem hlt⟩
    obtain ⟨g3, o3, e3, hg3, d0, d1, d2⟩ := hsV.at hps
    subst e3
    have hnm := hsy s (List.mem_of_getElem? hps)
    have KR : Hid (∀ (w' : World) (k : Nat), k ≤ j → Below V.heap.size V w' → Calls Tryz.prog 24 #[.pointer (some ⟨tb, 0, none⟩), .agg #[.int .i64 (q : Int), .int .i64 (c : Int), .int .i64 ((p : Int) + 1)], .int .i64 (k : Int), .int .i64 (j : Int)] w' fun e w'' => e = .returned (.bool (restB b M (d.seq.drop (p + 1)) k j)) ∧ Hid (Below w'.heap.size w' w'')) := fun w' k hk hb' => by
      rw [hb]; exact rest_tb w' (HTV.out.any hb') hr hd (p := p + 1) hlt hk hj
    have ne1 : ((p : Int) == (d.seq.length : Int)) = false := by rw [beq_eq_false_iff_ne]; omega
    have ne2 : ¬ (p : Int) = (d.seq.length : Int) := by omega
    obtain ⟨nm, lo, up⟩ := s
    simp only at d0 d1 d2 hnm
    obtain ⟨X, hX⟩ : ∃ X, X = V.alloc (.cells #[.int .i64 nm, .int .i64 lo, .int .i64 up] 44) := ⟨_, rfl⟩
    obtain ⟨sb, hsb⟩ : ∃ sb, sb = V.heap.size := ⟨_, rfl⟩
    have hbX : Below V.heap.size V X := by rw [hX]; exact bel1 _ _
    have z0 : X.cell? ⟨sb, 0, none⟩ = some (.int .i64 nm) := by rw [hsb, hX]; exact World.cell?_alloc_at _ _ _ _ rfl
    have z1 : X.cell? ⟨sb, 1, none⟩ = some (.int .i64 lo) := by rw [hsb, hX]; exact World.cell?_alloc_at _ _ _ _ rfl
    have z2 : X.cell? ⟨sb, 2, none⟩ = some (.int .i64 up) := by rw [hsb, hX]; exact World.cell?_alloc_at _ _ _ _ rfl
    have hlS : sb < X.heap.size := block_lt_of_cell z0
    have HXB : Hid (Below V.heap.size V X) := hbX
    have HSC : Hid (∀ w', Below X.heap.size X w' → w'.cell? ⟨sb, 0, none⟩ = some (.int .i64 nm) ∧ w'.cell? ⟨sb, 1, none⟩ = some (.int .i64 lo) ∧ w'.cell? ⟨sb, 2, none⟩ = some (.int .i64 up) ∧ w'.cell? ⟨xb, 0, none⟩ = some (.int .i64 (q : Int)) ∧ w'.cell? ⟨xb, 1, none⟩ = some (.int .i64 (c : Int)) ∧ w'.cell? ⟨xb, 2, none⟩ = some (.int .i64 ((p : Int) + 1))) := fun w' hb' => by
      have hb2 := hbX.trans (hb'.mono hbX.size)
      exact ⟨(hb'.cell (p := ⟨sb, 0, none⟩) hlS).trans z0, (hb'.cell (p := ⟨sb, 1, none⟩) hlS).trans z1, (hb'.cell (p := ⟨sb, 2, none⟩) hlS).trans z2, (hb2.cell (p := ⟨xb, 0, none⟩) hlx).trans y0, (hb2.cell (p := ⟨xb, 1, none⟩) hlx).trans y1, (hb2.cell (p := ⟨xb, 2, none⟩) hlx).trans y2⟩
    have HF : Hid (∀ w', Below X.heap.size X w' → Below w.heap.size w w') := fun w' hb' => HVB.out.trans ((HXB.out.trans (hb'.mono HXB.out.size)).mono HVB.out.size)
    have KR2 : Hid (∀ (w' : World) (k : Nat), k ≤ j → Below X.heap.size X w' → Calls Tryz.prog 24 #[.pointer (some ⟨tb, 0, none⟩), .agg #[.int .i64 (q : Int), .int .i64 (c : Int), .int .i64 ((p : Int) + 1)], .int .i64 (k : Int), .int .i64 (j : Int)] w' fun e w'' => e = .returned (.bool (restB b M (d.seq.drop (p + 1)) k j)) ∧ Hid (Below w'.heap.size w' w'')) := fun w' k hk hb' => KR.out w' k hk (HXB.out.trans (hb'.mono HXB.out.size))
    obtain ⟨f, hf⟩ : ∃ f, f = fun k => restB b M (d.seq.drop (p + 1)) k j := ⟨_, rfl⟩
    have hfk : ∀ k, restB b M (d.seq.drop (p + 1)) k j = f k := fun k => by rw [hf]
    simp only [hfk] at KR2
    by_cases hn1 : nm = -1
    · have hres := restB_byte (b := b) (M := M) (i := i) (j := j) hps hn1
      rw [hfk] at hres
      rw [hres]
      subst hn1
      by_cases hij : i < j
      · have KR3 : Hid (∀ (w' : World), Below X.heap.size X w' → Calls Tryz.prog 24 #[.pointer (some ⟨tb, 0, none⟩), .agg #[.int .i64 (q : Int), .int .i64 (c : Int), .int .i64 ((p : Int) + 1)], .int .i64 ((i : Int) + 1), .int .i64 (j : Int)] w' fun e w'' => e = .returned (.bool (f (i + 1))) ∧ Hid (Below w'.heap.size w' w'')) := fun w' hb' => KR2.out w' (i + 1) hij hb'
        have b1 := PlainAid.bt_nonneg W i
        have b2 := PlainAid.bt_le W i
        have hA := PlainAid.get_bt W
        have l2 : i < W.size := by omega
        have l3 : (i : Int) < (W.size : Int) := by omega
        have hwi : IntKind.i64.wrap ((i : Int) + 1) = (i : Int) + 1 := by rw [IntKind.wrap_i64]; omega
        have hwb : IntKind.i64.wrap (PlainAid.bt W i) = PlainAid.bt W i := by rw [IntKind.wrap_i64]; omega
        have hij2 : decide ((i : Int) < (j : Int)) = true := decide_eq_true (by omega)
        have hin : inR b ⟨-1, lo, up⟩ i = (decide (lo ≤ PlainAid.bt W i) && decide (PlainAid.bt W i ≤ up)) := by
          rw [hb]; unfold inR btsW
          have e : (((PlainAid.bt W i).toNat : Nat) : Int) = PlainAid.bt W i := by omega
          simp only [e]
        rw [hin, decide_eq_true hij, Bool.true_and]
        clear hin KR2 hb1 hb0 hVb hlx hlp hl0 hp
        by_cases q1 : lo ≤ PlainAid.bt W i
        · have q2 : decide (lo ≤ PlainAid.bt W i) = true := decide_eq_true q1
          have q2' : decide (PlainAid.bt W i ≥ lo) = true := decide_eq_true q1
          rw [q2, Bool.true_and]
          by_cases q3 : PlainAid.bt W i ≤ up
          · have q4 : decide (PlainAid.bt W i ≤ up) = true := decide_eq_true q3
            rw [q4, Bool.true_and]
            obtain ⟨fv, hfv⟩ : ∃ fv, fv = f (i + 1) := ⟨_, rfl⟩
            rw [← hfv] at KR3 ⊢
            clear hfv hres hsV hs h hr hd hsy HTV hb hps hnm hf hfk KR hbX HVB HXB h64
            go_enter Tryz.func33, Tryz.ntmps33
            go_upto_region 2 with fail
            rw [← hV0, ← hV]
            rw [← hxb, ← hpb]
            clear hV0 hV hpb hxb w0 w1 w2 hs1
            go_upto_region 6 with fail
            rw [← hX]
            rw [← hsb]
            clear hX hsb
            obtain ⟨ι, fw, n0, hf0, hfw, hcl⟩ := family2M (fun w' => Below X.heap.size X w') X.drew (Below.refl _ _).drew
            have hne0 : Nonempty ι := ⟨n0⟩
            have e0 := fun n => (HSC.out (fw n) (hfw n)).1
            have e1 := fun n => (HSC.out (fw n) (hfw n)).2.1
            have e2 := fun n => (HSC.out (fw n) (hfw n)).2.2.1
            have e3 := fun n => (HSC.out (fw n) (hfw n)).2.2.2.1
            have e4 := fun n => (HSC.out (fw n) (hfw n)).2.2.2.2.1
            have e5 := fun n => (HSC.out (fw n) (hfw n)).2.2.2.2.2
            refine region_classM fw (by kernel_rfl) (by kernel_rfl) ⟨n0, hf0⟩ ?_
            clear hf0
            repeat (go_big_quiet_step ((go_at_call 24; (with_reducible refine (KR3.out _ (hfw _)).mono ?_; rintro e w' ⟨rfl, hb'⟩; exact ⟨rfl, hcl _ ((hfw _).trans (hb'.out.mono (hfw _).size))⟩))))
            refine wpQuiet_nil ?_
            intro w9 hw9
            obtain ⟨mm, rfl⟩ := hw9
            have H9 : Hid (Below w.heap.size w (fw mm)) := HF.out _ (hfw mm)
            generalize fw mm = w9 at H9
            clear hcl hfw hne0 n0 e0 e1 e2 e3 e4 e5
            clear fw
            go_wp2
            go_ret
            exact ⟨rfl, H9⟩
          · have q4 : decide (PlainAid.bt W i ≤ up) = false := decide_eq_false q3
            rw [q4, Bool.false_and]
            clear KR3 hres hsV hs h hr hd hsy HTV hb hps hnm hf hfk KR hbX HVB HXB h64
            go_enter Tryz.func33, Tryz.ntmps33
            go_upto_region 2 with fail
            rw [← hV0, ← hV]
            rw [← hxb, ← hpb]
            clear hV0 hV hpb hxb w0 w1 w2 hs1
            go_upto_region 6 with fail
            rw [← hX]
            rw [← hsb]
            clear hX hsb
            obtain ⟨ι, fw, n0, hf0, hfw, hcl⟩ := family2M (fun w' => Below X.heap.size X w') X.drew (Below.refl _ _).drew
            have hne0 : Nonempty ι := ⟨n0⟩
            have e0 := fun n => (HSC.out (fw n) (hfw n)).1
            have e1 := fun n => (HSC.out (fw n) (hfw n)).2.1
            have e2 := fun n => (HSC.out (fw n) (hfw n)).2.2.1
            have e3 := fun n => (HSC.out (fw n) (hfw n)).2.2.2.1
            have e4 := fun n => (HSC.out (fw n) (hfw n)).2.2.2.2.1
            have e5 := fun n => (HSC.out (fw n) (hfw n)).2.2.2.2.2
            refine region_classM fw (by kernel_rfl) (by kernel_rfl) ⟨n0, hf0⟩ ?_
            clear hf0
            repeat (go_big_quiet_step (fail))
            refine wpQuiet_nil ?_
            intro w9 hw9
            obtain ⟨mm, rfl⟩ := hw9
            have H9 : Hid (Below w.heap.size w (fw mm)) := HF.out _ (hfw mm)
            generalize fw mm = w9 at H9
            clear hcl hfw hne0 n0 e0 e1 e2 e3 e4 e5
            clear fw
            go_wp2
            go_ret
            exact ⟨rfl, H9⟩
        · have q2 : decide (lo ≤ PlainAid.bt W i) = false := decide_eq_false q1
          have q2' : decide (PlainAid.bt W i ≥ lo) = false := decide_eq_false q1
          rw [q2, Bool.false_and, Bool.false_and]
          clear KR3 hres hsV hs h hr hd hsy HTV hb hps hnm hf hfk KR hbX HVB HXB h64
          go_enter Tryz.func33, Tryz.ntmps33
          go_upto_region 2 with fail
          rw [← hV0, ← hV]
          rw [← hxb, ← hpb]
          clear hV0 hV hpb hxb w0 w1 w2 hs1
          go_upto_region 6 with fail
          rw [← hX]
          rw [← hsb]
          clear hX hsb
          obtain ⟨ι, fw, n0, hf0, hfw, hcl⟩ := family2M (fun w' => Below X.heap.size X w') X.drew (Below.refl _ _).drew
          have hne0 : Nonempty ι := ⟨n0⟩
          have e0 := fun n => (HSC.out (fw n) (hfw n)).1
          have e1 := fun n => (HSC.out (fw n) (hfw n)).2.1
          have e2 := fun n => (HSC.out (fw n) (hfw n)).2.2.1
          have e3 := fun n => (HSC.out (fw n) (hfw n)).2.2.2.1
          have e4 := fun n => (HSC.out (fw n) (hfw n)).2.2.2.2.1
          have e5 := fun n => (HSC.out (fw n) (hfw n)).2.2.2.2.2
          refine region_classM fw (by kernel_rfl) (by kernel_rfl) ⟨n0, hf0⟩ ?_
          clear hf0
          repeat (go_big_quiet_step (fail))
          refine wpQuiet_nil ?_
          intro w9 hw9
          obtain ⟨mm, rfl⟩ := hw9
          have H9 : Hid (Below w.heap.size w (fw mm)) := HF.out _ (hfw mm)
          generalize fw mm = w9 at H9
          clear hcl hfw hne0 n0 e0 e1 e2 e3 e4 e5
          clear fw
          go_wp2
          go_ret
          exact ⟨rfl, H9⟩
      · have hij2 : decide ((i : Int) < (j : Int)) = false := decide_eq_false (by omega)
        rw [decide_eq_false hij, Bool.false_and]
        clear KR2 hb1 hb0 hVb hlx hlp hl0 hp
        clear hres hsV hs h hr hd hsy HTV hb hps hnm hf hfk KR hbX HVB HXB h64
        go_enter Tryz.func33, Tryz.ntmps33
        go_upto_region 2 with fail
        rw [← hV0, ← hV]
        rw [← hxb, ← hpb]
        clear hV0 hV hpb hxb w0 w1 w2 hs1
        go_upto_region 6 with fail
        rw [← hX]
        rw [← hsb]
        clear hX hsb
        obtain ⟨ι, fw, n0, hf0, hfw, hcl⟩ := family2M (fun w' => Below X.heap.size X w') X.drew (Below.refl _ _).drew
        have hne0 : Nonempty ι := ⟨n0⟩
        have e0 := fun n => (HSC.out (fw n) (hfw n)).1
        have e1 := fun n => (HSC.out (fw n) (hfw n)).2.1
        have e2 := fun n => (HSC.out (fw n) (hfw n)).2.2.1
        have e3 := fun n => (HSC.out (fw n) (hfw n)).2.2.2.1
        have e4 := fun n => (HSC.out (fw n) (hfw n)).2.2.2.2.1
        have e5 := fun n => (HSC.out (fw n) (hfw n)).2.2.2.2.2
        refine region_classM fw (by kernel_rfl) (by kernel_rfl) ⟨n0, hf0⟩ ?_
        clear hf0
        repeat (go_big_quiet_step (fail))
        refine wpQuiet_nil ?_
        intro w9 hw9
        obtain ⟨mm, rfl⟩ := hw9
        have H9 : Hid (Below w.heap.size w (fw mm)) := HF.out _ (hfw mm)
        generalize fw mm = w9 at H9
        clear hcl hfw hne0 n0 e0 e1 e2 e3 e4 e5
        clear fw
        go_wp2
        go_ret
        exact ⟨rfl, H9⟩
    · have hnm2 := hnm.resolve_left hn1
      obtain ⟨x, rfl⟩ : ∃ x : Nat, nm = (x : Int) := ⟨nm.toNat, by omega⟩
      have hxN : x < g.names.length := by omega
      have hres := restB_name (b := b) (M := M) (i := i) (j := j) hps hn1
      simp only [hfk] at hres
      rw [show ((x : Int)).toNat = x by omega] at hres
      rw [hres]
      have n0 : decide ((x : Int) < 0) = false := decide_eq_false (by omega)
      have KH : Hid (∀ (w' : World) (k : Nat), i ≤ k → k ≤ j → Below X.heap.size X w' → Calls Tryz.prog 16 #[.pointer (some ⟨tb, 0, none⟩), .int .i64 (x : Int), .int .i64 (i : Int), .int .i64 (k : Int)] w' fun e w'' => e = .returned (.bool (M x i k)) ∧ w' = w'') := fun w' k hk1 hk2 hb' => has_tb w' (HTV.out.any (HXB.out.trans (hb'.mono HXB.out.size))) hxN hk1 (Nat.le_trans hk2 hj)
      obtain ⟨P, hP⟩ : ∃ P : Nat → Bool, P = fun k => decide (i ≤ k) && (M x i k && f k) := ⟨_, rfl⟩
      rw [← hP]
      have HP0 : Hid ((List.range i).any P = false) := by
        show _ = _
        rw [List.any_eq_false]
        intro k hk
        have := List.mem_range.1 hk
        rw [hP]
        simp only [decide_eq_false (show ¬ i ≤ k by omega), Bool.false_and]
        simp
      have HPK : Hid (∀ k, i ≤ k → P k = (M x i k && f k)) := fun k hk => by rw [hP]; simp only [decide_eq_true hk, Bool.true_and]
      have hj63 : (j : Int) ≤ 32 := by omega
      clear hP hb1 hb0 hVb hlx hlp hl0 hp
      clear hres hsV hs h hr hd hsy HTV hb hps hnm hnm2 hf hfk KR hbX h64 hn1 hxN
      go_enter Tryz.func33, Tryz.ntmps33
      go_upto_region 2 with fail
      rw [← hV0, ← hV]
      rw [← hxb, ← hpb]
      clear hV0 hV hpb hxb w0 w1 w2 hs1
      go_upto_region 7 with fail
      rw [← hX]
      rw [← hsb]
      clear hX hsb
      go_wp2
      go_loopw [15] (fun x' wr => ∃ k : Nat, i ≤ k ∧ k ≤ j + 1 ∧ x' = .int .i64 (k : Int) ∧ Hid (Below X.heap.size X wr) ∧ Hid ((List.range k).any P = false)) (fun x' _ => j + 1 - (intOf x').toNat)
      case atStart => exact ⟨i, Nat.le_refl _, by omega, rfl, Below.refl _ _, HP0⟩
      case round =>
        obtain ⟨k, hk1, hk2, rfl, HB, HA⟩ := hrel
        obtain ⟨e0, e1, e2, e3, e4, e5⟩ := HSC.out wr HB.out
        by_cases hkj : k ≤ j
        · have hPk := HPK.out k hk1
          have hra := rangeAny (p := P) (k := k)
          rw [HA.out, Bool.false_or, hPk] at hra
          have HRA : Hid ((List.range (k + 1)).any P = (M x i k && f k)) := hra
          have HYES : Hid ((M x i k && f k) = true → (List.range (j + 1)).any P = true) := fun ht => List.any_eq_true.2 ⟨k, List.mem_range.2 (by omega), by rw [hPk]; exact ht⟩
          have KH2 : Hid (Calls Tryz.prog 16 #[.pointer (some ⟨tb, 0, none⟩), .int .i64 (x : Int), .int .i64 (i : Int), .int .i64 (k : Int)] wr fun e w'' => e = .returned (.bool (M x i k)) ∧ wr = w'') := KH.out wr k hk1 hkj HB.out
          have KR3 : Hid (Calls Tryz.prog 24 #[.pointer (some ⟨tb, 0, none⟩), .agg #[.int .i64 (q : Int), .int .i64 (c : Int), .int .i64 ((p : Int) + 1)], .int .i64 (k : Int), .int .i64 (j : Int)] wr fun e w'' => e = .returned (.bool (f k)) ∧ Hid (Below wr.heap.size wr w'')) := KR2.out wr k hkj HB.out
          obtain ⟨mk, hmk⟩ : ∃ mk, mk = M x i k := ⟨_, rfl⟩
          obtain ⟨fk, hfk⟩ : ∃ fk, fk = f k := ⟨_, rfl⟩
          rw [← hmk] at KH2 HRA HYES
          rw [← hfk] at KR3 HRA HYES
          clear hPk hra hmk hfk HA
          cases mk with
          | false =>
            clear KR3 HYES
            go_wp2_with (go_at_call 16; refine KH2.out.mono ?_; rintro e wn ⟨rfl, rfl⟩)
            go_roundw
            case rel => exact ⟨k + 1, by omega, by omega, by go_num, HB, HRA⟩
            case measure => simp [intOf]; omega
          | true =>
            cases fk with
            | false =>
              clear HYES
              go_wp2_with (first | (go_at_call 16; refine KH2.out.mono ?_; rintro e wn ⟨rfl, rfl⟩) | (go_at_call 24; refine KR3.out.mono ?_; rintro e w5 ⟨rfl, b5⟩))
              have HB5 : Hid (Below X.heap.size X w5) := HB.out.trans (b5.out.mono HB.out.size)
              go_roundw
              case rel => exact ⟨k + 1, by omega, by omega, by go_num, HB5, HRA⟩
              case measure => simp [intOf]; omega
            | true =>
              have HY2 : Hid ((List.range (j + 1)).any P = true) := HYES.out rfl
              clear HYES HRA
              go_wp2_with (first | (go_at_call 16; refine KH2.out.mono ?_; rintro e wn ⟨rfl, rfl⟩) | (go_at_call 24; refine KR3.out.mono ?_; rintro e w5 ⟨rfl, b5⟩))
              have HB5 : Hid (Below w.heap.size w w5) := HF.out _ (HB.out.trans (b5.out.mono HB.out.size))
              go_ret
              exact ⟨by rw [HY2.out]; rfl, HB5⟩
        · obtain rfl : k = j + 1 := by omega
          have HB5 : Hid (Below w.heap.size w wr) := HF.out _ HB.out
          go_wp2
          go_ret
          exact ⟨by rw [HA.out]; rfl, HB5⟩
end Go.Proofs.YtclceeghjgeplaaGreatDoor
