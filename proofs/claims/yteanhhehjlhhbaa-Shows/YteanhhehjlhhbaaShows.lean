/- Shows: a grammar's text is the document's, and so is the number of an error; what is handed in stays: at every argument, with no condition. -/
import Derived.Test.YteanhhehjlhhbaaRefShw
import Derived.Test.YteanhhehjlhhbaaShowUnlW
import Derived.Test.YteanhhehjlhhbaaCopyGrW
import Derived.Test.YteanhhehjlhhbaaGramOpen
import Derived.Test.YteanhhehjlhhbaaLawOpen
namespace Go.Proofs.Yteanhhehjlhhbaa
set_option linter.unusedVariables false
open Go.ChangeShapes Go.WideShapes Go.ChangeAt Go.RowKit

theorem csD (k : Nat) : ∀ (l : List Cn) (n m : Nat), mayCs k n l = some m → ∀ c, c ∈ l → mayRow k c.seq = true
  | [], _, _, _, c, hc => by simp at hc
  | a :: l, n, m, e, c, hc => by
    unfold mayCs at e
    split at e
    · rename_i h
      rcases List.mem_cons.1 hc with rfl | hc
      · exact h.2
      · exact csD k l _ m e c hc
    · cases e
theorem rowsD (k : Nat) : ∀ (l : List Ru) (n : Nat), mayRs k n l = true → ∀ r, r ∈ l → r.conj.length ≤ 8 ∧ ∀ c, c ∈ r.conj → c.seq.length ≤ 64 ∧ ∀ s, s ∈ c.seq → maySym k s = true
  | [], _, _, r, hr => by simp at hr
  | a :: l, n, e, r, hr => by
    unfold mayRs at e
    split at e
    · rename_i h8
      split at e
      · cases e
      · rename_i m hm
        rcases List.mem_cons.1 hr with rfl | hr
        · refine ⟨h8.2, fun c hc => ?_⟩
          have h9 := csD k _ n m hm c hc
          unfold mayRow at h9
          simp only [Bool.and_eq_true, decide_eq_true_eq, List.all_eq_true] at h9
          exact h9
        · exact rowsD k l m e r hr
    · cases e
theorem getD_len {names : List ByteArray} (h : ∀ s, s ∈ names → s.size ≤ 32) (k : Nat) : (names.getD k ⟨#[]⟩).data.toList.length ≤ 32 := by
  rw [List.getD_eq_getElem?_getD]
  cases e : names[k]? with
  | none => simp
  | some s =>
    have := h s (List.mem_of_getElem? e)
    rw [Array.length_toList]; exact this
theorem jQ_len {names : List ByteArray} (h : ∀ s, s ∈ names → s.size ≤ 32) (l : List Sy) : ∀ k, (jQ (psQ names (l.take k))).length ≤ 40 * k
  | 0 => by rw [List.take_zero]; show (jQ []).length ≤ 0; decide
  | k + 1 => by
    have ih := jQ_len h l k
    cases e : l[k]? with
    | none =>
      have h1 : l.take (k + 1) = l.take k := by rw [List.take_add_one, e]; simp
      rw [h1]; omega
    | some s =>
      rw [psQ_snoc names e]
      generalize psQ names (l.take k) = ps at ih
      have hsp : ∀ n, (spQ n).length ≤ 1 := fun n => by unfold spQ; split <;> simp
      unfold symP
      split
      · rw [jQ_snoc, List.length_append, List.length_append]
        have h1 := hsp ps.length
        have h2 : (partT (.inr (.inr (names.getD s.name.toNat ⟨#[]⟩)))).length ≤ 32 := getD_len h _
        omega
      · split
        · rw [jQ_snoc, List.length_append, List.length_append]
          have h1 := hsp ps.length
          have h2 : (partT (.inr (.inl (byteOf s.lo, byteOf s.hi)))).length ≤ 20 := by
            show (quoT 39 [byteOf s.lo] ++ [46, 46] ++ quoT 39 [byteOf s.hi]).length ≤ 20
            rw [List.length_append, List.length_append]
            have h3 := quoT_len 39 [byteOf s.lo]
            have h4 := quoT_len 39 [byteOf s.hi]
            simp only [List.length_cons, List.length_nil] at h3 h4 ⊢
            omega
          omega
        · rcases List.eq_nil_or_concat ps with e9 | ⟨qs, p, e9⟩
          · subst e9
            have h3 := quoT_len 34 [byteOf s.lo]
            show (jQ ([] ++ [.inl [byteOf s.lo]])).length ≤ _
            rw [jQ_snoc, List.length_append, List.length_append]
            have h1 := hsp ([] : List Part).length
            have h5 : (jQ ([] : List Part)).length = 0 := rfl
            have h4 : (partT (.inl [byteOf s.lo])).length ≤ 6 := by
              show (quoT 34 [byteOf s.lo]).length ≤ 6
              simp only [List.length_cons, List.length_nil] at h3; omega
            omega
          · rw [List.concat_eq_append] at e9
            subst e9
            rw [addT_snoc]
            match p with
            | .inl cs =>
              simp only
              rw [jQ_snoc] at ih ⊢
              rw [List.length_append, List.length_append] at ih ⊢
              have h4 : (partT (.inl (cs ++ [byteOf s.lo]))).length ≤ (partT (.inl cs)).length + 4 := by
                show (quoT 34 (cs ++ [byteOf s.lo])).length ≤ (quoT 34 cs).length + 4
                unfold quoT
                simp only [List.flatMap_append, List.length_append, List.flatMap_cons, List.flatMap_nil, List.append_nil]
                have := escT_len 34 (byteOf s.lo)
                omega
              omega
            | .inr x =>
              simp only
              rw [show qs ++ [Sum.inr x, Sum.inl [byteOf s.lo]] = (qs ++ [Sum.inr x]) ++ [Sum.inl [byteOf s.lo]] by simp, jQ_snoc (qs ++ [Sum.inr x]), List.length_append, List.length_append]
              have h1 := hsp (qs ++ [Sum.inr x] : List Part).length
              have h3 := quoT_len 34 [byteOf s.lo]
              have h4 : (partT (.inl [byteOf s.lo])).length ≤ 6 := by
                show (quoT 34 [byteOf s.lo]).length ≤ 6
                simp only [List.length_cons, List.length_nil] at h3; omega
              omega
theorem seqD_len {names : List ByteArray} (h : ∀ s, s ∈ names → 1 ≤ s.size ∧ s.size ≤ 32) (l : List Sy) (hl : l.length ≤ 64) (hm : ∀ s, s ∈ l → maySym names.length s = true) : (seqL names l).length ≤ 3000 := by
  by_cases e : l = []
  · subst e; show ([34, 34] : List UInt8).length ≤ 3000; decide
  · have h1 := jQ_len (fun s hs => (h s hs).2) l l.length
    rw [List.take_length] at h1
    unfold seqL partsT
    rw [if_neg (by simpa using e)]
    have h2 : (joinN [32] (partAt (l.foldl (symP names) [])) (l.foldl (symP names) []).length).length ≤ 40 * l.length := h1
    omega
def BxS (W : World) (s : Int) (v1 v2 : Value) (w : World) : Prop := Below W.heap.size W w ∧ W.heap.size < w.heap.size ∧ w.cell? ⟨W.heap.size, 0, none⟩ = some (.int .i64 s) ∧ w.cell? ⟨W.heap.size, 1, none⟩ = some v1 ∧ w.cell? ⟨W.heap.size, 2, none⟩ = some v2
theorem BxS.new (W : World) (s : Int) (v1 v2 : Value) : BxS W s v1 v2 (W.alloc (.cells #[.int .i64 s, v1, v2] 25)) :=
  ⟨bel1 _ _, by simp, World.cell?_alloc_at _ _ _ _ rfl, World.cell?_alloc_at _ _ _ _ rfl, World.cell?_alloc_at _ _ _ _ rfl⟩
theorem BxS.any {W : World} {s : Int} {v1 v2 : Value} {w w' : World} (h : BxS W s v1 v2 w) (hb : Below w.heap.size w w') : BxS W s v1 v2 w' :=
  ⟨h.1.trans (hb.mono h.1.size), Nat.lt_of_lt_of_le h.2.1 hb.size, (hb.cell (p := ⟨_, _, none⟩) h.2.1).trans h.2.2.1, (hb.cell (p := ⟨_, _, none⟩) h.2.1).trans h.2.2.2.1, (hb.cell (p := ⟨_, _, none⟩) h.2.1).trans h.2.2.2.2⟩
theorem hid_ofS {p : Prop} (h : p) : Hid p := h
set_option maxHeartbeats 4000000 in
set_option maxRecDepth 100000 in
theorem shows_core (W : World) (g : Gr) (v1 v2 : Value) (S : ByteArray) (E : Int) (k1 k2 : Option Addr × Nat × Nat) (e1 : v1 = .slice k1.1 k1.2.1 k1.2.2) (e2 : v2 = .slice k2.1 k2.2.1 k2.2.2)
    (KC0 : ∀ w, Below W.heap.size W w → Calls Try.prog 4 #[.agg #[.int .i64 g.start, v1, v2]] w fun e w' => ∃ u1 u2, e = .returned (.agg #[.int .i64 g.start, u1, u2]) ∧ Hid (GrIs w' (fun i => w.heap.size ≤ i) u1 u2 g) ∧ Hid (Below w.heap.size w w'))
    (KP0 : ∀ (F : Nat → Prop) u1 u2 w, GrIs w F u1 u2 g → Calls Try.prog 5 #[.agg #[.int .i64 g.start, u1, u2]] w fun e w' => e = .returned (.tuple #[.string S, .int .i64 E]) ∧ Hid (Below w.heap.size w w'))
    (KD0 : ∀ w, Below W.heap.size W w → Calls Try.prog 6 #[.agg #[.int .i64 g.start, v1, v2]] w fun e w' => e = .returned (.tuple #[.string S, .int .i64 E]) ∧ Hid (Below w.heap.size w w'))
    (KG0 : ∀ (F : Nat → Prop) u1 u2 w, GrIs w F u1 u2 g → Below W.heap.size W w → Calls Try.prog 8 #[.agg #[.int .i64 g.start, u1, u2], .agg #[.int .i64 g.start, v1, v2]] w fun e w' => e = .returned (.bool true) ∧ Hid (Below w.heap.size w w'))
    (KA0 : ∀ w, Calls Try.prog 9 #[] w fun e w' => e = .returned (.bool true) ∧ Hid (Below w.heap.size w w')) :
    Calls Try.prog 3 #[.agg #[.int .i64 g.start, v1, v2]] W fun e W' => e = .returned (.bool true) ∧ Below W.heap.size W W' := by
  have HX1 : Hid (BxS W g.start v1 v2 (W.alloc (.cells #[.int .i64 g.start, v1, v2] 25))) := BxS.new _ _ _ _
  have KC := hid_ofS KC0
  have KP := hid_ofS KP0
  have KD := hid_ofS KD0
  have KG := hid_ofS KG0
  have KA := hid_ofS KA0
  subst e1 e2
  clear KC0 KP0 KD0 KG0 KA0
  obtain ⟨W1, hW1⟩ : ∃ W1, W1 = W.alloc (.cells #[.int .i64 g.start, .slice k1.1 k1.2.1 k1.2.2, .slice k2.1 k2.2.1 k2.2.2] 25) := ⟨_, rfl⟩
  rw [← hW1] at HX1
  obtain ⟨-, z1, c0, c1, c2⟩ := HX1.out
  go_enter Try.func3, Try.ntmps3
  go_upto_region 1 with fail
  rw [← hW1]
  clear hW1
  go_upto_region 2 with (go_at_call 4; refine (KC.out _ HX1.out.1).mono ?_; rintro e wc ⟨u1, u2, rfl, gx, bc⟩; obtain ⟨q1, d1, m1, hu1⟩ : ∃ p n c, u1 = .slice p n c := (by obtain ⟨p, c, e, _⟩ := gx.out.1; exact ⟨_, _, _, e⟩); obtain ⟨q2, d2, hu2⟩ := gx.out.2.slc; subst hu1 hu2; clear z1 c0 c1 c2)
  obtain ⟨Y, hY⟩ : ∃ Y, Y = wc.alloc (.cells #[.int .i64 g.start, .slice q1 d1 m1, .slice q2 g.rules.length d2] 25) := ⟨_, rfl⟩
  rw [← hY]
  have bY : Below wc.heap.size wc Y := by rw [hY]; exact bel1 _ _
  have XY : Hid (BxS _ _ _ _ Y) := (HX1.out.any bc.out).any bY
  have HGY : Hid (GrIs Y (fun i => W1.heap.size ≤ i) (.slice q1 d1 m1) (.slice q2 g.rules.length d2) g) := gx.out.any bY
  have f0 : Y.cell? ⟨wc.heap.size, 0, none⟩ = some (.int .i64 g.start) := by rw [hY]; exact World.cell?_alloc_at _ _ _ _ rfl
  have f1 : Y.cell? ⟨wc.heap.size, 1, none⟩ = some (.slice q1 d1 m1) := by rw [hY]; exact World.cell?_alloc_at _ _ _ _ rfl
  have f2 : Y.cell? ⟨wc.heap.size, 2, none⟩ = some (.slice q2 g.rules.length d2) := by rw [hY]; exact World.cell?_alloc_at _ _ _ _ rfl
  have hzY : wc.heap.size < Y.heap.size := by rw [hY]; simp
  obtain ⟨hb, hhb⟩ : ∃ b, b = wc.heap.size := ⟨_, rfl⟩
  rw [← hhb] at f0 f1 f2 hzY ⊢
  obtain ⟨N, hN⟩ : ∃ N, N = g.rules.length := ⟨_, rfl⟩
  rw [← hN] at f2 HGY ⊢
  have HFB : Hid (∀ w', Below Y.heap.size Y w' → w'.cell? ⟨hb, 0, none⟩ = some (.int .i64 g.start) ∧ w'.cell? ⟨hb, 1, none⟩ = some (.slice q1 d1 m1) ∧ w'.cell? ⟨hb, 2, none⟩ = some (.slice q2 N d2) ∧ hb < w'.heap.size) := fun w' s => ⟨(s.cell (p := ⟨_, _, none⟩) hzY).trans f0, (s.cell (p := ⟨_, _, none⟩) hzY).trans f1, (s.cell (p := ⟨_, _, none⟩) hzY).trans f2, Nat.lt_of_lt_of_le hzY s.size⟩
  clear hY hhb hN gx bY bc
  go_upto_region 3 with (go_at_call 5; refine (KP.out _ _ _ _ HGY.out).mono ?_; rintro e wd ⟨rfl, bd⟩)
  have XD : Hid (BxS _ _ _ _ wd) := XY.out.any bd.out
  obtain ⟨-, z1, c0, c1, c2⟩ := XD.out
  clear f0 f1 f2 hzY
  go_upto_region 4 with (go_at_call 6; refine (KD.out _ XD.out.1).mono ?_; rintro e we ⟨rfl, be⟩)
  have XE : Hid (BxS _ _ _ _ we) := XD.out.any be.out
  have HYE : Hid (Below Y.heap.size Y we) := bd.out.trans (be.out.mono bd.out.size)
  clear z1 c0 c1 c2
  obtain ⟨-, z1, c0, c1, c2⟩ := XE.out
  obtain ⟨f0, f1, f2, hzY⟩ := HFB.out we HYE.out
  have KG1 := KG.out _ _ _ we (HGY.out.any HYE.out) XE.out.1
  go_wp2_with (first
    | (go_at_call 8; refine KG1.mono ?_; rintro e wf ⟨rfl, bf⟩)
    | (go_at_call 9; refine (KA.out _).mono ?_; rintro e wg ⟨rfl, bg⟩)
    | (go_at_call 7; refine (num_any _ _).mono ?_; rintro e wn ⟨rfl, rfl⟩))
  go_ret
  exact ⟨rfl, XE.out.1.trans ((bf.out.trans (bg.out.mono bf.out.size)).mono XE.out.1.size)⟩
theorem shows_walk (W : World) (g : Gr) (v1 v2 : Value) (ga : GrIs W Any v1 v2 g) (gn : ∀ s, s ∈ g.names → s.size ≤ maxLen ∧ s.size ≤ reachBytes) (gz : g.names.length * 16 ≤ reachBytes ∧ g.rules.length * 32 ≤ reachBytes ∧ ∀ r, r ∈ g.rules → r.conj.length * 32 ≤ reachBytes ∧ ∀ c, c ∈ r.conj → c.seq.length * 24 ≤ reachBytes) (w0 : (Lit.int .i64 g.start).wf = true) :
    Calls Try.prog 3 #[.agg #[.int .i64 g.start, v1, v2]] W fun e W' => e = .returned (.bool true) ∧ Below W.heap.size W W' := by
  have hN : ∀ s, s ∈ g.names → s.size ≤ maxLen := fun s h => (gn s h).1
  have gs : ∀ r, r ∈ g.rules → ∀ c, c ∈ r.conj → c.seq.length * 24 ≤ reachBytes := fun r hr c hc => (gz.2.2 r hr).2 c hc
  have gz' : GSz reachBytes g := gz
  obtain ⟨p1, l1, hv1⟩ : ∃ p c, v1 = .slice p g.names.length c := by obtain ⟨p, c, e, _⟩ := ga.1; exact ⟨_, _, e⟩
  obtain ⟨p2, c2, hv2⟩ := ga.2.slc
  refine shows_core W g v1 v2 (if mayG g then showT g else ⟨#[]⟩) (if mayG g then 0 else 500) ⟨p1, g.names.length, l1⟩ ⟨p2, g.rules.length, c2⟩ hv1 hv2
    (fun w hb => (copyGr_own g v1 v2 w (ga.any hb) gz').mono fun e w' ⟨u1, u2, h1, h2, h3, _⟩ => ⟨u1, u2, h1, h2, h3⟩)
    (fun F u1 u2 w hg => show_arg g u1 u2 w hg gn gs) (fun w hb => ?_) (fun F u1 u2 w hg hb => ?_) (fun w => (awake5_any w).mono fun e w' h => ⟨h.1, h.2⟩)
  · have hKM := fun w' (hb' : Below w.heap.size w w') => mayG_ref g v1 v2 w' ((ga.any hb).any hb') hN
    rw [refMay_eq] at hKM
    cases hM : mayG g with
    | false =>
      rw [hM] at hKM
      exact showD_no g v1 v2 w ⟨p1, g.names.length, l1⟩ ⟨p2, g.rules.length, c2⟩ hv1 hv2 (fun w' h => (hKM w' h).mono fun e w'' h => ⟨h.1, h.2⟩)
    | true =>
      rw [hM] at hKM
      have hsm : ∀ s, s ∈ g.names → 1 ≤ s.size ∧ s.size ≤ 32 := fun s hs => by
        have h9 := hM
        unfold mayG mayNames at h9
        simp only [Bool.and_eq_true, List.all_eq_true] at h9
        have h8 := h9.1.2.2.1 s hs
        rw [isName_eq] at h8
        have h7 := nameMay_parts h8
        exact ⟨h7.1, h7.2.1⟩
      have hrow : ∀ r, r ∈ g.rules → r.conj.length ≤ 8 ∧ ∀ c, c ∈ r.conj → c.seq.length ≤ 64 ∧ ∀ s, s ∈ c.seq → maySym g.names.length s = true := fun r hr => by
        have h9 := hM
        unfold mayG mayRules at h9
        simp only [Bool.and_eq_true] at h9
        exact rowsD _ _ _ h9.2.2.2.2.2 r hr
      have hq : ∀ r, r ∈ g.rules → ∀ c, c ∈ r.conj → ∀ sv w', Below w.heap.size w w' → IsSys w' Any sv c.seq → Calls Try.prog 30 #[.agg #[.int .i64 g.start, v1, v2], sv] w' fun e w'' => e = .returned (.string (ba (seqL g.names c.seq))) ∧ (seqL g.names c.seq).length ≤ 3000 ∧ Hid (Below w'.heap.size w' w'') := fun r hr c hc sv w' hb' hs =>
        seqD_any g v1 v2 c.seq sv w' p2 g.rules.length c2 hv2 ((ga.any hb).any hb').1 hs ((hrow r hr).2 c hc).1 ((hrow r hr).2 c hc).2 hsm
      have hlen : ∀ r, r ∈ g.rules → ∀ c, c ∈ r.conj → (seqL g.names c.seq).length ≤ 3000 := fun r hr c hc => seqD_len hsm c.seq ((hrow r hr).2 c hc).1 ((hrow r hr).2 c hc).2
      exact showD_ok g v1 v2 w (ga.any hb) hM hsm (fun w' h => (hKM w' h).mono fun e w'' h => ⟨h.1, h.2⟩) (fun r hr => ⟨conjsD_len g.names r.conj (hrow r hr).1 (hlen r hr), fun u w' hb' hc =>
        ruleD_any g v1 v2 r.head r.conj u w' p1 p2 _ _ _ _ hv1 hv2 hc (hrow r hr).1 (fun c hcm => ⟨hlen r hr c hcm, fun sv w'' hb'' hs => (hq r hr c hcm sv w'' (hb'.trans (hb''.mono hb'.size)) hs).mono fun e w3 h => ⟨h.1, h.2.2⟩⟩)⟩)
  · exact (sameGram_yes g _ _ _ _ w hg (ga.any hb)).mono fun e w' h => ⟨h.1, h.2⟩

set_option linter.unusedVariables false
theorem shows_own : ownKnob Try.prog.godebug = none := by kernel_rfl
set_option maxRecDepth 100000 in
theorem shows_lifted (os : Os) (started : os.Started) (H : Type) (enc : TypeId × Value → H) :
    ReturnsInHanded {} Try.checked os 3 .any (Rows.showsSpec.pre6 enc Try.prog Try.f3 Rows.showsRow.domain false) (Rows.showsSpec.post enc Try.prog Try.f3 false true false false) := by
  refine returnsInHanded_of_change_sized (C := Try.checked) shows_own started (by kernel_rfl) Try.func3
    (ChangeSpec.witness6 (enc := enc) (C := Try.checked) false ⟨#[], #[.agg #[.int .i64 0, .slice none 0 0, .slice none 0 0]], []⟩ 8 (by kernel_rfl) (by kernel_rfl) (by kernel_rfl) (by kernel_rfl)) ?_
  intro W base args ds gs before hval0 hW hcnd hsz0 _
  have hsz : (DataW.weightsEach Try.prog (Try.f3.params.toList ++ Rows.showsSpec.plain.varTypes Try.prog) (ds ++ gs)).all (· ≤ reachBytes) = true := hsz0
  have hval : ∀ (j : Nat) t v, Try.f3.params[j]? = some t → args[j]? = some v → Value.okWide Try.prog W .any base t v := hval0
  have hW' := hW
  obtain ⟨p, q, hA0, hV, rfl, hfz, hnd⟩ := hW
  have hA : DataW.TrodAll enc Try.prog W 0 (fun _ => true) true Try.f3.params.toList args.toList ds p := hA0
  rw [Try.params3] at hA hval hsz
  obtain ⟨v0, vs0, d0, ds0, p0, q0, hargs, rfl, rfl, h0, r0⟩ := trodAll_cons hA
  obtain ⟨rfl, rfl, rfl⟩ := trodAll_nil r0
  obtain rfl : args = #[v0] := by cases args; simp_all
  obtain ⟨rfl, rfl⟩ := trodVars_none hV
  clear hA0 hval0 hsz0
  have k0 := h0
  have lt0 : ∀ x ∈ p0, x.block < W.heap.size := fun x hx => by have := hW'.lt x (by simp [hx]); simpa using this
  obtain ⟨cs0, rfl, op0⟩ := open_agg (j := 0) Try.structGr (hval 0 25 v0 rfl rfl) h0 (fun b o hm => hfz b o (by simp [hm])) hsz rfl rfl
  obtain ⟨g0, ga0, gb0, rfl, gi0, gn0, gs0, w0⟩ := op_gramZ op0
  refine (shows_walk W g0 ga0 gb0 gi0 gn0 gs0 w0).mono fun e W' ⟨he, bel⟩ => ?_
  subst he
  exact ⟨_, rfl, _, _, _, [], _, [], hW', trodAll_mk1 (shut_bool Try.underlying4 _), (trodAll_cons_mk (Below.trod Try.laidOutB (by kernel_rfl) (of_decide_eq_true (by kernel_rfl)) k0 bel lt0) trodAll_mk0), rfl, bel.frame _, fun h => by cases h⟩

set_option maxHeartbeats 8000000 in
theorem shows_closed : joinedFacts Try.checked.prog 3 Try.f3 Rows.showsSpec Rows.showsRow = true := by
  unfold joinedFacts
  iterate 31 (refine and_ok ?_ ?_)
  all_goals first | (with_reducible exact enter_ok) | (rw [lifts_no]; rfl) | (rw [make_cut]; rfl) | as_aux_lemma => kernel_rfl
theorem shows_holds : Rows.ShowsSaid :=
  OpenClaim.holds_of_wide 3 Try.f3 rfl rfl rfl rfl rfl rfl rfl ⟨rfl, rfl, rfl, rfl, rfl⟩ rfl rfl rfl rfl rfl (by kernel_rfl) Try.func3 shows_closed
    (of_decide_eq_true (by kernel_rfl)) (by unfold Func.isWrapper; first | (rw [if_pos (by decide +kernel)]; kernel_rfl) | (rw [if_neg (by decide +kernel)]; exact ⟨rfl, rfl⟩))
    (fun os started H enc _ => shows_lifted os started H enc)
#print axioms shows_holds
end Go.Proofs.Yteanhhehjlhhbaa
