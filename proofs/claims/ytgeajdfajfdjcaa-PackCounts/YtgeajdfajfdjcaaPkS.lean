/- The program's Put. -/
import Derived.Test.YtgeajdfajfdjcaaPkR
namespace Go.Proofs.Ytgeajdfajfdjcaa
set_option linter.unusedVariables false
set_option linter.unusedSimpArgs false
open Go.ChangeShapes Go.WideShapes Go.ChangeAt Go.RowKit

def wfC (c : Ct) : Prop := wfz c.root ∧ (∀ n ∈ c.nodes, wfN n) ∧ c.nodes.length ≤ 1152921504606846976
def tcS : ByteArray := ⟨#[84, 67]⟩
set_option maxHeartbeats 4000000 in
set_option maxRecDepth 100000 in
theorem wcert_any {B b : Nat} {w : World} (h : Wr B b [] w) (c : Ct) (v : Value) {F : Nat → Prop} (hz : IsNds w F v c.nodes) (ho : Off b F w) (hw : wfC c) :
    Calls Try.prog 20 #[.pointer (some ⟨b, 0, none⟩), .agg #[.int .i64 c.root, v]] w fun e w' => e = .returned (.bool (ctOk c)) ∧ ∃ acc', Hid (acc'.length ≤ 1048577 ∧ Wr B b acc' w' ∧ Wk b w w' ∧ (ctOk c = true → acc' = addsB [] (ctB c))) := by
  obtain ⟨pv, cv, rfl⟩ := hz.slc
  obtain ⟨ro, ns⟩ := c
  obtain ⟨w1, wp, wl⟩ := hw
  simp only at *
  have H : Hid (Wr B b [] w) := h
  have HZ : Hid (IsNds w F (.slice pv ns.length cv) ns) := hz
  have HO : Hid (Off b F w) := ho
  have HP : Hid (∀ n ∈ ns, wfN n) := wp
  have hlI : ((ns.length : Nat) : Int) ≤ 1152921504606846976 := by omega
  have HMA : Hid (∀ z ∈ [ro, ((ns.length : Nat) : Int)], wfz z) := by
    show ∀ z ∈ [ro, ((ns.length : Nat) : Int)], wfz z
    simp only [List.mem_cons, List.not_mem_nil, or_false]
    rintro z (rfl | rfl)
    · exact w1
    · exact wfz_nat hlI
  clear w1 wp wl h hz ho
  have hB := H.out.lt
  obtain ⟨X, hX⟩ : ∃ X, X = w.alloc (.cells #[.int .i64 ro, .slice pv ns.length cv] 24) := ⟨_, rfl⟩
  have HX : Hid (Below w.heap.size w X) := by rw [hX]; exact bel1 _ _
  have HWX : Hid (Wk b w X) := Wk.below HX.out H.out.lt
  have HRX : Hid (Wr B b [] X) := H.out.keep HX.out
  have HON : Hid (Off b (fun i => i = w.heap.size) X) := Off.one H.out HX.out (Nat.le_refl _) (by rw [hX]; simp)
  have SB : Hid (∀ w', Wk b X w' → w'.cell? ⟨w.heap.size, 0, none⟩ = some (.int .i64 ro) ∧ w'.cell? ⟨w.heap.size, 1, none⟩ = some (.slice pv ns.length cv)) := fun w' k => by
    have hN := HON.out
    refine ⟨k.cel hN ?_, k.cel hN ?_⟩ <;> (subst hX; simp)
  have KT : Hid (∀ w', w' = X → Calls Try.prog 33 #[.pointer (some ⟨b, 0, none⟩), .string ⟨#[84, 67]⟩] w' fun e w'' => (∃ x, e = .returned x) ∧ Hid (Wr B b [84, 67] w'' ∧ Wk b X w'')) := fun w' e0 => by
    subst e0
    refine (wStr_any HRX.out ⟨#[84, 67]⟩ (by decide)).mono ?_
    rintro e w'' ⟨h1, h2, h3⟩
    exact ⟨⟨_, h1⟩, h2, h3⟩
  have KA : Hid (∀ (W : World) (a1 : List UInt8), a1.length ≤ 1048577 → Wr B b a1 W → Calls Try.prog 34 #[.pointer (some ⟨b, 0, none⟩), .slice (some ⟨W.heap.size, 0, none⟩) 2 2] (W.alloc (.cells #[.int .i64 ro, .int .i64 ((ns.length : Nat) : Int)] 3)) fun e w' => ∃ b', e = .returned (.bool b') ∧ Hid (b' = [ro, ((ns.length : Nat) : Int)].all (fitZ 4)) ∧ ∃ acc', Hid (acc'.length ≤ 1048577 ∧ Wr B b acc' w' ∧ Wk b W w' ∧ (b' = true → acc' = addsB a1 ([ro, ((ns.length : Nat) : Int)].flatMap (beZ 4))))) := fun W a1 h1 h2 =>
    put_new_u32 (W := W) h2 h1 [ro, ((ns.length : Nat) : Int)] (n := 2) rfl (by simp) HMA.out
  go_enter Try.func20, Try.ntmps20
  go_upto_region 1 with fail
  rw [← hX]
  clear hX
  go_upto_region 2 with (go_at_call 33; refine (KT.out _ rfl).mono ?_; rintro e w2 ⟨⟨x, rfl⟩, h2⟩)
  obtain ⟨d0, d1⟩ := SB.out w2 h2.out.2
  have HD : Hid (Wr B b [84, 67] w2 ∧ Wk b w w2) := ⟨h2.out.1, HWX.out.trans h2.out.2⟩
  have K2 := KA.out w2 [84, 67] (by decide) HD.out.1
  obtain ⟨bq, hbq⟩ : ∃ x, x = [ro, ((ns.length : Nat) : Int)].all (fitZ 4) := ⟨_, rfl⟩
  have HBQ : Hid (bq = [ro, ((ns.length : Nat) : Int)].all (fitZ 4)) := hbq
  clear hbq
  have HK2 : Hid (Calls Try.prog 34 #[.pointer (some ⟨b, 0, none⟩), .slice (some ⟨w2.heap.size, 0, none⟩) 2 2] (w2.alloc (.cells #[.int .i64 ro, .int .i64 ((ns.length : Nat) : Int)] 3)) fun e w' => e = .returned (.bool bq) ∧ ∃ acc', Hid (acc'.length ≤ 1048577 ∧ Wr B b acc' w' ∧ Wk b w2 w' ∧ (bq = true → acc' = addsB [84, 67] ([ro, ((ns.length : Nat) : Int)].flatMap (beZ 4))))) := by
    refine K2.mono ?_
    rintro e w' ⟨b', h1, h3, acc', h4⟩
    have e0 : b' = bq := h3.out.trans HBQ.out.symm
    subst e0
    exact ⟨h1, acc', h4⟩
  clear K2 KA KT
  have SC : Hid (∀ w', Wk b w2 w' → w'.cell? ⟨w.heap.size, 1, none⟩ = some (.slice pv ns.length cv)) := fun w' k => (SB.out w' (h2.out.2.trans k)).2
  cases bq with
  | false =>
    have hno : Hid (ctOk ⟨ro, ns⟩ = false) := by
      show ctOk _ = false
      rw [Bool.eq_false_iff]; intro h
      unfold ctOk at h; simp only [Bool.and_eq_true] at h
      have := HBQ.out
      simp [h.1.1, h.1.2] at this
    go_wp2_with (go_at_call 34; refine HK2.out.mono ?_; rintro e w3 ⟨rfl, a3, h3⟩)
    go_ret
    exact ⟨by rw [hno.out]; rfl, a3, h3.out.1, h3.out.2.1, HD.out.2.trans h3.out.2.2.1, fun h => by rw [hno.out] at h; cases h⟩
  | true =>
    go_upto_if 19 with (go_at_call 34; refine HK2.out.mono ?_; rintro e w3 ⟨rfl, a3, h3⟩; have c3 := SC.out w3 h3.out.2.2.1)
    have hal := h3.out.1
    have HOC : Hid (Off b F w3) := HO.out.next (HD.out.2.trans h3.out.2.2.1)
    have HZC : Hid (IsNds w3 F (.slice pv ns.length cv) ns) := HZ.out.keep (HO.out.stay (HD.out.2.trans h3.out.2.2.1)) (fun _ h => h)
    have HDC : Hid (a3 = addsB [84, 67] ([ro, ((ns.length : Nat) : Int)].flatMap (beZ 4))) := h3.out.2.2.2 (by simp)
    have HWC : Hid (Wr B b a3 w3 ∧ Wk b w w3) := ⟨h3.out.2.1, HD.out.2.trans h3.out.2.2.1⟩
    clear HON HX HWX HRX SB SC HK2 HD h2 h3
    go_wp2
    go_loopw [23] (fun x wr => ∃ i : Nat, i ≤ ns.length ∧ x = .int .i64 i ∧ Hid ((ns.take i).all ndOk = true ∧ Wr B b (addsB a3 ((ns.take i).flatMap ndB)) wr ∧ Wk b w3 wr)) (fun x _ => ns.length - (intOf x).toNat)
    case atStart => exact ⟨0, by omega, rfl, rfl, HWC.out.1, Wk.refl _ _⟩
    case round =>
      obtain ⟨i, hi, rfl, HR⟩ := hrel
      by_cases hlt : i < ns.length
      · obtain ⟨p, hp⟩ : ∃ p, ns[i]? = some p := ⟨_, List.getElem?_eq_getElem hlt⟩
        obtain ⟨g, o, up, e1, c0, c1, c2, c3, c4, c5, c6, c7, c8, c9, hk, hg⟩ := (HZC.out.keep (HOC.out.stay HR.out.2.2) (fun _ h => h)).at hp
        subst e1
        obtain ⟨pp, cp, rfl⟩ := hk.slc
        have HPP : Hid (wfN p) := HP.out p (List.mem_of_getElem? hp)
        have HG : Hid (ns[i]? = some p) := hp
        have HK : Hid (IsPks wr F (.slice pp p.picks.length cp) p.picks) := hk
        have hltI : (i : Int) < (ns.length : Int) := by omega
        have hal2 : (addsB a3 ((ns.take i).flatMap ndB)).length ≤ 1048577 := addsB_le _ _ hal
        clear hp hk
        obtain ⟨bp, hbp⟩ : ∃ x, x = ndOk p := ⟨_, rfl⟩
        have HBP : Hid (bp = ndOk p) := hbp
        clear hbp
        have KQ : Hid (∀ W, Below wr.heap.size wr W → Calls Try.prog 35 #[.pointer (some ⟨b, 0, none⟩), .agg #[.bool p.sign, .int .i64 p.kind, .int .i64 p.name, .int .i64 p.rule, .int .i64 p.conj, .int .i64 p.pos, .int .i64 p.i, .int .i64 p.j, .int .i64 p.rank, .slice pp p.picks.length cp]] W fun e w' => e = .returned (.bool bp) ∧ ∃ acc', Hid (acc'.length ≤ 1048577 ∧ Wr B b acc' w' ∧ Wk b wr w' ∧ (bp = true → acc' = addsB (addsB a3 ((ns.take i).flatMap ndB)) (ndB p)))) := fun W hb => by
          have hkw := Wk.below hb HR.out.2.1.lt
          refine (wnode_any (HR.out.2.1.keep hb) hal2 p _ (HK.out.any hb) (HOC.out.next (HR.out.2.2.trans hkw)) HPP.out).mono ?_
          rintro e w' ⟨h1, acc', h2⟩
          rw [HBP.out]
          exact ⟨h1, acc', h2.out.1, h2.out.2.1, hkw.trans h2.out.2.2.1, h2.out.2.2.2⟩
        cases bp with
        | true =>
          go_wp2_with (go_at_call 35; refine (KQ.out _ (by first | exact bel1 _ _ | exact Below.refl _ _)).mono ?_; rintro e w4 ⟨rfl, a4, h4⟩)
          go_roundw
          case rel =>
            refine ⟨i + 1, by omega, by go_num, ?_, ?_, HR.out.2.2.trans h4.out.2.2.1⟩
            · rw [List.take_add_one, HG.out]; simp [HR.out.1, ← HBP.out]
            · rw [List.take_add_one, HG.out, List.flatMap_append, addsB_app]
              have := h4.out.2.1
              rw [h4.out.2.2.2 (by simp)] at this
              simpa using this
          case measure => simp [intOf]; omega
        | false =>
          have hno : Hid (ctOk ⟨ro, ns⟩ = false) := by
            show ctOk _ = false
            rw [Bool.eq_false_iff]; intro h
            unfold ctOk at h
            simp only [Bool.and_eq_true] at h
            have := List.all_eq_true.1 h.2 p (List.mem_of_getElem? HG.out)
            rw [← HBP.out] at this; cases this
          go_wp2_with (go_at_call 35; refine (KQ.out _ (by first | exact bel1 _ _ | exact Below.refl _ _)).mono ?_; rintro e w4 ⟨rfl, a4, h4⟩)
          go_ret
          exact ⟨by rw [hno.out]; rfl, a4, h4.out.1, h4.out.2.1, HWC.out.2.trans (HR.out.2.2.trans h4.out.2.2.1), fun h => by rw [hno.out] at h; cases h⟩
      · obtain rfl : i = ns.length := by omega
        go_wp2
        go_ret
        have := HR.out
        rw [List.take_length] at this
        have hyes : ctOk ⟨ro, ns⟩ = true := by
          have hq := HBQ.out
          simp only [List.all_cons, List.all_nil, Bool.and_true] at hq
          unfold ctOk
          simp only [this.1, ← hq, Bool.and_self]
        refine ⟨by rw [hyes]; rfl, _, addsB_le _ _ hal, this.2.1, HWC.out.2.trans this.2.2, fun _ => ?_⟩
        rw [HDC.out, ← addsB_app]
        have e0 : ([84, 67] : List UInt8) = addsB [] [84, 67] := by decide
        rw [e0, ← addsB_app]
        unfold ctB
        simp
theorem Wr.newW (w : World) : Wr w.heap.size w.heap.size [] (w.alloc (.cells #[.pointer none, .slice none 0 0] 62)) :=
  ⟨Nat.le_refl _, _, _, Or.inl rfl, heap_alloc_new _ _, World.ownsRow_nil _ _ _ _, by simp [Value.ownBlock]⟩
set_option maxHeartbeats 4000000 in
set_option maxRecDepth 100000 in
/-- Put. -/
theorem put_any (c : Ct) (v : Value) (w : World) {F : Nat → Prop} (hz : IsNds w F v c.nodes) (hw : wfC c) :
    Calls Try.prog 10 #[.agg #[.int .i64 c.root, v]] w fun e w' => e = .returned (.tuple #[.string ⟨(putT c).1.toArray⟩, .int .i64 (putT c).2]) ∧ Hid (Below w.heap.size w w') := by
  obtain ⟨pv, cv, rfl⟩ := hz.slc
  obtain ⟨ro, ns⟩ := c
  simp only at *
  have hlI : ((ns.length : Nat) : Int) ≤ 1152921504606846976 := by have := hw.2.2; simp only at this; omega
  have HW : Hid (wfC ⟨ro, ns⟩) := hw
  have HZ : Hid (IsNds w (fun i => i < w.heap.size) (.slice pv ns.length cv) ns) := hz.low (fun _ _ h => h)
  clear hw hz
  obtain ⟨Y, hY⟩ : ∃ Y, Y = w.alloc (.cells #[.int .i64 ro, .slice pv ns.length cv] 24) := ⟨_, rfl⟩
  obtain ⟨X, hX⟩ : ∃ X, X = Y.alloc (.cells #[.pointer none, .slice none 0 0] 62) := ⟨_, rfl⟩
  have hYs : Y.heap.size = w.heap.size + 1 := by rw [hY]; simp
  have HYB : Hid (Below w.heap.size w Y) := by rw [hY]; exact bel1 _ _
  have HXB : Hid (Below w.heap.size w X) := by rw [hX]; exact HYB.out.alloc (by omega) _
  have HRX : Hid (Wr Y.heap.size Y.heap.size [] X) := by rw [hX]; exact Wr.newW Y
  have c0 : X.cell? ⟨w.heap.size, 0, none⟩ = some (.int .i64 ro) := by rw [hX, hY]; simp
  have c1 : X.cell? ⟨w.heap.size, 1, none⟩ = some (.slice pv ns.length cv) := by rw [hX, hY]; simp
  have HOF : Hid (Off Y.heap.size (fun i => i < Y.heap.size) X) := Off.old HRX.out (fun _ h => h)
  have KC : Hid (∀ w', w' = X → Calls Try.prog 20 #[.pointer (some ⟨Y.heap.size, 0, none⟩), .agg #[.int .i64 ro, .slice pv ns.length cv]] w' fun e w'' => e = .returned (.bool (ctOk ⟨ro, ns⟩)) ∧ ∃ acc', Hid (acc'.length ≤ 1048577 ∧ Wr Y.heap.size Y.heap.size acc' w'' ∧ Below w.heap.size w w'' ∧ w''.cell? ⟨w.heap.size, 1, none⟩ = some (.slice pv ns.length cv) ∧ (ctOk ⟨ro, ns⟩ = true → acc' = addsB [] (ctB ⟨ro, ns⟩)))) := fun w' e0 => by
    subst e0
    refine (wcert_any (F := fun i => i < Y.heap.size) HRX.out ⟨ro, ns⟩ _ ((HZ.out.any HXB.out).low (fun b h _ => by omega)) HOF.out HW.out).mono ?_
    rintro e w'' ⟨h1, acc', h2⟩
    refine ⟨h1, acc', h2.out.1, h2.out.2.1, ?_, ?_, h2.out.2.2.2⟩
    · have := HRX.out.below h2.out.2.2.1
      exact HXB.out.trans (this.mono (by omega))
    · exact h2.out.2.2.1.cel (HOF.out.mono (fun i h => by subst h; omega)) c1
  go_enter Try.func10, Try.ntmps10
  go_upto_region 2 with fail
  rw [← hY, ← hX]
  rw [show w.heap.size + 1 = Y.heap.size from hYs.symm]
  clear hX hY HRX HOF
  obtain ⟨yb, hyb⟩ : ∃ y, y = Y.heap.size := ⟨_, rfl⟩
  rw [← hyb] at KC
  rw [← hyb]
  have HW1 : w.heap.size ≤ yb := by omega
  clear hyb hYs HYB
  obtain ⟨ok, hok⟩ : ∃ x, x = ctOk ⟨ro, ns⟩ := ⟨_, rfl⟩
  rw [← hok] at KC
  have HOK : Hid (ok = ctOk ⟨ro, ns⟩) := hok
  clear hok
  cases ok with
  | false =>
    have hp : Hid (putT ⟨ro, ns⟩ = ([], 1800)) := by
      show putT _ = _
      unfold putT; rw [← HOK.out]; rfl
    go_wp2_with (go_at_call 20; refine (KC.out _ rfl).mono ?_; rintro e w3 ⟨rfl, a3, h3⟩)
    go_ret2
    exact ⟨by rw [hp.out]; rfl, h3.out.2.2.1⟩
  | true =>
    go_upto_if 7 with (go_at_call 20; refine (KC.out _ rfl).mono ?_; rintro e w3 ⟨rfl, a3, h3⟩)
    have HA : Hid (a3 = (ctB ⟨ro, ns⟩).take 1048577) := by
      have := h3.out.2.2.2.2 (by simp)
      rw [addsB_eq _ _ (by decide)] at this
      show a3 = _
      simpa using this
    have HW3 : Hid (Wr yb yb a3 w3 ∧ Below w.heap.size w w3) := ⟨h3.out.2.1, h3.out.2.2.1⟩
    have d1 := h3.out.2.2.2.1
    obtain ⟨al, hal⟩ : ∃ al, al = a3.length := ⟨_, rfl⟩
    have HAL : Hid (al = a3.length) := hal
    have KL : Hid (Calls Try.prog 21 #[.pointer (some ⟨yb, 0, none⟩)] w3 fun e w' => e = .returned (.int .i64 (al : Int)) ∧ w' = w3) := by
      rw [hal]; exact wLen_any HW3.out.1
    clear h3 hal KC
    by_cases hl : 65536 < ns.length
    · have hlI' : (65536 : Int) < (ns.length : Int) := by omega
      have hp : Hid (putT ⟨ro, ns⟩ = ([], 1801)) := by
        show putT _ = _
        unfold putT; rw [← HOK.out, if_pos rfl, if_pos (Or.inl hl)]
      go_wp2
      go_ret2
      exact ⟨by rw [hp.out]; rfl, HW3.out.2⟩
    · have hlI' : ¬ (65536 : Int) < (ns.length : Int) := by omega
      by_cases hm : 1048576 < al
      · have hmI : (1048576 : Int) < (al : Int) := by omega
        have hp : Hid (putT ⟨ro, ns⟩ = ([], 1801)) := by
          show putT _ = _
          have h1 := HAL.out
          rw [HA.out, List.length_take] at h1
          unfold putT; rw [← HOK.out, if_pos rfl, if_pos (Or.inr (by omega))]
        go_wp2_with (go_at_call 21; refine KL.out.mono ?_; rintro e w4 ⟨rfl, rfl⟩)
        go_ret2
        exact ⟨by rw [hp.out]; rfl, HW3.out.2⟩
      · have hmI : ¬ (1048576 : Int) < (al : Int) := by omega
        have h1 : al = min 1048577 (ctB ⟨ro, ns⟩).length := by have := HAL.out; rw [HA.out, List.length_take] at this; exact this
        have ha3 : Hid (a3 = ctB ⟨ro, ns⟩) := by
          show a3 = _
          rw [HA.out, List.take_of_length_le (by omega)]
        have hp : Hid (putT ⟨ro, ns⟩ = (ctB ⟨ro, ns⟩, 0)) := by
          show putT _ = _
          unfold putT; rw [← HOK.out, if_pos rfl, if_neg (by rintro (h | h) <;> (try simp only at h) <;> omega)]
        have hne : a3 ≠ [] := by rw [ha3.out]; unfold ctB; simp
        have KE : Hid (∀ w', w' = w3 → Calls Try.prog 22 #[.pointer (some ⟨yb, 0, none⟩)] w' fun e w'' => e = .returned (.string ⟨(putT ⟨ro, ns⟩).1.toArray⟩) ∧ Hid (Below w.heap.size w w'')) := fun w' e0 => by
          subst e0
          refine (wEnd_any HW3.out.1 hne).mono ?_
          rintro e w'' ⟨h1, h2⟩
          exact ⟨by rw [h1, hp.out, ha3.out], HW3.out.2.trans (h2.mono HW1)⟩
        clear h1 hne
        go_wp2_with (first
          | (go_at_call 21; refine KL.out.mono ?_; rintro e w4 ⟨rfl, rfl⟩)
          | (go_at_call 22; refine (KE.out _ rfl).mono ?_; rintro e w5 ⟨rfl, h5⟩))
        go_ret2
        exact ⟨by rw [hp.out]; rfl, h5⟩
end Go.Proofs.Ytgeajdfajfdjcaa
