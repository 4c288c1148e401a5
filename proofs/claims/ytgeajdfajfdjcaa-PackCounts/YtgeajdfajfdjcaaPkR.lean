/- The program's nodes as bytes. -/
import Derived.Test.YtgeajdfajfdjcaaPkQ
import Derived.Test.YtgeajdfajfdjcaaPkG
import Derived.Deep.RegionHeld3
import Derived.Deep.CutRange
namespace Go.Proofs.Ytgeajdfajfdjcaa
set_option linter.unusedVariables false
set_option linter.unusedSimpArgs false
open Go.ChangeShapes Go.WideShapes Go.ChangeAt Go.RowKit

def wfP (p : Pk) : Prop := wfz p.at_ ∧ wfz p.conj ∧ (∀ z ∈ p.kids, wfz z) ∧ p.kids.length ≤ 1152921504606846976
def wfN (n : Nd) : Prop := (wfz n.kind ∧ wfz n.name ∧ wfz n.rule ∧ wfz n.conj ∧ wfz n.pos ∧ wfz n.i ∧ wfz n.j ∧ wfz n.rank) ∧ (∀ p ∈ n.picks, wfP p) ∧ n.picks.length ≤ 1152921504606846976
theorem put_new_u8 {B b : Nat} {acc : List UInt8} {W : World} (h : Wr B b acc W) (hl : acc.length ≤ 1048577) (zs : List Int) {n : Nat} (hn : n = zs.length) (hm : zs.length ≤ 4) (hw : ∀ z ∈ zs, wfz z) :
    Calls Try.prog 46 #[.pointer (some ⟨b, 0, none⟩), .slice (some ⟨W.heap.size, 0, none⟩) n n] (W.alloc (.cells (zsV zs).toArray 3)) fun e w' => ∃ b', e = .returned (.bool b') ∧ Hid (b' = zs.all (fitZ 1)) ∧ ∃ acc', Hid (acc'.length ≤ 1048577 ∧ Wr B b acc' w' ∧ Wk b W w' ∧ (b' = true → acc' = addsB acc (zs.flatMap (beZ 1)))) := by
  refine (put_u8_at (n := n) h hl (bel1 _ _) zs (heap_alloc_new _ _) (Nat.le_refl _) hn (by simp) (by omega) hw).mono ?_
  rintro e w' ⟨e1, acc', h3⟩
  exact ⟨_, e1, rfl, acc', h3.out.1, h3.out.2.1, (Wk.below (bel1 _ _) h.lt).trans h3.out.2.2.1, fun hb => h3.out.2.2.2 hb⟩
theorem put_new_u16 {B b : Nat} {acc : List UInt8} {W : World} (h : Wr B b acc W) (hl : acc.length ≤ 1048577) (zs : List Int) {n : Nat} (hn : n = zs.length) (hm : zs.length ≤ 4) (hw : ∀ z ∈ zs, wfz z) :
    Calls Try.prog 48 #[.pointer (some ⟨b, 0, none⟩), .slice (some ⟨W.heap.size, 0, none⟩) n n] (W.alloc (.cells (zsV zs).toArray 3)) fun e w' => ∃ b', e = .returned (.bool b') ∧ Hid (b' = zs.all (fitZ 2)) ∧ ∃ acc', Hid (acc'.length ≤ 1048577 ∧ Wr B b acc' w' ∧ Wk b W w' ∧ (b' = true → acc' = addsB acc (zs.flatMap (beZ 2)))) := by
  refine (put_u16_at (n := n) h hl (bel1 _ _) zs (heap_alloc_new _ _) (Nat.le_refl _) hn (by simp) (by omega) hw).mono ?_
  rintro e w' ⟨e1, acc', h3⟩
  exact ⟨_, e1, rfl, acc', h3.out.1, h3.out.2.1, (Wk.below (bel1 _ _) h.lt).trans h3.out.2.2.1, fun hb => h3.out.2.2.2 hb⟩
theorem put_new_u32 {B b : Nat} {acc : List UInt8} {W : World} (h : Wr B b acc W) (hl : acc.length ≤ 1048577) (zs : List Int) {n : Nat} (hn : n = zs.length) (hm : zs.length ≤ 4) (hw : ∀ z ∈ zs, wfz z) :
    Calls Try.prog 34 #[.pointer (some ⟨b, 0, none⟩), .slice (some ⟨W.heap.size, 0, none⟩) n n] (W.alloc (.cells (zsV zs).toArray 3)) fun e w' => ∃ b', e = .returned (.bool b') ∧ Hid (b' = zs.all (fitZ 4)) ∧ ∃ acc', Hid (acc'.length ≤ 1048577 ∧ Wr B b acc' w' ∧ Wk b W w' ∧ (b' = true → acc' = addsB acc (zs.flatMap (beZ 4)))) := by
  refine (put_u32_at (n := n) h hl (bel1 _ _) zs (heap_alloc_new _ _) (Nat.le_refl _) hn (by simp) (by omega) hw).mono ?_
  rintro e w' ⟨e1, acc', h3⟩
  exact ⟨_, e1, rfl, acc', h3.out.1, h3.out.2.1, (Wk.below (bel1 _ _) h.lt).trans h3.out.2.2.1, fun hb => h3.out.2.2.2 hb⟩
set_option maxHeartbeats 16000000 in
set_option maxRecDepth 100000 in
theorem wnode_any {B b : Nat} {acc : List UInt8} {w : World} (h : Wr B b acc w) (hl : acc.length ≤ 1048577) (n : Nd) (u : Value) {F : Nat → Prop} (hz : IsPks w F u n.picks) (ho : Off b F w) (hw : wfN n) :
    Calls Try.prog 35 #[.pointer (some ⟨b, 0, none⟩), .agg #[.bool n.sign, .int .i64 n.kind, .int .i64 n.name, .int .i64 n.rule, .int .i64 n.conj, .int .i64 n.pos, .int .i64 n.i, .int .i64 n.j, .int .i64 n.rank, u]] w fun e w' => e = .returned (.bool (ndOk n)) ∧ ∃ acc', Hid (acc'.length ≤ 1048577 ∧ Wr B b acc' w' ∧ Wk b w w' ∧ (ndOk n = true → acc' = addsB acc (ndB n))) := by
  obtain ⟨pu, cu, rfl⟩ := hz.slc
  obtain ⟨sg, kd, nm, ru, cj, po, ni, nj, rk, ps⟩ := n
  obtain ⟨⟨w1, w2, w3, w4, w5, w6, w7, w8⟩, wp, wl⟩ := hw
  simp only at *
  have H : Hid (Wr B b acc w) := h
  have HZ : Hid (IsPks w F (.slice pu ps.length cu) ps) := hz
  have HO : Hid (Off b F w) := ho
  have HP : Hid ((∀ p ∈ ps, wfP p) ∧ ps.length ≤ 1152921504606846976) := ⟨wp, wl⟩
  have hlI : ((ps.length : Nat) : Int) ≤ 1152921504606846976 := by omega
  have HMA : Hid (∀ z ∈ [sgZ sg, kd], wfz z) := by
    show ∀ z ∈ [sgZ sg, kd], wfz z
    simp only [List.mem_cons, List.not_mem_nil, or_false]
    rintro z (rfl | rfl)
    · cases sg <;> exact ⟨by decide, by decide⟩
    · exact w1
  have HMB : Hid (∀ z ∈ [nm, ru], wfz z) := by
    show ∀ z ∈ [nm, ru], wfz z
    simp only [List.mem_cons, List.not_mem_nil, or_false]
    rintro z (rfl | rfl)
    · exact w2
    · exact w3
  have HMC : Hid (∀ z ∈ [cj, po, ni, nj], wfz z) := by
    show ∀ z ∈ [cj, po, ni, nj], wfz z
    simp only [List.mem_cons, List.not_mem_nil, or_false]
    rintro z (rfl | rfl | rfl | rfl)
    · exact w4
    · exact w5
    · exact w6
    · exact w7
  have HMD : Hid (∀ z ∈ [rk], wfz z) := by
    show ∀ z ∈ [rk], wfz z
    simp only [List.mem_cons, List.not_mem_nil, or_false]
    rintro z rfl
    exact w8
  have HME : Hid (∀ z ∈ [((ps.length : Nat) : Int)], wfz z) := by
    show ∀ z ∈ [((ps.length : Nat) : Int)], wfz z
    simp only [List.mem_cons, List.not_mem_nil, or_false]
    rintro z rfl
    exact wfz_nat hlI
  clear w1 w2 w3 w4 w5 w6 w7 w8 wp wl h hz ho
  have HNO1 : Hid (isNd ⟨sg, kd, nm, ru, cj, po, ni, nj, rk, ps⟩ = false → ndOk ⟨sg, kd, nm, ru, cj, po, ni, nj, rk, ps⟩ = false) := fun e => by unfold ndOk hdOk; rw [e]; rfl
  have HNO2 : Hid ([sgZ sg, kd].all (fitZ 1) = false → ndOk ⟨sg, kd, nm, ru, cj, po, ni, nj, rk, ps⟩ = false) := fun e => by
    rw [Bool.eq_false_iff]; intro h
    unfold ndOk hdOk at h; simp only [Bool.and_eq_true] at h
    have := isNd_kind h.1.1.1.1.1.1.1.1.1
    simp [sg_fit, this] at e
  have HNO3 : Hid ([nm, ru].all (fitZ 2) = false → ndOk ⟨sg, kd, nm, ru, cj, po, ni, nj, rk, ps⟩ = false) := fun e => by
    rw [Bool.eq_false_iff]; intro h
    unfold ndOk hdOk at h; simp only [Bool.and_eq_true] at h
    simp [h] at e
  have HNO4 : Hid ([cj, po, ni, nj].all (fitZ 1) = false → ndOk ⟨sg, kd, nm, ru, cj, po, ni, nj, rk, ps⟩ = false) := fun e => by
    rw [Bool.eq_false_iff]; intro h
    unfold ndOk hdOk at h; simp only [Bool.and_eq_true] at h
    simp [h] at e
  have HNO5 : Hid ([rk].all (fitZ 4) = false → ndOk ⟨sg, kd, nm, ru, cj, po, ni, nj, rk, ps⟩ = false) := fun e => by
    rw [Bool.eq_false_iff]; intro h
    unfold ndOk hdOk at h; simp only [Bool.and_eq_true] at h
    simp [h] at e
  have HNO6 : Hid ([((ps.length : Nat) : Int)].all (fitZ 2) = false → ndOk ⟨sg, kd, nm, ru, cj, po, ni, nj, rk, ps⟩ = false) := fun e => by
    rw [Bool.eq_false_iff]; intro h
    unfold ndOk hdOk at h; simp only [Bool.and_eq_true] at h
    simp [h] at e
  obtain ⟨X, hX⟩ : ∃ X, X = (w.alloc (.cells #[.bool sg, .int .i64 kd, .int .i64 nm, .int .i64 ru, .int .i64 cj, .int .i64 po, .int .i64 ni, .int .i64 nj, .int .i64 rk, .slice pu ps.length cu] 46)).alloc (.cells #[.int .i64 ru, .int .i64 cj, .int .i64 po] 43) := ⟨_, rfl⟩
  have HX : Hid (Below w.heap.size w X) := by rw [hX]; exact (bel1 _ _).alloc (by simp) _
  have HWX : Hid (Wk b w X) := Wk.below HX.out H.out.lt
  have HRX : Hid (Wr B b acc X) := H.out.keep HX.out
  have HON : Hid (Off b (fun i => i = w.heap.size) X) := Off.one H.out HX.out (Nat.le_refl _) (by rw [hX]; simp; omega)
  have HOP : Hid (Off b (fun i => i = w.heap.size + 1) X) := Off.one H.out HX.out (by omega) (by rw [hX]; simp)
  have SB : Hid (∀ w', Wk b X w' → w'.cell? ⟨w.heap.size, 0, none⟩ = some (.bool sg) ∧ w'.cell? ⟨w.heap.size, 1, none⟩ = some (.int .i64 kd) ∧ w'.cell? ⟨w.heap.size, 2, none⟩ = some (.int .i64 nm) ∧ w'.cell? ⟨w.heap.size, 3, none⟩ = some (.int .i64 ru) ∧ w'.cell? ⟨w.heap.size, 4, none⟩ = some (.int .i64 cj) ∧ w'.cell? ⟨w.heap.size, 5, none⟩ = some (.int .i64 po) ∧ w'.cell? ⟨w.heap.size, 6, none⟩ = some (.int .i64 ni) ∧ w'.cell? ⟨w.heap.size, 7, none⟩ = some (.int .i64 nj) ∧ w'.cell? ⟨w.heap.size, 8, none⟩ = some (.int .i64 rk) ∧ w'.cell? ⟨w.heap.size, 9, none⟩ = some (.slice pu ps.length cu) ∧ w'.cell? ⟨w.heap.size + 1, 0, none⟩ = some (.int .i64 ru) ∧ w'.cell? ⟨w.heap.size + 1, 1, none⟩ = some (.int .i64 cj) ∧ w'.cell? ⟨w.heap.size + 1, 2, none⟩ = some (.int .i64 po)) := fun w' k => by
    have hN := HON.out
    have hP := HOP.out
    refine ⟨k.cel hN ?_, k.cel hN ?_, k.cel hN ?_, k.cel hN ?_, k.cel hN ?_, k.cel hN ?_, k.cel hN ?_, k.cel hN ?_, k.cel hN ?_, k.cel hN ?_, k.cel hP ?_, k.cel hP ?_, k.cel hP ?_⟩ <;> (subst hX; simp)
  have HXD : Hid (Wk b X X.drew) := Wk.below (Below.refl _ _).drew HRX.out.lt
  have KI : Hid (∀ w', Wk b X w' → Below X.heap.size X w' → Calls Try.prog 45 #[.agg #[.bool sg, .int .i64 kd, .int .i64 nm, .int .i64 ru, .int .i64 cj, .int .i64 po, .int .i64 ni, .int .i64 nj, .int .i64 rk, .slice pu ps.length cu]] w' fun e w'' => ∃ b1, e = .returned (.bool b1) ∧ Hid (b1 = isNd ⟨sg, kd, nm, ru, cj, po, ni, nj, rk, ps⟩) ∧ Hid (Wk b X w'') ∧ Hid (acc.length ≤ 1048577 ∧ Wr B b acc w'' ∧ True)) := fun w' k hb => by
    refine (isNode_any ⟨sg, kd, nm, ru, cj, po, ni, nj, rk, ps⟩ _ w').mono ?_
    rintro e w'' ⟨h1, h2⟩
    have hr := HRX.out.keep hb
    exact ⟨_, h1, rfl, k.trans (Wk.below h2.out hr.lt), hl, hr.keep h2.out, trivial⟩
  have KA : Hid (∀ (W : World) (a1 : List UInt8), a1.length ≤ 1048577 → Wr B b a1 W → Calls Try.prog 46 #[.pointer (some ⟨b, 0, none⟩), .slice (some ⟨W.heap.size, 0, none⟩) 2 2] (W.alloc (.cells #[.int .i64 (sgZ sg), .int .i64 kd] 3)) fun e w' => ∃ b', e = .returned (.bool b') ∧ Hid (b' = [sgZ sg, kd].all (fitZ 1)) ∧ ∃ acc', Hid (acc'.length ≤ 1048577 ∧ Wr B b acc' w' ∧ Wk b W w' ∧ (b' = true → acc' = addsB a1 ([sgZ sg, kd].flatMap (beZ 1))))) := fun W a1 h1 h2 =>
    put_new_u8 (W := W) h2 h1 [sgZ sg, kd] (n := 2) rfl (by simp) HMA.out
  have KB : Hid (∀ (W : World) (a1 : List UInt8), a1.length ≤ 1048577 → Wr B b a1 W → Calls Try.prog 48 #[.pointer (some ⟨b, 0, none⟩), .slice (some ⟨W.heap.size, 0, none⟩) 2 2] (W.alloc (.cells #[.int .i64 nm, .int .i64 ru] 3)) fun e w' => ∃ b', e = .returned (.bool b') ∧ Hid (b' = [nm, ru].all (fitZ 2)) ∧ ∃ acc', Hid (acc'.length ≤ 1048577 ∧ Wr B b acc' w' ∧ Wk b W w' ∧ (b' = true → acc' = addsB a1 ([nm, ru].flatMap (beZ 2))))) := fun W a1 h1 h2 =>
    put_new_u16 (W := W) h2 h1 [nm, ru] (n := 2) rfl (by simp) HMB.out
  have KC : Hid (∀ (W : World) (a1 : List UInt8), a1.length ≤ 1048577 → Wr B b a1 W → Calls Try.prog 46 #[.pointer (some ⟨b, 0, none⟩), .slice (some ⟨W.heap.size, 0, none⟩) 4 4] (W.alloc (.cells #[.int .i64 cj, .int .i64 po, .int .i64 ni, .int .i64 nj] 3)) fun e w' => ∃ b', e = .returned (.bool b') ∧ Hid (b' = [cj, po, ni, nj].all (fitZ 1)) ∧ ∃ acc', Hid (acc'.length ≤ 1048577 ∧ Wr B b acc' w' ∧ Wk b W w' ∧ (b' = true → acc' = addsB a1 ([cj, po, ni, nj].flatMap (beZ 1))))) := fun W a1 h1 h2 =>
    put_new_u8 (W := W) h2 h1 [cj, po, ni, nj] (n := 4) rfl (by simp) HMC.out
  have KD : Hid (∀ (W : World) (a1 : List UInt8), a1.length ≤ 1048577 → Wr B b a1 W → Calls Try.prog 34 #[.pointer (some ⟨b, 0, none⟩), .slice (some ⟨W.heap.size, 0, none⟩) 1 1] (W.alloc (.cells #[.int .i64 rk] 3)) fun e w' => ∃ b', e = .returned (.bool b') ∧ Hid (b' = [rk].all (fitZ 4)) ∧ ∃ acc', Hid (acc'.length ≤ 1048577 ∧ Wr B b acc' w' ∧ Wk b W w' ∧ (b' = true → acc' = addsB a1 ([rk].flatMap (beZ 4))))) := fun W a1 h1 h2 =>
    put_new_u32 (W := W) h2 h1 [rk] (n := 1) rfl (by simp) HMD.out
  have KE : Hid (∀ (W : World) (a1 : List UInt8), a1.length ≤ 1048577 → Wr B b a1 W → Calls Try.prog 48 #[.pointer (some ⟨b, 0, none⟩), .slice (some ⟨W.heap.size, 0, none⟩) 1 1] (W.alloc (.cells #[.int .i64 (((ps.length : Nat) : Int))] 3)) fun e w' => ∃ b', e = .returned (.bool b') ∧ Hid (b' = [((ps.length : Nat) : Int)].all (fitZ 2)) ∧ ∃ acc', Hid (acc'.length ≤ 1048577 ∧ Wr B b acc' w' ∧ Wk b W w' ∧ (b' = true → acc' = addsB a1 ([((ps.length : Nat) : Int)].flatMap (beZ 2))))) := fun W a1 h1 h2 =>
    put_new_u16 (W := W) h2 h1 [((ps.length : Nat) : Int)] (n := 1) rfl (by simp) HME.out
  go_enter Try.func35, Try.ntmps35
  go_upto_region 2 with fail
  rw [← hX]
  clear hX
  have HYES : Hid (isNd ⟨sg, kd, nm, ru, cj, po, ni, nj, rk, ps⟩ = true → [sgZ sg, kd].all (fitZ 1) = true → [nm, ru].all (fitZ 2) = true → [cj, po, ni, nj].all (fitZ 1) = true → [rk].all (fitZ 4) = true → [((ps.length : Nat) : Int)].all (fitZ 2) = true → hdOk ⟨sg, kd, nm, ru, cj, po, ni, nj, rk, ps⟩ = true) := fun e1 e2 e3 e4 e5 e6 => by
    simp only [List.all_cons, List.all_nil, Bool.and_true, Bool.and_eq_true] at e2 e3 e4 e5 e6
    unfold hdOk
    simp [e1, e2, e3, e4, e5, e6]
  go_cut [64] from 10 to 64 (fun x wc => ∃ bb acc', x = .bool bb ∧ Hid (acc'.length ≤ 1048577 ∧ Wr B b acc' wc ∧ Wk b X wc ∧ (bb = true → ndOk ⟨sg, kd, nm, ru, cj, po, ni, nj, rk, ps⟩ = false) ∧ (bb = false → hdOk ⟨sg, kd, nm, ru, cj, po, ni, nj, rk, ps⟩ = true ∧ acc' = addsB acc (hdB ⟨sg, kd, nm, ru, cj, po, ni, nj, rk, ps⟩))))
  case first =>
    refine wp_region_noPanic ?_
    (try simp only [List.append])
    refine wp_region_held_drew (S := fun w' => w'.cell? ⟨w.heap.size, 0, none⟩ = some (.bool sg) ∧ w'.cell? ⟨w.heap.size, 1, none⟩ = some (.int .i64 kd) ∧ w'.cell? ⟨w.heap.size, 2, none⟩ = some (.int .i64 nm) ∧ w'.cell? ⟨w.heap.size, 3, none⟩ = some (.int .i64 ru) ∧ w'.cell? ⟨w.heap.size, 4, none⟩ = some (.int .i64 cj) ∧ w'.cell? ⟨w.heap.size, 5, none⟩ = some (.int .i64 po) ∧ w'.cell? ⟨w.heap.size, 6, none⟩ = some (.int .i64 ni) ∧ w'.cell? ⟨w.heap.size, 7, none⟩ = some (.int .i64 nj) ∧ w'.cell? ⟨w.heap.size, 8, none⟩ = some (.int .i64 rk) ∧ w'.cell? ⟨w.heap.size, 9, none⟩ = some (.slice pu ps.length cu) ∧ w'.cell? ⟨w.heap.size + 1, 0, none⟩ = some (.int .i64 ru) ∧ w'.cell? ⟨w.heap.size + 1, 1, none⟩ = some (.int .i64 cj) ∧ w'.cell? ⟨w.heap.size + 1, 2, none⟩ = some (.int .i64 po)) (by kernel_rfl) ?_ (fun hHeld => ?_)
    · (try dsimp only); exact SB.out _ HXD.out
    refine take_d (i := 0) (oi := _) (v := ?_) (d := some 10) rfl (by kernel_rfl) (by kernel_rfl) (by kernel_rfl) (fun _ _ _ h => h) (Or.inl ⟨by kernel_rfl, ?_⟩) hHeld rfl ?_
    rotate_left
    · intro w' hSw; (try dsimp only at hSw); go_simp; (try with_reducible rfl)
    simp only [Act.put, List.setIfInBounds_toArray, List.append, List.set_cons_zero, List.set_cons_succ]
    refine wpAnyH_ready (rs := [1]) (by kernel_rfl) (by simp) ?_
    refine AllReadyH.cons rfl (fun K hK => ?_) ?_
    · (go_simp; refine (KI.out _ HXD.out (Below.refl _ _).drew).mono ?_; rintro e w1 ⟨b1, rfl, e1, k1, r1⟩)
      refine hK.out _ _ ?_ (fun hHeld => ?_)
      · (try dsimp only); exact SB.out _ k1.out
      clear hK K
      (try simp only [Act.put, List.setIfInBounds_toArray, List.append, List.set_cons_zero, List.set_cons_succ])
      cases b1 with
      | false =>
        refine take_d (i := 2) (oi := _) (v := ?_) (d := some 12) rfl (by kernel_rfl) (by kernel_rfl) (by kernel_rfl) (fun _ _ _ h => h) (Or.inl ⟨by kernel_rfl, ?_⟩) hHeld rfl ?_
        rotate_left
        · intro w' hSw; (try dsimp only at hSw); go_simp; (try with_reducible rfl)
        simp only [Act.put, List.setIfInBounds_toArray, List.append, List.set_cons_zero, List.set_cons_succ]
        refine take_d (i := 3) (oi := _) (v := ?_) (d := some 13) rfl (by kernel_rfl) (by kernel_rfl) (by kernel_rfl) (fun _ _ _ h => h) (Or.inl ⟨by kernel_rfl, ?_⟩) hHeld rfl ?_
        rotate_left
        · intro w' hSw; (try dsimp only at hSw); go_simp; (try with_reducible rfl)
        simp only [Act.put, List.setIfInBounds_toArray, List.append, List.set_cons_zero, List.set_cons_succ]
        refine take_d (i := 4) (oi := _) (v := undef) (d := some 14) rfl (by kernel_rfl) (by kernel_rfl) (by kernel_rfl) (fun _ _ _ h => h) (Or.inr ⟨by kernel_rfl, rfl⟩) hHeld rfl ?_
        simp only [Act.put, List.setIfInBounds_toArray, List.append, List.set_cons_zero, List.set_cons_succ]
        refine take_d (i := 5) (oi := _) (v := undef) (d := some 15) rfl (by kernel_rfl) (by kernel_rfl) (by kernel_rfl) (fun _ _ _ h => h) (Or.inr ⟨by kernel_rfl, rfl⟩) hHeld rfl ?_
        simp only [Act.put, List.setIfInBounds_toArray, List.append, List.set_cons_zero, List.set_cons_succ]
        refine take_d (i := 6) (oi := _) (v := undef) (d := some 16) rfl (by kernel_rfl) (by kernel_rfl) (by kernel_rfl) (fun _ _ _ h => h) (Or.inr ⟨by kernel_rfl, rfl⟩) hHeld rfl ?_
        simp only [Act.put, List.setIfInBounds_toArray, List.append, List.set_cons_zero, List.set_cons_succ]
        refine take_d (i := 7) (oi := _) (v := undef) (d := some 17) rfl (by kernel_rfl) (by kernel_rfl) (by kernel_rfl) (fun _ _ _ h => h) (Or.inr ⟨by kernel_rfl, rfl⟩) hHeld rfl ?_
        simp only [Act.put, List.setIfInBounds_toArray, List.append, List.set_cons_zero, List.set_cons_succ]
        refine take_d (i := 8) (oi := _) (v := undef) (d := some 18) rfl (by kernel_rfl) (by kernel_rfl) (by kernel_rfl) (fun _ _ _ h => h) (Or.inr ⟨by kernel_rfl, rfl⟩) hHeld rfl ?_
        simp only [Act.put, List.setIfInBounds_toArray, List.append, List.set_cons_zero, List.set_cons_succ]
        refine take_d (i := 9) (oi := _) (v := undef) (d := some 19) rfl (by kernel_rfl) (by kernel_rfl) (by kernel_rfl) (fun _ _ _ h => h) (Or.inr ⟨by kernel_rfl, rfl⟩) hHeld rfl ?_
        simp only [Act.put, List.setIfInBounds_toArray, List.append, List.set_cons_zero, List.set_cons_succ]
        refine take_d (i := 10) (oi := _) (v := undef) (d := some 20) rfl (by kernel_rfl) (by kernel_rfl) (by kernel_rfl) (fun _ _ _ h => h) (Or.inr ⟨by kernel_rfl, rfl⟩) hHeld rfl ?_
        simp only [Act.put, List.setIfInBounds_toArray, List.append, List.set_cons_zero, List.set_cons_succ]
        refine take_d (i := 11) (oi := _) (v := undef) (d := some 21) rfl (by kernel_rfl) (by kernel_rfl) (by kernel_rfl) (fun _ _ _ h => h) (Or.inr ⟨by kernel_rfl, rfl⟩) hHeld rfl ?_
        simp only [Act.put, List.setIfInBounds_toArray, List.append, List.set_cons_zero, List.set_cons_succ]
        refine take_d (i := 12) (oi := _) (v := undef) (d := some 22) rfl (by kernel_rfl) (by kernel_rfl) (by kernel_rfl) (fun _ _ _ h => h) (Or.inr ⟨by kernel_rfl, rfl⟩) hHeld rfl ?_
        simp only [Act.put, List.setIfInBounds_toArray, List.append, List.set_cons_zero, List.set_cons_succ]
        refine take_d (i := 13) (oi := _) (v := ?_) (d := some 23) rfl (by kernel_rfl) (by kernel_rfl) (by kernel_rfl) (fun _ _ _ h => h) (Or.inl ⟨by kernel_rfl, ?_⟩) hHeld rfl ?_
        rotate_left
        · intro w' hSw; (try dsimp only at hSw); go_simp; (try with_reducible rfl)
        simp only [Act.put, List.setIfInBounds_toArray, List.append, List.set_cons_zero, List.set_cons_succ]
        refine take_d (i := 14) (oi := _) (v := ?_) (d := some 24) rfl (by kernel_rfl) (by kernel_rfl) (by kernel_rfl) (fun _ _ _ h => h) (Or.inl ⟨by kernel_rfl, ?_⟩) hHeld rfl ?_
        rotate_left
        · intro w' hSw; (try dsimp only at hSw); go_simp; (try with_reducible rfl)
        simp only [Act.put, List.setIfInBounds_toArray, List.append, List.set_cons_zero, List.set_cons_succ]
        refine take_d (i := 15) (oi := _) (v := undef) (d := some 25) rfl (by kernel_rfl) (by kernel_rfl) (by kernel_rfl) (fun _ _ _ h => h) (Or.inr ⟨by kernel_rfl, rfl⟩) hHeld rfl ?_
        simp only [Act.put, List.setIfInBounds_toArray, List.append, List.set_cons_zero, List.set_cons_succ]
        refine take_d (i := 16) (oi := _) (v := undef) (d := some 26) rfl (by kernel_rfl) (by kernel_rfl) (by kernel_rfl) (fun _ _ _ h => h) (Or.inr ⟨by kernel_rfl, rfl⟩) hHeld rfl ?_
        simp only [Act.put, List.setIfInBounds_toArray, List.append, List.set_cons_zero, List.set_cons_succ]
        refine take_d (i := 17) (oi := _) (v := undef) (d := some 27) rfl (by kernel_rfl) (by kernel_rfl) (by kernel_rfl) (fun _ _ _ h => h) (Or.inr ⟨by kernel_rfl, rfl⟩) hHeld rfl ?_
        simp only [Act.put, List.setIfInBounds_toArray, List.append, List.set_cons_zero, List.set_cons_succ]
        refine take_d (i := 18) (oi := _) (v := undef) (d := some 28) rfl (by kernel_rfl) (by kernel_rfl) (by kernel_rfl) (fun _ _ _ h => h) (Or.inr ⟨by kernel_rfl, rfl⟩) hHeld rfl ?_
        simp only [Act.put, List.setIfInBounds_toArray, List.append, List.set_cons_zero, List.set_cons_succ]
        refine take_d (i := 19) (oi := _) (v := undef) (d := some 29) rfl (by kernel_rfl) (by kernel_rfl) (by kernel_rfl) (fun _ _ _ h => h) (Or.inr ⟨by kernel_rfl, rfl⟩) hHeld rfl ?_
        simp only [Act.put, List.setIfInBounds_toArray, List.append, List.set_cons_zero, List.set_cons_succ]
        refine take_d (i := 20) (oi := _) (v := undef) (d := some 30) rfl (by kernel_rfl) (by kernel_rfl) (by kernel_rfl) (fun _ _ _ h => h) (Or.inr ⟨by kernel_rfl, rfl⟩) hHeld rfl ?_
        simp only [Act.put, List.setIfInBounds_toArray, List.append, List.set_cons_zero, List.set_cons_succ]
        refine take_d (i := 21) (oi := _) (v := undef) (d := some 31) rfl (by kernel_rfl) (by kernel_rfl) (by kernel_rfl) (fun _ _ _ h => h) (Or.inr ⟨by kernel_rfl, rfl⟩) hHeld rfl ?_
        simp only [Act.put, List.setIfInBounds_toArray, List.append, List.set_cons_zero, List.set_cons_succ]
        refine take_d (i := 22) (oi := _) (v := undef) (d := some 32) rfl (by kernel_rfl) (by kernel_rfl) (by kernel_rfl) (fun _ _ _ h => h) (Or.inr ⟨by kernel_rfl, rfl⟩) hHeld rfl ?_
        simp only [Act.put, List.setIfInBounds_toArray, List.append, List.set_cons_zero, List.set_cons_succ]
        refine take_d (i := 23) (oi := _) (v := ?_) (d := some 33) rfl (by kernel_rfl) (by kernel_rfl) (by kernel_rfl) (fun _ _ _ h => h) (Or.inl ⟨by kernel_rfl, ?_⟩) hHeld rfl ?_
        rotate_left
        · intro w' hSw; (try dsimp only at hSw); go_simp; (try with_reducible rfl)
        simp only [Act.put, List.setIfInBounds_toArray, List.append, List.set_cons_zero, List.set_cons_succ]
        refine take_d (i := 24) (oi := _) (v := ?_) (d := some 34) rfl (by kernel_rfl) (by kernel_rfl) (by kernel_rfl) (fun _ _ _ h => h) (Or.inl ⟨by kernel_rfl, ?_⟩) hHeld rfl ?_
        rotate_left
        · intro w' hSw; (try dsimp only at hSw); go_simp; (try with_reducible rfl)
        simp only [Act.put, List.setIfInBounds_toArray, List.append, List.set_cons_zero, List.set_cons_succ]
        refine take_d (i := 25) (oi := _) (v := undef) (d := some 35) rfl (by kernel_rfl) (by kernel_rfl) (by kernel_rfl) (fun _ _ _ h => h) (Or.inr ⟨by kernel_rfl, rfl⟩) hHeld rfl ?_
        simp only [Act.put, List.setIfInBounds_toArray, List.append, List.set_cons_zero, List.set_cons_succ]
        refine take_d (i := 26) (oi := _) (v := undef) (d := some 36) rfl (by kernel_rfl) (by kernel_rfl) (by kernel_rfl) (fun _ _ _ h => h) (Or.inr ⟨by kernel_rfl, rfl⟩) hHeld rfl ?_
        simp only [Act.put, List.setIfInBounds_toArray, List.append, List.set_cons_zero, List.set_cons_succ]
        refine take_d (i := 27) (oi := _) (v := undef) (d := some 37) rfl (by kernel_rfl) (by kernel_rfl) (by kernel_rfl) (fun _ _ _ h => h) (Or.inr ⟨by kernel_rfl, rfl⟩) hHeld rfl ?_
        simp only [Act.put, List.setIfInBounds_toArray, List.append, List.set_cons_zero, List.set_cons_succ]
        refine take_d (i := 28) (oi := _) (v := undef) (d := some 38) rfl (by kernel_rfl) (by kernel_rfl) (by kernel_rfl) (fun _ _ _ h => h) (Or.inr ⟨by kernel_rfl, rfl⟩) hHeld rfl ?_
        simp only [Act.put, List.setIfInBounds_toArray, List.append, List.set_cons_zero, List.set_cons_succ]
        refine take_d (i := 29) (oi := _) (v := undef) (d := some 39) rfl (by kernel_rfl) (by kernel_rfl) (by kernel_rfl) (fun _ _ _ h => h) (Or.inr ⟨by kernel_rfl, rfl⟩) hHeld rfl ?_
        simp only [Act.put, List.setIfInBounds_toArray, List.append, List.set_cons_zero, List.set_cons_succ]
        refine take_d (i := 30) (oi := _) (v := undef) (d := some 40) rfl (by kernel_rfl) (by kernel_rfl) (by kernel_rfl) (fun _ _ _ h => h) (Or.inr ⟨by kernel_rfl, rfl⟩) hHeld rfl ?_
        simp only [Act.put, List.setIfInBounds_toArray, List.append, List.set_cons_zero, List.set_cons_succ]
        refine take_d (i := 31) (oi := _) (v := undef) (d := some 41) rfl (by kernel_rfl) (by kernel_rfl) (by kernel_rfl) (fun _ _ _ h => h) (Or.inr ⟨by kernel_rfl, rfl⟩) hHeld rfl ?_
        simp only [Act.put, List.setIfInBounds_toArray, List.append, List.set_cons_zero, List.set_cons_succ]
        refine take_d (i := 32) (oi := _) (v := undef) (d := some 42) rfl (by kernel_rfl) (by kernel_rfl) (by kernel_rfl) (fun _ _ _ h => h) (Or.inr ⟨by kernel_rfl, rfl⟩) hHeld rfl ?_
        simp only [Act.put, List.setIfInBounds_toArray, List.append, List.set_cons_zero, List.set_cons_succ]
        refine take_d (i := 33) (oi := _) (v := undef) (d := some 43) rfl (by kernel_rfl) (by kernel_rfl) (by kernel_rfl) (fun _ _ _ h => h) (Or.inr ⟨by kernel_rfl, rfl⟩) hHeld rfl ?_
        simp only [Act.put, List.setIfInBounds_toArray, List.append, List.set_cons_zero, List.set_cons_succ]
        refine take_d (i := 34) (oi := _) (v := undef) (d := some 44) rfl (by kernel_rfl) (by kernel_rfl) (by kernel_rfl) (fun _ _ _ h => h) (Or.inr ⟨by kernel_rfl, rfl⟩) hHeld rfl ?_
        simp only [Act.put, List.setIfInBounds_toArray, List.append, List.set_cons_zero, List.set_cons_succ]
        refine take_d (i := 35) (oi := _) (v := undef) (d := some 45) rfl (by kernel_rfl) (by kernel_rfl) (by kernel_rfl) (fun _ _ _ h => h) (Or.inr ⟨by kernel_rfl, rfl⟩) hHeld rfl ?_
        simp only [Act.put, List.setIfInBounds_toArray, List.append, List.set_cons_zero, List.set_cons_succ]
        refine take_d (i := 36) (oi := _) (v := undef) (d := some 46) rfl (by kernel_rfl) (by kernel_rfl) (by kernel_rfl) (fun _ _ _ h => h) (Or.inr ⟨by kernel_rfl, rfl⟩) hHeld rfl ?_
        simp only [Act.put, List.setIfInBounds_toArray, List.append, List.set_cons_zero, List.set_cons_succ]
        refine take_d (i := 37) (oi := _) (v := ?_) (d := some 47) rfl (by kernel_rfl) (by kernel_rfl) (by kernel_rfl) (fun _ _ _ h => h) (Or.inl ⟨by kernel_rfl, ?_⟩) hHeld rfl ?_
        rotate_left
        · intro w' hSw; (try dsimp only at hSw); go_simp; (try with_reducible rfl)
        simp only [Act.put, List.setIfInBounds_toArray, List.append, List.set_cons_zero, List.set_cons_succ]
        refine take_d (i := 38) (oi := _) (v := ?_) (d := some 48) rfl (by kernel_rfl) (by kernel_rfl) (by kernel_rfl) (fun _ _ _ h => h) (Or.inl ⟨by kernel_rfl, ?_⟩) hHeld rfl ?_
        rotate_left
        · intro w' hSw; (try dsimp only at hSw); go_simp; (try with_reducible rfl)
        simp only [Act.put, List.setIfInBounds_toArray, List.append, List.set_cons_zero, List.set_cons_succ]
        refine take_d (i := 39) (oi := _) (v := undef) (d := some 49) rfl (by kernel_rfl) (by kernel_rfl) (by kernel_rfl) (fun _ _ _ h => h) (Or.inr ⟨by kernel_rfl, rfl⟩) hHeld rfl ?_
        simp only [Act.put, List.setIfInBounds_toArray, List.append, List.set_cons_zero, List.set_cons_succ]
        refine take_d (i := 40) (oi := _) (v := undef) (d := some 50) rfl (by kernel_rfl) (by kernel_rfl) (by kernel_rfl) (fun _ _ _ h => h) (Or.inr ⟨by kernel_rfl, rfl⟩) hHeld rfl ?_
        simp only [Act.put, List.setIfInBounds_toArray, List.append, List.set_cons_zero, List.set_cons_succ]
        refine take_d (i := 41) (oi := _) (v := undef) (d := some 51) rfl (by kernel_rfl) (by kernel_rfl) (by kernel_rfl) (fun _ _ _ h => h) (Or.inr ⟨by kernel_rfl, rfl⟩) hHeld rfl ?_
        simp only [Act.put, List.setIfInBounds_toArray, List.append, List.set_cons_zero, List.set_cons_succ]
        refine take_d (i := 42) (oi := _) (v := undef) (d := some 52) rfl (by kernel_rfl) (by kernel_rfl) (by kernel_rfl) (fun _ _ _ h => h) (Or.inr ⟨by kernel_rfl, rfl⟩) hHeld rfl ?_
        simp only [Act.put, List.setIfInBounds_toArray, List.append, List.set_cons_zero, List.set_cons_succ]
        refine take_d (i := 43) (oi := _) (v := undef) (d := some 53) rfl (by kernel_rfl) (by kernel_rfl) (by kernel_rfl) (fun _ _ _ h => h) (Or.inr ⟨by kernel_rfl, rfl⟩) hHeld rfl ?_
        simp only [Act.put, List.setIfInBounds_toArray, List.append, List.set_cons_zero, List.set_cons_succ]
        refine take_d (i := 44) (oi := _) (v := undef) (d := some 54) rfl (by kernel_rfl) (by kernel_rfl) (by kernel_rfl) (fun _ _ _ h => h) (Or.inr ⟨by kernel_rfl, rfl⟩) hHeld rfl ?_
        simp only [Act.put, List.setIfInBounds_toArray, List.append, List.set_cons_zero, List.set_cons_succ]
        refine take_d (i := 45) (oi := _) (v := ?_) (d := some 55) rfl (by kernel_rfl) (by kernel_rfl) (by kernel_rfl) (fun _ _ _ h => h) (Or.inl ⟨by kernel_rfl, ?_⟩) hHeld rfl ?_
        rotate_left
        · intro w' hSw; (try dsimp only at hSw); go_simp; (try with_reducible rfl)
        simp only [Act.put, List.setIfInBounds_toArray, List.append, List.set_cons_zero, List.set_cons_succ]
        refine take_d (i := 46) (oi := _) (v := ?_) (d := some 56) rfl (by kernel_rfl) (by kernel_rfl) (by kernel_rfl) (fun _ _ _ h => h) (Or.inl ⟨by kernel_rfl, ?_⟩) hHeld rfl ?_
        rotate_left
        · intro w' hSw; (try dsimp only at hSw); go_simp; (try with_reducible rfl)
        simp only [Act.put, List.setIfInBounds_toArray, List.append, List.set_cons_zero, List.set_cons_succ]
        refine take_d (i := 47) (oi := _) (v := undef) (d := some 57) rfl (by kernel_rfl) (by kernel_rfl) (by kernel_rfl) (fun _ _ _ h => h) (Or.inr ⟨by kernel_rfl, rfl⟩) hHeld rfl ?_
        simp only [Act.put, List.setIfInBounds_toArray, List.append, List.set_cons_zero, List.set_cons_succ]
        refine take_d (i := 48) (oi := _) (v := undef) (d := some 58) rfl (by kernel_rfl) (by kernel_rfl) (by kernel_rfl) (fun _ _ _ h => h) (Or.inr ⟨by kernel_rfl, rfl⟩) hHeld rfl ?_
        simp only [Act.put, List.setIfInBounds_toArray, List.append, List.set_cons_zero, List.set_cons_succ]
        refine take_d (i := 49) (oi := _) (v := undef) (d := some 59) rfl (by kernel_rfl) (by kernel_rfl) (by kernel_rfl) (fun _ _ _ h => h) (Or.inr ⟨by kernel_rfl, rfl⟩) hHeld rfl ?_
        simp only [Act.put, List.setIfInBounds_toArray, List.append, List.set_cons_zero, List.set_cons_succ]
        refine take_d (i := 50) (oi := _) (v := undef) (d := some 60) rfl (by kernel_rfl) (by kernel_rfl) (by kernel_rfl) (fun _ _ _ h => h) (Or.inr ⟨by kernel_rfl, rfl⟩) hHeld rfl ?_
        simp only [Act.put, List.setIfInBounds_toArray, List.append, List.set_cons_zero, List.set_cons_succ]
        refine take_d (i := 51) (oi := _) (v := undef) (d := some 61) rfl (by kernel_rfl) (by kernel_rfl) (by kernel_rfl) (fun _ _ _ h => h) (Or.inr ⟨by kernel_rfl, rfl⟩) hHeld rfl ?_
        simp only [Act.put, List.setIfInBounds_toArray, List.append, List.set_cons_zero, List.set_cons_succ]
        refine take_d (i := 52) (oi := _) (v := undef) (d := some 62) rfl (by kernel_rfl) (by kernel_rfl) (by kernel_rfl) (fun _ _ _ h => h) (Or.inr ⟨by kernel_rfl, rfl⟩) hHeld rfl ?_
        simp only [Act.put, List.setIfInBounds_toArray, List.append, List.set_cons_zero, List.set_cons_succ]
        refine take_d (i := 53) (oi := _) (v := undef) (d := some 63) rfl (by kernel_rfl) (by kernel_rfl) (by kernel_rfl) (fun _ _ _ h => h) (Or.inr ⟨by kernel_rfl, rfl⟩) hHeld rfl ?_
        simp only [Act.put, List.setIfInBounds_toArray, List.append, List.set_cons_zero, List.set_cons_succ]
        refine take_d (i := 54) (oi := _) (v := ?_) (d := some 64) rfl (by kernel_rfl) (by kernel_rfl) (by kernel_rfl) (fun _ _ _ h => h) (Or.inl ⟨by kernel_rfl, ?_⟩) hHeld rfl ?_
        rotate_left
        · intro w' hSw; (try dsimp only at hSw); go_simp; (try with_reducible rfl)
        simp only [Act.put, List.setIfInBounds_toArray, List.append, List.set_cons_zero, List.set_cons_succ]
        refine wpAnyH_done (by kernel_rfl) ?_ _
        refine NoPanic.normal ?_
        go_wp2
        go_meet
        case rel => exact ⟨true, _, by (first | rfl | kernel_rfl), r1.out.1, r1.out.2.1, k1.out, fun _ => HNO1.out e1.out.symm, fun h => by cases h⟩
      | true =>
        refine take_d (i := 2) (oi := _) (v := ?_) (d := some 12) rfl (by kernel_rfl) (by kernel_rfl) (by kernel_rfl) (fun _ _ _ h => h) (Or.inl ⟨by kernel_rfl, ?_⟩) hHeld rfl ?_
        rotate_left
        · intro w' hSw; (try dsimp only at hSw); go_simp; (try with_reducible rfl)
        simp only [Act.put, List.setIfInBounds_toArray, List.append, List.set_cons_zero, List.set_cons_succ]
        refine take_d (i := 3) (oi := _) (v := ?_) (d := some 13) rfl (by kernel_rfl) (by kernel_rfl) (by kernel_rfl) (fun _ _ _ h => h) (Or.inl ⟨by kernel_rfl, ?_⟩) hHeld rfl ?_
        rotate_left
        · intro w' hSw; (try dsimp only at hSw); go_simp; (try with_reducible rfl)
        simp only [Act.put, List.setIfInBounds_toArray, List.append, List.set_cons_zero, List.set_cons_succ]
        refine take_d (i := 4) (oi := _) (v := ?_) (d := some 14) rfl (by kernel_rfl) (by kernel_rfl) (by kernel_rfl) (fun _ _ _ h => h) (Or.inl ⟨by kernel_rfl, ?_⟩) hHeld rfl ?_
        rotate_left
        · intro w' hSw; (try dsimp only at hSw); go_simp; (try with_reducible rfl)
        simp only [Act.put, List.setIfInBounds_toArray, List.append, List.set_cons_zero, List.set_cons_succ]
        refine take_d (i := 5) (oi := _) (v := ?_) (d := some 15) rfl (by kernel_rfl) (by kernel_rfl) (by kernel_rfl) (fun _ _ _ h => h) (Or.inl ⟨by kernel_rfl, ?_⟩) hHeld rfl ?_
        rotate_left
        · intro w' hSw; (try dsimp only at hSw); go_simp; (try with_reducible rfl)
        simp only [Act.put, List.setIfInBounds_toArray, List.append, List.set_cons_zero, List.set_cons_succ]
        refine take_d (i := 6) (oi := _) (v := ?_) (d := some 16) rfl (by kernel_rfl) (by kernel_rfl) (by kernel_rfl) (fun _ _ _ h => h) (Or.inl ⟨by kernel_rfl, ?_⟩) hHeld rfl ?_
        rotate_left
        · intro w' hSw; (try dsimp only at hSw); go_simp; (try with_reducible rfl)
        simp only [Act.put, List.setIfInBounds_toArray, List.append, List.set_cons_zero, List.set_cons_succ]
        refine take_d (i := 8) (oi := _) (v := ?_) (d := some 18) rfl (by kernel_rfl) (by kernel_rfl) (by kernel_rfl) (fun _ _ _ h => h) (Or.inl ⟨by kernel_rfl, ?_⟩) hHeld rfl ?_
        rotate_left
        · intro w' hSw; (try dsimp only at hSw); go_simp; (try with_reducible rfl)
        simp only [Act.put, List.setIfInBounds_toArray, List.append, List.set_cons_zero, List.set_cons_succ]
        refine take_d (i := 9) (oi := _) (v := ?_) (d := some 19) rfl (by kernel_rfl) (by kernel_rfl) (by kernel_rfl) (fun _ _ _ h => h) (Or.inl ⟨by kernel_rfl, ?_⟩) hHeld rfl ?_
        rotate_left
        · intro w' hSw; (try dsimp only at hSw); go_simp; (try with_reducible rfl)
        simp only [Act.put, List.setIfInBounds_toArray, List.append, List.set_cons_zero, List.set_cons_succ]
        refine wpAnyH_ready (rs := [7]) (by kernel_rfl) (by simp) ?_
        refine AllReadyH.cons rfl (fun K hK => ?_) ?_
        · (go_simp; refine (sign_any _ _).mono ?_; rintro e ws ⟨rfl, rfl⟩)
          refine hK.out _ _ ?_ (fun hHeld => ?_)
          · (try dsimp only); exact hHeld
          clear hK K
          (try simp only [Act.put, List.setIfInBounds_toArray, List.append, List.set_cons_zero, List.set_cons_succ])
          refine wpAnyH_ready (rs := [10]) (by kernel_rfl) (by simp) ?_
          refine AllReadyH.cons rfl (fun K hK => ?_) ?_
          · go_simp
            refine hK.out _ _ ?_ (fun hHeld => ?_)
            · (try dsimp only); exact SB.out _ (k1.out.trans (Wk.below (bel1 _ _) r1.out.2.1.lt))
            clear hK K
            (try simp only [Act.put, List.setIfInBounds_toArray, List.append, List.set_cons_zero, List.set_cons_succ])
            refine wpAnyH_ready (rs := [11]) (by kernel_rfl) (by simp) ?_
            refine AllReadyH.cons rfl (fun K hK => ?_) ?_
            · (go_simp; refine (KA.out ws acc r1.out.1 r1.out.2.1).mono ?_; rintro e w2 ⟨b2, rfl, e2, acc2, r2⟩; have k2 : Hid (Wk b X w2) := k1.out.trans r2.out.2.2.1)
              refine hK.out _ _ ?_ (fun hHeld => ?_)
              · (try dsimp only); exact SB.out _ k2.out
              clear hK K
              (try simp only [Act.put, List.setIfInBounds_toArray, List.append, List.set_cons_zero, List.set_cons_succ])
              cases b2 with
              | false =>
                refine take_d (i := 12) (oi := _) (v := ?_) (d := some 22) rfl (by kernel_rfl) (by kernel_rfl) (by kernel_rfl) (fun _ _ _ h => h) (Or.inl ⟨by kernel_rfl, ?_⟩) hHeld rfl ?_
                rotate_left
                · intro w' hSw; (try dsimp only at hSw); go_simp; (try with_reducible rfl)
                simp only [Act.put, List.setIfInBounds_toArray, List.append, List.set_cons_zero, List.set_cons_succ]
                refine take_d (i := 13) (oi := _) (v := ?_) (d := some 23) rfl (by kernel_rfl) (by kernel_rfl) (by kernel_rfl) (fun _ _ _ h => h) (Or.inl ⟨by kernel_rfl, ?_⟩) hHeld rfl ?_
                rotate_left
                · intro w' hSw; (try dsimp only at hSw); go_simp; (try with_reducible rfl)
                simp only [Act.put, List.setIfInBounds_toArray, List.append, List.set_cons_zero, List.set_cons_succ]
                refine take_d (i := 14) (oi := _) (v := ?_) (d := some 24) rfl (by kernel_rfl) (by kernel_rfl) (by kernel_rfl) (fun _ _ _ h => h) (Or.inl ⟨by kernel_rfl, ?_⟩) hHeld rfl ?_
                rotate_left
                · intro w' hSw; (try dsimp only at hSw); go_simp; (try with_reducible rfl)
                simp only [Act.put, List.setIfInBounds_toArray, List.append, List.set_cons_zero, List.set_cons_succ]
                refine take_d (i := 15) (oi := _) (v := undef) (d := some 25) rfl (by kernel_rfl) (by kernel_rfl) (by kernel_rfl) (fun _ _ _ h => h) (Or.inr ⟨by kernel_rfl, rfl⟩) hHeld rfl ?_
                simp only [Act.put, List.setIfInBounds_toArray, List.append, List.set_cons_zero, List.set_cons_succ]
                refine take_d (i := 16) (oi := _) (v := undef) (d := some 26) rfl (by kernel_rfl) (by kernel_rfl) (by kernel_rfl) (fun _ _ _ h => h) (Or.inr ⟨by kernel_rfl, rfl⟩) hHeld rfl ?_
                simp only [Act.put, List.setIfInBounds_toArray, List.append, List.set_cons_zero, List.set_cons_succ]
                refine take_d (i := 17) (oi := _) (v := undef) (d := some 27) rfl (by kernel_rfl) (by kernel_rfl) (by kernel_rfl) (fun _ _ _ h => h) (Or.inr ⟨by kernel_rfl, rfl⟩) hHeld rfl ?_
                simp only [Act.put, List.setIfInBounds_toArray, List.append, List.set_cons_zero, List.set_cons_succ]
                refine take_d (i := 18) (oi := _) (v := undef) (d := some 28) rfl (by kernel_rfl) (by kernel_rfl) (by kernel_rfl) (fun _ _ _ h => h) (Or.inr ⟨by kernel_rfl, rfl⟩) hHeld rfl ?_
                simp only [Act.put, List.setIfInBounds_toArray, List.append, List.set_cons_zero, List.set_cons_succ]
                refine take_d (i := 19) (oi := _) (v := undef) (d := some 29) rfl (by kernel_rfl) (by kernel_rfl) (by kernel_rfl) (fun _ _ _ h => h) (Or.inr ⟨by kernel_rfl, rfl⟩) hHeld rfl ?_
                simp only [Act.put, List.setIfInBounds_toArray, List.append, List.set_cons_zero, List.set_cons_succ]
                refine take_d (i := 20) (oi := _) (v := undef) (d := some 30) rfl (by kernel_rfl) (by kernel_rfl) (by kernel_rfl) (fun _ _ _ h => h) (Or.inr ⟨by kernel_rfl, rfl⟩) hHeld rfl ?_
                simp only [Act.put, List.setIfInBounds_toArray, List.append, List.set_cons_zero, List.set_cons_succ]
                refine take_d (i := 21) (oi := _) (v := undef) (d := some 31) rfl (by kernel_rfl) (by kernel_rfl) (by kernel_rfl) (fun _ _ _ h => h) (Or.inr ⟨by kernel_rfl, rfl⟩) hHeld rfl ?_
                simp only [Act.put, List.setIfInBounds_toArray, List.append, List.set_cons_zero, List.set_cons_succ]
                refine take_d (i := 22) (oi := _) (v := undef) (d := some 32) rfl (by kernel_rfl) (by kernel_rfl) (by kernel_rfl) (fun _ _ _ h => h) (Or.inr ⟨by kernel_rfl, rfl⟩) hHeld rfl ?_
                simp only [Act.put, List.setIfInBounds_toArray, List.append, List.set_cons_zero, List.set_cons_succ]
                refine take_d (i := 23) (oi := _) (v := ?_) (d := some 33) rfl (by kernel_rfl) (by kernel_rfl) (by kernel_rfl) (fun _ _ _ h => h) (Or.inl ⟨by kernel_rfl, ?_⟩) hHeld rfl ?_
                rotate_left
                · intro w' hSw; (try dsimp only at hSw); go_simp; (try with_reducible rfl)
                simp only [Act.put, List.setIfInBounds_toArray, List.append, List.set_cons_zero, List.set_cons_succ]
                refine take_d (i := 24) (oi := _) (v := ?_) (d := some 34) rfl (by kernel_rfl) (by kernel_rfl) (by kernel_rfl) (fun _ _ _ h => h) (Or.inl ⟨by kernel_rfl, ?_⟩) hHeld rfl ?_
                rotate_left
                · intro w' hSw; (try dsimp only at hSw); go_simp; (try with_reducible rfl)
                simp only [Act.put, List.setIfInBounds_toArray, List.append, List.set_cons_zero, List.set_cons_succ]
                refine take_d (i := 25) (oi := _) (v := undef) (d := some 35) rfl (by kernel_rfl) (by kernel_rfl) (by kernel_rfl) (fun _ _ _ h => h) (Or.inr ⟨by kernel_rfl, rfl⟩) hHeld rfl ?_
                simp only [Act.put, List.setIfInBounds_toArray, List.append, List.set_cons_zero, List.set_cons_succ]
                refine take_d (i := 26) (oi := _) (v := undef) (d := some 36) rfl (by kernel_rfl) (by kernel_rfl) (by kernel_rfl) (fun _ _ _ h => h) (Or.inr ⟨by kernel_rfl, rfl⟩) hHeld rfl ?_
                simp only [Act.put, List.setIfInBounds_toArray, List.append, List.set_cons_zero, List.set_cons_succ]
                refine take_d (i := 27) (oi := _) (v := undef) (d := some 37) rfl (by kernel_rfl) (by kernel_rfl) (by kernel_rfl) (fun _ _ _ h => h) (Or.inr ⟨by kernel_rfl, rfl⟩) hHeld rfl ?_
                simp only [Act.put, List.setIfInBounds_toArray, List.append, List.set_cons_zero, List.set_cons_succ]
                refine take_d (i := 28) (oi := _) (v := undef) (d := some 38) rfl (by kernel_rfl) (by kernel_rfl) (by kernel_rfl) (fun _ _ _ h => h) (Or.inr ⟨by kernel_rfl, rfl⟩) hHeld rfl ?_
                simp only [Act.put, List.setIfInBounds_toArray, List.append, List.set_cons_zero, List.set_cons_succ]
                refine take_d (i := 29) (oi := _) (v := undef) (d := some 39) rfl (by kernel_rfl) (by kernel_rfl) (by kernel_rfl) (fun _ _ _ h => h) (Or.inr ⟨by kernel_rfl, rfl⟩) hHeld rfl ?_
                simp only [Act.put, List.setIfInBounds_toArray, List.append, List.set_cons_zero, List.set_cons_succ]
                refine take_d (i := 30) (oi := _) (v := undef) (d := some 40) rfl (by kernel_rfl) (by kernel_rfl) (by kernel_rfl) (fun _ _ _ h => h) (Or.inr ⟨by kernel_rfl, rfl⟩) hHeld rfl ?_
                simp only [Act.put, List.setIfInBounds_toArray, List.append, List.set_cons_zero, List.set_cons_succ]
                refine take_d (i := 31) (oi := _) (v := undef) (d := some 41) rfl (by kernel_rfl) (by kernel_rfl) (by kernel_rfl) (fun _ _ _ h => h) (Or.inr ⟨by kernel_rfl, rfl⟩) hHeld rfl ?_
                simp only [Act.put, List.setIfInBounds_toArray, List.append, List.set_cons_zero, List.set_cons_succ]
                refine take_d (i := 32) (oi := _) (v := undef) (d := some 42) rfl (by kernel_rfl) (by kernel_rfl) (by kernel_rfl) (fun _ _ _ h => h) (Or.inr ⟨by kernel_rfl, rfl⟩) hHeld rfl ?_
                simp only [Act.put, List.setIfInBounds_toArray, List.append, List.set_cons_zero, List.set_cons_succ]
                refine take_d (i := 33) (oi := _) (v := undef) (d := some 43) rfl (by kernel_rfl) (by kernel_rfl) (by kernel_rfl) (fun _ _ _ h => h) (Or.inr ⟨by kernel_rfl, rfl⟩) hHeld rfl ?_
                simp only [Act.put, List.setIfInBounds_toArray, List.append, List.set_cons_zero, List.set_cons_succ]
                refine take_d (i := 34) (oi := _) (v := undef) (d := some 44) rfl (by kernel_rfl) (by kernel_rfl) (by kernel_rfl) (fun _ _ _ h => h) (Or.inr ⟨by kernel_rfl, rfl⟩) hHeld rfl ?_
                simp only [Act.put, List.setIfInBounds_toArray, List.append, List.set_cons_zero, List.set_cons_succ]
                refine take_d (i := 35) (oi := _) (v := undef) (d := some 45) rfl (by kernel_rfl) (by kernel_rfl) (by kernel_rfl) (fun _ _ _ h => h) (Or.inr ⟨by kernel_rfl, rfl⟩) hHeld rfl ?_
                simp only [Act.put, List.setIfInBounds_toArray, List.append, List.set_cons_zero, List.set_cons_succ]
                refine take_d (i := 36) (oi := _) (v := undef) (d := some 46) rfl (by kernel_rfl) (by kernel_rfl) (by kernel_rfl) (fun _ _ _ h => h) (Or.inr ⟨by kernel_rfl, rfl⟩) hHeld rfl ?_
                simp only [Act.put, List.setIfInBounds_toArray, List.append, List.set_cons_zero, List.set_cons_succ]
                refine take_d (i := 37) (oi := _) (v := ?_) (d := some 47) rfl (by kernel_rfl) (by kernel_rfl) (by kernel_rfl) (fun _ _ _ h => h) (Or.inl ⟨by kernel_rfl, ?_⟩) hHeld rfl ?_
                rotate_left
                · intro w' hSw; (try dsimp only at hSw); go_simp; (try with_reducible rfl)
                simp only [Act.put, List.setIfInBounds_toArray, List.append, List.set_cons_zero, List.set_cons_succ]
                refine take_d (i := 38) (oi := _) (v := ?_) (d := some 48) rfl (by kernel_rfl) (by kernel_rfl) (by kernel_rfl) (fun _ _ _ h => h) (Or.inl ⟨by kernel_rfl, ?_⟩) hHeld rfl ?_
                rotate_left
                · intro w' hSw; (try dsimp only at hSw); go_simp; (try with_reducible rfl)
                simp only [Act.put, List.setIfInBounds_toArray, List.append, List.set_cons_zero, List.set_cons_succ]
                refine take_d (i := 39) (oi := _) (v := undef) (d := some 49) rfl (by kernel_rfl) (by kernel_rfl) (by kernel_rfl) (fun _ _ _ h => h) (Or.inr ⟨by kernel_rfl, rfl⟩) hHeld rfl ?_
                simp only [Act.put, List.setIfInBounds_toArray, List.append, List.set_cons_zero, List.set_cons_succ]
                refine take_d (i := 40) (oi := _) (v := undef) (d := some 50) rfl (by kernel_rfl) (by kernel_rfl) (by kernel_rfl) (fun _ _ _ h => h) (Or.inr ⟨by kernel_rfl, rfl⟩) hHeld rfl ?_
                simp only [Act.put, List.setIfInBounds_toArray, List.append, List.set_cons_zero, List.set_cons_succ]
                refine take_d (i := 41) (oi := _) (v := undef) (d := some 51) rfl (by kernel_rfl) (by kernel_rfl) (by kernel_rfl) (fun _ _ _ h => h) (Or.inr ⟨by kernel_rfl, rfl⟩) hHeld rfl ?_
                simp only [Act.put, List.setIfInBounds_toArray, List.append, List.set_cons_zero, List.set_cons_succ]
                refine take_d (i := 42) (oi := _) (v := undef) (d := some 52) rfl (by kernel_rfl) (by kernel_rfl) (by kernel_rfl) (fun _ _ _ h => h) (Or.inr ⟨by kernel_rfl, rfl⟩) hHeld rfl ?_
                simp only [Act.put, List.setIfInBounds_toArray, List.append, List.set_cons_zero, List.set_cons_succ]
                refine take_d (i := 43) (oi := _) (v := undef) (d := some 53) rfl (by kernel_rfl) (by kernel_rfl) (by kernel_rfl) (fun _ _ _ h => h) (Or.inr ⟨by kernel_rfl, rfl⟩) hHeld rfl ?_
                simp only [Act.put, List.setIfInBounds_toArray, List.append, List.set_cons_zero, List.set_cons_succ]
                refine take_d (i := 44) (oi := _) (v := undef) (d := some 54) rfl (by kernel_rfl) (by kernel_rfl) (by kernel_rfl) (fun _ _ _ h => h) (Or.inr ⟨by kernel_rfl, rfl⟩) hHeld rfl ?_
                simp only [Act.put, List.setIfInBounds_toArray, List.append, List.set_cons_zero, List.set_cons_succ]
                refine take_d (i := 45) (oi := _) (v := ?_) (d := some 55) rfl (by kernel_rfl) (by kernel_rfl) (by kernel_rfl) (fun _ _ _ h => h) (Or.inl ⟨by kernel_rfl, ?_⟩) hHeld rfl ?_
                rotate_left
                · intro w' hSw; (try dsimp only at hSw); go_simp; (try with_reducible rfl)
                simp only [Act.put, List.setIfInBounds_toArray, List.append, List.set_cons_zero, List.set_cons_succ]
                refine take_d (i := 46) (oi := _) (v := ?_) (d := some 56) rfl (by kernel_rfl) (by kernel_rfl) (by kernel_rfl) (fun _ _ _ h => h) (Or.inl ⟨by kernel_rfl, ?_⟩) hHeld rfl ?_
                rotate_left
                · intro w' hSw; (try dsimp only at hSw); go_simp; (try with_reducible rfl)
                simp only [Act.put, List.setIfInBounds_toArray, List.append, List.set_cons_zero, List.set_cons_succ]
                refine take_d (i := 47) (oi := _) (v := undef) (d := some 57) rfl (by kernel_rfl) (by kernel_rfl) (by kernel_rfl) (fun _ _ _ h => h) (Or.inr ⟨by kernel_rfl, rfl⟩) hHeld rfl ?_
                simp only [Act.put, List.setIfInBounds_toArray, List.append, List.set_cons_zero, List.set_cons_succ]
                refine take_d (i := 48) (oi := _) (v := undef) (d := some 58) rfl (by kernel_rfl) (by kernel_rfl) (by kernel_rfl) (fun _ _ _ h => h) (Or.inr ⟨by kernel_rfl, rfl⟩) hHeld rfl ?_
                simp only [Act.put, List.setIfInBounds_toArray, List.append, List.set_cons_zero, List.set_cons_succ]
                refine take_d (i := 49) (oi := _) (v := undef) (d := some 59) rfl (by kernel_rfl) (by kernel_rfl) (by kernel_rfl) (fun _ _ _ h => h) (Or.inr ⟨by kernel_rfl, rfl⟩) hHeld rfl ?_
                simp only [Act.put, List.setIfInBounds_toArray, List.append, List.set_cons_zero, List.set_cons_succ]
                refine take_d (i := 50) (oi := _) (v := undef) (d := some 60) rfl (by kernel_rfl) (by kernel_rfl) (by kernel_rfl) (fun _ _ _ h => h) (Or.inr ⟨by kernel_rfl, rfl⟩) hHeld rfl ?_
                simp only [Act.put, List.setIfInBounds_toArray, List.append, List.set_cons_zero, List.set_cons_succ]
                refine take_d (i := 51) (oi := _) (v := undef) (d := some 61) rfl (by kernel_rfl) (by kernel_rfl) (by kernel_rfl) (fun _ _ _ h => h) (Or.inr ⟨by kernel_rfl, rfl⟩) hHeld rfl ?_
                simp only [Act.put, List.setIfInBounds_toArray, List.append, List.set_cons_zero, List.set_cons_succ]
                refine take_d (i := 52) (oi := _) (v := undef) (d := some 62) rfl (by kernel_rfl) (by kernel_rfl) (by kernel_rfl) (fun _ _ _ h => h) (Or.inr ⟨by kernel_rfl, rfl⟩) hHeld rfl ?_
                simp only [Act.put, List.setIfInBounds_toArray, List.append, List.set_cons_zero, List.set_cons_succ]
                refine take_d (i := 53) (oi := _) (v := undef) (d := some 63) rfl (by kernel_rfl) (by kernel_rfl) (by kernel_rfl) (fun _ _ _ h => h) (Or.inr ⟨by kernel_rfl, rfl⟩) hHeld rfl ?_
                simp only [Act.put, List.setIfInBounds_toArray, List.append, List.set_cons_zero, List.set_cons_succ]
                refine take_d (i := 54) (oi := _) (v := ?_) (d := some 64) rfl (by kernel_rfl) (by kernel_rfl) (by kernel_rfl) (fun _ _ _ h => h) (Or.inl ⟨by kernel_rfl, ?_⟩) hHeld rfl ?_
                rotate_left
                · intro w' hSw; (try dsimp only at hSw); go_simp; (try with_reducible rfl)
                simp only [Act.put, List.setIfInBounds_toArray, List.append, List.set_cons_zero, List.set_cons_succ]
                refine wpAnyH_done (by kernel_rfl) ?_ _
                refine NoPanic.normal ?_
                go_wp2
                go_meet
                case rel => exact ⟨true, _, by (first | rfl | kernel_rfl), r2.out.1, r2.out.2.1, k2.out, fun _ => HNO2.out e2.out.symm, fun h => by cases h⟩
              | true =>
                refine take_d (i := 12) (oi := _) (v := ?_) (d := some 22) rfl (by kernel_rfl) (by kernel_rfl) (by kernel_rfl) (fun _ _ _ h => h) (Or.inl ⟨by kernel_rfl, ?_⟩) hHeld rfl ?_
                rotate_left
                · intro w' hSw; (try dsimp only at hSw); go_simp; (try with_reducible rfl)
                simp only [Act.put, List.setIfInBounds_toArray, List.append, List.set_cons_zero, List.set_cons_succ]
                refine take_d (i := 13) (oi := _) (v := ?_) (d := some 23) rfl (by kernel_rfl) (by kernel_rfl) (by kernel_rfl) (fun _ _ _ h => h) (Or.inl ⟨by kernel_rfl, ?_⟩) hHeld rfl ?_
                rotate_left
                · intro w' hSw; (try dsimp only at hSw); go_simp; (try with_reducible rfl)
                simp only [Act.put, List.setIfInBounds_toArray, List.append, List.set_cons_zero, List.set_cons_succ]
                refine take_d (i := 14) (oi := _) (v := ?_) (d := some 24) rfl (by kernel_rfl) (by kernel_rfl) (by kernel_rfl) (fun _ _ _ h => h) (Or.inl ⟨by kernel_rfl, ?_⟩) hHeld rfl ?_
                rotate_left
                · intro w' hSw; (try dsimp only at hSw); go_simp; (try with_reducible rfl)
                simp only [Act.put, List.setIfInBounds_toArray, List.append, List.set_cons_zero, List.set_cons_succ]
                refine take_d (i := 15) (oi := _) (v := ?_) (d := some 25) rfl (by kernel_rfl) (by kernel_rfl) (by kernel_rfl) (fun _ _ _ h => h) (Or.inl ⟨by kernel_rfl, ?_⟩) hHeld rfl ?_
                rotate_left
                · intro w' hSw; (try dsimp only at hSw); go_simp; (try with_reducible rfl)
                simp only [Act.put, List.setIfInBounds_toArray, List.append, List.set_cons_zero, List.set_cons_succ]
                refine take_d (i := 16) (oi := _) (v := ?_) (d := some 26) rfl (by kernel_rfl) (by kernel_rfl) (by kernel_rfl) (fun _ _ _ h => h) (Or.inl ⟨by kernel_rfl, ?_⟩) hHeld rfl ?_
                rotate_left
                · intro w' hSw; (try dsimp only at hSw); go_simp; (try with_reducible rfl)
                simp only [Act.put, List.setIfInBounds_toArray, List.append, List.set_cons_zero, List.set_cons_succ]
                refine take_d (i := 17) (oi := _) (v := ?_) (d := some 27) rfl (by kernel_rfl) (by kernel_rfl) (by kernel_rfl) (fun _ _ _ h => h) (Or.inl ⟨by kernel_rfl, ?_⟩) hHeld rfl ?_
                rotate_left
                · intro w' hSw; (try dsimp only at hSw); go_simp; (try with_reducible rfl)
                simp only [Act.put, List.setIfInBounds_toArray, List.append, List.set_cons_zero, List.set_cons_succ]
                refine take_d (i := 18) (oi := _) (v := ?_) (d := some 28) rfl (by kernel_rfl) (by kernel_rfl) (by kernel_rfl) (fun _ _ _ h => h) (Or.inl ⟨by kernel_rfl, ?_⟩) hHeld rfl ?_
                rotate_left
                · intro w' hSw; (try dsimp only at hSw); go_simp; (try with_reducible rfl)
                simp only [Act.put, List.setIfInBounds_toArray, List.append, List.set_cons_zero, List.set_cons_succ]
                refine take_d (i := 19) (oi := _) (v := ?_) (d := some 29) rfl (by kernel_rfl) (by kernel_rfl) (by kernel_rfl) (fun _ _ _ h => h) (Or.inl ⟨by kernel_rfl, ?_⟩) hHeld rfl ?_
                rotate_left
                · intro w' hSw; (try dsimp only at hSw); go_simp; (try with_reducible rfl)
                simp only [Act.put, List.setIfInBounds_toArray, List.append, List.set_cons_zero, List.set_cons_succ]
                refine wpAnyH_ready (rs := [20]) (by kernel_rfl) (by simp) ?_
                refine AllReadyH.cons rfl (fun K hK => ?_) ?_
                · go_simp
                  refine hK.out _ _ ?_ (fun hHeld => ?_)
                  · (try dsimp only); exact SB.out _ (k2.out.trans (Wk.below (bel1 _ _) r2.out.2.1.lt))
                  clear hK K
                  (try simp only [Act.put, List.setIfInBounds_toArray, List.append, List.set_cons_zero, List.set_cons_succ])
                  refine wpAnyH_ready (rs := [21]) (by kernel_rfl) (by simp) ?_
                  refine AllReadyH.cons rfl (fun K hK => ?_) ?_
                  · (go_simp; refine (KB.out w2 acc2 r2.out.1 r2.out.2.1).mono ?_; rintro e w3 ⟨b3, rfl, e3, acc3, r3⟩; have k3 : Hid (Wk b X w3) := k2.out.trans r3.out.2.2.1)
                    refine hK.out _ _ ?_ (fun hHeld => ?_)
                    · (try dsimp only); exact SB.out _ k3.out
                    clear hK K
                    (try simp only [Act.put, List.setIfInBounds_toArray, List.append, List.set_cons_zero, List.set_cons_succ])
                    cases b3 with
                    | false =>
                      refine take_d (i := 22) (oi := _) (v := ?_) (d := some 32) rfl (by kernel_rfl) (by kernel_rfl) (by kernel_rfl) (fun _ _ _ h => h) (Or.inl ⟨by kernel_rfl, ?_⟩) hHeld rfl ?_
                      rotate_left
                      · intro w' hSw; (try dsimp only at hSw); go_simp; (try with_reducible rfl)
                      simp only [Act.put, List.setIfInBounds_toArray, List.append, List.set_cons_zero, List.set_cons_succ]
                      refine take_d (i := 23) (oi := _) (v := ?_) (d := some 33) rfl (by kernel_rfl) (by kernel_rfl) (by kernel_rfl) (fun _ _ _ h => h) (Or.inl ⟨by kernel_rfl, ?_⟩) hHeld rfl ?_
                      rotate_left
                      · intro w' hSw; (try dsimp only at hSw); go_simp; (try with_reducible rfl)
                      simp only [Act.put, List.setIfInBounds_toArray, List.append, List.set_cons_zero, List.set_cons_succ]
                      refine take_d (i := 24) (oi := _) (v := ?_) (d := some 34) rfl (by kernel_rfl) (by kernel_rfl) (by kernel_rfl) (fun _ _ _ h => h) (Or.inl ⟨by kernel_rfl, ?_⟩) hHeld rfl ?_
                      rotate_left
                      · intro w' hSw; (try dsimp only at hSw); go_simp; (try with_reducible rfl)
                      simp only [Act.put, List.setIfInBounds_toArray, List.append, List.set_cons_zero, List.set_cons_succ]
                      refine take_d (i := 25) (oi := _) (v := undef) (d := some 35) rfl (by kernel_rfl) (by kernel_rfl) (by kernel_rfl) (fun _ _ _ h => h) (Or.inr ⟨by kernel_rfl, rfl⟩) hHeld rfl ?_
                      simp only [Act.put, List.setIfInBounds_toArray, List.append, List.set_cons_zero, List.set_cons_succ]
                      refine take_d (i := 26) (oi := _) (v := undef) (d := some 36) rfl (by kernel_rfl) (by kernel_rfl) (by kernel_rfl) (fun _ _ _ h => h) (Or.inr ⟨by kernel_rfl, rfl⟩) hHeld rfl ?_
                      simp only [Act.put, List.setIfInBounds_toArray, List.append, List.set_cons_zero, List.set_cons_succ]
                      refine take_d (i := 27) (oi := _) (v := undef) (d := some 37) rfl (by kernel_rfl) (by kernel_rfl) (by kernel_rfl) (fun _ _ _ h => h) (Or.inr ⟨by kernel_rfl, rfl⟩) hHeld rfl ?_
                      simp only [Act.put, List.setIfInBounds_toArray, List.append, List.set_cons_zero, List.set_cons_succ]
                      refine take_d (i := 28) (oi := _) (v := undef) (d := some 38) rfl (by kernel_rfl) (by kernel_rfl) (by kernel_rfl) (fun _ _ _ h => h) (Or.inr ⟨by kernel_rfl, rfl⟩) hHeld rfl ?_
                      simp only [Act.put, List.setIfInBounds_toArray, List.append, List.set_cons_zero, List.set_cons_succ]
                      refine take_d (i := 29) (oi := _) (v := undef) (d := some 39) rfl (by kernel_rfl) (by kernel_rfl) (by kernel_rfl) (fun _ _ _ h => h) (Or.inr ⟨by kernel_rfl, rfl⟩) hHeld rfl ?_
                      simp only [Act.put, List.setIfInBounds_toArray, List.append, List.set_cons_zero, List.set_cons_succ]
                      refine take_d (i := 30) (oi := _) (v := undef) (d := some 40) rfl (by kernel_rfl) (by kernel_rfl) (by kernel_rfl) (fun _ _ _ h => h) (Or.inr ⟨by kernel_rfl, rfl⟩) hHeld rfl ?_
                      simp only [Act.put, List.setIfInBounds_toArray, List.append, List.set_cons_zero, List.set_cons_succ]
                      refine take_d (i := 31) (oi := _) (v := undef) (d := some 41) rfl (by kernel_rfl) (by kernel_rfl) (by kernel_rfl) (fun _ _ _ h => h) (Or.inr ⟨by kernel_rfl, rfl⟩) hHeld rfl ?_
                      simp only [Act.put, List.setIfInBounds_toArray, List.append, List.set_cons_zero, List.set_cons_succ]
                      refine take_d (i := 32) (oi := _) (v := undef) (d := some 42) rfl (by kernel_rfl) (by kernel_rfl) (by kernel_rfl) (fun _ _ _ h => h) (Or.inr ⟨by kernel_rfl, rfl⟩) hHeld rfl ?_
                      simp only [Act.put, List.setIfInBounds_toArray, List.append, List.set_cons_zero, List.set_cons_succ]
                      refine take_d (i := 33) (oi := _) (v := undef) (d := some 43) rfl (by kernel_rfl) (by kernel_rfl) (by kernel_rfl) (fun _ _ _ h => h) (Or.inr ⟨by kernel_rfl, rfl⟩) hHeld rfl ?_
                      simp only [Act.put, List.setIfInBounds_toArray, List.append, List.set_cons_zero, List.set_cons_succ]
                      refine take_d (i := 34) (oi := _) (v := undef) (d := some 44) rfl (by kernel_rfl) (by kernel_rfl) (by kernel_rfl) (fun _ _ _ h => h) (Or.inr ⟨by kernel_rfl, rfl⟩) hHeld rfl ?_
                      simp only [Act.put, List.setIfInBounds_toArray, List.append, List.set_cons_zero, List.set_cons_succ]
                      refine take_d (i := 35) (oi := _) (v := undef) (d := some 45) rfl (by kernel_rfl) (by kernel_rfl) (by kernel_rfl) (fun _ _ _ h => h) (Or.inr ⟨by kernel_rfl, rfl⟩) hHeld rfl ?_
                      simp only [Act.put, List.setIfInBounds_toArray, List.append, List.set_cons_zero, List.set_cons_succ]
                      refine take_d (i := 36) (oi := _) (v := undef) (d := some 46) rfl (by kernel_rfl) (by kernel_rfl) (by kernel_rfl) (fun _ _ _ h => h) (Or.inr ⟨by kernel_rfl, rfl⟩) hHeld rfl ?_
                      simp only [Act.put, List.setIfInBounds_toArray, List.append, List.set_cons_zero, List.set_cons_succ]
                      refine take_d (i := 37) (oi := _) (v := ?_) (d := some 47) rfl (by kernel_rfl) (by kernel_rfl) (by kernel_rfl) (fun _ _ _ h => h) (Or.inl ⟨by kernel_rfl, ?_⟩) hHeld rfl ?_
                      rotate_left
                      · intro w' hSw; (try dsimp only at hSw); go_simp; (try with_reducible rfl)
                      simp only [Act.put, List.setIfInBounds_toArray, List.append, List.set_cons_zero, List.set_cons_succ]
                      refine take_d (i := 38) (oi := _) (v := ?_) (d := some 48) rfl (by kernel_rfl) (by kernel_rfl) (by kernel_rfl) (fun _ _ _ h => h) (Or.inl ⟨by kernel_rfl, ?_⟩) hHeld rfl ?_
                      rotate_left
                      · intro w' hSw; (try dsimp only at hSw); go_simp; (try with_reducible rfl)
                      simp only [Act.put, List.setIfInBounds_toArray, List.append, List.set_cons_zero, List.set_cons_succ]
                      refine take_d (i := 39) (oi := _) (v := undef) (d := some 49) rfl (by kernel_rfl) (by kernel_rfl) (by kernel_rfl) (fun _ _ _ h => h) (Or.inr ⟨by kernel_rfl, rfl⟩) hHeld rfl ?_
                      simp only [Act.put, List.setIfInBounds_toArray, List.append, List.set_cons_zero, List.set_cons_succ]
                      refine take_d (i := 40) (oi := _) (v := undef) (d := some 50) rfl (by kernel_rfl) (by kernel_rfl) (by kernel_rfl) (fun _ _ _ h => h) (Or.inr ⟨by kernel_rfl, rfl⟩) hHeld rfl ?_
                      simp only [Act.put, List.setIfInBounds_toArray, List.append, List.set_cons_zero, List.set_cons_succ]
                      refine take_d (i := 41) (oi := _) (v := undef) (d := some 51) rfl (by kernel_rfl) (by kernel_rfl) (by kernel_rfl) (fun _ _ _ h => h) (Or.inr ⟨by kernel_rfl, rfl⟩) hHeld rfl ?_
                      simp only [Act.put, List.setIfInBounds_toArray, List.append, List.set_cons_zero, List.set_cons_succ]
                      refine take_d (i := 42) (oi := _) (v := undef) (d := some 52) rfl (by kernel_rfl) (by kernel_rfl) (by kernel_rfl) (fun _ _ _ h => h) (Or.inr ⟨by kernel_rfl, rfl⟩) hHeld rfl ?_
                      simp only [Act.put, List.setIfInBounds_toArray, List.append, List.set_cons_zero, List.set_cons_succ]
                      refine take_d (i := 43) (oi := _) (v := undef) (d := some 53) rfl (by kernel_rfl) (by kernel_rfl) (by kernel_rfl) (fun _ _ _ h => h) (Or.inr ⟨by kernel_rfl, rfl⟩) hHeld rfl ?_
                      simp only [Act.put, List.setIfInBounds_toArray, List.append, List.set_cons_zero, List.set_cons_succ]
                      refine take_d (i := 44) (oi := _) (v := undef) (d := some 54) rfl (by kernel_rfl) (by kernel_rfl) (by kernel_rfl) (fun _ _ _ h => h) (Or.inr ⟨by kernel_rfl, rfl⟩) hHeld rfl ?_
                      simp only [Act.put, List.setIfInBounds_toArray, List.append, List.set_cons_zero, List.set_cons_succ]
                      refine take_d (i := 45) (oi := _) (v := ?_) (d := some 55) rfl (by kernel_rfl) (by kernel_rfl) (by kernel_rfl) (fun _ _ _ h => h) (Or.inl ⟨by kernel_rfl, ?_⟩) hHeld rfl ?_
                      rotate_left
                      · intro w' hSw; (try dsimp only at hSw); go_simp; (try with_reducible rfl)
                      simp only [Act.put, List.setIfInBounds_toArray, List.append, List.set_cons_zero, List.set_cons_succ]
                      refine take_d (i := 46) (oi := _) (v := ?_) (d := some 56) rfl (by kernel_rfl) (by kernel_rfl) (by kernel_rfl) (fun _ _ _ h => h) (Or.inl ⟨by kernel_rfl, ?_⟩) hHeld rfl ?_
                      rotate_left
                      · intro w' hSw; (try dsimp only at hSw); go_simp; (try with_reducible rfl)
                      simp only [Act.put, List.setIfInBounds_toArray, List.append, List.set_cons_zero, List.set_cons_succ]
                      refine take_d (i := 47) (oi := _) (v := undef) (d := some 57) rfl (by kernel_rfl) (by kernel_rfl) (by kernel_rfl) (fun _ _ _ h => h) (Or.inr ⟨by kernel_rfl, rfl⟩) hHeld rfl ?_
                      simp only [Act.put, List.setIfInBounds_toArray, List.append, List.set_cons_zero, List.set_cons_succ]
                      refine take_d (i := 48) (oi := _) (v := undef) (d := some 58) rfl (by kernel_rfl) (by kernel_rfl) (by kernel_rfl) (fun _ _ _ h => h) (Or.inr ⟨by kernel_rfl, rfl⟩) hHeld rfl ?_
                      simp only [Act.put, List.setIfInBounds_toArray, List.append, List.set_cons_zero, List.set_cons_succ]
                      refine take_d (i := 49) (oi := _) (v := undef) (d := some 59) rfl (by kernel_rfl) (by kernel_rfl) (by kernel_rfl) (fun _ _ _ h => h) (Or.inr ⟨by kernel_rfl, rfl⟩) hHeld rfl ?_
                      simp only [Act.put, List.setIfInBounds_toArray, List.append, List.set_cons_zero, List.set_cons_succ]
                      refine take_d (i := 50) (oi := _) (v := undef) (d := some 60) rfl (by kernel_rfl) (by kernel_rfl) (by kernel_rfl) (fun _ _ _ h => h) (Or.inr ⟨by kernel_rfl, rfl⟩) hHeld rfl ?_
                      simp only [Act.put, List.setIfInBounds_toArray, List.append, List.set_cons_zero, List.set_cons_succ]
                      refine take_d (i := 51) (oi := _) (v := undef) (d := some 61) rfl (by kernel_rfl) (by kernel_rfl) (by kernel_rfl) (fun _ _ _ h => h) (Or.inr ⟨by kernel_rfl, rfl⟩) hHeld rfl ?_
                      simp only [Act.put, List.setIfInBounds_toArray, List.append, List.set_cons_zero, List.set_cons_succ]
                      refine take_d (i := 52) (oi := _) (v := undef) (d := some 62) rfl (by kernel_rfl) (by kernel_rfl) (by kernel_rfl) (fun _ _ _ h => h) (Or.inr ⟨by kernel_rfl, rfl⟩) hHeld rfl ?_
                      simp only [Act.put, List.setIfInBounds_toArray, List.append, List.set_cons_zero, List.set_cons_succ]
                      refine take_d (i := 53) (oi := _) (v := undef) (d := some 63) rfl (by kernel_rfl) (by kernel_rfl) (by kernel_rfl) (fun _ _ _ h => h) (Or.inr ⟨by kernel_rfl, rfl⟩) hHeld rfl ?_
                      simp only [Act.put, List.setIfInBounds_toArray, List.append, List.set_cons_zero, List.set_cons_succ]
                      refine take_d (i := 54) (oi := _) (v := ?_) (d := some 64) rfl (by kernel_rfl) (by kernel_rfl) (by kernel_rfl) (fun _ _ _ h => h) (Or.inl ⟨by kernel_rfl, ?_⟩) hHeld rfl ?_
                      rotate_left
                      · intro w' hSw; (try dsimp only at hSw); go_simp; (try with_reducible rfl)
                      simp only [Act.put, List.setIfInBounds_toArray, List.append, List.set_cons_zero, List.set_cons_succ]
                      refine wpAnyH_done (by kernel_rfl) ?_ _
                      refine NoPanic.normal ?_
                      go_wp2
                      go_meet
                      case rel => exact ⟨true, _, by (first | rfl | kernel_rfl), r3.out.1, r3.out.2.1, k3.out, fun _ => HNO3.out e3.out.symm, fun h => by cases h⟩
                    | true =>
                      refine take_d (i := 22) (oi := _) (v := ?_) (d := some 32) rfl (by kernel_rfl) (by kernel_rfl) (by kernel_rfl) (fun _ _ _ h => h) (Or.inl ⟨by kernel_rfl, ?_⟩) hHeld rfl ?_
                      rotate_left
                      · intro w' hSw; (try dsimp only at hSw); go_simp; (try with_reducible rfl)
                      simp only [Act.put, List.setIfInBounds_toArray, List.append, List.set_cons_zero, List.set_cons_succ]
                      refine take_d (i := 23) (oi := _) (v := ?_) (d := some 33) rfl (by kernel_rfl) (by kernel_rfl) (by kernel_rfl) (fun _ _ _ h => h) (Or.inl ⟨by kernel_rfl, ?_⟩) hHeld rfl ?_
                      rotate_left
                      · intro w' hSw; (try dsimp only at hSw); go_simp; (try with_reducible rfl)
                      simp only [Act.put, List.setIfInBounds_toArray, List.append, List.set_cons_zero, List.set_cons_succ]
                      refine take_d (i := 24) (oi := _) (v := ?_) (d := some 34) rfl (by kernel_rfl) (by kernel_rfl) (by kernel_rfl) (fun _ _ _ h => h) (Or.inl ⟨by kernel_rfl, ?_⟩) hHeld rfl ?_
                      rotate_left
                      · intro w' hSw; (try dsimp only at hSw); go_simp; (try with_reducible rfl)
                      simp only [Act.put, List.setIfInBounds_toArray, List.append, List.set_cons_zero, List.set_cons_succ]
                      refine take_d (i := 25) (oi := _) (v := ?_) (d := some 35) rfl (by kernel_rfl) (by kernel_rfl) (by kernel_rfl) (fun _ _ _ h => h) (Or.inl ⟨by kernel_rfl, ?_⟩) hHeld rfl ?_
                      rotate_left
                      · intro w' hSw; (try dsimp only at hSw); go_simp; (try with_reducible rfl)
                      simp only [Act.put, List.setIfInBounds_toArray, List.append, List.set_cons_zero, List.set_cons_succ]
                      refine take_d (i := 26) (oi := _) (v := ?_) (d := some 36) rfl (by kernel_rfl) (by kernel_rfl) (by kernel_rfl) (fun _ _ _ h => h) (Or.inl ⟨by kernel_rfl, ?_⟩) hHeld rfl ?_
                      rotate_left
                      · intro w' hSw; (try dsimp only at hSw); go_simp; (try with_reducible rfl)
                      simp only [Act.put, List.setIfInBounds_toArray, List.append, List.set_cons_zero, List.set_cons_succ]
                      refine take_d (i := 27) (oi := _) (v := ?_) (d := some 37) rfl (by kernel_rfl) (by kernel_rfl) (by kernel_rfl) (fun _ _ _ h => h) (Or.inl ⟨by kernel_rfl, ?_⟩) hHeld rfl ?_
                      rotate_left
                      · intro w' hSw; (try dsimp only at hSw); go_simp; (try with_reducible rfl)
                      simp only [Act.put, List.setIfInBounds_toArray, List.append, List.set_cons_zero, List.set_cons_succ]
                      refine take_d (i := 28) (oi := _) (v := ?_) (d := some 38) rfl (by kernel_rfl) (by kernel_rfl) (by kernel_rfl) (fun _ _ _ h => h) (Or.inl ⟨by kernel_rfl, ?_⟩) hHeld rfl ?_
                      rotate_left
                      · intro w' hSw; (try dsimp only at hSw); go_simp; (try with_reducible rfl)
                      simp only [Act.put, List.setIfInBounds_toArray, List.append, List.set_cons_zero, List.set_cons_succ]
                      refine take_d (i := 29) (oi := _) (v := ?_) (d := some 39) rfl (by kernel_rfl) (by kernel_rfl) (by kernel_rfl) (fun _ _ _ h => h) (Or.inl ⟨by kernel_rfl, ?_⟩) hHeld rfl ?_
                      rotate_left
                      · intro w' hSw; (try dsimp only at hSw); go_simp; (try with_reducible rfl)
                      simp only [Act.put, List.setIfInBounds_toArray, List.append, List.set_cons_zero, List.set_cons_succ]
                      refine take_d (i := 30) (oi := _) (v := ?_) (d := some 40) rfl (by kernel_rfl) (by kernel_rfl) (by kernel_rfl) (fun _ _ _ h => h) (Or.inl ⟨by kernel_rfl, ?_⟩) hHeld rfl ?_
                      rotate_left
                      · intro w' hSw; (try dsimp only at hSw); go_simp; (try with_reducible rfl)
                      simp only [Act.put, List.setIfInBounds_toArray, List.append, List.set_cons_zero, List.set_cons_succ]
                      refine take_d (i := 31) (oi := _) (v := ?_) (d := some 41) rfl (by kernel_rfl) (by kernel_rfl) (by kernel_rfl) (fun _ _ _ h => h) (Or.inl ⟨by kernel_rfl, ?_⟩) hHeld rfl ?_
                      rotate_left
                      · intro w' hSw; (try dsimp only at hSw); go_simp; (try with_reducible rfl)
                      simp only [Act.put, List.setIfInBounds_toArray, List.append, List.set_cons_zero, List.set_cons_succ]
                      refine take_d (i := 32) (oi := _) (v := ?_) (d := some 42) rfl (by kernel_rfl) (by kernel_rfl) (by kernel_rfl) (fun _ _ _ h => h) (Or.inl ⟨by kernel_rfl, ?_⟩) hHeld rfl ?_
                      rotate_left
                      · intro w' hSw; (try dsimp only at hSw); go_simp; (try with_reducible rfl)
                      simp only [Act.put, List.setIfInBounds_toArray, List.append, List.set_cons_zero, List.set_cons_succ]
                      refine take_d (i := 33) (oi := _) (v := ?_) (d := some 43) rfl (by kernel_rfl) (by kernel_rfl) (by kernel_rfl) (fun _ _ _ h => h) (Or.inl ⟨by kernel_rfl, ?_⟩) hHeld rfl ?_
                      rotate_left
                      · intro w' hSw; (try dsimp only at hSw); go_simp; (try with_reducible rfl)
                      simp only [Act.put, List.setIfInBounds_toArray, List.append, List.set_cons_zero, List.set_cons_succ]
                      refine wpAnyH_ready (rs := [34]) (by kernel_rfl) (by simp) ?_
                      refine AllReadyH.cons rfl (fun K hK => ?_) ?_
                      · go_simp
                        refine hK.out _ _ ?_ (fun hHeld => ?_)
                        · (try dsimp only); exact SB.out _ (k3.out.trans (Wk.below (bel1 _ _) r3.out.2.1.lt))
                        clear hK K
                        (try simp only [Act.put, List.setIfInBounds_toArray, List.append, List.set_cons_zero, List.set_cons_succ])
                        refine wpAnyH_ready (rs := [35]) (by kernel_rfl) (by simp) ?_
                        refine AllReadyH.cons rfl (fun K hK => ?_) ?_
                        · (go_simp; refine (KC.out w3 acc3 r3.out.1 r3.out.2.1).mono ?_; rintro e w4 ⟨b4, rfl, e4, acc4, r4⟩; have k4 : Hid (Wk b X w4) := k3.out.trans r4.out.2.2.1)
                          refine hK.out _ _ ?_ (fun hHeld => ?_)
                          · (try dsimp only); exact SB.out _ k4.out
                          clear hK K
                          (try simp only [Act.put, List.setIfInBounds_toArray, List.append, List.set_cons_zero, List.set_cons_succ])
                          cases b4 with
                          | false =>
                            refine take_d (i := 36) (oi := _) (v := ?_) (d := some 46) rfl (by kernel_rfl) (by kernel_rfl) (by kernel_rfl) (fun _ _ _ h => h) (Or.inl ⟨by kernel_rfl, ?_⟩) hHeld rfl ?_
                            rotate_left
                            · intro w' hSw; (try dsimp only at hSw); go_simp; (try with_reducible rfl)
                            simp only [Act.put, List.setIfInBounds_toArray, List.append, List.set_cons_zero, List.set_cons_succ]
                            refine take_d (i := 37) (oi := _) (v := ?_) (d := some 47) rfl (by kernel_rfl) (by kernel_rfl) (by kernel_rfl) (fun _ _ _ h => h) (Or.inl ⟨by kernel_rfl, ?_⟩) hHeld rfl ?_
                            rotate_left
                            · intro w' hSw; (try dsimp only at hSw); go_simp; (try with_reducible rfl)
                            simp only [Act.put, List.setIfInBounds_toArray, List.append, List.set_cons_zero, List.set_cons_succ]
                            refine take_d (i := 38) (oi := _) (v := ?_) (d := some 48) rfl (by kernel_rfl) (by kernel_rfl) (by kernel_rfl) (fun _ _ _ h => h) (Or.inl ⟨by kernel_rfl, ?_⟩) hHeld rfl ?_
                            rotate_left
                            · intro w' hSw; (try dsimp only at hSw); go_simp; (try with_reducible rfl)
                            simp only [Act.put, List.setIfInBounds_toArray, List.append, List.set_cons_zero, List.set_cons_succ]
                            refine take_d (i := 39) (oi := _) (v := undef) (d := some 49) rfl (by kernel_rfl) (by kernel_rfl) (by kernel_rfl) (fun _ _ _ h => h) (Or.inr ⟨by kernel_rfl, rfl⟩) hHeld rfl ?_
                            simp only [Act.put, List.setIfInBounds_toArray, List.append, List.set_cons_zero, List.set_cons_succ]
                            refine take_d (i := 40) (oi := _) (v := undef) (d := some 50) rfl (by kernel_rfl) (by kernel_rfl) (by kernel_rfl) (fun _ _ _ h => h) (Or.inr ⟨by kernel_rfl, rfl⟩) hHeld rfl ?_
                            simp only [Act.put, List.setIfInBounds_toArray, List.append, List.set_cons_zero, List.set_cons_succ]
                            refine take_d (i := 41) (oi := _) (v := undef) (d := some 51) rfl (by kernel_rfl) (by kernel_rfl) (by kernel_rfl) (fun _ _ _ h => h) (Or.inr ⟨by kernel_rfl, rfl⟩) hHeld rfl ?_
                            simp only [Act.put, List.setIfInBounds_toArray, List.append, List.set_cons_zero, List.set_cons_succ]
                            refine take_d (i := 42) (oi := _) (v := undef) (d := some 52) rfl (by kernel_rfl) (by kernel_rfl) (by kernel_rfl) (fun _ _ _ h => h) (Or.inr ⟨by kernel_rfl, rfl⟩) hHeld rfl ?_
                            simp only [Act.put, List.setIfInBounds_toArray, List.append, List.set_cons_zero, List.set_cons_succ]
                            refine take_d (i := 43) (oi := _) (v := undef) (d := some 53) rfl (by kernel_rfl) (by kernel_rfl) (by kernel_rfl) (fun _ _ _ h => h) (Or.inr ⟨by kernel_rfl, rfl⟩) hHeld rfl ?_
                            simp only [Act.put, List.setIfInBounds_toArray, List.append, List.set_cons_zero, List.set_cons_succ]
                            refine take_d (i := 44) (oi := _) (v := undef) (d := some 54) rfl (by kernel_rfl) (by kernel_rfl) (by kernel_rfl) (fun _ _ _ h => h) (Or.inr ⟨by kernel_rfl, rfl⟩) hHeld rfl ?_
                            simp only [Act.put, List.setIfInBounds_toArray, List.append, List.set_cons_zero, List.set_cons_succ]
                            refine take_d (i := 45) (oi := _) (v := ?_) (d := some 55) rfl (by kernel_rfl) (by kernel_rfl) (by kernel_rfl) (fun _ _ _ h => h) (Or.inl ⟨by kernel_rfl, ?_⟩) hHeld rfl ?_
                            rotate_left
                            · intro w' hSw; (try dsimp only at hSw); go_simp; (try with_reducible rfl)
                            simp only [Act.put, List.setIfInBounds_toArray, List.append, List.set_cons_zero, List.set_cons_succ]
                            refine take_d (i := 46) (oi := _) (v := ?_) (d := some 56) rfl (by kernel_rfl) (by kernel_rfl) (by kernel_rfl) (fun _ _ _ h => h) (Or.inl ⟨by kernel_rfl, ?_⟩) hHeld rfl ?_
                            rotate_left
                            · intro w' hSw; (try dsimp only at hSw); go_simp; (try with_reducible rfl)
                            simp only [Act.put, List.setIfInBounds_toArray, List.append, List.set_cons_zero, List.set_cons_succ]
                            refine take_d (i := 47) (oi := _) (v := undef) (d := some 57) rfl (by kernel_rfl) (by kernel_rfl) (by kernel_rfl) (fun _ _ _ h => h) (Or.inr ⟨by kernel_rfl, rfl⟩) hHeld rfl ?_
                            simp only [Act.put, List.setIfInBounds_toArray, List.append, List.set_cons_zero, List.set_cons_succ]
                            refine take_d (i := 48) (oi := _) (v := undef) (d := some 58) rfl (by kernel_rfl) (by kernel_rfl) (by kernel_rfl) (fun _ _ _ h => h) (Or.inr ⟨by kernel_rfl, rfl⟩) hHeld rfl ?_
                            simp only [Act.put, List.setIfInBounds_toArray, List.append, List.set_cons_zero, List.set_cons_succ]
                            refine take_d (i := 49) (oi := _) (v := undef) (d := some 59) rfl (by kernel_rfl) (by kernel_rfl) (by kernel_rfl) (fun _ _ _ h => h) (Or.inr ⟨by kernel_rfl, rfl⟩) hHeld rfl ?_
                            simp only [Act.put, List.setIfInBounds_toArray, List.append, List.set_cons_zero, List.set_cons_succ]
                            refine take_d (i := 50) (oi := _) (v := undef) (d := some 60) rfl (by kernel_rfl) (by kernel_rfl) (by kernel_rfl) (fun _ _ _ h => h) (Or.inr ⟨by kernel_rfl, rfl⟩) hHeld rfl ?_
                            simp only [Act.put, List.setIfInBounds_toArray, List.append, List.set_cons_zero, List.set_cons_succ]
                            refine take_d (i := 51) (oi := _) (v := undef) (d := some 61) rfl (by kernel_rfl) (by kernel_rfl) (by kernel_rfl) (fun _ _ _ h => h) (Or.inr ⟨by kernel_rfl, rfl⟩) hHeld rfl ?_
                            simp only [Act.put, List.setIfInBounds_toArray, List.append, List.set_cons_zero, List.set_cons_succ]
                            refine take_d (i := 52) (oi := _) (v := undef) (d := some 62) rfl (by kernel_rfl) (by kernel_rfl) (by kernel_rfl) (fun _ _ _ h => h) (Or.inr ⟨by kernel_rfl, rfl⟩) hHeld rfl ?_
                            simp only [Act.put, List.setIfInBounds_toArray, List.append, List.set_cons_zero, List.set_cons_succ]
                            refine take_d (i := 53) (oi := _) (v := undef) (d := some 63) rfl (by kernel_rfl) (by kernel_rfl) (by kernel_rfl) (fun _ _ _ h => h) (Or.inr ⟨by kernel_rfl, rfl⟩) hHeld rfl ?_
                            simp only [Act.put, List.setIfInBounds_toArray, List.append, List.set_cons_zero, List.set_cons_succ]
                            refine take_d (i := 54) (oi := _) (v := ?_) (d := some 64) rfl (by kernel_rfl) (by kernel_rfl) (by kernel_rfl) (fun _ _ _ h => h) (Or.inl ⟨by kernel_rfl, ?_⟩) hHeld rfl ?_
                            rotate_left
                            · intro w' hSw; (try dsimp only at hSw); go_simp; (try with_reducible rfl)
                            simp only [Act.put, List.setIfInBounds_toArray, List.append, List.set_cons_zero, List.set_cons_succ]
                            refine wpAnyH_done (by kernel_rfl) ?_ _
                            refine NoPanic.normal ?_
                            go_wp2
                            go_meet
                            case rel => exact ⟨true, _, by (first | rfl | kernel_rfl), r4.out.1, r4.out.2.1, k4.out, fun _ => HNO4.out e4.out.symm, fun h => by cases h⟩
                          | true =>
                            refine take_d (i := 36) (oi := _) (v := ?_) (d := some 46) rfl (by kernel_rfl) (by kernel_rfl) (by kernel_rfl) (fun _ _ _ h => h) (Or.inl ⟨by kernel_rfl, ?_⟩) hHeld rfl ?_
                            rotate_left
                            · intro w' hSw; (try dsimp only at hSw); go_simp; (try with_reducible rfl)
                            simp only [Act.put, List.setIfInBounds_toArray, List.append, List.set_cons_zero, List.set_cons_succ]
                            refine take_d (i := 37) (oi := _) (v := ?_) (d := some 47) rfl (by kernel_rfl) (by kernel_rfl) (by kernel_rfl) (fun _ _ _ h => h) (Or.inl ⟨by kernel_rfl, ?_⟩) hHeld rfl ?_
                            rotate_left
                            · intro w' hSw; (try dsimp only at hSw); go_simp; (try with_reducible rfl)
                            simp only [Act.put, List.setIfInBounds_toArray, List.append, List.set_cons_zero, List.set_cons_succ]
                            refine take_d (i := 38) (oi := _) (v := ?_) (d := some 48) rfl (by kernel_rfl) (by kernel_rfl) (by kernel_rfl) (fun _ _ _ h => h) (Or.inl ⟨by kernel_rfl, ?_⟩) hHeld rfl ?_
                            rotate_left
                            · intro w' hSw; (try dsimp only at hSw); go_simp; (try with_reducible rfl)
                            simp only [Act.put, List.setIfInBounds_toArray, List.append, List.set_cons_zero, List.set_cons_succ]
                            refine take_d (i := 39) (oi := _) (v := ?_) (d := some 49) rfl (by kernel_rfl) (by kernel_rfl) (by kernel_rfl) (fun _ _ _ h => h) (Or.inl ⟨by kernel_rfl, ?_⟩) hHeld rfl ?_
                            rotate_left
                            · intro w' hSw; (try dsimp only at hSw); go_simp; (try with_reducible rfl)
                            simp only [Act.put, List.setIfInBounds_toArray, List.append, List.set_cons_zero, List.set_cons_succ]
                            refine take_d (i := 40) (oi := _) (v := ?_) (d := some 50) rfl (by kernel_rfl) (by kernel_rfl) (by kernel_rfl) (fun _ _ _ h => h) (Or.inl ⟨by kernel_rfl, ?_⟩) hHeld rfl ?_
                            rotate_left
                            · intro w' hSw; (try dsimp only at hSw); go_simp; (try with_reducible rfl)
                            simp only [Act.put, List.setIfInBounds_toArray, List.append, List.set_cons_zero, List.set_cons_succ]
                            refine take_d (i := 41) (oi := _) (v := ?_) (d := some 51) rfl (by kernel_rfl) (by kernel_rfl) (by kernel_rfl) (fun _ _ _ h => h) (Or.inl ⟨by kernel_rfl, ?_⟩) hHeld rfl ?_
                            rotate_left
                            · intro w' hSw; (try dsimp only at hSw); go_simp; (try with_reducible rfl)
                            simp only [Act.put, List.setIfInBounds_toArray, List.append, List.set_cons_zero, List.set_cons_succ]
                            refine wpAnyH_ready (rs := [42]) (by kernel_rfl) (by simp) ?_
                            refine AllReadyH.cons rfl (fun K hK => ?_) ?_
                            · go_simp
                              refine hK.out _ _ ?_ (fun hHeld => ?_)
                              · (try dsimp only); exact SB.out _ (k4.out.trans (Wk.below (bel1 _ _) r4.out.2.1.lt))
                              clear hK K
                              (try simp only [Act.put, List.setIfInBounds_toArray, List.append, List.set_cons_zero, List.set_cons_succ])
                              refine wpAnyH_ready (rs := [43]) (by kernel_rfl) (by simp) ?_
                              refine AllReadyH.cons rfl (fun K hK => ?_) ?_
                              · (go_simp; refine (KD.out w4 acc4 r4.out.1 r4.out.2.1).mono ?_; rintro e w5 ⟨b5, rfl, e5, acc5, r5⟩; have k5 : Hid (Wk b X w5) := k4.out.trans r5.out.2.2.1)
                                refine hK.out _ _ ?_ (fun hHeld => ?_)
                                · (try dsimp only); exact SB.out _ k5.out
                                clear hK K
                                (try simp only [Act.put, List.setIfInBounds_toArray, List.append, List.set_cons_zero, List.set_cons_succ])
                                cases b5 with
                                | false =>
                                  refine take_d (i := 44) (oi := _) (v := ?_) (d := some 54) rfl (by kernel_rfl) (by kernel_rfl) (by kernel_rfl) (fun _ _ _ h => h) (Or.inl ⟨by kernel_rfl, ?_⟩) hHeld rfl ?_
                                  rotate_left
                                  · intro w' hSw; (try dsimp only at hSw); go_simp; (try with_reducible rfl)
                                  simp only [Act.put, List.setIfInBounds_toArray, List.append, List.set_cons_zero, List.set_cons_succ]
                                  refine take_d (i := 45) (oi := _) (v := ?_) (d := some 55) rfl (by kernel_rfl) (by kernel_rfl) (by kernel_rfl) (fun _ _ _ h => h) (Or.inl ⟨by kernel_rfl, ?_⟩) hHeld rfl ?_
                                  rotate_left
                                  · intro w' hSw; (try dsimp only at hSw); go_simp; (try with_reducible rfl)
                                  simp only [Act.put, List.setIfInBounds_toArray, List.append, List.set_cons_zero, List.set_cons_succ]
                                  refine take_d (i := 46) (oi := _) (v := ?_) (d := some 56) rfl (by kernel_rfl) (by kernel_rfl) (by kernel_rfl) (fun _ _ _ h => h) (Or.inl ⟨by kernel_rfl, ?_⟩) hHeld rfl ?_
                                  rotate_left
                                  · intro w' hSw; (try dsimp only at hSw); go_simp; (try with_reducible rfl)
                                  simp only [Act.put, List.setIfInBounds_toArray, List.append, List.set_cons_zero, List.set_cons_succ]
                                  refine take_d (i := 47) (oi := _) (v := undef) (d := some 57) rfl (by kernel_rfl) (by kernel_rfl) (by kernel_rfl) (fun _ _ _ h => h) (Or.inr ⟨by kernel_rfl, rfl⟩) hHeld rfl ?_
                                  simp only [Act.put, List.setIfInBounds_toArray, List.append, List.set_cons_zero, List.set_cons_succ]
                                  refine take_d (i := 48) (oi := _) (v := undef) (d := some 58) rfl (by kernel_rfl) (by kernel_rfl) (by kernel_rfl) (fun _ _ _ h => h) (Or.inr ⟨by kernel_rfl, rfl⟩) hHeld rfl ?_
                                  simp only [Act.put, List.setIfInBounds_toArray, List.append, List.set_cons_zero, List.set_cons_succ]
                                  refine take_d (i := 49) (oi := _) (v := undef) (d := some 59) rfl (by kernel_rfl) (by kernel_rfl) (by kernel_rfl) (fun _ _ _ h => h) (Or.inr ⟨by kernel_rfl, rfl⟩) hHeld rfl ?_
                                  simp only [Act.put, List.setIfInBounds_toArray, List.append, List.set_cons_zero, List.set_cons_succ]
                                  refine take_d (i := 50) (oi := _) (v := undef) (d := some 60) rfl (by kernel_rfl) (by kernel_rfl) (by kernel_rfl) (fun _ _ _ h => h) (Or.inr ⟨by kernel_rfl, rfl⟩) hHeld rfl ?_
                                  simp only [Act.put, List.setIfInBounds_toArray, List.append, List.set_cons_zero, List.set_cons_succ]
                                  refine take_d (i := 51) (oi := _) (v := undef) (d := some 61) rfl (by kernel_rfl) (by kernel_rfl) (by kernel_rfl) (fun _ _ _ h => h) (Or.inr ⟨by kernel_rfl, rfl⟩) hHeld rfl ?_
                                  simp only [Act.put, List.setIfInBounds_toArray, List.append, List.set_cons_zero, List.set_cons_succ]
                                  refine take_d (i := 52) (oi := _) (v := undef) (d := some 62) rfl (by kernel_rfl) (by kernel_rfl) (by kernel_rfl) (fun _ _ _ h => h) (Or.inr ⟨by kernel_rfl, rfl⟩) hHeld rfl ?_
                                  simp only [Act.put, List.setIfInBounds_toArray, List.append, List.set_cons_zero, List.set_cons_succ]
                                  refine take_d (i := 53) (oi := _) (v := undef) (d := some 63) rfl (by kernel_rfl) (by kernel_rfl) (by kernel_rfl) (fun _ _ _ h => h) (Or.inr ⟨by kernel_rfl, rfl⟩) hHeld rfl ?_
                                  simp only [Act.put, List.setIfInBounds_toArray, List.append, List.set_cons_zero, List.set_cons_succ]
                                  refine take_d (i := 54) (oi := _) (v := ?_) (d := some 64) rfl (by kernel_rfl) (by kernel_rfl) (by kernel_rfl) (fun _ _ _ h => h) (Or.inl ⟨by kernel_rfl, ?_⟩) hHeld rfl ?_
                                  rotate_left
                                  · intro w' hSw; (try dsimp only at hSw); go_simp; (try with_reducible rfl)
                                  simp only [Act.put, List.setIfInBounds_toArray, List.append, List.set_cons_zero, List.set_cons_succ]
                                  refine wpAnyH_done (by kernel_rfl) ?_ _
                                  refine NoPanic.normal ?_
                                  go_wp2
                                  go_meet
                                  case rel => exact ⟨true, _, by (first | rfl | kernel_rfl), r5.out.1, r5.out.2.1, k5.out, fun _ => HNO5.out e5.out.symm, fun h => by cases h⟩
                                | true =>
                                  refine take_d (i := 44) (oi := _) (v := ?_) (d := some 54) rfl (by kernel_rfl) (by kernel_rfl) (by kernel_rfl) (fun _ _ _ h => h) (Or.inl ⟨by kernel_rfl, ?_⟩) hHeld rfl ?_
                                  rotate_left
                                  · intro w' hSw; (try dsimp only at hSw); go_simp; (try with_reducible rfl)
                                  simp only [Act.put, List.setIfInBounds_toArray, List.append, List.set_cons_zero, List.set_cons_succ]
                                  refine take_d (i := 45) (oi := _) (v := ?_) (d := some 55) rfl (by kernel_rfl) (by kernel_rfl) (by kernel_rfl) (fun _ _ _ h => h) (Or.inl ⟨by kernel_rfl, ?_⟩) hHeld rfl ?_
                                  rotate_left
                                  · intro w' hSw; (try dsimp only at hSw); go_simp; (try with_reducible rfl)
                                  simp only [Act.put, List.setIfInBounds_toArray, List.append, List.set_cons_zero, List.set_cons_succ]
                                  refine take_d (i := 46) (oi := _) (v := ?_) (d := some 56) rfl (by kernel_rfl) (by kernel_rfl) (by kernel_rfl) (fun _ _ _ h => h) (Or.inl ⟨by kernel_rfl, ?_⟩) hHeld rfl ?_
                                  rotate_left
                                  · intro w' hSw; (try dsimp only at hSw); go_simp; (try with_reducible rfl)
                                  simp only [Act.put, List.setIfInBounds_toArray, List.append, List.set_cons_zero, List.set_cons_succ]
                                  refine take_d (i := 47) (oi := _) (v := ?_) (d := some 57) rfl (by kernel_rfl) (by kernel_rfl) (by kernel_rfl) (fun _ _ _ h => h) (Or.inl ⟨by kernel_rfl, ?_⟩) hHeld rfl ?_
                                  rotate_left
                                  · intro w' hSw; (try dsimp only at hSw); go_simp; (try with_reducible rfl)
                                  simp only [Act.put, List.setIfInBounds_toArray, List.append, List.set_cons_zero, List.set_cons_succ]
                                  refine take_d (i := 48) (oi := _) (v := ?_) (d := some 58) rfl (by kernel_rfl) (by kernel_rfl) (by kernel_rfl) (fun _ _ _ h => h) (Or.inl ⟨by kernel_rfl, ?_⟩) hHeld rfl ?_
                                  rotate_left
                                  · intro w' hSw; (try dsimp only at hSw); go_simp; (try with_reducible rfl)
                                  simp only [Act.put, List.setIfInBounds_toArray, List.append, List.set_cons_zero, List.set_cons_succ]
                                  refine take_d (i := 49) (oi := _) (v := ?_) (d := some 59) rfl (by kernel_rfl) (by kernel_rfl) (by kernel_rfl) (fun _ _ _ h => h) (Or.inl ⟨by kernel_rfl, ?_⟩) hHeld rfl ?_
                                  rotate_left
                                  · intro w' hSw; (try dsimp only at hSw); go_simp; (try with_reducible rfl)
                                  simp only [Act.put, List.setIfInBounds_toArray, List.append, List.set_cons_zero, List.set_cons_succ]
                                  refine take_d (i := 50) (oi := _) (v := ?_) (d := some 60) rfl (by kernel_rfl) (by kernel_rfl) (by kernel_rfl) (fun _ _ _ h => h) (Or.inl ⟨by kernel_rfl, ?_⟩) hHeld rfl ?_
                                  rotate_left
                                  · intro w' hSw; (try dsimp only at hSw); go_simp; (try with_reducible rfl)
                                  simp only [Act.put, List.setIfInBounds_toArray, List.append, List.set_cons_zero, List.set_cons_succ]
                                  refine wpAnyH_ready (rs := [51]) (by kernel_rfl) (by simp) ?_
                                  refine AllReadyH.cons rfl (fun K hK => ?_) ?_
                                  · go_simp
                                    refine hK.out _ _ ?_ (fun hHeld => ?_)
                                    · (try dsimp only); exact SB.out _ (k5.out.trans (Wk.below (bel1 _ _) r5.out.2.1.lt))
                                    clear hK K
                                    (try simp only [Act.put, List.setIfInBounds_toArray, List.append, List.set_cons_zero, List.set_cons_succ])
                                    refine wpAnyH_ready (rs := [52]) (by kernel_rfl) (by simp) ?_
                                    refine AllReadyH.cons rfl (fun K hK => ?_) ?_
                                    · (go_simp; refine (KE.out w5 acc5 r5.out.1 r5.out.2.1).mono ?_; rintro e w6 ⟨b6, rfl, e6, acc6, r6⟩; have k6 : Hid (Wk b X w6) := k5.out.trans r6.out.2.2.1)
                                      refine hK.out _ _ ?_ (fun hHeld => ?_)
                                      · (try dsimp only); exact SB.out _ k6.out
                                      clear hK K
                                      (try simp only [Act.put, List.setIfInBounds_toArray, List.append, List.set_cons_zero, List.set_cons_succ])
                                      cases b6 with
                                      | false =>
                                        refine take_d (i := 53) (oi := _) (v := ?_) (d := some 63) rfl (by kernel_rfl) (by kernel_rfl) (by kernel_rfl) (fun _ _ _ h => h) (Or.inl ⟨by kernel_rfl, ?_⟩) hHeld rfl ?_
                                        rotate_left
                                        · intro w' hSw; (try dsimp only at hSw); go_simp; (try with_reducible rfl)
                                        simp only [Act.put, List.setIfInBounds_toArray, List.append, List.set_cons_zero, List.set_cons_succ]
                                        refine take_d (i := 54) (oi := _) (v := ?_) (d := some 64) rfl (by kernel_rfl) (by kernel_rfl) (by kernel_rfl) (fun _ _ _ h => h) (Or.inl ⟨by kernel_rfl, ?_⟩) hHeld rfl ?_
                                        rotate_left
                                        · intro w' hSw; (try dsimp only at hSw); go_simp; (try with_reducible rfl)
                                        simp only [Act.put, List.setIfInBounds_toArray, List.append, List.set_cons_zero, List.set_cons_succ]
                                        refine wpAnyH_done (by kernel_rfl) ?_ _
                                        refine NoPanic.normal ?_
                                        go_wp2
                                        go_meet
                                        case rel => exact ⟨true, _, by (first | rfl | kernel_rfl), r6.out.1, r6.out.2.1, k6.out, fun _ => HNO6.out e6.out.symm, fun h => by cases h⟩
                                      | true =>
                                        refine take_d (i := 53) (oi := _) (v := ?_) (d := some 63) rfl (by kernel_rfl) (by kernel_rfl) (by kernel_rfl) (fun _ _ _ h => h) (Or.inl ⟨by kernel_rfl, ?_⟩) hHeld rfl ?_
                                        rotate_left
                                        · intro w' hSw; (try dsimp only at hSw); go_simp; (try with_reducible rfl)
                                        simp only [Act.put, List.setIfInBounds_toArray, List.append, List.set_cons_zero, List.set_cons_succ]
                                        refine take_d (i := 54) (oi := _) (v := ?_) (d := some 64) rfl (by kernel_rfl) (by kernel_rfl) (by kernel_rfl) (fun _ _ _ h => h) (Or.inl ⟨by kernel_rfl, ?_⟩) hHeld rfl ?_
                                        rotate_left
                                        · intro w' hSw; (try dsimp only at hSw); go_simp; (try with_reducible rfl)
                                        simp only [Act.put, List.setIfInBounds_toArray, List.append, List.set_cons_zero, List.set_cons_succ]
                                        refine wpAnyH_done (by kernel_rfl) ?_ _
                                        refine NoPanic.normal ?_
                                        go_wp2
                                        go_meet
                                        case rel => exact ⟨false, acc6, rfl, r6.out.1, r6.out.2.1, k6.out, fun h => (by cases h), fun _ => ⟨HYES.out e1.out.symm e2.out.symm e3.out.symm e4.out.symm e5.out.symm e6.out.symm, by rw [r6.out.2.2.2 (by simp), r5.out.2.2.2 (by simp), r4.out.2.2.2 (by simp), r3.out.2.2.2 (by simp), r2.out.2.2.2 (by simp), ← addsB_app, ← addsB_app, ← addsB_app, ← addsB_app]; unfold hdB; simp⟩⟩
                                    exact AllReadyH.nil
                                  exact AllReadyH.nil
                              exact AllReadyH.nil
                            exact AllReadyH.nil
                        exact AllReadyH.nil
                      exact AllReadyH.nil
                  exact AllReadyH.nil
                exact AllReadyH.nil
            exact AllReadyH.nil
          exact AllReadyH.nil
        exact AllReadyH.nil
    exact AllReadyH.nil
  case rest =>
    clear KA KB KC KD KE KI HNO1 HNO2 HNO3 HNO4 HNO5 HNO6 HYES HMA HMB HMC HMD HME HXD
    obtain ⟨bb, a1, rfl, HC⟩ := hcut
    have ⟨c9, c9k⟩ : wc.cell? ⟨w.heap.size, 9, none⟩ = some (.slice pu ps.length cu) ∧ True := ⟨(SB.out wc HC.out.2.2.1).2.2.2.2.2.2.2.2.2.1, trivial⟩
    clear SB
    cases bb with
    | true =>
      have hno : Hid (ndOk ⟨sg, kd, nm, ru, cj, po, ni, nj, rk, ps⟩ = false) := HC.out.2.2.2.1 rfl
      go_wp2
      go_ret
      exact ⟨by rw [hno.out]; rfl, a1, HC.out.1, HC.out.2.1, HWX.out.trans HC.out.2.2.1, fun h => by rw [hno.out] at h; cases h⟩
    | false =>
      have hal := HC.out.1
      have HOC : Hid (Off b F wc) := HO.out.next (HWX.out.trans HC.out.2.2.1)
      have HZC : Hid (IsPks wc F (.slice pu ps.length cu) ps) := HZ.out.keep (HO.out.stay (HWX.out.trans HC.out.2.2.1)) (fun _ h => h)
      have HDC : Hid (hdOk ⟨sg, kd, nm, ru, cj, po, ni, nj, rk, ps⟩ = true ∧ a1 = addsB acc (hdB ⟨sg, kd, nm, ru, cj, po, ni, nj, rk, ps⟩)) := HC.out.2.2.2.2 rfl
      have HWC : Hid (Wr B b a1 wc ∧ Wk b w wc) := ⟨HC.out.2.1, HWX.out.trans HC.out.2.2.1⟩
      clear HC HON HOP HX HWX HRX
      go_wp2
      go_loopw [68] (fun x wr => ∃ i : Nat, i ≤ ps.length ∧ x = .int .i64 i ∧ Hid ((ps.take i).all pkOk = true ∧ Wr B b (addsB a1 ((ps.take i).flatMap pkB)) wr ∧ Wk b wc wr)) (fun x _ => ps.length - (intOf x).toNat)
      case atStart => exact ⟨0, by omega, rfl, rfl, HWC.out.1, Wk.refl _ _⟩
      case round =>
        obtain ⟨i, hi, rfl, HR⟩ := hrel
        by_cases hlt : i < ps.length
        · obtain ⟨p, hp⟩ : ∃ p, ps[i]? = some p := ⟨_, List.getElem?_eq_getElem hlt⟩
          obtain ⟨g, o, up, e1, c0, c1, c2, hk, hg⟩ := (HZC.out.keep (HOC.out.stay HR.out.2.2) (fun _ h => h)).at hp
          subst e1
          obtain ⟨pp, cp, rfl⟩ := hk.slc
          have HPP : Hid (wfP p) := HP.out.1 p (List.mem_of_getElem? hp)
          have HG : Hid (ps[i]? = some p) := hp
          have HK : Hid (IsZs wr F (.slice pp p.kids.length cp) p.kids) := hk
          have hltI : (i : Int) < (ps.length : Int) := by omega
          have hal2 : (addsB a1 ((ps.take i).flatMap pkB)).length ≤ 1048577 := addsB_le _ _ hal
          clear hp hk
          have KQ : Hid (∀ W, Below wr.heap.size wr W → Calls Try.prog 49 #[.pointer (some ⟨b, 0, none⟩), .agg #[.int .i64 p.at_, .int .i64 p.conj, .slice pp p.kids.length cp]] W fun e w' => e = .returned (.bool (pkOk p)) ∧ ∃ acc', Hid (acc'.length ≤ 1048577 ∧ Wr B b acc' w' ∧ Wk b wr w' ∧ (pkOk p = true → acc' = addsB (addsB a1 ((ps.take i).flatMap pkB)) (pkB p)))) := fun W hb => by
            have hkw := Wk.below hb HR.out.2.1.lt
            refine (wpick_any (HR.out.2.1.keep hb) hal2 p _ (HK.out.any hb) (HOC.out.next (HR.out.2.2.trans hkw)) HPP.out.1 HPP.out.2.1 HPP.out.2.2.1 HPP.out.2.2.2).mono ?_
            rintro e w' ⟨h1, acc', h2⟩
            exact ⟨h1, acc', h2.out.1, h2.out.2.1, hkw.trans h2.out.2.2.1, h2.out.2.2.2⟩
          obtain ⟨bp, hbp⟩ : ∃ x, x = pkOk p := ⟨_, rfl⟩
          rw [← hbp] at KQ
          have HBP : Hid (bp = pkOk p) := hbp
          clear hbp
          cases bp with
          | true =>
            go_wp2_with (go_at_call 49; refine (KQ.out _ (by first | exact bel1 _ _ | exact Below.refl _ _)).mono ?_; rintro e w3 ⟨rfl, a3, h3⟩)
            go_roundw
            case rel =>
              refine ⟨i + 1, by omega, by go_num, ?_, ?_, HR.out.2.2.trans h3.out.2.2.1⟩
              · rw [List.take_add_one, HG.out]; simp [HR.out.1, ← HBP.out]
              · rw [List.take_add_one, HG.out, List.flatMap_append, addsB_app]
                have := h3.out.2.1
                rw [h3.out.2.2.2 (by simp)] at this
                simpa using this
            case measure => simp [intOf]; omega
          | false =>
            have hno : Hid (ndOk ⟨sg, kd, nm, ru, cj, po, ni, nj, rk, ps⟩ = false) := by
              show ndOk _ = false
              rw [Bool.eq_false_iff]; intro h
              unfold ndOk at h
              simp only [Bool.and_eq_true] at h
              have := List.all_eq_true.1 h.2 p (List.mem_of_getElem? HG.out)
              rw [← HBP.out] at this; cases this
            go_wp2_with (go_at_call 49; refine (KQ.out _ (by first | exact bel1 _ _ | exact Below.refl _ _)).mono ?_; rintro e w3 ⟨rfl, a3, h3⟩)
            go_ret
            exact ⟨by rw [hno.out]; rfl, a3, h3.out.1, h3.out.2.1, HWC.out.2.trans (HR.out.2.2.trans h3.out.2.2.1), fun h => by rw [hno.out] at h; cases h⟩
        · obtain rfl : i = ps.length := by omega
          go_wp2
          go_ret
          have := HR.out
          rw [List.take_length] at this
          have hyes : ndOk ⟨sg, kd, nm, ru, cj, po, ni, nj, rk, ps⟩ = true := by unfold ndOk; rw [HDC.out.1, this.1]; rfl
          refine ⟨by rw [hyes]; rfl, _, addsB_le _ _ hal, this.2.1, HWC.out.2.trans this.2.2, fun _ => ?_⟩
          rw [HDC.out.2, ← addsB_app]; rfl
end Go.Proofs.Ytgeajdfajfdjcaa
