/- The program's picks as bytes; what is a node. -/
import Derived.Test.YtgeajdfajfdjcaaPkP
namespace Go.Proofs.Ytgeajdfajfdjcaa
set_option linter.unusedVariables false
set_option linter.unusedSimpArgs false
open Go.ChangeShapes Go.WideShapes Go.ChangeAt Go.RowKit

set_option maxHeartbeats 1000000 in
set_option maxRecDepth 100000 in
theorem sign_any (b : Bool) (w : World) : Calls Try.prog 47 #[.bool b] w fun e w' => e = .returned (.int .i64 (sgZ b)) ∧ w' = w := by
  cases b
  all_goals
    go_enter Try.func47, Try.ntmps47
    go_wp2
    go_ret
    exact ⟨rfl, rfl⟩
set_option maxHeartbeats 1000000 in
set_option maxRecDepth 100000 in
theorem isNode_any (n : Nd) (u : Value) (w : World) :
    Calls Try.prog 45 #[.agg #[.bool n.sign, .int .i64 n.kind, .int .i64 n.name, .int .i64 n.rule, .int .i64 n.conj, .int .i64 n.pos, .int .i64 n.i, .int .i64 n.j, .int .i64 n.rank, u]] w fun e w' => e = .returned (.bool (isNd n)) ∧ Hid (Below w.heap.size w w') := by
  obtain ⟨sg, k, nm, ru, cj, po, ni, nj, rk, ps⟩ := n
  simp only
  go_enter Try.func45, Try.ntmps45
  go_wp2
  all_goals go_ret
  all_goals refine ⟨?_, bel1 _ _⟩
  all_goals first
    | (simp [isNd, *]; done)
    | (simp [isNd, *]; omega)
    | (simp [isNd, *]; grind)
theorem wfz_nat {n : Nat} (h : (n : Int) ≤ 1152921504606846976) : wfz (n : Int) := ⟨by omega, by omega⟩
theorem zs_laid {w : World} {g n c : Nat} {arr : Array Value} {zs : List Int} {t : TypeId} (h : w.heap[g]? = some (.cells arr t)) (hn : n = zs.length) (hc : n ≤ c) (hm : n ≤ maxLen) (he : zsV zs = arr.toList) : IsZs w (fun b => b = g) (.slice (some ⟨g, 0, none⟩) n c) zs := by
  subst hn
  refine ⟨_, c, rfl, ⟨hm, hc⟩, fun h0 => ⟨g, 0, rfl, rfl, heap_lt h, fun j x hj => ?_, fun j hj => by simp [World.frozen?, h]⟩⟩
  rw [he, Array.getElem?_toList] at hj
  rw [Nat.zero_add, Lib.cell_of_heap h]; exact hj
theorem Off.one {B b : Nat} {acc : List UInt8} {w w' : World} (h : Wr B b acc w) (hb : Below w.heap.size w w') {g : Nat} (h1 : w.heap.size ≤ g) (h2 : g < w'.heap.size) : Off b (fun i => i = g) w' :=
  Off.fresh h hb (fun i e => by subst e; exact ⟨h1, h2⟩)
theorem Wk.cel {b g j : Nat} {v : Value} {w w' : World} (k : Wk b w w') (o : Off b (fun i => i = g) w) (h : w.cell? ⟨g, j, none⟩ = some v) : w'.cell? ⟨g, j, none⟩ = some v :=
  (World.cell?_of_block (a := ⟨g, j, none⟩) ((o.stay k).blk g rfl)).trans h
/-- put, of a literal row: in a world above w. -/
theorem put_u8_at {B b : Nat} {acc : List UInt8} {w X : World} (h : Wr B b acc w) (hl : acc.length ≤ 1048577) (hb : Below w.heap.size w X) (zs : List Int) {g n : Nat} {arr : Array Value} {t : TypeId} (hg : X.heap[g]? = some (.cells arr t)) (h1 : w.heap.size ≤ g) (hn : n = zs.length) (he : zsV zs = arr.toList) (hm : n ≤ 4) (hw : ∀ z ∈ zs, wfz z) :
    Calls Try.prog 46 #[.pointer (some ⟨b, 0, none⟩), .slice (some ⟨g, 0, none⟩) n n] X fun e w' => e = .returned (.bool (zs.all (fitZ 1))) ∧ ∃ acc', Hid (acc'.length ≤ 1048577 ∧ Wr B b acc' w' ∧ Wk b X w' ∧ (zs.all (fitZ 1) = true → acc' = addsB acc (zs.flatMap (beZ 1)))) := by
  refine (put_u8 (h.keep hb) hl _ zs (zs_laid hg hn (Nat.le_refl _) (by unfold maxLen; omega) he) (Off.one h hb h1 (heap_lt hg)) hw (by omega)).mono ?_
  rintro e w' ⟨h1, h2⟩
  exact ⟨h1, h2⟩
/-- put, of a literal row: in a world above w. -/
theorem put_u16_at {B b : Nat} {acc : List UInt8} {w X : World} (h : Wr B b acc w) (hl : acc.length ≤ 1048577) (hb : Below w.heap.size w X) (zs : List Int) {g n : Nat} {arr : Array Value} {t : TypeId} (hg : X.heap[g]? = some (.cells arr t)) (h1 : w.heap.size ≤ g) (hn : n = zs.length) (he : zsV zs = arr.toList) (hm : n ≤ 4) (hw : ∀ z ∈ zs, wfz z) :
    Calls Try.prog 48 #[.pointer (some ⟨b, 0, none⟩), .slice (some ⟨g, 0, none⟩) n n] X fun e w' => e = .returned (.bool (zs.all (fitZ 2))) ∧ ∃ acc', Hid (acc'.length ≤ 1048577 ∧ Wr B b acc' w' ∧ Wk b X w' ∧ (zs.all (fitZ 2) = true → acc' = addsB acc (zs.flatMap (beZ 2)))) := by
  refine (put_u16 (h.keep hb) hl _ zs (zs_laid hg hn (Nat.le_refl _) (by unfold maxLen; omega) he) (Off.one h hb h1 (heap_lt hg)) hw (by omega)).mono ?_
  rintro e w' ⟨h1, h2⟩
  exact ⟨h1, h2⟩
/-- put, of a literal row: in a world above w. -/
theorem put_u32_at {B b : Nat} {acc : List UInt8} {w X : World} (h : Wr B b acc w) (hl : acc.length ≤ 1048577) (hb : Below w.heap.size w X) (zs : List Int) {g n : Nat} {arr : Array Value} {t : TypeId} (hg : X.heap[g]? = some (.cells arr t)) (h1 : w.heap.size ≤ g) (hn : n = zs.length) (he : zsV zs = arr.toList) (hm : n ≤ 4) (hw : ∀ z ∈ zs, wfz z) :
    Calls Try.prog 34 #[.pointer (some ⟨b, 0, none⟩), .slice (some ⟨g, 0, none⟩) n n] X fun e w' => e = .returned (.bool (zs.all (fitZ 4))) ∧ ∃ acc', Hid (acc'.length ≤ 1048577 ∧ Wr B b acc' w' ∧ Wk b X w' ∧ (zs.all (fitZ 4) = true → acc' = addsB acc (zs.flatMap (beZ 4)))) := by
  refine (put_u32 (h.keep hb) hl _ zs (zs_laid hg hn (Nat.le_refl _) (by unfold maxLen; omega) he) (Off.one h hb h1 (heap_lt hg)) hw (by omega)).mono ?_
  rintro e w' ⟨h1, h2⟩
  exact ⟨h1, h2⟩
set_option maxHeartbeats 2000000 in
set_option maxRecDepth 100000 in
theorem wpick_any {B b : Nat} {acc : List UInt8} {w : World} (h : Wr B b acc w) (hl : acc.length ≤ 1048577) (p : Pk) (u : Value) {F : Nat → Prop} (hz : IsZs w F u p.kids) (ho : Off b F w) (ha : wfz p.at_) (hc : wfz p.conj) (hk : ∀ z ∈ p.kids, wfz z) (hn : p.kids.length ≤ 1152921504606846976) :
    Calls Try.prog 49 #[.pointer (some ⟨b, 0, none⟩), .agg #[.int .i64 p.at_, .int .i64 p.conj, u]] w fun e w' => e = .returned (.bool (pkOk p)) ∧ ∃ acc', Hid (acc'.length ≤ 1048577 ∧ Wr B b acc' w' ∧ Wk b w w' ∧ (pkOk p = true → acc' = addsB acc (pkB p))) := by
  obtain ⟨pu, cu, rfl⟩ := hz.slc
  obtain ⟨pat, pcj, ks⟩ := p
  simp only at *
  have H : Hid (Wr B b acc w) := h
  have HZ : Hid (IsZs w F (.slice pu ks.length cu) ks) := hz
  have HO : Hid (Off b F w) := ho
  have HA : Hid (wfz pat ∧ wfz pcj ∧ ∀ z ∈ ks, wfz z) := ⟨ha, hc, hk⟩
  have HN : Hid (ks.length ≤ 1152921504606846976) := hn
  clear h hz ho ha hc hk hn
  have hB := H.out.lt
  obtain ⟨gb, hgb⟩ : ∃ gb, gb = w.heap.size := ⟨_, rfl⟩
  obtain ⟨o1, ho1⟩ : ∃ o, o = Obj.cells #[.int .i64 pat, .int .i64 pcj, .slice pu ks.length cu] 49 := ⟨_, rfl⟩
  have HX : Hid (Below w.heap.size w ((w.alloc o1).alloc (.cells #[.int .i64 pat] 3))) := (bel1 _ _).alloc (by simp) _
  have HG : Hid (((w.alloc o1).alloc (.cells #[.int .i64 pat] 3)).heap[w.heap.size + 1]? = some (.cells #[.int .i64 pat] 3)) := by
    have := heap_alloc_new (w.alloc o1) (.cells #[.int .i64 pat] 3)
    rw [show (w.alloc o1).heap.size = w.heap.size + 1 by simp] at this
    exact this
  have HOX : Hid (Off b (fun i => i = w.heap.size) ((w.alloc o1).alloc (.cells #[.int .i64 pat] 3))) := Off.one H.out HX.out (Nat.le_refl _) (by simp; omega)
  have HC : Hid (∀ w', Wk b ((w.alloc o1).alloc (.cells #[.int .i64 pat] 3)) w' → w'.cell? ⟨w.heap.size, 1, none⟩ = some (.int .i64 pcj) ∧ w'.cell? ⟨w.heap.size, 2, none⟩ = some (.slice pu ks.length cu)) := fun w' k => by
    refine ⟨k.cel HOX.out ?_, k.cel HOX.out ?_⟩ <;> (subst ho1; simp)
  have hwk : Wk b w ((w.alloc o1).alloc (.cells #[.int .i64 pat] 3)) := Wk.below HX.out hB
  have HWK : Hid (Wk b w ((w.alloc o1).alloc (.cells #[.int .i64 pat] 3))) := hwk
  have hmm : ∀ z ∈ [pcj, (ks.length : Int)], wfz z := by
    simp only [List.mem_cons, List.not_mem_nil, or_false]
    rintro z (rfl | rfl)
    · exact HA.out.2.1
    · exact wfz_nat (by have := HN.out; omega)
  have K1 : Hid (Calls Try.prog 48 #[.pointer (some ⟨b, 0, none⟩), .slice (some ⟨w.heap.size + 1, 0, none⟩) 1 1] ((w.alloc o1).alloc (.cells #[.int .i64 pat] 3)) fun e w' => e = .returned (.bool ([pat].all (fitZ 2))) ∧ ∃ acc', Hid (acc'.length ≤ 1048577 ∧ Wr B b acc' w' ∧ Wk b ((w.alloc o1).alloc (.cells #[.int .i64 pat] 3)) w' ∧ ([pat].all (fitZ 2) = true → acc' = addsB acc ([pat].flatMap (beZ 2))))) :=
    put_u16_at H.out hl HX.out [pat] HG.out (by omega) rfl rfl (by omega) (by simp only [List.mem_cons, List.not_mem_nil, or_false]; rintro z rfl; exact HA.out.1)
  have KP : Hid (∀ w2 acc2, acc2.length ≤ 1048577 → Wr B b acc2 w2 → Calls Try.prog 46 #[.pointer (some ⟨b, 0, none⟩), .slice (some ⟨w2.heap.size, 0, none⟩) 2 2] (w2.alloc (.cells #[.int .i64 pcj, .int .i64 ks.length] 3)) fun e w' => e = .returned (.bool ([pcj, (ks.length : Int)].all (fitZ 1))) ∧ ∃ acc', Hid (acc'.length ≤ 1048577 ∧ Wr B b acc' w' ∧ Wk b w2 w' ∧ ([pcj, (ks.length : Int)].all (fitZ 1) = true → acc' = addsB acc2 ([pcj, (ks.length : Int)].flatMap (beZ 1))))) := fun w2 acc2 h1 h2 => by
    refine (put_u8_at (n := 2) h2 h1 (bel1 _ _) [pcj, (ks.length : Int)] (heap_alloc_new _ _) (Nat.le_refl _) rfl rfl (by omega) hmm).mono ?_
    rintro e w' ⟨e1, acc', h3⟩
    exact ⟨e1, acc', h3.out.1, h3.out.2.1, (Wk.below (bel1 _ _) h2.lt).trans h3.out.2.2.1, h3.out.2.2.2⟩
  have K3 : Hid (∀ w2 acc2, acc2.length ≤ 1048577 → Wr B b acc2 w2 → Wk b w w2 → Calls Try.prog 34 #[.pointer (some ⟨b, 0, none⟩), .slice pu ks.length cu] w2 fun e w' => e = .returned (.bool (ks.all (fitZ 4))) ∧ ∃ acc', Hid (acc'.length ≤ 1048577 ∧ Wr B b acc' w' ∧ Wk b w2 w' ∧ (ks.all (fitZ 4) = true → acc' = addsB acc2 (ks.flatMap (beZ 4))))) := fun w2 acc2 h1 h2 h3 =>
    (put_u32 h2 h1 _ ks (Reads.keep HZ.out (HO.out.stay h3) (fun _ h => h)) (HO.out.next h3) HA.out.2.2 HN.out)
  subst ho1
  go_enter Try.func49, Try.ntmps49
  by_cases f1 : fitZ 2 pat = true
  · have f1' : [pat].all (fitZ 2) = true := by simp [f1]
    by_cases f2 : [pcj, (ks.length : Int)].all (fitZ 1) = true
    · have hp : pkOk ⟨pat, pcj, ks⟩ = ks.all (fitZ 4) := by
        simp only [List.all_cons, List.all_nil, Bool.and_true, Bool.and_eq_true] at f2
        unfold pkOk; simp only [f1, f2.1, f2.2, Bool.true_and]
      rw [hp]
      have HP : Hid (pkOk ⟨pat, pcj, ks⟩ = ks.all (fitZ 4)) := hp
      clear hp
      go_wp2_with (first
        | (go_at_call 48; refine (K1.out).mono ?_; rintro e w2 ⟨rfl, acc2, h2⟩; rw [f1']; obtain ⟨c1, c2⟩ := HC.out w2 h2.out.2.2.1)
        | (go_at_call 46; refine (KP.out w2 acc2 h2.out.1 h2.out.2.1).mono ?_; rintro e w3 ⟨rfl, acc3, h3⟩; rw [f2]; obtain ⟨d1, d2⟩ := HC.out w3 (h2.out.2.2.1.trans h3.out.2.2.1))
        | (go_at_call 34; refine (K3.out w3 acc3 h3.out.1 h3.out.2.1 (HWK.out.trans (h2.out.2.2.1.trans h3.out.2.2.1))).mono ?_; rintro e w4 ⟨rfl, acc4, h4⟩; obtain ⟨b4, hb4⟩ : ∃ b4, ks.all (fitZ 4) = b4 := ⟨_, rfl⟩; rw [hb4]))
      go_ret
      refine ⟨by rw [hb4]; rfl, acc4, h4.out.1, h4.out.2.1, HWK.out.trans (h2.out.2.2.1.trans (h3.out.2.2.1.trans h4.out.2.2.1)), fun h => ?_⟩
      rw [h4.out.2.2.2 h, h3.out.2.2.2 f2, h2.out.2.2.2 f1', ← addsB_app, ← addsB_app]
      unfold pkB
      simp
    · have f2' : [pcj, (ks.length : Int)].all (fitZ 1) = false := Bool.eq_false_iff.2 f2
      have hp : pkOk ⟨pat, pcj, ks⟩ = false := by
        rw [Bool.eq_false_iff]
        intro h
        unfold pkOk at h
        simp only [Bool.and_eq_true] at h
        exact f2 (by simp [h.1.1.2, h.1.2])
      rw [hp]
      go_wp2_with (first
        | (go_at_call 48; refine (K1.out).mono ?_; rintro e w2 ⟨rfl, acc2, h2⟩; rw [f1']; obtain ⟨c1, c2⟩ := HC.out w2 h2.out.2.2.1)
        | (go_at_call 46; refine (KP.out w2 acc2 h2.out.1 h2.out.2.1).mono ?_; rintro e w3 ⟨rfl, acc3, h3⟩; rw [f2']))
      go_ret
      exact ⟨rfl, acc3, h3.out.1, h3.out.2.1, HWK.out.trans (h2.out.2.2.1.trans h3.out.2.2.1), fun h => by cases h⟩
  · have f1' : [pat].all (fitZ 2) = false := by simp [f1]
    have hp : pkOk ⟨pat, pcj, ks⟩ = false := by unfold pkOk; simp [f1]
    rw [hp]
    go_wp2_with (go_at_call 48; refine (K1.out).mono ?_; rintro e w2 ⟨rfl, acc2, h2⟩; rw [f1'])
    go_ret
    exact ⟨rfl, acc2, h2.out.1, h2.out.2.1, HWK.out.trans h2.out.2.2.1, fun h => by cases h⟩
end Go.Proofs.Ytgeajdfajfdjcaa
