import Derived.Test.YteanhhehjlhhbaaShowParts
import Derived.Test.YteanhhehjlhhbaaShowRow
import Derived.Test.YteanhhehjlhhbaaShowBackT
/- What a writer writes: a conjunct. -/
namespace Go.Proofs.Yteanhhehjlhhbaa
set_option linter.unusedVariables false
open Go.ChangeShapes Go.WideShapes Go.ChangeAt Go.RowKit

/-- What the closure over parts sees. -/
structure IvP (b x y : Nat) (F : Nat → Prop) (ps : List Part) (us : List Value) (v : Value) (w : World) : Prop where
  off : Off b (fun i => F i ∨ i = x ∨ i = y) w
  bx : w.heap[x]? = some (.cells #[.pointer (some ⟨b, 0, none⟩)] 63)
  bys : w.heap[y]? = some (.cells #[v] 90)
  rd : Reads w F v ps.length us
  pi : ∀ (k : Nat) (p : Part) (u : Value), ps[k]? = some p → us[k]? = some u → PartIn w F p u
  ln : us.length = ps.length
theorem IvP.next {b x y : Nat} {F : Nat → Prop} {ps : List Part} {us : List Value} {v : Value} {w w' : World} (h : IvP b x y F ps us v w) (k : Wk b w w') : IvP b x y F ps us v w' := by
  have hs := h.off.stay k
  have hF : Stay F w w' := ⟨hs.size, fun i hi => hs.blk i (Or.inl hi)⟩
  exact ⟨h.off.next k, (hs.blk x (Or.inr (Or.inl rfl))).trans h.bx, (hs.blk y (Or.inr (Or.inr rfl))).trans h.bys, h.rd.keep hF (fun _ h => h), fun i p u e1 e2 => (h.pi i p u e1 e2).keep hF (fun _ h => h), h.ln⟩
theorem wk_drew (b : Nat) (w : World) : Wk b w w.drew := (Wk.refl b w).drew
set_option maxHeartbeats 2000000 in
set_option maxRecDepth 100000 in
theorem partC_any {B b x y : Nat} {nv : Value} {F : Nat → Prop} {ps : List Part} {us : List Value} {v : Value} {w : World} {acc : List UInt8} (h : Wr B b nv acc w) (hi : IvP b x y F ps us v w) (hr : ∀ p, p ∈ ps → roomP p ≤ 1000000) (ha : acc.length ≤ 1000000000) (hps : ps.length ≤ 1048576) (i : Nat) (hlt : i < ps.length) :
    Calls Try.prog 46 #[.int .i64 (i : Int), .pointer (some ⟨x, 0, none⟩), .pointer (some ⟨y, 0, none⟩)] w fun e w' => e = .returned (.tuple #[]) ∧ Wr B b nv (acc ++ partAt ps i) w' ∧ Wk b w w' := by
  obtain ⟨p, hp⟩ : ∃ p, ps[i]? = some p := ⟨_, List.getElem?_eq_getElem hlt⟩
  obtain ⟨u, hu⟩ : ∃ u, us[i]? = some u := ⟨_, List.getElem?_eq_getElem (by rw [hi.ln]; exact hlt)⟩
  have E : partAt ps i = partT p := by unfold partAt; rw [List.getD, hp]; rfl
  rw [E]
  have hd := hi.next (wk_drew b w)
  have PA : Calls Try.prog 47 #[.pointer (some ⟨b, 0, none⟩), u] w.drew fun e w' => e = .returned (.tuple #[]) ∧ Hid (Wr B b nv (acc ++ partT p) w' ∧ Wk b w w') := by
    refine (part_any h.drew p u (hd.pi i p u hp hu) (hd.off.mono (fun _ h => Or.inl h)) (by have := hr p (List.mem_of_getElem? hp); omega)).mono ?_
    rintro e w' ⟨rfl, k, bb⟩
    exact ⟨rfl, k, (wk_drew b w).trans bb⟩
  obtain ⟨q, c, hv, hm, hc⟩ := hi.rd
  subst hv
  obtain ⟨g, o, hq, -, hg, ca, -⟩ := hc (by omega)
  subst hq
  have c0 : w.cell? ⟨x, 0, none⟩ = some (.pointer (some ⟨b, 0, none⟩)) := by rw [Lib.cell_of_heap hi.bx]; rfl
  have c1 : w.cell? ⟨y, 0, none⟩ = some (.slice (some ⟨g, o, none⟩) ps.length c) := by rw [Lib.cell_of_heap hi.bys]; rfl
  have c2 := ca i u hu
  have z0 : (0 : Int) ≤ (i : Int) := by omega
  have z1 : (i : Int) < (ps.length : Int) := by omega
  clear ca hc hd hi E hr hu hp h
  go_enter Try.func46, Try.ntmps46
  go_wp2
  go_region_with (go_at_call 47; refine PA.mono ?_; rintro e w2 ⟨rfl, K2⟩)
  all_goals
    go_wp2
    go_end0
    exact ⟨rfl, K2.out.1, K2.out.2⟩
/-- While a conjunct is written. -/
structure StC (B b : Nat) (nv : Value) (names : List ByteArray) (F : Nat → Prop) (w : World) (x : Nat) (v : Value) (l : List Sy) (a : List UInt8) (w3 : World) : Prop where
  wr : Wr B b nv a w3
  wk : Wk b w w3
  off : Off b (fun i => F i ∨ i = x) w3
  bx : w3.heap[x]? = some (.cells #[.pointer (some ⟨b, 0, none⟩)] 63)
  sy : IsSys w3 F v l
  nm : IsTexts w3 F nv names
theorem StC.next {B b : Nat} {nv : Value} {names : List ByteArray} {F : Nat → Prop} {w : World} {x : Nat} {v : Value} {l : List Sy} {a a' : List UInt8} {w3 w4 : World} (h : StC B b nv names F w x v l a w3) (hw : Wr B b nv a' w4) (k : Wk b w3 w4) : StC B b nv names F w x v l a' w4 := by
  have hs := h.off.stay k
  have hF : Stay F w3 w4 := ⟨hs.size, fun i hi => hs.blk i (Or.inl hi)⟩
  exact ⟨hw, h.wk.trans k, h.off.next k, (hs.blk x (Or.inr rfl)).trans h.bx, h.sy.keep hF (fun _ h => h), h.nm.keep hF (fun _ h => h)⟩
theorem room_parts {names : List ByteArray} {l : List Sy} (hn : ∀ s, s ∈ names → s.size ≤ 1000) (hm : mayRow names.length l = true) : ∀ p, p ∈ partsT names l → roomP p ≤ 1000000 := by
  intro p hp
  have hg := good_parts hm p hp
  simp only [mayRow, Bool.and_eq_true, decide_eq_true_eq, List.all_eq_true] at hm
  match p, hp, hg with
  | .inl x, hp, _ =>
    have : x.length ≤ 64 := by
      unfold partsT at hp
      split at hp
      · have : x = [] := by simpa using hp
        rw [this]; simp
      · have h2 := (fold_size names l l.length (Nat.le_refl _)).2 x (by rw [List.take_length]; exact hp)
        omega
    show x.length * 4 + 16 ≤ _
    omega
  | .inr (.inl _), _, _ => exact (by decide : (64 : Nat) ≤ 1000000)
  | .inr (.inr s), _, hg =>
    have := hn s (hg.1 s rfl)
    show s.size ≤ _
    omega
theorem parts_count {names : List ByteArray} {l : List Sy} (hm : mayRow names.length l = true) : (partsT names l).length ≤ 64 := by
  simp only [mayRow, Bool.and_eq_true, decide_eq_true_eq, List.all_eq_true] at hm
  unfold partsT
  split
  · simp
  · have h2 := (fold_size names l l.length (Nat.le_refl _)).1
    rw [List.take_length] at h2
    omega
theorem partsC {B b : Nat} {nv : Value} {names : List ByteArray} {F : Nat → Prop} {w : World} {x : Nat} {v : Value} {l : List Sy} {a : List UInt8} {w3 : World} (h : StC B b nv names F w x v l a w3) (hm : mayRow names.length l = true) (hn : ∀ s, s ∈ names → s.size ≤ 1000)
    (hL : a.length + (joinN [32] (partAt (partsT names l)) (partsT names l).length).length ≤ 1000000000) :
    Calls Try.prog 45 #[.pointer (some ⟨b, 0, none⟩), v] w3 fun e w4 => ∃ (p' : Option Addr) (n c' : Nat), n ≤ 64 ∧ e = .returned (.slice p' n c') ∧ w4.cell? ⟨x, 0, none⟩ = some (.pointer (some ⟨b, 0, none⟩)) ∧ x < w4.heap.size ∧
      Hid (Calls Try.prog 24 #[.pointer (some ⟨b, 0, none⟩), .int .i64 (n : Int), .string ⟨#[32]⟩, .func (.func 46) #[] #[.pointer (some ⟨x, 0, none⟩), .pointer (some ⟨w4.heap.size, 0, none⟩)]] (w4.alloc (.cells #[.slice p' n c'] 90)) fun e w' => e = .returned (.tuple #[]) ∧ Wr B b nv (a ++ joinN [32] (partAt (partsT names l)) (partsT names l).length) w' ∧ Wk b w w') := by
  refine (parts_any h.wr v l h.sy h.nm hm).mono ?_
  rintro e w4 ⟨p', c', rfl, HE⟩
  obtain ⟨Fp, us, hF, hrd, hpi, hln, hbl⟩ := HE.out
  have k4 : Wk b w3 w4 := Wk.below hbl h.wr.lt
  have h4 := h.next (h.wr.keep hbl) k4
  have hcnt := parts_count hm
  refine ⟨p', _, c', hcnt, rfl, by rw [Lib.cell_of_heap h4.bx]; rfl, heap_lt h4.bx, ?_⟩
  have B5 := bel1 w4 (.cells #[.slice p' (partsT names l).length c'] 90)
  have k5 : Wk b w4 (w4.alloc (.cells #[.slice p' (partsT names l).length c'] 90)) := Wk.below B5 h4.wr.lt
  have h5 := h4.next (h4.wr.keep B5) k5
  have oF : Off b Fp w4 := Off.fresh h.wr hbl hF
  have sF : Stay Fp w4 (w4.alloc (.cells #[.slice p' (partsT names l).length c'] 90)) := oF.stay k5
  have I5 : IvP b x w4.heap.size Fp (partsT names l) us (.slice p' (partsT names l).length c') (w4.alloc (.cells #[.slice p' (partsT names l).length c'] 90)) := by
    refine ⟨fun i hi => ?_, h5.bx, heap_alloc_new _ _, hrd.keep sF (fun _ h => h), fun k p u e1 e2 => (hpi k p u e1 e2).keep sF (fun _ h => h), hln⟩
    rcases hi with hi | hi | hi
    · exact oF.next k5 i hi
    · exact h5.off i (Or.inr hi)
    · exact Off.fresh (F := fun i => i = w4.heap.size) h4.wr B5 (fun i hi => ⟨by omega, by simp; omega⟩) i hi
  have R := rowParts (B := B) (b := b) (nv := nv) (partAt (partsT names l)) ⟨#[32]⟩ (partsT names l).length x w4.heap.size (IvP b x w4.heap.size Fp (partsT names l) us (.slice p' (partsT names l).length c')) 1000000000
    (fun i w' acc hi hI hW ha => partC_any hW hI (room_parts hn hm) (by omega) (by omega) i hi) (fun w' w'' hI hk => hI.next hk) h5.wr I5 hL (Nat.le_refl _) (by omega)
  refine R.mono ?_
  rintro e w' ⟨rfl, r1, r2⟩
  exact ⟨rfl, r1, h5.wk.trans r2⟩
set_option maxHeartbeats 4000000 in
set_option maxRecDepth 100000 in
theorem conj_any {B b : Nat} {nv : Value} {names : List ByteArray} {F : Nat → Prop} {w : World} {acc : List UInt8} (h : Wr B b nv acc w) (c : Cn) (v : Value) (hv : IsSys w F v c.seq) (hnm : IsTexts w F nv names) (ho : Off b F w) (hm : mayRow names.length c.seq = true) (hn : ∀ s, s ∈ names → s.size ≤ 1000)
    (hL : acc.length + (conjT names c).length ≤ 1000000000) :
    Calls Try.prog 37 #[.pointer (some ⟨b, 0, none⟩), .agg #[.bool c.neg, v]] w fun e w' => e = .returned (.tuple #[]) ∧ Wr B b nv (acc ++ conjT names c) w' ∧ Wk b w w' := by
  obtain ⟨ng, l⟩ := c
  simp only at hv hm
  have hlt := h.lt
  obtain ⟨pv, cv, hpv⟩ : ∃ pv cv, v = .slice pv l.length cv := by
    obtain ⟨pv, cv, e, _⟩ := hv
    exact ⟨pv, cv, e⟩
  have HS : Hid (∀ o2, StC B b nv names F w w.heap.size v l acc ((w.alloc (.cells #[.pointer (some ⟨b, 0, none⟩)] 63)).alloc o2)) := fun o2 => by
    have B2 := belA w (.cells #[.pointer (some ⟨b, 0, none⟩)] 63) o2
    have k2 : Wk b w _ := Wk.below B2 hlt
    have s2 : Stay F w _ := ho.stay k2
    refine ⟨h.keep B2, k2, fun i hi => ?_, ?_, hv.keep s2 (fun _ h => h), hnm.keep s2 (fun _ h => h)⟩
    · rcases hi with hi | hi
      · exact ho.next k2 i hi
      · exact Off.fresh (F := fun i => i = w.heap.size) h B2 (fun i hi => ⟨by omega, by simp; omega⟩) i hi
    · exact ((bel1 _ _).block _ (by simp)).trans (heap_alloc_new _ _)
  subst hpv
  have HM : Hid (mayRow names.length l = true ∧ ∀ s, s ∈ names → s.size ≤ 1000) := ⟨hm, hn⟩
  have x0 : w.heap.size < w.heap.size + 1 + 1 := by omega
  cases ng with
  | true =>
    have E : conjT names ⟨true, l⟩ = [126] ++ joinN [32] (partAt (partsT names l)) (partsT names l).length := rfl
    rw [E] at hL ⊢
    have HL : Hid ((acc ++ [126]).length + (joinN [32] (partAt (partsT names l)) (partsT names l).length).length ≤ 1000000000) := by show _ ≤ _; simp only [List.length_append, List.length_cons, List.length_nil] at hL ⊢; omega
    have L1 : Hid (acc.length + 1 ≤ 1099511627776) := by show _ ≤ _; simp only [List.length_append, List.length_cons, List.length_nil] at hL; omega
    have WB : Calls Try.prog 44 #[.pointer (some ⟨b, 0, none⟩), .int .u8 126] ((w.alloc (.cells #[.pointer (some ⟨b, 0, none⟩)] 63)).alloc (.cells #[.bool true, .slice pv l.length cv] 41)) fun e w3 => e = .returned .nilIface ∧ Hid (StC B b nv names F w w.heap.size (.slice pv l.length cv) l (acc ++ [126]) w3) ∧ w3.cell? ⟨w.heap.size, 0, none⟩ = some (.pointer (some ⟨b, 0, none⟩)) ∧ w3.cell? ⟨w.heap.size + 1, 1, none⟩ = some (.slice pv l.length cv) ∧ w.heap.size + 1 < w3.heap.size := by
      have S2 := HS.out (.cells #[.bool true, .slice pv l.length cv] 41)
      refine (wByte_any S2.wr 126 126 rfl L1.out).mono ?_
      rintro e w3 ⟨rfl, k, bb⟩
      have S3 := S2.next k bb
      have hz1 : (w.alloc (.cells #[.pointer (some ⟨b, 0, none⟩)] 63)).heap.size = w.heap.size + 1 := by simp
      have B1 := bel1 w (.cells #[.pointer (some ⟨b, 0, none⟩)] 63)
      have oc : Off b (fun i => i = w.heap.size + 1) ((w.alloc (.cells #[.pointer (some ⟨b, 0, none⟩)] 63)).alloc (.cells #[.bool true, .slice pv l.length cv] 41)) := Off.fresh (h.keep B1) (bel1 _ _) (fun i hi => ⟨by rw [hz1]; omega, by simp; omega⟩)
      have hc := heap_alloc_new (w.alloc (.cells #[.pointer (some ⟨b, 0, none⟩)] 63)) (.cells #[.bool true, .slice pv l.length cv] 41)
      rw [hz1] at hc
      have hc3 := ((oc.stay bb).blk _ rfl).trans hc
      exact ⟨rfl, S3, by rw [Lib.cell_of_heap S3.bx]; rfl, by rw [Lib.cell_of_heap hc3]; rfl, heap_lt hc3⟩
    clear hL HS hv hnm ho hm hn h
    go_enter Try.func37, Try.ntmps37
    go_wp2_with (first
      | (go_at_call 44; refine WB.mono ?_; rintro e w3 ⟨rfl, S3, y0, y1, y2⟩)
      | (go_at_call 45; refine (partsC S3.out HM.out.1 HM.out.2 HL.out).mono ?_; rintro e w4 ⟨p', n, c', hn64, rfl, z0, z1, R4⟩)
      | (go_at_call 24; refine R4.out.mono ?_; rintro e w6 ⟨rfl, r1, r2⟩))
    go_end0
    exact ⟨rfl, by simpa using r1, r2⟩
  | false =>
    have E : conjT names ⟨false, l⟩ = joinN [32] (partAt (partsT names l)) (partsT names l).length := rfl
    rw [E] at hL ⊢
    have HL : Hid (acc.length + (joinN [32] (partAt (partsT names l)) (partsT names l).length).length ≤ 1000000000) := hL
    clear hL hv hnm ho hm hn h
    go_enter Try.func37, Try.ntmps37
    go_wp2_with (first
      | (go_at_call 45; refine (partsC (HS.out _) HM.out.1 HM.out.2 HL.out).mono ?_; rintro e w4 ⟨p', n, c', hn64, rfl, z0, z1, R4⟩)
      | (go_at_call 24; refine R4.out.mono ?_; rintro e w6 ⟨rfl, r1, r2⟩))
    go_end0
    exact ⟨rfl, r1, r2⟩
end Go.Proofs.Yteanhhehjlhhbaa
/- What a writer writes: conjuncts, rules. -/
namespace Go.Proofs.Yteanhhehjlhhbaa
set_option linter.unusedVariables false
open Go.ChangeShapes Go.WideShapes Go.ChangeAt Go.RowKit

/-- What the closure sees. -/
structure IvC (b x y : Nat) (F : Nat → Prop) (nv : Value) (names : List ByteArray) (l : List Cn) (v : Value) (w : World) : Prop where
  off : Off b (fun i => F i ∨ i = x ∨ i = y) w
  bx : w.heap[x]? = some (.cells #[.pointer (some ⟨b, 0, none⟩)] 63)
  bys : w.heap[y]? = some (.cells #[v] 36)
  rd : IsCns w F v l
  nm : IsTexts w F nv names
theorem IvC.next {b x y : Nat} {F : Nat → Prop} {nv : Value} {names : List ByteArray} {l : List Cn} {v : Value} {w w' : World} (h : IvC b x y F nv names l v w) (k : Wk b w w') : IvC b x y F nv names l v w' := by
  have hs := h.off.stay k
  have hF : Stay F w w' := ⟨hs.size, fun i hi => hs.blk i (Or.inl hi)⟩
  exact ⟨h.off.next k, (hs.blk x (Or.inr (Or.inl rfl))).trans h.bx, (hs.blk y (Or.inr (Or.inr rfl))).trans h.bys, h.rd.keep hF (fun _ h => h), h.nm.keep hF (fun _ h => h)⟩
theorem IvC.new {B b : Nat} {nv : Value} {names : List ByteArray} {F : Nat → Prop} {w : World} {acc : List UInt8} (h : Wr B b nv acc w) (l : List Cn) (v : Value) (hv : IsCns w F v l) (hnm : IsTexts w F nv names) (ho : Off b F w) :
    IvC b w.heap.size (w.heap.size + 1) F nv names l v ((w.alloc (.cells #[.pointer (some ⟨b, 0, none⟩)] 63)).alloc (.cells #[v] 36)) ∧ Wr B b nv acc ((w.alloc (.cells #[.pointer (some ⟨b, 0, none⟩)] 63)).alloc (.cells #[v] 36)) ∧ Wk b w ((w.alloc (.cells #[.pointer (some ⟨b, 0, none⟩)] 63)).alloc (.cells #[v] 36)) := by
  have B2 := belA w (.cells #[.pointer (some ⟨b, 0, none⟩)] 63) (.cells #[v] 36)
  have k2 : Wk b w _ := Wk.below B2 h.lt
  have s2 : Stay F w _ := ho.stay k2
  have hz1 : (w.alloc (.cells #[.pointer (some ⟨b, 0, none⟩)] 63)).heap.size = w.heap.size + 1 := by simp
  have hc := heap_alloc_new (w.alloc (.cells #[.pointer (some ⟨b, 0, none⟩)] 63)) (.cells #[v] 36)
  rw [hz1] at hc
  refine ⟨⟨fun i hi => ?_, ((bel1 _ _).block _ (by simp)).trans (heap_alloc_new _ _), hc, hv.keep s2 (fun _ h => h), hnm.keep s2 (fun _ h => h)⟩, h.keep B2, k2⟩
  rcases hi with hi | hi | hi
  · exact ho.next k2 i hi
  · exact Off.fresh (F := fun i => i = w.heap.size) h B2 (fun i hi => ⟨by omega, by simp; omega⟩) i hi
  · exact Off.fresh (F := fun i => i = w.heap.size + 1) h B2 (fun i hi => ⟨by omega, by simp; omega⟩) i hi
/-- What the closure sees. -/
structure IvR (b x y : Nat) (F : Nat → Prop) (nv : Value) (names : List ByteArray) (l : List Ru) (v : Value) (w : World) : Prop where
  off : Off b (fun i => F i ∨ i = x ∨ i = y) w
  bx : w.heap[x]? = some (.cells #[.pointer (some ⟨b, 0, none⟩)] 63)
  bys : w.heap[y]? = some (.cells #[v] 23)
  rd : IsRus w F v l
  nm : IsTexts w F nv names
theorem IvR.next {b x y : Nat} {F : Nat → Prop} {nv : Value} {names : List ByteArray} {l : List Ru} {v : Value} {w w' : World} (h : IvR b x y F nv names l v w) (k : Wk b w w') : IvR b x y F nv names l v w' := by
  have hs := h.off.stay k
  have hF : Stay F w w' := ⟨hs.size, fun i hi => hs.blk i (Or.inl hi)⟩
  exact ⟨h.off.next k, (hs.blk x (Or.inr (Or.inl rfl))).trans h.bx, (hs.blk y (Or.inr (Or.inr rfl))).trans h.bys, h.rd.keep hF (fun _ h => h), h.nm.keep hF (fun _ h => h)⟩
theorem IvR.new {B b : Nat} {nv : Value} {names : List ByteArray} {F : Nat → Prop} {w : World} {acc : List UInt8} (h : Wr B b nv acc w) (l : List Ru) (v : Value) (hv : IsRus w F v l) (hnm : IsTexts w F nv names) (ho : Off b F w) :
    IvR b w.heap.size (w.heap.size + 1) F nv names l v ((w.alloc (.cells #[.pointer (some ⟨b, 0, none⟩)] 63)).alloc (.cells #[v] 23)) ∧ Wr B b nv acc ((w.alloc (.cells #[.pointer (some ⟨b, 0, none⟩)] 63)).alloc (.cells #[v] 23)) ∧ Wk b w ((w.alloc (.cells #[.pointer (some ⟨b, 0, none⟩)] 63)).alloc (.cells #[v] 23)) := by
  have B2 := belA w (.cells #[.pointer (some ⟨b, 0, none⟩)] 63) (.cells #[v] 23)
  have k2 : Wk b w _ := Wk.below B2 h.lt
  have s2 : Stay F w _ := ho.stay k2
  have hz1 : (w.alloc (.cells #[.pointer (some ⟨b, 0, none⟩)] 63)).heap.size = w.heap.size + 1 := by simp
  have hc := heap_alloc_new (w.alloc (.cells #[.pointer (some ⟨b, 0, none⟩)] 63)) (.cells #[v] 23)
  rw [hz1] at hc
  refine ⟨⟨fun i hi => ?_, ((bel1 _ _).block _ (by simp)).trans (heap_alloc_new _ _), hc, hv.keep s2 (fun _ h => h), hnm.keep s2 (fun _ h => h)⟩, h.keep B2, k2⟩
  rcases hi with hi | hi | hi
  · exact ho.next k2 i hi
  · exact Off.fresh (F := fun i => i = w.heap.size) h B2 (fun i hi => ⟨by omega, by simp; omega⟩) i hi
  · exact Off.fresh (F := fun i => i = w.heap.size + 1) h B2 (fun i hi => ⟨by omega, by simp; omega⟩) i hi
set_option maxHeartbeats 2000000 in
set_option maxRecDepth 100000 in
theorem conjC_any {B b x y : Nat} {nv : Value} {F : Nat → Prop} {names : List ByteArray} {cs : List Cn} {v : Value} {w : World} {acc : List UInt8} (h : Wr B b nv acc w) (hi : IvC b x y F nv names cs v w) (hm : ∀ c, c ∈ cs → mayRow names.length c.seq = true) (hn : ∀ s, s ∈ names → s.size ≤ 1000) (i : Nat) (hlt : i < cs.length) (ha : acc.length + (conjAt names cs i).length ≤ 1000000000) (hps : cs.length ≤ 1048576) :
    Calls Try.prog 36 #[.int .i64 (i : Int), .pointer (some ⟨x, 0, none⟩), .pointer (some ⟨y, 0, none⟩)] w fun e w' => e = .returned (.tuple #[]) ∧ Wr B b nv (acc ++ conjAt names cs i) w' ∧ Wk b w w' := by
  have hd := hi.next (wk_drew b w)
  obtain ⟨vs, ⟨q, cq, hv, hmx, hc⟩, hla, hia⟩ := hi.rd
  obtain ⟨vs', _, hla', hia'⟩ := hd.rd
  subst hv
  obtain ⟨c, hc'⟩ : ∃ c, cs[i]? = some c := ⟨_, List.getElem?_eq_getElem hlt⟩
  obtain ⟨u, hu⟩ : ∃ u, vs[i]? = some u := ⟨_, List.getElem?_eq_getElem (by rw [hla]; exact hlt)⟩
  obtain ⟨g, o, hq, -, hg, ca, -⟩ := hc (by omega)
  subst hq
  have E : conjAt names cs i = conjT names c := by unfold conjAt; rw [List.getD, hc']; rfl
  rw [E] at ha ⊢
  have sd : Stay F w w.drew := ⟨Nat.le_refl _, fun _ _ => rfl⟩
  have PA : Calls Try.prog 37 #[.pointer (some ⟨b, 0, none⟩), .agg #[.bool c.neg, u]] w.drew fun e w' => e = .returned (.tuple #[]) ∧ Hid (Wr B b nv (acc ++ conjT names c) w' ∧ Wk b w w') := by
    refine (conj_any h.drew c u ((hia i c u hc' hu).keep sd (fun _ h => h)) hd.nm (hd.off.mono (fun _ h => Or.inl h)) (hm c (List.mem_of_getElem? hc')) hn ha).mono ?_
    rintro e w' ⟨rfl, k, bb⟩
    exact ⟨rfl, k, (wk_drew b w).trans bb⟩
  obtain ⟨i0, i1⟩ := cnsV_at cs vs i c u hc' hu
  have c0 : w.cell? ⟨x, 0, none⟩ = some (.pointer (some ⟨b, 0, none⟩)) := by rw [Lib.cell_of_heap hi.bx]; rfl
  have c1 : w.cell? ⟨y, 0, none⟩ = some (.slice (some ⟨g, o, none⟩) cs.length cq) := by rw [Lib.cell_of_heap hi.bys]; rfl
  have c2 := ca _ _ i0
  have c3 := reas (ca _ _ i1)
  have z0 : (0 : Int) ≤ (i : Int) := by omega
  have z1 : (i : Int) < (cs.length : Int) := by omega
  obtain ⟨u1, u2, hx⟩ : ∃ u1 u2, u = .slice u1 c.seq.length u2 := by
    obtain ⟨u1, u2, e, _⟩ := hia i c u hc' hu
    exact ⟨u1, u2, e⟩
  subst hx
  generalize c.neg = ng at *
  generalize c.seq.length = sl at *
  clear ca hc hd hi E hu h hia hia' hla hla' hm hc' i0 i1 sd
  go_enter Try.func36, Try.ntmps36
  go_wp2
  go_region_with (go_at_call 37; refine PA.mono ?_; rintro e w2 ⟨rfl, K2⟩)
  all_goals
    go_wp2
    go_end0
    exact ⟨rfl, K2.out.1, K2.out.2⟩
set_option maxHeartbeats 2000000 in
set_option maxRecDepth 100000 in
theorem conjs_any {B b : Nat} {nv : Value} {names : List ByteArray} {F : Nat → Prop} {w : World} {acc : List UInt8} (h : Wr B b nv acc w) (cs : List Cn) (v : Value) (hv : IsCns w F v cs) (hnm : IsTexts w F nv names) (ho : Off b F w) (hm : ∀ c, c ∈ cs → mayRow names.length c.seq = true) (hn : ∀ s, s ∈ names → s.size ≤ 1000)
    (hL : acc.length + (conjsT names cs).length ≤ 1000000000) (hps : cs.length ≤ 1048576) :
    Calls Try.prog 26 #[.pointer (some ⟨b, 0, none⟩), v] w fun e w' => e = .returned (.tuple #[]) ∧ Wr B b nv (acc ++ conjsT names cs) w' ∧ Wk b w w' := by
  obtain ⟨hI, hW, hK⟩ := IvC.new h cs v hv hnm ho
  have R := rowConjs (B := B) (b := b) (nv := nv) (conjAt names cs) ⟨#[32, 38, 32]⟩ cs.length w.heap.size (w.heap.size + 1) (IvC b w.heap.size (w.heap.size + 1) F nv names cs v) 1000000000
    (fun i w' acc hi hI hW ha => conjC_any hW hI hm hn i hi ha hps) (fun w' w'' hI hk => hI.next hk) hW hI hL (Nat.le_refl _) (by omega)
  have R' : Hid (Calls Try.prog 24 #[.pointer (some ⟨b, 0, none⟩), .int .i64 (cs.length : Int), .string ⟨#[32, 38, 32]⟩, .func (.func 36) #[] #[.pointer (some ⟨w.heap.size, 0, none⟩), .pointer (some ⟨w.heap.size + 1, 0, none⟩)]] ((w.alloc (.cells #[.pointer (some ⟨b, 0, none⟩)] 63)).alloc (.cells #[v] 36)) fun e w' => e = .returned (.tuple #[]) ∧ Wr B b nv (acc ++ conjsT names cs) w' ∧ Wk b w w') := R.mono fun e w' ⟨h1, h2, h3⟩ => ⟨h1, h2, hK.trans h3⟩
  obtain ⟨_, ⟨q, cq, hx, _⟩, _⟩ := id hv
  subst hx
  clear R hI hW hK hv hnm ho hm hn hL h
  go_enter Try.func26, Try.ntmps26
  go_wp2_with (go_at_call 24; refine R'.out.mono ?_; rintro e w6 ⟨rfl, r1, r2⟩)
  go_end0
  exact ⟨rfl, r1, r2⟩
set_option maxHeartbeats 2000000 in
set_option maxRecDepth 100000 in
theorem ruleC_any {B b x y : Nat} {nv : Value} {F : Nat → Prop} {names : List ByteArray} {rs : List Ru} {v : Value} {w : World} {acc : List UInt8} (h : Wr B b nv acc w) (hi : IvR b x y F nv names rs v w) (hm : ∀ r, r ∈ rs → r.conj.length ≤ 1048576 ∧ ∀ c, c ∈ r.conj → mayRow names.length c.seq = true) (hn : ∀ s, s ∈ names → s.size ≤ 1000) (i : Nat) (hlt : i < rs.length) (ha : acc.length + (ruleAt names rs i).length ≤ 1000000000) (hps : rs.length ≤ 1048576) :
    Calls Try.prog 25 #[.int .i64 (i : Int), .pointer (some ⟨x, 0, none⟩), .pointer (some ⟨y, 0, none⟩)] w fun e w' => e = .returned (.tuple #[]) ∧ Wr B b nv (acc ++ ruleAt names rs i) w' ∧ Wk b w w' := by
  have hd := hi.next (wk_drew b w)
  obtain ⟨vs, ⟨q, cq, hv, hmx, hc⟩, hla, hia⟩ := hi.rd
  subst hv
  obtain ⟨r, hr⟩ : ∃ r, rs[i]? = some r := ⟨_, List.getElem?_eq_getElem hlt⟩
  obtain ⟨u, hu⟩ : ∃ u, vs[i]? = some u := ⟨_, List.getElem?_eq_getElem (by rw [hla]; exact hlt)⟩
  obtain ⟨g, o, hq, -, hg, ca, -⟩ := hc (by omega)
  subst hq
  have E : ruleAt names rs i = conjsT names r.conj := by unfold ruleAt; rw [List.getD, hr]; rfl
  rw [E] at ha ⊢
  have sd : Stay F w w.drew := ⟨Nat.le_refl _, fun _ _ => rfl⟩
  have hmr := hm r (List.mem_of_getElem? hr)
  have PA : Calls Try.prog 26 #[.pointer (some ⟨b, 0, none⟩), u] w.drew fun e w' => e = .returned (.tuple #[]) ∧ Hid (Wr B b nv (acc ++ conjsT names r.conj) w' ∧ Wk b w w') := by
    refine (conjs_any h.drew r.conj u ((hia i r u hr hu).keep sd (fun _ h => h)) hd.nm (hd.off.mono (fun _ h => Or.inl h)) hmr.2 hn ha hmr.1).mono ?_
    rintro e w' ⟨rfl, k, bb⟩
    exact ⟨rfl, k, (wk_drew b w).trans bb⟩
  obtain ⟨i0, i1⟩ := rusV_at rs vs i r u hr hu
  have c0 : w.cell? ⟨x, 0, none⟩ = some (.pointer (some ⟨b, 0, none⟩)) := by rw [Lib.cell_of_heap hi.bx]; rfl
  have c1 : w.cell? ⟨y, 0, none⟩ = some (.slice (some ⟨g, o, none⟩) rs.length cq) := by rw [Lib.cell_of_heap hi.bys]; rfl
  have c2 := ca _ _ i0
  have c3 := reas (ca _ _ i1)
  have z0 : (0 : Int) ≤ (i : Int) := by omega
  have z1 : (i : Int) < (rs.length : Int) := by omega
  obtain ⟨u1, u2, hx⟩ : ∃ u1 u2, u = .slice u1 r.conj.length u2 := by
    obtain ⟨_, ⟨u1, u2, e, _⟩, _⟩ := hia i r u hr hu
    exact ⟨u1, u2, e⟩
  subst hx
  generalize r.head = rh at *
  generalize r.conj.length = sl at *
  clear ca hc hd hi E hu h hia hla hm hr i0 i1 sd hmr
  go_enter Try.func25, Try.ntmps25
  go_wp2
  go_region_with (go_at_call 26; refine PA.mono ?_; rintro e w2 ⟨rfl, K2⟩)
  all_goals
    go_wp2
    go_end0
    exact ⟨rfl, K2.out.1, K2.out.2⟩
set_option maxHeartbeats 2000000 in
set_option maxRecDepth 100000 in
theorem rules_any {B b : Nat} {nv : Value} {names : List ByteArray} {F : Nat → Prop} {w : World} {acc : List UInt8} (h : Wr B b nv acc w) (rs : List Ru) (v : Value) (hv : IsRus w F v rs) (hnm : IsTexts w F nv names) (ho : Off b F w) (hm : ∀ r, r ∈ rs → r.conj.length ≤ 1048576 ∧ ∀ c, c ∈ r.conj → mayRow names.length c.seq = true) (hn : ∀ s, s ∈ names → s.size ≤ 1000)
    (hL : acc.length + (altsT names rs).length ≤ 1000000000) (hps : rs.length ≤ 1048576) :
    Calls Try.prog 12 #[.pointer (some ⟨b, 0, none⟩), v] w fun e w' => e = .returned (.tuple #[]) ∧ Wr B b nv (acc ++ altsT names rs) w' ∧ Wk b w w' := by
  obtain ⟨hI, hW, hK⟩ := IvR.new h rs v hv hnm ho
  have R := rowRules (B := B) (b := b) (nv := nv) (ruleAt names rs) ⟨#[32, 124, 32]⟩ rs.length w.heap.size (w.heap.size + 1) (IvR b w.heap.size (w.heap.size + 1) F nv names rs v) 1000000000
    (fun i w' acc hi hI hW ha => ruleC_any hW hI hm hn i hi ha hps) (fun w' w'' hI hk => hI.next hk) hW hI hL (Nat.le_refl _) (by omega)
  have R' : Hid (Calls Try.prog 24 #[.pointer (some ⟨b, 0, none⟩), .int .i64 (rs.length : Int), .string ⟨#[32, 124, 32]⟩, .func (.func 25) #[] #[.pointer (some ⟨w.heap.size, 0, none⟩), .pointer (some ⟨w.heap.size + 1, 0, none⟩)]] ((w.alloc (.cells #[.pointer (some ⟨b, 0, none⟩)] 63)).alloc (.cells #[v] 23)) fun e w' => e = .returned (.tuple #[]) ∧ Wr B b nv (acc ++ altsT names rs) w' ∧ Wk b w w') := R.mono fun e w' ⟨h1, h2, h3⟩ => ⟨h1, h2, hK.trans h3⟩
  obtain ⟨_, ⟨q, cq, hx, _⟩, _⟩ := id hv
  subst hx
  clear R hI hW hK hv hnm ho hm hn hL h
  go_enter Try.func12, Try.ntmps12
  go_wp2_with (go_at_call 24; refine R'.out.mono ?_; rintro e w6 ⟨rfl, r1, r2⟩)
  go_end0
  exact ⟨rfl, r1, r2⟩
end Go.Proofs.Yteanhhehjlhhbaa
