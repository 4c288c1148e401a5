/- What a writer writes: conjuncts, rules. -/
import Derived.Test.YtkkmjgohjaedkaaShowConj
namespace Go.Proofs.Ytkkmjgohjaedkaa
set_option linter.unusedVariables false
open Go.ChangeShapes Go.WideShapes Go.ChangeAt Go.RowKit

/-- What the closure sees. -/
structure IvC (b x y : Nat) (F : Nat → Prop) (nv : Value) (names : List ByteArray) (l : List Cn) (v : Value) (w : World) : Prop where
  off : Off b (fun i => F i ∨ i = x ∨ i = y) w
  bx : w.heap[x]? = some (.cells #[.pointer (some ⟨b, 0, none⟩)] 167)
  bys : w.heap[y]? = some (.cells #[v] 77)
  rd : IsCns w F v l
  nm : IsTexts w F nv names
theorem IvC.next {b x y : Nat} {F : Nat → Prop} {nv : Value} {names : List ByteArray} {l : List Cn} {v : Value} {w w' : World} (h : IvC b x y F nv names l v w) (k : Wk b w w') : IvC b x y F nv names l v w' := by
  have hs := h.off.stay k
  have hF : Stay F w w' := ⟨hs.size, fun i hi => hs.blk i (Or.inl hi)⟩
  exact ⟨h.off.next k, (hs.blk x (Or.inr (Or.inl rfl))).trans h.bx, (hs.blk y (Or.inr (Or.inr rfl))).trans h.bys, h.rd.keep hF (fun _ h => h), h.nm.keep hF (fun _ h => h)⟩
theorem IvC.new {B b : Nat} {nv : Value} {names : List ByteArray} {F : Nat → Prop} {w : World} {acc : List UInt8} (h : Wr B b nv acc w) (l : List Cn) (v : Value) (hv : IsCns w F v l) (hnm : IsTexts w F nv names) (ho : Off b F w) :
    IvC b w.heap.size (w.heap.size + 1) F nv names l v ((w.alloc (.cells #[.pointer (some ⟨b, 0, none⟩)] 167)).alloc (.cells #[v] 77)) ∧ Wr B b nv acc ((w.alloc (.cells #[.pointer (some ⟨b, 0, none⟩)] 167)).alloc (.cells #[v] 77)) ∧ Wk b w ((w.alloc (.cells #[.pointer (some ⟨b, 0, none⟩)] 167)).alloc (.cells #[v] 77)) := by
  have B2 := belA w (.cells #[.pointer (some ⟨b, 0, none⟩)] 167) (.cells #[v] 77)
  have k2 : Wk b w _ := Wk.below B2 h.lt
  have s2 : Stay F w _ := ho.stay k2
  have hz1 : (w.alloc (.cells #[.pointer (some ⟨b, 0, none⟩)] 167)).heap.size = w.heap.size + 1 := by simp
  have hc := heap_alloc_new (w.alloc (.cells #[.pointer (some ⟨b, 0, none⟩)] 167)) (.cells #[v] 77)
  rw [hz1] at hc
  refine ⟨⟨fun i hi => ?_, ((bel1 _ _).block _ (by simp)).trans (heap_alloc_new _ _), hc, hv.keep s2 (fun _ h => h), hnm.keep s2 (fun _ h => h)⟩, h.keep B2, k2⟩
  rcases hi with hi | hi | hi
  · exact ho.next k2 i hi
  · exact Off.fresh (F := fun i => i = w.heap.size) h B2 (fun i hi => ⟨by omega, by simp; omega⟩) i hi
  · exact Off.fresh (F := fun i => i = w.heap.size + 1) h B2 (fun i hi => ⟨by omega, by simp; omega⟩) i hi
/-- What the closure sees. -/
structure IvR (b x y : Nat) (F : Nat → Prop) (nv : Value) (names : List ByteArray) (l : List Ru) (v : Value) (w : World) : Prop where
  off : Off b (fun i => F i ∨ i = x ∨ i = y) w
  bx : w.heap[x]? = some (.cells #[.pointer (some ⟨b, 0, none⟩)] 167)
  bys : w.heap[y]? = some (.cells #[v] 62)
  rd : IsRus w F v l
  nm : IsTexts w F nv names
theorem IvR.next {b x y : Nat} {F : Nat → Prop} {nv : Value} {names : List ByteArray} {l : List Ru} {v : Value} {w w' : World} (h : IvR b x y F nv names l v w) (k : Wk b w w') : IvR b x y F nv names l v w' := by
  have hs := h.off.stay k
  have hF : Stay F w w' := ⟨hs.size, fun i hi => hs.blk i (Or.inl hi)⟩
  exact ⟨h.off.next k, (hs.blk x (Or.inr (Or.inl rfl))).trans h.bx, (hs.blk y (Or.inr (Or.inr rfl))).trans h.bys, h.rd.keep hF (fun _ h => h), h.nm.keep hF (fun _ h => h)⟩
theorem IvR.new {B b : Nat} {nv : Value} {names : List ByteArray} {F : Nat → Prop} {w : World} {acc : List UInt8} (h : Wr B b nv acc w) (l : List Ru) (v : Value) (hv : IsRus w F v l) (hnm : IsTexts w F nv names) (ho : Off b F w) :
    IvR b w.heap.size (w.heap.size + 1) F nv names l v ((w.alloc (.cells #[.pointer (some ⟨b, 0, none⟩)] 167)).alloc (.cells #[v] 62)) ∧ Wr B b nv acc ((w.alloc (.cells #[.pointer (some ⟨b, 0, none⟩)] 167)).alloc (.cells #[v] 62)) ∧ Wk b w ((w.alloc (.cells #[.pointer (some ⟨b, 0, none⟩)] 167)).alloc (.cells #[v] 62)) := by
  have B2 := belA w (.cells #[.pointer (some ⟨b, 0, none⟩)] 167) (.cells #[v] 62)
  have k2 : Wk b w _ := Wk.below B2 h.lt
  have s2 : Stay F w _ := ho.stay k2
  have hz1 : (w.alloc (.cells #[.pointer (some ⟨b, 0, none⟩)] 167)).heap.size = w.heap.size + 1 := by simp
  have hc := heap_alloc_new (w.alloc (.cells #[.pointer (some ⟨b, 0, none⟩)] 167)) (.cells #[v] 62)
  rw [hz1] at hc
  refine ⟨⟨fun i hi => ?_, ((bel1 _ _).block _ (by simp)).trans (heap_alloc_new _ _), hc, hv.keep s2 (fun _ h => h), hnm.keep s2 (fun _ h => h)⟩, h.keep B2, k2⟩
  rcases hi with hi | hi | hi
  · exact ho.next k2 i hi
  · exact Off.fresh (F := fun i => i = w.heap.size) h B2 (fun i hi => ⟨by omega, by simp; omega⟩) i hi
  · exact Off.fresh (F := fun i => i = w.heap.size + 1) h B2 (fun i hi => ⟨by omega, by simp; omega⟩) i hi
set_option maxHeartbeats 2000000 in
set_option maxRecDepth 100000 in
theorem conjC_any {B b x y : Nat} {nv : Value} {F : Nat → Prop} {names : List ByteArray} {cs : List Cn} {v : Value} {w : World} {acc : List UInt8} (h : Wr B b nv acc w) (hi : IvC b x y F nv names cs v w) (hm : ∀ c, c ∈ cs → mayRow names.length c.seq = true) (hn : ∀ s, s ∈ names → s.size ≤ 1000) (i : Nat) (hlt : i < cs.length) (ha : acc.length + (conjAt names cs i).length ≤ 1000000000) (hps : cs.length ≤ 1048576) :
    Calls Try.prog 147 #[.int .i64 (i : Int), .pointer (some ⟨x, 0, none⟩), .pointer (some ⟨y, 0, none⟩)] w fun e w' => e = .returned (.tuple #[]) ∧ Wr B b nv (acc ++ conjAt names cs i) w' ∧ Wk b w w' := by
  have hd := hi.next (wk_drew b w)
  obtain ⟨vs, ⟨q, cq, hv, hmx, hc⟩, hla, hia⟩ := hi.rd
  obtain ⟨vs', _, hla', hia'⟩ := hd.rd
  subst hv
  obtain ⟨c, hc'⟩ : ∃ c, cs[i]? = some c := ⟨_, List.getElem?_eq_getElem hlt⟩
  obtain ⟨u, hu⟩ : ∃ u, vs[i]? = some u := ⟨_, List.getElem?_eq_getElem (by rw [hla]; exact hlt)⟩
  obtain ⟨g, o, hq, -, hg, ca, -⟩ := hc (by omega)
  subst hq
  have E : conjAt names cs i = conjT names c := by unfold conjAt; rw [List.getD, hc']; rfl
  rw [E] at ha ⊢
  have sd : Stay F w w.drew := ⟨Nat.le_refl _, fun _ _ => rfl⟩
  have PA : Calls Try.prog 148 #[.pointer (some ⟨b, 0, none⟩), .agg #[.bool c.neg, u]] w.drew fun e w' => e = .returned (.tuple #[]) ∧ Hid (Wr B b nv (acc ++ conjT names c) w' ∧ Wk b w w') := by
    refine (conj_any h.drew c u ((hia i c u hc' hu).keep sd (fun _ h => h)) hd.nm (hd.off.mono (fun _ h => Or.inl h)) (hm c (List.mem_of_getElem? hc')) hn ha).mono ?_
    rintro e w' ⟨rfl, k, bb⟩
    exact ⟨rfl, k, (wk_drew b w).trans bb⟩
  obtain ⟨i0, i1⟩ := cnsV_at cs vs i c u hc' hu
  have c0 : w.cell? ⟨x, 0, none⟩ = some (.pointer (some ⟨b, 0, none⟩)) := by rw [Lib.cell_of_heap hi.bx]; rfl
  have c1 : w.cell? ⟨y, 0, none⟩ = some (.slice (some ⟨g, o, none⟩) cs.length cq) := by rw [Lib.cell_of_heap hi.bys]; rfl
  have c2 := ca _ _ i0
  have c3 := reas (ca _ _ i1)
  have z0 : (0 : Int) ≤ (i : Int) := by omega
  have z1 : (i : Int) < (cs.length : Int) := by omega
  obtain ⟨u1, u2, hx⟩ : ∃ u1 u2, u = .slice u1 c.seq.length u2 := by
    obtain ⟨u1, u2, e, _⟩ := hia i c u hc' hu
    exact ⟨u1, u2, e⟩
  subst hx
  generalize c.neg = ng at *
  generalize c.seq.length = sl at *
  clear ca hc hd hi E hu h hia hia' hla hla' hm hc' i0 i1 sd
  go_enter Try.func147, Try.ntmps147
  go_wp2
  go_region_with (go_at_call 148; refine PA.mono ?_; rintro e w2 ⟨rfl, K2⟩)
  all_goals
    go_wp2
    go_end0
    exact ⟨rfl, K2.out.1, K2.out.2⟩
set_option maxHeartbeats 2000000 in
set_option maxRecDepth 100000 in
theorem conjs_any {B b : Nat} {nv : Value} {names : List ByteArray} {F : Nat → Prop} {w : World} {acc : List UInt8} (h : Wr B b nv acc w) (cs : List Cn) (v : Value) (hv : IsCns w F v cs) (hnm : IsTexts w F nv names) (ho : Off b F w) (hm : ∀ c, c ∈ cs → mayRow names.length c.seq = true) (hn : ∀ s, s ∈ names → s.size ≤ 1000)
    (hL : acc.length + (conjsT names cs).length ≤ 1000000000) (hps : cs.length ≤ 1048576) :
    Calls Try.prog 125 #[.pointer (some ⟨b, 0, none⟩), v] w fun e w' => e = .returned (.tuple #[]) ∧ Wr B b nv (acc ++ conjsT names cs) w' ∧ Wk b w w' := by
  obtain ⟨hI, hW, hK⟩ := IvC.new h cs v hv hnm ho
  have R := rowConjs (B := B) (b := b) (nv := nv) (conjAt names cs) ⟨#[32, 38, 32]⟩ cs.length w.heap.size (w.heap.size + 1) (IvC b w.heap.size (w.heap.size + 1) F nv names cs v) 1000000000
    (fun i w' acc hi hI hW ha => conjC_any hW hI hm hn i hi ha hps) (fun w' w'' hI hk => hI.next hk) hW hI hL (Nat.le_refl _) (by omega)
  have R' : Hid (Calls Try.prog 123 #[.pointer (some ⟨b, 0, none⟩), .int .i64 (cs.length : Int), .string ⟨#[32, 38, 32]⟩, .func (.func 147) #[] #[.pointer (some ⟨w.heap.size, 0, none⟩), .pointer (some ⟨w.heap.size + 1, 0, none⟩)]] ((w.alloc (.cells #[.pointer (some ⟨b, 0, none⟩)] 167)).alloc (.cells #[v] 77)) fun e w' => e = .returned (.tuple #[]) ∧ Wr B b nv (acc ++ conjsT names cs) w' ∧ Wk b w w') := R.mono fun e w' ⟨h1, h2, h3⟩ => ⟨h1, h2, hK.trans h3⟩
  obtain ⟨_, ⟨q, cq, hx, _⟩, _⟩ := id hv
  subst hx
  clear R hI hW hK hv hnm ho hm hn hL h
  go_enter Try.func125, Try.ntmps125
  go_wp2_with (go_at_call 123; refine R'.out.mono ?_; rintro e w6 ⟨rfl, r1, r2⟩)
  go_end0
  exact ⟨rfl, r1, r2⟩
set_option maxHeartbeats 2000000 in
set_option maxRecDepth 100000 in
theorem ruleC_any {B b x y : Nat} {nv : Value} {F : Nat → Prop} {names : List ByteArray} {rs : List Ru} {v : Value} {w : World} {acc : List UInt8} (h : Wr B b nv acc w) (hi : IvR b x y F nv names rs v w) (hm : ∀ r, r ∈ rs → r.conj.length ≤ 1048576 ∧ ∀ c, c ∈ r.conj → mayRow names.length c.seq = true) (hn : ∀ s, s ∈ names → s.size ≤ 1000) (i : Nat) (hlt : i < rs.length) (ha : acc.length + (ruleAt names rs i).length ≤ 1000000000) (hps : rs.length ≤ 1048576) :
    Calls Try.prog 124 #[.int .i64 (i : Int), .pointer (some ⟨x, 0, none⟩), .pointer (some ⟨y, 0, none⟩)] w fun e w' => e = .returned (.tuple #[]) ∧ Wr B b nv (acc ++ ruleAt names rs i) w' ∧ Wk b w w' := by
  have hd := hi.next (wk_drew b w)
  obtain ⟨vs, ⟨q, cq, hv, hmx, hc⟩, hla, hia⟩ := hi.rd
  subst hv
  obtain ⟨r, hr⟩ : ∃ r, rs[i]? = some r := ⟨_, List.getElem?_eq_getElem hlt⟩
  obtain ⟨u, hu⟩ : ∃ u, vs[i]? = some u := ⟨_, List.getElem?_eq_getElem (by rw [hla]; exact hlt)⟩
  obtain ⟨g, o, hq, -, hg, ca, -⟩ := hc (by omega)
  subst hq
  have E : ruleAt names rs i = conjsT names r.conj := by unfold ruleAt; rw [List.getD, hr]; rfl
  rw [E] at ha ⊢
  have sd : Stay F w w.drew := ⟨Nat.le_refl _, fun _ _ => rfl⟩
  have hmr := hm r (List.mem_of_getElem? hr)
  have PA : Calls Try.prog 125 #[.pointer (some ⟨b, 0, none⟩), u] w.drew fun e w' => e = .returned (.tuple #[]) ∧ Hid (Wr B b nv (acc ++ conjsT names r.conj) w' ∧ Wk b w w') := by
    refine (conjs_any h.drew r.conj u ((hia i r u hr hu).keep sd (fun _ h => h)) hd.nm (hd.off.mono (fun _ h => Or.inl h)) hmr.2 hn ha hmr.1).mono ?_
    rintro e w' ⟨rfl, k, bb⟩
    exact ⟨rfl, k, (wk_drew b w).trans bb⟩
  obtain ⟨i0, i1⟩ := rusV_at rs vs i r u hr hu
  have c0 : w.cell? ⟨x, 0, none⟩ = some (.pointer (some ⟨b, 0, none⟩)) := by rw [Lib.cell_of_heap hi.bx]; rfl
  have c1 : w.cell? ⟨y, 0, none⟩ = some (.slice (some ⟨g, o, none⟩) rs.length cq) := by rw [Lib.cell_of_heap hi.bys]; rfl
  have c2 := ca _ _ i0
  have c3 := reas (ca _ _ i1)
  have z0 : (0 : Int) ≤ (i : Int) := by omega
  have z1 : (i : Int) < (rs.length : Int) := by omega
  obtain ⟨u1, u2, hx⟩ : ∃ u1 u2, u = .slice u1 r.conj.length u2 := by
    obtain ⟨_, ⟨u1, u2, e, _⟩, _⟩ := hia i r u hr hu
    exact ⟨u1, u2, e⟩
  subst hx
  generalize r.head = rh at *
  generalize r.conj.length = sl at *
  clear ca hc hd hi E hu h hia hla hm hr i0 i1 sd hmr
  go_enter Try.func124, Try.ntmps124
  go_wp2
  go_region_with (go_at_call 125; refine PA.mono ?_; rintro e w2 ⟨rfl, K2⟩)
  all_goals
    go_wp2
    go_end0
    exact ⟨rfl, K2.out.1, K2.out.2⟩
set_option maxHeartbeats 2000000 in
set_option maxRecDepth 100000 in
theorem rules_any {B b : Nat} {nv : Value} {names : List ByteArray} {F : Nat → Prop} {w : World} {acc : List UInt8} (h : Wr B b nv acc w) (rs : List Ru) (v : Value) (hv : IsRus w F v rs) (hnm : IsTexts w F nv names) (ho : Off b F w) (hm : ∀ r, r ∈ rs → r.conj.length ≤ 1048576 ∧ ∀ c, c ∈ r.conj → mayRow names.length c.seq = true) (hn : ∀ s, s ∈ names → s.size ≤ 1000)
    (hL : acc.length + (altsT names rs).length ≤ 1000000000) (hps : rs.length ≤ 1048576) :
    Calls Try.prog 87 #[.pointer (some ⟨b, 0, none⟩), v] w fun e w' => e = .returned (.tuple #[]) ∧ Wr B b nv (acc ++ altsT names rs) w' ∧ Wk b w w' := by
  obtain ⟨hI, hW, hK⟩ := IvR.new h rs v hv hnm ho
  have R := rowRules (B := B) (b := b) (nv := nv) (ruleAt names rs) ⟨#[32, 124, 32]⟩ rs.length w.heap.size (w.heap.size + 1) (IvR b w.heap.size (w.heap.size + 1) F nv names rs v) 1000000000
    (fun i w' acc hi hI hW ha => ruleC_any hW hI hm hn i hi ha hps) (fun w' w'' hI hk => hI.next hk) hW hI hL (Nat.le_refl _) (by omega)
  have R' : Hid (Calls Try.prog 123 #[.pointer (some ⟨b, 0, none⟩), .int .i64 (rs.length : Int), .string ⟨#[32, 124, 32]⟩, .func (.func 124) #[] #[.pointer (some ⟨w.heap.size, 0, none⟩), .pointer (some ⟨w.heap.size + 1, 0, none⟩)]] ((w.alloc (.cells #[.pointer (some ⟨b, 0, none⟩)] 167)).alloc (.cells #[v] 62)) fun e w' => e = .returned (.tuple #[]) ∧ Wr B b nv (acc ++ altsT names rs) w' ∧ Wk b w w') := R.mono fun e w' ⟨h1, h2, h3⟩ => ⟨h1, h2, hK.trans h3⟩
  obtain ⟨_, ⟨q, cq, hx, _⟩, _⟩ := id hv
  subst hx
  clear R hI hW hK hv hnm ho hm hn hL h
  go_enter Try.func87, Try.ntmps87
  go_wp2_with (go_at_call 123; refine R'.out.mono ?_; rintro e w6 ⟨rfl, r1, r2⟩)
  go_end0
  exact ⟨rfl, r1, r2⟩
end Go.Proofs.Ytkkmjgohjaedkaa
