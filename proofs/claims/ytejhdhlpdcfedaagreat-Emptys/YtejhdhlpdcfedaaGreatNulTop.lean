import Derived.Test.YtejhdhlpdcfedaaGreatHangR
import Derived.Test.YtejhdhlpdcfedaaGreatNulT
import Derived.Deep.RegionHeld3
import Derived.Test.YtejhdhlpdcfedaaGreatStrTop
/- Who has the empty text: isEmpty, holds, grow, rulesOf, walked. -/
namespace Go.Proofs.YtejhdhlpdcfedaaGreat
set_option linter.unusedVariables false
open Go.ChangeShapes Go.WideShapes Go.ChangeAt Go.RowKit

theorem IsSys.cel {w : World} {F : Nat → Prop} {p : Option Addr} {n c : Nat} {l : List Sy} (h : IsSys w F (.slice p n c) l) {k : Nat} {s : Sy} (hk : l[k]? = some s) : ∃ g o, p = some ⟨g, o, none⟩ ∧ g < w.heap.size ∧ w.cell? ⟨g, o + k * 3, none⟩ = some (.int .i64 s.name) ∧ w.cell? ⟨g, o + k * 3 + 1, none⟩ = some (.int .i64 s.lo) ∧ w.cell? ⟨g, o + k * 3 + 2, none⟩ = some (.int .i64 s.hi) := by
  obtain ⟨p2, c2, e2, _, hc⟩ := h
  injection e2 with e3
  subst e3
  have hlt := (List.getElem?_eq_some_iff.1 hk).1
  obtain ⟨g, o, e, _, hg, cc, _⟩ := hc (by omega)
  obtain ⟨a0, a1, a2⟩ := sysV_at l k s hk
  exact ⟨g, o, e, hg, cc _ _ a0, by rw [Nat.add_assoc]; exact cc _ _ a1, by rw [Nat.add_assoc]; exact cc _ _ a2⟩
theorem IsCns.lng {w : World} {F : Nat → Prop} {v : Value} {l : List Cn} (h : IsCns w F v l) : ∃ p c, v = .slice p l.length c ∧ l.length ≤ maxLen := by
  obtain ⟨vs, ⟨p, c, e, hm, _⟩, _⟩ := h
  exact ⟨p, c, e, hm.1⟩
theorem IsRus.lng {w : World} {F : Nat → Prop} {v : Value} {l : List Ru} (h : IsRus w F v l) : ∃ p c, v = .slice p l.length c ∧ l.length ≤ maxLen := by
  obtain ⟨vs, ⟨p, c, e, hm, _⟩, _⟩ := h
  exact ⟨p, c, e, hm.1⟩
theorem takeAll {α : Type} {p : α → Bool} {l : List α} {k : Nat} {a : α} (h : l[k]? = some a) : (l.take (k + 1)).all p = ((l.take k).all p && p a) := by
  rw [List.take_add_one, h]
  simp
theorem allFalse {α : Type} {p : α → Bool} {l : List α} {k : Nat} {a : α} (h : l[k]? = some a) (hp : p a = false) : l.all p = false := by
  rw [List.all_eq_false]
  exact ⟨a, List.mem_of_getElem? h, by rw [hp]; decide⟩
theorem bel_one {B : Nat} {w wr : World} (h : Below B w wr) (hB : B ≤ wr.heap.size) (o : Obj) : Below B w (wr.alloc o) := h.alloc hB o
def symIn (n : Nat) (s : Sy) : Prop := s.name = -1 ∨ 0 ≤ s.name ∧ s.name < (n : Int)
set_option maxHeartbeats 4000000 in
set_option maxRecDepth 100000 in
theorem isEmpty_any (M : Nat → Bool) (n b : Nat) (v : Value) (l : List Sy) (w : World) {F : Nat → Prop} (hs : IsSys w F v l) (hb : BlAt w b n M) (hm : ∀ s, s ∈ l → symIn n s) :
    Calls Tryz.prog 37 #[v, .slice (some ⟨b, 0, none⟩) n n] w fun e w' => e = .returned (.bool (empB M l)) ∧ Hid (Below w.heap.size w w') := by
  obtain ⟨p, cp, rfl⟩ := IsSys.slc hs
  have hl9 : l.length ≤ 9223372036854775807 := by obtain ⟨_, _, _, h, _⟩ := hs; have := h.1; unfold maxLen at this; omega
  obtain ⟨R, hR⟩ : ∃ R, R = empB M l := ⟨_, rfl⟩
  have HR : Hid (R = l.all (symB M)) := hR
  have HS : Hid (IsSys w F (.slice p l.length cp) l) := hs
  have HB : Hid (BlAt w b n M) := hb
  have HM : Hid (∀ s, s ∈ l → symIn n s) := hm
  rw [← hR]
  clear hs hb hm hR
  go_enter Tryz.func37, Tryz.ntmps37
  go_wp2
  go_loopw [9] (fun i wr => ∃ k : Nat, k ≤ l.length ∧ i = .int .i64 k ∧ Hid (Below w.heap.size w wr) ∧ Hid ((l.take k).all (symB M) = true)) (fun i _ => l.length - (intOf i).toNat)
  case atStart => exact ⟨0, Nat.zero_le _, rfl, Below.refl _ _, rfl⟩
  case round =>
    obtain ⟨k, hk, rfl, HW, HT⟩ := hrel
    by_cases hlt : k < l.length
    · obtain ⟨t, ht⟩ : ∃ t, l[k]? = some t := ⟨_, List.getElem?_eq_getElem hlt⟩
      obtain ⟨g1, o1, hp, hg1, a0, a1, a2⟩ := (HS.out.any HW.out).cel ht
      subst hp
      have hsi := HM.out t (List.mem_of_getElem? ht)
      have hta := takeAll (p := symB M) ht
      have hfa := fun h => allFalse (p := symB M) ht h
      have HB2 : Hid (Below w.heap.size w (wr.alloc (.cells #[.int .i64 t.name, .int .i64 t.lo, .int .i64 t.hi] 57))) := bel_one HW.out HW.out.size _
      obtain ⟨nm, lo, hi⟩ := t
      unfold symIn at hsi
      simp only at a0 a1 a2 hsi HB2
      by_cases hn : nm = -1
      · have HN : Hid (R = false) := by show _ = _; rw [HR.out]; refine hfa ?_; unfold symB; simp [hn]
        subst hn
        clear ht hta hfa hsi
        go_wp2
        go_ret
        exact ⟨by rw [HN.out]; rfl, HB2⟩
      · obtain ⟨x, rfl⟩ : ∃ x : Nat, nm = (x : Int) := ⟨nm.toNat, by have := hsi.resolve_left hn; omega⟩
        have hx : x < n := by have := hsi.resolve_left hn; omega
        have hbr := (HB.out.keep HW.out)
        have cb := hbr.cell hx
        have hbl := hbr.lt
        have ne1 : ((x : Int) == -1) = false := by rw [beq_eq_false_iff_ne]; omega
        have ne2 : ¬ (x : Int) = -1 := hn
        have hsy : symB M ⟨(x : Int), lo, hi⟩ = M x := by unfold symB; simp [hn]
        rw [hsy] at hta
        rw [hsy] at hfa
        cases hM : M x with
        | false =>
          rw [hM] at cb
          have HN : Hid (R = false) := by show _ = _; rw [HR.out]; exact hfa hM
          clear ht hta hfa hsi hM hsy hbr
          go_wp2
          go_ret
          exact ⟨by rw [HN.out]; rfl, HB2⟩
        | true =>
          rw [hM] at cb
          have HN : Hid ((l.take (k + 1)).all (symB M) = true) := by show _ = _; rw [hta, HT.out, hM]; rfl
          clear ht hta hfa hsi hM hsy hbr
          go_wp2
          go_roundw
          case rel => exact ⟨k + 1, by omega, by go_num, HB2, HN⟩
          case measure => simp [intOf]; omega
    · obtain rfl : k = l.length := by omega
      have HN : Hid (R = true) := by show _ = _; rw [HR.out]; have := HT.out; rwa [List.take_length] at this
      go_wp2
      go_ret
      exact ⟨by rw [HN.out]; rfl, HW⟩
def conIn (n : Nat) (c : Cn) : Prop := ∀ s, s ∈ c.seq → symIn n s
set_option maxHeartbeats 4000000 in
set_option maxRecDepth 100000 in
theorem holds_any (M : Nat → Bool) (n b : Nat) (r : Ru) (u : Value) (w : World) {F : Nat → Prop} (hs : IsCns w F u r.conj) (hb : BlAt w b n M) (hm : ∀ c, c ∈ r.conj → conIn n c) :
    Calls Tryz.prog 23 #[.agg #[.int .i64 r.head, u], .slice (some ⟨b, 0, none⟩) n n] w fun e w' => e = .returned (.bool (holB M r)) ∧ Hid (Below w.heap.size w w') := by
  obtain ⟨hd, l⟩ := r
  simp only at hs hm ⊢
  obtain ⟨p, cp, rfl, hl0⟩ := IsCns.lng hs
  have hl9 : l.length ≤ 9223372036854775807 := by unfold maxLen at hl0; omega
  obtain ⟨R, hR⟩ : ∃ R, R = holB M ⟨hd, l⟩ := ⟨_, rfl⟩
  have HR : Hid (R = l.all (conB M)) := hR
  have HS : Hid (IsCns w F (.slice p l.length cp) l) := hs
  have HB : Hid (BlAt w b n M) := hb
  have HM : Hid (∀ c, c ∈ l → conIn n c) := hm
  rw [← hR]
  clear hs hb hm hR hl0
  go_enter Tryz.func23, Tryz.ntmps23
  go_wp2
  go_loopw [10] (fun i wr => ∃ k : Nat, k ≤ l.length ∧ i = .int .i64 k ∧ Hid (Below w.heap.size w wr) ∧ Hid ((l.take k).all (conB M) = true)) (fun i _ => l.length - (intOf i).toNat)
  case atStart => exact ⟨0, Nat.zero_le _, rfl, bel1 _ _, rfl⟩
  case round =>
    obtain ⟨k, hk, rfl, HW, HT⟩ := hrel
    by_cases hlt : k < l.length
    · obtain ⟨t, ht⟩ : ∃ t, l[k]? = some t := ⟨_, List.getElem?_eq_getElem hlt⟩
      obtain ⟨g1, o1, u1, hp, a0, a1, hsy⟩ := (HS.out.any HW.out).row ht
      subst hp
      have htm := HM.out t (List.mem_of_getElem? ht)
      have hta := takeAll (p := conB M) ht
      have hfa := fun h => allFalse (p := conB M) ht h
      obtain ⟨ng, sq⟩ := t
      simp only at a0 a1 hsy
      obtain ⟨q, cq, rfl⟩ := hsy.slc
      obtain ⟨V, hV⟩ : ∃ V, V = wr.alloc (.cells #[.bool ng, .slice q sq.length cq] 43) := ⟨_, rfl⟩
      have hVb : Below wr.heap.size wr V := by rw [hV]; exact bel1 _ _
      have q0 : V.cell? ⟨wr.heap.size, 0, none⟩ = some (.bool ng) := by rw [hV]; exact World.cell?_alloc_at _ _ _ _ rfl
      have q1 : V.cell? ⟨wr.heap.size, 1, none⟩ = some (.slice q sq.length cq) := by rw [hV]; exact World.cell?_alloc_at _ _ _ _ rfl
      have hz : wr.heap.size < V.heap.size := by rw [hV]; simp
      have HBV : Hid (Below w.heap.size w V) := HW.out.trans (hVb.mono HW.out.size)
      obtain ⟨e0, he0⟩ : ∃ e0, e0 = empB M sq := ⟨_, rfl⟩
      have hcb : conB M ⟨ng, sq⟩ = !(e0 == ng) := by rw [he0]; rfl
      have KE : Hid (∀ w2, Below V.heap.size V w2 → Calls Tryz.prog 37 #[.slice q sq.length cq, .slice (some ⟨b, 0, none⟩) n n] w2 fun e w' => e = .returned (.bool e0) ∧ Hid (Below w2.heap.size w2 w')) := fun w2 h => by
        rw [he0]; exact isEmpty_any M n b _ sq w2 ((IsSys.any hsy hVb).any h) ((HB.out.keep HBV.out).keep h) htm
      have HSS : Hid (∀ w', Below V.heap.size V w' → Below V.heap.size V w' ∧ w'.cell? ⟨wr.heap.size, 0, none⟩ = some (.bool ng) ∧ w'.cell? ⟨wr.heap.size, 1, none⟩ = some (.slice q sq.length cq)) := fun w' h =>
        ⟨h, (h.cell (p := ⟨_, _, none⟩) hz).trans q0, (h.cell (p := ⟨_, _, none⟩) hz).trans q1⟩
      obtain ⟨nb, hnb⟩ : ∃ nb, nb = wr.heap.size := ⟨_, rfl⟩
      rw [← hnb] at HSS
      obtain ⟨m, hmn⟩ : ∃ m, m = sq.length := ⟨_, rfl⟩
      rw [← hmn] at a1 hV KE HSS
      rw [hcb] at hta
      rw [hcb] at hfa
      have HTA : Hid ((e0 == ng) = false → (l.take (k + 1)).all (conB M) = true) := fun h => by rw [hta, HT.out, h]; rfl
      have HFA : Hid ((e0 == ng) = true → R = false) := fun h => by rw [HR.out]; exact hfa (by rw [h]; rfl)
      clear ht htm hta hfa hsy hVb q0 q1 hz he0 hcb hmn
      go_wp2
      rw [← hV, ← hnb]
      clear hV hnb
      go_region_held3 (fun w' => Below V.heap.size V w' ∧ w'.cell? ⟨nb, 0, none⟩ = some (.bool ng) ∧ w'.cell? ⟨nb, 1, none⟩ = some (.slice q m cq))
        ((refine HSS.out _ ?_; (repeat' (first | with_reducible assumption | with_reducible exact Below.refl _ _ | with_reducible apply Below.drew))))
        ((go_at_call 37; refine (KE.out _ (by repeat' (first | exact Below.refl _ _ | apply Below.drew))).mono ?_; rintro e w3 ⟨rfl, b3⟩; have b4 : Below V.heap.size V w3 := Below.trans (b := V.drew) (Below.refl _ _).drew b3.out))
      have HB3 : Hid (Below w.heap.size w w3) := HBV.out.trans (b4.mono HBV.out.size)
      cases e0 <;> cases ng
      · have HN : Hid (R = false) := HFA.out rfl
        go_wp2
        go_ret
        exact ⟨by rw [HN.out]; rfl, HB3⟩
      · have HN : Hid ((l.take (k + 1)).all (conB M) = true) := HTA.out rfl
        go_wp2
        go_roundw
        case rel => exact ⟨k + 1, by omega, by go_num, HB3, HN⟩
        case measure => simp [intOf]; omega
      · have HN : Hid ((l.take (k + 1)).all (conB M) = true) := HTA.out rfl
        go_wp2
        go_roundw
        case rel => exact ⟨k + 1, by omega, by go_num, HB3, HN⟩
        case measure => simp [intOf]; omega
      · have HN : Hid (R = false) := HFA.out rfl
        go_wp2
        go_ret
        exact ⟨by rw [HN.out]; rfl, HB3⟩
    · obtain rfl : k = l.length := by omega
      have HN : Hid (R = true) := by show _ = _; rw [HR.out]; have := HT.out; rwa [List.take_length] at this
      go_wp2
      go_ret
      exact ⟨by rw [HN.out]; rfl, HW⟩
/-- All that was there stays, but for block b. -/
structure Bt (b : Nat) (w w' : World) : Prop where
  os : w'.os = w.os
  tape : w'.tape = w.tape
  output : w'.output = w.output
  size : w.heap.size ≤ w'.heap.size
  block : ∀ k, k < w.heap.size → k ≠ b → w'.heap[k]? = w.heap[k]?
theorem Bt.refl (b : Nat) (w : World) : Bt b w w := ⟨rfl, rfl, rfl, Nat.le_refl _, fun _ _ _ => rfl⟩
theorem Bt.trans {b : Nat} {w w' w'' : World} (h : Bt b w w') (k : Bt b w' w'') : Bt b w w'' :=
  ⟨k.os.trans h.os, k.tape.trans h.tape, k.output.trans h.output, Nat.le_trans h.size k.size, fun i hi hb => (k.block i (Nat.lt_of_lt_of_le hi h.size) hb).trans (h.block i hi hb)⟩
theorem Bt.of {b : Nat} {w w' : World} (h : Below w.heap.size w w') : Bt b w w' := ⟨h.os, h.tape, h.output, h.size, fun k hk _ => h.block k hk⟩
theorem Bt.set {b : Nat} {w w' : World} (h : Bt b w w') (k : Nat) (v : Value) : Bt b w (w'.setCell ⟨b, k, none⟩ v) :=
  ⟨h.os, h.tape, h.output, by rw [Go.Deep.nblk_setCell]; exact h.size, fun i hi hb => (Go.Deep.blk_setCell_other w' ⟨b, k, none⟩ v i hb).trans (h.block i hi hb)⟩
theorem Bt.below {b B : Nat} {w w' : World} (h : Bt b w w') (hB : B ≤ b) (hs : B ≤ w.heap.size) : Below B w w' := ⟨h.os, h.tape, h.output, h.size, fun k hk => h.block k (by omega) (by omega)⟩
theorem Bt.stay {b : Nat} {w w' : World} (h : Bt b w w') : Stay (fun i => i < w.heap.size ∧ i ≠ b) w w' := ⟨h.size, fun i hi => h.block i hi.1 hi.2⟩
def rulIn (n : Nat) (r : Ru) : Prop := (0 ≤ r.head ∧ r.head < (n : Int)) ∧ ∀ c, c ∈ r.conj → conIn n c
set_option maxHeartbeats 4000000 in
set_option maxRecDepth 100000 in
theorem grow_any (M : Nat → Bool) (n b : Nat) (v : Value) (l : List Ru) (w : World) {F : Nat → Prop} (hs : IsRus w F v l) (hF : ∀ i, F i → i ≠ b) (hb : BlAt w b n M) (hm : ∀ r, r ∈ l → rulIn n r) :
    Calls Tryz.prog 14 #[.slice (some ⟨b, 0, none⟩) n n, v] w fun e w' => e = .returned (.bool (grc M l)) ∧ Hid (BlAt w' b n (gro M l)) ∧ Hid (Bt b w w') := by
  obtain ⟨p, cp, rfl, hl0⟩ := IsRus.lng hs
  have hl9 : l.length ≤ 9223372036854775807 := by unfold maxLen at hl0; omega
  have HS : Hid (IsRus w (fun i => i < w.heap.size ∧ i ≠ b) (.slice p l.length cp) l) := IsRus.low hs (fun i h1 h2 => ⟨h2, hF i h1⟩)
  have HB : Hid (BlAt w b n M) := hb
  have HM : Hid (∀ r, r ∈ l → rulIn n r) := hm
  clear hs hb hm hl0 hF
  go_enter Tryz.func14, Tryz.ntmps14
  go_wp2
  go_loopw [5, 10] (fun c i wr => ∃ k : Nat, k ≤ l.length ∧ i = .int .i64 k ∧ c = .bool (grc M (l.take k)) ∧ Hid (BlAt wr b n (gro M (l.take k))) ∧ Hid (Bt b w wr)) (fun _ i _ => l.length - (intOf i).toNat)
  case atStart => exact ⟨0, Nat.zero_le _, rfl, rfl, HB, Bt.refl _ _⟩
  case round =>
    obtain ⟨k, hk, rfl, rfl, HZ, HW⟩ := hrel
    by_cases hlt : k < l.length
    · obtain ⟨t, ht⟩ : ∃ t, l[k]? = some t := ⟨_, List.getElem?_eq_getElem hlt⟩
      have HSr : IsRus wr (fun i => i < w.heap.size ∧ i ≠ b) (.slice p l.length cp) l := HS.out.keep HW.out.stay (fun _ h => h)
      obtain ⟨g1, o1, u1, hp, a0, a1, hcn⟩ := HSr.row ht
      subst hp
      obtain ⟨hhd, hcm⟩ := HM.out t (List.mem_of_getElem? ht)
      have e1 := take_gro ht M
      have e2 := take_grc ht M
      obtain ⟨N, hN⟩ : ∃ N, N = gro M (l.take k) := ⟨_, rfl⟩
      rw [← hN] at e1 e2 HZ
      obtain ⟨ck, hck⟩ : ∃ ck, ck = grc M (l.take k) := ⟨_, rfl⟩
      rw [← hck] at e2 ⊢
      obtain ⟨hd, cs⟩ := t
      simp only at a0 a1 hcn hhd hcm e2
      obtain ⟨x, rfl⟩ : ∃ x : Nat, hd = (x : Int) := ⟨hd.toNat, by omega⟩
      have hx : x < n := by omega
      rw [Int.toNat_natCast] at e2
      obtain ⟨q, cq, hu, -⟩ := IsCns.lng hcn
      have cx := HZ.out.cell hx
      have hbl := HZ.out.lt
      have fz := HZ.out.frozen x
      obtain ⟨V, hV⟩ : ∃ V, V = wr.alloc (.cells #[.int .i64 (x : Int), u1] 40) := ⟨_, rfl⟩
      have hVb : Below wr.heap.size wr V := by rw [hV]; exact bel1 _ _
      have HZV : Hid (BlAt V b n N) := HZ.out.keep hVb
      have HWV : Hid (Bt b w V) := HW.out.trans (Bt.of hVb)
      have KH := holds_any N n b ⟨(x : Int), cs⟩ u1 V (IsCns.any hcn hVb) HZV.out hcm
      have q0 : V.cell? ⟨wr.heap.size, 0, none⟩ = some (.int .i64 (x : Int)) := by rw [hV]; exact World.cell?_alloc_at _ _ _ _ rfl
      have q1 : V.cell? ⟨wr.heap.size, 1, none⟩ = some u1 := by rw [hV]; exact World.cell?_alloc_at _ _ _ _ rfl
      have cV := HZV.out.cell hx
      have hz : wr.heap.size < V.heap.size := by rw [hV]; simp
      have hgr : groR N ⟨(x : Int), cs⟩ = if N x = false ∧ holB N ⟨(x : Int), cs⟩ = true then putS N x else N := rfl
      obtain ⟨hb9, hhb⟩ : ∃ hb9, hb9 = holB N ⟨(x : Int), cs⟩ := ⟨_, rfl⟩
      rw [← hhb] at KH e2 hgr
      rw [hgr] at e1
      cases hNx : N x with
      | true =>
        rw [hNx] at cx e1 e2 cV
        have HG : Hid (gro M (l.take (k + 1)) = N) := by show _ = _; rw [e1, if_neg (by simp)]
        have HC : Hid (grc M (l.take (k + 1)) = ck) := by show _ = _; rw [e2]; simp
        clear e1 e2 ht hgr hhb hNx hhd hcm hN hck KH hcn
        subst hu
        go_upto_region 5 with fail
        rw [← hV]
        clear hV
        go_wp2
        go_roundw
        case rel => exact ⟨k + 1, by omega, by go_num, by rw [HC.out], by rw [HG.out]; exact HZV, HWV⟩
        case measure => simp [intOf]; omega
      | false =>
        rw [hNx] at cx e1 e2 cV
        cases hb9 with
        | false =>
          have HG : Hid (gro M (l.take (k + 1)) = N) := by show _ = _; rw [e1, if_neg (by simp)]
          have HC : Hid (grc M (l.take (k + 1)) = ck) := by show _ = _; rw [e2]; simp
          clear e1 e2 ht hgr hhb hNx hhd hcm hN hck hcn
          subst hu
          go_upto_region 5 with fail
          rw [← hV]
          clear hV
          go_wp2_with (go_at_call 23; refine KH.mono ?_; rintro e w3 ⟨rfl, b3⟩)
          go_roundw
          case rel => exact ⟨k + 1, by omega, by go_num, by rw [HC.out], by rw [HG.out]; exact HZV.out.keep b3.out, HWV.out.trans (Bt.of b3.out)⟩
          case measure => simp [intOf]; omega
        | true =>
          have HG : Hid (gro M (l.take (k + 1)) = putS N x) := by show _ = _; rw [e1, if_pos (by simp)]
          have HC : Hid (grc M (l.take (k + 1)) = true) := by show _ = _; rw [e2]; simp
          clear e1 e2 ht hgr hhb hNx hhd hcm hN hck hcn
          subst hu
          go_upto_region 5 with fail
          rw [← hV]
          clear hV
          go_upto_region 6 with (go_at_call 23; refine KH.mono ?_; rintro e w3 ⟨rfl, b3⟩)
          have r0 : w3.cell? ⟨wr.heap.size, 0, none⟩ = some (.int .i64 (x : Int)) := (b3.out.cell (p := ⟨_, _, none⟩) hz).trans q0
          have HZ3 : Hid (BlAt w3 b n N) := HZV.out.keep b3.out
          have f3 := HZ3.out.frozen x
          have c3 := HZ3.out.cell hx
          have l3 := HZ3.out.lt
          have HW3 : Hid (Bt b w w3) := HWV.out.trans (Bt.of b3.out)
          clear cx cV q0 q1 fz hbl
          go_wp2
          go_roundw
          case rel => exact ⟨k + 1, by omega, by go_num, by rw [HC.out], by rw [HG.out]; exact HZ3.out.put x, HW3.out.set _ _⟩
          case measure => simp [intOf]; omega
    · obtain rfl : k = l.length := by omega
      rw [List.take_length] at HZ ⊢
      go_wp2
      go_ret
      exact ⟨rfl, HZ, HW⟩
end Go.Proofs.YtejhdhlpdcfedaaGreat
/- slices.Max, walked. -/
namespace Go.Proofs.YtejhdhlpdcfedaaGreat
set_option linter.unusedVariables false
open Go.ChangeShapes Go.WideShapes Go.ChangeAt Go.RowKit

set_option maxHeartbeats 4000000 in
set_option maxRecDepth 100000 in
theorem max_any (f : Nat → Nat) (n : Nat) (v : Value) (w : World) {F : Nat → Prop} (hi : IsInts w F v (levL n f)) (h0 : 0 < n) (hn : n ≤ 64) (hf : ∀ i, i < n → f i < 64) :
    Calls Tryz.prog 12 #[v] w fun e w' => ∃ m : Nat, e = .returned (.int .i64 (m : Int)) ∧ m < 64 ∧ Hid (∀ i, i < n → f i ≤ m) ∧ Hid (Below w.heap.size w w') := by
  obtain ⟨p, cp, rfl⟩ := hi.slc
  rw [levL_length] at hi ⊢
  have HI : Hid (IsInts w F (.slice p n cp) (levL n f)) := hi
  have HF : Hid (∀ i, i < n → f i < 64) := hf
  obtain ⟨g0, o0, hp0, hg0, c0⟩ := hi.at (levL_at f h0)
  subst hp0
  obtain ⟨f0, hf0⟩ : ∃ f0, f0 = f 0 := ⟨_, rfl⟩
  have hlt0 : f0 < 64 := by rw [hf0]; exact hf 0 h0
  have HA0 : Hid (∀ i, i < 1 → f i ≤ f0) := fun i hi => by
    obtain rfl : i = 0 := by omega
    rw [hf0]; exact Nat.le_refl _
  rw [← hf0, Nat.add_zero] at c0
  have n1 : ¬ (n : Int) < 1 := by omega
  have n2 : decide ((n : Int) < 1) = false := by simp; omega
  have n3 : ¬ n < 1 := by omega
  have n4 : (0 : Int) < (n : Int) := by omega
  clear hi hf hf0
  go_enter Tryz.func12, Tryz.ntmps12
  go_wp2
  go_loopw [3, 4] (fun z x wr => ∃ k m : Nat, k ≤ n ∧ x = .int .i64 k ∧ z = .int .i64 m ∧ m < 64 ∧ Hid (∀ i, i < k → f i ≤ m) ∧ Hid (Below w.heap.size w wr)) (fun _ x _ => n - (intOf x).toNat)
  case atStart => exact ⟨1, f0, by omega, rfl, rfl, hlt0, HA0, Below.refl _ _⟩
  case round =>
    obtain ⟨k, m, hk, rfl, rfl, hm, HU, HB⟩ := hrel
    by_cases hlt : k < n
    · obtain ⟨g2, o2, hp2, hg2, cx⟩ := (HI.out.any HB.out).at (levL_at f hlt)
      simp only [Option.some.injEq, Addr.mk.injEq, and_true] at hp2
      obtain ⟨rfl, rfl⟩ := hp2
      obtain ⟨fk, hfk⟩ : ∃ fk, fk = f k := ⟨_, rfl⟩
      have hk64 : fk < 64 := by rw [hfk]; exact HF.out k hlt
      have HN : Hid (∀ i, i < k + 1 → f i ≤ max m fk) := fun i hi => by
        by_cases e : i = k
        · subst e; rw [hfk]; exact Nat.le_max_right _ _
        · exact Nat.le_trans (HU.out i (by omega)) (Nat.le_max_left _ _)
      rw [← hfk] at cx
      clear hfk
      go_wp2
      go_roundw
      case rel => exact ⟨k + 1, max m fk, by omega, by go_num, by congr 1; omega, by omega, HN, HB⟩
      case measure => simp [intOf]; omega
    · obtain rfl : k = n := by omega
      go_wp2
      go_ret
      exact ⟨m, rfl, hm, HU, HB⟩
end Go.Proofs.YtejhdhlpdcfedaaGreat
/- rulesOf, walked. -/
namespace Go.Proofs.YtejhdhlpdcfedaaGreat
set_option linter.unusedVariables false
open Go.ChangeShapes Go.WideShapes Go.ChangeAt Go.RowKit

def levB (f : Nat → Nat) (k : Nat) (r : Ru) : Bool := decide (f r.head.toNat = k)
theorem take_filter {p : Ru → Bool} {l : List Ru} {k : Nat} {t : Ru} (h : l[k]? = some t) : (l.take (k + 1)).filter p = (l.take k).filter p ++ (if p t = true then [t] else []) := by
  rw [List.take_add_one, h, List.filter_append]
  simp [List.filter_cons]
theorem filter_len {p : Ru → Bool} (l : List Ru) (k : Nat) : ((l.take k).filter p).length ≤ k := Nat.le_trans (List.length_filter_le _ _) (by simp; omega)
theorem Tryz.infoRuleN : (Tryz.prog.info? 40).map (fun i => (i.zero, i.size, i.bytes)) = some (some (.agg #[.int .i64 0, .slice none 0 0]), 2, 32) := by kernel_rfl
theorem RusIn.any {w w' : World} {F : Nat → Prop} {l : List Ru} {vs : List Value} (h : RusIn w F l vs) (hb : Below w.heap.size w w') : RusIn w' F l vs := ⟨h.1, fun k c u e1 e2 => (h.2 k c u e1 e2).any hb⟩
theorem RusIn.grown {w w' : World} {F : Nat → Prop} {B : Nat} {l : List Ru} {vs : List Value} (h : RusIn w F l vs) (hF : ∀ i, F i → i < B) (hb : Below B w w') : RusIn w' F l vs := h.keep ⟨hb.size, fun i hi => hb.block i (hF i hi)⟩ (fun _ h => h)
set_option maxHeartbeats 4000000 in
set_option maxRecDepth 100000 in
theorem rulesOf_any (s : Int) (v1 v2 u : Value) (l : List Ru) (f : Nat → Nat) (n lv : Nat) (w : World) {F G : Nat → Prop} (hr : IsRus w F v2 l) (hi : IsInts w G u (levL n f)) (hh : ∀ r, r ∈ l → rulIn n r) (hl : l.length ≤ 256) (k1 : Option Addr × Nat × Nat) (e1 : v1 = .slice k1.1 k1.2.1 k1.2.2) :
    Calls Tryz.prog 13 #[.agg #[.int .i64 s, v1, v2], u, .int .i64 (lv : Int)] w fun e w' => ∃ v, e = .returned v ∧ Hid (IsRus w' (fun i => F i ∨ w.heap.size ≤ i) v (l.filter (levB f lv))) ∧ Hid (Below w.heap.size w w') := by
  obtain ⟨p, cp, rfl, -⟩ := IsRus.lng hr
  obtain ⟨pu, cu, hu⟩ := hi.slc
  rw [levL_length] at hu
  subst hu e1
  have HR : Hid (IsRus w (fun i => F i ∧ i < w.heap.size) (.slice p l.length cp) l) := IsRus.low hr (fun i h1 h2 => ⟨h1, h2⟩)
  have HI : Hid (IsInts w G (.slice pu n cu) (levL n f)) := hi
  have HH : Hid (∀ r, r ∈ l → rulIn n r) := hh
  obtain ⟨i0, hi0, hz0, hz1, hz2⟩ := info_parts Tryz.infoRuleN
  obtain ⟨nl, hnl⟩ : ∃ nl, nl = l.length := ⟨_, rfl⟩
  have HNL : Hid (nl = l.length) := hnl
  rw [← hnl] at HR hl ⊢
  clear hr hi hh hnl
  go_enter Tryz.func13, Tryz.ntmps13
  go_wp2
  go_loopw [7, 13] (fun o i wr => ∃ (k : Nat) (us : List Value), k ≤ nl ∧ i = .int .i64 k ∧ Hid (wr.ownsRow w.heap.size 40 2 o ((l.take k).filter (levB f lv)).length (rusV ((l.take k).filter (levB f lv)) us)) ∧ Hid (RusIn wr (fun i => F i ∧ i < w.heap.size) ((l.take k).filter (levB f lv)) us) ∧ Hid (Below w.heap.size w wr)) (fun _ i _ => nl - (intOf i).toNat)
  case atStart => exact ⟨0, [], Nat.zero_le _, rfl, World.ownsRow_nil _ _ _ _, RusIn.nil _ _, bel1 _ _⟩
  case round =>
    obtain ⟨k, us, hk, rfl, HO, HU, HB⟩ := hrel
    by_cases hlt : k < nl
    · obtain ⟨t, ht⟩ : ∃ t, l[k]? = some t := ⟨_, List.getElem?_eq_getElem (by rw [← HNL.out]; exact hlt)⟩
      obtain ⟨g1, o1, u1, hp, a0, a1, hcn⟩ := (HR.out.any HB.out).row ht
      subst hp
      have hhd := (HH.out t (List.mem_of_getElem? ht)).1
      have hft := take_filter (p := levB f lv) ht
      have hfl := filter_len (p := levB f lv) l k
      obtain ⟨L, hL⟩ : ∃ L, L = (l.take k).filter (levB f lv) := ⟨_, rfl⟩
      rw [← hL] at HO HU hft hfl
      obtain ⟨q, cq, hu1, -⟩ := IsCns.lng hcn
      obtain ⟨hd, cs⟩ := t
      simp only at a0 a1 hcn hhd hu1
      obtain ⟨x, rfl⟩ : ∃ x : Nat, hd = (x : Int) := ⟨hd.toNat, by omega⟩
      have hx : x < n := by omega
      obtain ⟨g2, o2, hp2, hg2, cx⟩ := (HI.out.any HB.out).at (levL_at f hx)
      subst hp2
      obtain ⟨fx, hfx⟩ : ∃ fx, fx = f x := ⟨_, rfl⟩
      rw [← hfx] at cx
      have hlb : levB f lv ⟨(x : Int), cs⟩ = decide (fx = lv) := by unfold levB; rw [hfx]; rfl
      rw [hlb] at hft
      obtain ⟨po, co, hov⟩ := row_slice HO.out
      subst hov
      by_cases hq : fx = lv
      · have hft2 : (l.take (k + 1)).filter (levB f lv) = L ++ [⟨(x : Int), cs⟩] := by rw [hft, decide_eq_true hq]; rfl
        subst hq
        have hs1 : w.heap.size ≤ wr.heap.size := HB.out.size
        obtain ⟨X, hX⟩ : ∃ X, X = wr.alloc (.cells #[.int .i64 (x : Int), u1] 40) := ⟨_, rfl⟩
        have hXb : Below wr.heap.size wr X := by rw [hX]; exact bel1 _ _
        have hXs : X.heap.size = wr.heap.size + 1 := by rw [hX]; simp
        have h1c : u1.oneCell' = true := by rw [hu1]; rfl
        obtain ⟨gg, cap, w2, hrun, hown, hgrow, hat, _⟩ := run_append_lies (P := Tryz.prog) (X.alloc (.cells #[.int .i64 (x : Int), u1] 40)) 23 23 w.heap.size 40 i0 _ 2 32 Tryz.underlying23 hi0 hz0 hz1 hz2 rfl (by omega) (.slice po L.length co) L.length (rusV L us) ((row_keep HO.out hXb).alloc _) ⟨X.heap.size, 0, none⟩ 1 1 [.int .i64 (x : Int), u1] rfl
          (World.news_of_block (cs := #[.int .i64 (x : Int), u1]) (t := 40) (fr := (0, 0)) (heap_alloc_new X _)) (by intro u hu; simp at hu; rcases hu with rfl | rfl; rfl; exact h1c) (by omega) (by unfold maxLen; omega) (by omega) (by simp; omega) (X.heap.size + 1) (by simp)
        have HB2 : Hid (Below w.heap.size w w2) := ((HB.out.trans (hXb.mono hs1)).alloc (by omega) _).grown hgrow (by simp; omega) (fun i hi => ((row_keep HO.out hXb).lt i hi).1)
        have HL2 : Hid (((l.take (k + 1)).filter (levB f fx)).length = L.length + 1) := by show _ = _; rw [hft2]; simp
        have HO2 : Hid (w2.ownsRow w.heap.size 40 2 (.slice (some ⟨gg, 0, none⟩) (L.length + 1) cap) ((l.take (k + 1)).filter (levB f fx)).length (rusV ((l.take (k + 1)).filter (levB f fx)) (us ++ [u1]))) := by
          show World.ownsRow _ _ _ _ _ _ _
          rw [HL2.out, hft2, rusV_append _ _ _ _ HU.out.1]; exact hown
        have HU2 : Hid (RusIn w2 (fun i => F i ∧ i < w.heap.size) ((l.take (k + 1)).filter (levB f fx)) (us ++ [u1])) := by
          show RusIn _ _ _ _
          rw [hft2]
          have hst : Stay (fun i => F i ∧ i < w.heap.size) wr w2 := ⟨by have := hgrow.size; simp at this; omega, fun i hi => (HB2.out.block i hi.2).trans (HB.out.block i hi.2).symm⟩
          exact (HU.out.keep hst (fun _ h => h)).snoc (c := ⟨(x : Int), cs⟩) (hcn.keep hst (fun _ h => h))
        have bx : w.heap.size < X.heap.size := by omega
        subst hu1
        clear ht hft hft2 hL hlb hfx hhd hcn hown hgrow hat h1c hXb hXs
        go_upto_region 5 with fail
        rw [← hX]
        have x0 : X.cell? ⟨wr.heap.size, 0, none⟩ = some (.int .i64 (x : Int)) := by rw [hX]; exact World.cell?_alloc_at _ _ _ _ rfl
        have x1 : X.cell? ⟨wr.heap.size, 1, none⟩ = some (.slice q cs.length cq) := by rw [hX]; exact World.cell?_alloc_at _ _ _ _ rfl
        have cx2 : X.cell? ⟨g2, o2 + x, none⟩ = some (.int .i64 (fx : Int)) := by rw [hX]; exact (World.cell?_alloc_past _ _ _ hg2).trans cx
        clear hX cx a0 a1
        go_wp2_with (at_builtin; refine wpList_run_append rfl _ _ 23 rfl _ _ rfl rfl hrun ?_)
        go_roundw
        case rel => exact ⟨k + 1, _, by omega, by go_num, HO2, HU2, HB2⟩
        case measure => simp [intOf]; omega
      · have hft2 : (l.take (k + 1)).filter (levB f lv) = L := by rw [hft, decide_eq_false hq]; simp
        have n1 : ((fx : Int) == (lv : Int)) = false := by simp; omega
        have n2 : ¬ (fx : Int) = (lv : Int) := by omega
        have HB2 : Hid (Below w.heap.size w (wr.alloc (.cells #[.int .i64 (x : Int), u1] 40))) := bel_one HB.out HB.out.size _
        have HO2 : Hid ((wr.alloc (.cells #[.int .i64 (x : Int), u1] 40)).ownsRow w.heap.size 40 2 (.slice po L.length co) ((l.take (k + 1)).filter (levB f lv)).length (rusV ((l.take (k + 1)).filter (levB f lv)) us)) := by
          show World.ownsRow _ _ _ _ _ _ _
          rw [hft2]; exact HO.out.alloc _
        have HU2 : Hid (RusIn (wr.alloc (.cells #[.int .i64 (x : Int), u1] 40)) (fun i => F i ∧ i < w.heap.size) ((l.take (k + 1)).filter (levB f lv)) us) := by
          show RusIn _ _ _ _
          rw [hft2]; exact HU.out.any (bel1 _ _)
        subst hu1
        clear ht hft hft2 hL hlb hfx hhd hcn
        go_wp2
        go_roundw
        case rel => exact ⟨k + 1, _, by omega, by go_num, HO2, HU2, HB2⟩
        case measure => simp [intOf]; omega
    · obtain rfl : k = nl := by omega
      have htl : l.take k = l := by rw [HNL.out]; exact List.take_length
      rw [htl] at HO HU
      obtain ⟨po, co, hov⟩ := row_slice HO.out
      subst hov
      have HF : Hid (IsRus wr (fun i => F i ∨ w.heap.size ≤ i) (.slice po (l.filter (levB f lv)).length co) (l.filter (levB f lv))) :=
        ⟨us, Reads.of HO.out (fun i hi => Or.inr (HO.out.lt i hi).1), HU.out.1, fun j c u e1 e2 => (HU.out.2 j c u e1 e2).low (fun i hi _ => Or.inl hi.1)⟩
      clear htl
      go_wp2
      go_ret
      exact ⟨_, rfl, HF, HB⟩
end Go.Proofs.YtejhdhlpdcfedaaGreat
/- Nulls of the program, walked whole. -/
namespace Go.Proofs.YtejhdhlpdcfedaaGreat
set_option linter.unusedVariables false
open Go.ChangeShapes Go.WideShapes Go.ChangeAt Go.RowKit

theorem may_rulIn {g : Gr} (h : mayG g = true) {r : Ru} (hr : r ∈ g.rules) : rulIn g.names.length r := ⟨mayG_head h r hr, fun c hc s hs => mayG_sym h r hr c hc s hs⟩
set_option maxHeartbeats 4000000 in
set_option maxRecDepth 100000 in
theorem nulls_no (g : Gr) (v1 v2 : Value) (w : World) {F : Nat → Prop} (hg : GrIs w F v1 v2 g) (hn : ∀ s, s ∈ g.names → s.size ≤ maxLen) (hS : Short g.rules) (hM : mayG g = false ∨ ∃ t, (edgesT g).find? (badE g.names.length (edgesT g)) = some t) :
    Calls Tryz.prog 5 #[.agg #[.int .i64 g.start, v1, v2]] w fun e w' => e = .returned (.tuple #[.slice none 0 0, .int .i64 900]) ∧ Hid (Below w.heap.size w w') := by
  obtain ⟨W1, hW1⟩ : ∃ W1, W1 = w.alloc (.cells #[.int .i64 g.start, v1, v2] 25) := ⟨_, rfl⟩
  have hb1 : Below w.heap.size w W1 := by rw [hW1]; exact bel1 _ _
  have K1 : Calls Tryz.prog 11 #[.agg #[.int .i64 g.start, v1, v2]] W1 fun e w' => ∃ u er, e = .returned (.tuple #[.slice none 0 0, u, .int .i64 er]) ∧ er ≠ 0 ∧ Hid (Below W1.heap.size W1 w') := by
    cases hm : mayG g with
    | false => exact (strata_no g v1 v2 W1 (hg.any hb1) hn hS hm).mono fun e w' ⟨h1, h2⟩ => ⟨_, _, h1, by decide, h2⟩
    | true =>
      obtain ⟨t, ht⟩ := hM.resolve_left (by rw [hm]; simp)
      exact (strata_cyc g v1 v2 W1 (hg.any hb1) hn hS hm t ht).mono fun e w' ⟨u, f, h1, _, _, h2⟩ => ⟨u, _, h1, by decide, h2⟩
  have HB1 : Hid (Below w.heap.size w W1) := hb1
  obtain ⟨p1, l1, hv1⟩ : ∃ p c, v1 = .slice p g.names.length c := by obtain ⟨p, c, e, _⟩ := hg.1; exact ⟨_, _, e⟩
  obtain ⟨p2, c2, hv2⟩ := hg.2.slc
  subst hv1 hv2
  clear hg hn hS hM hb1
  go_enter Tryz.func5, Tryz.ntmps5
  go_upto_region 2 with (go_at_call 11; rw [← hW1]; refine K1.mono ?_; rintro e w2 ⟨u, er, rfl, hne, b2⟩)
  have n1 : (er == 0) = false := by simp [hne]
  have HB2 : Hid (Below w.heap.size w w2) := HB1.out.trans (b2.out.mono HB1.out.size)
  clear hW1 K1
  go_wp2
  go_ret2
  exact ⟨rfl, HB2⟩
set_option maxHeartbeats 8000000 in
set_option maxRecDepth 100000 in
theorem nulls_ok (g : Gr) (v1 v2 : Value) (w : World) {F : Nat → Prop} (hg : GrIs w F v1 v2 g) (hn : ∀ s, s ∈ g.names → s.size ≤ maxLen) (hS : Short g.rules) (hM : mayG g = true) (hc : (edgesT g).find? (badE g.names.length (edgesT g)) = none) :
    Calls Tryz.prog 5 #[.agg #[.int .i64 g.start, v1, v2]] w fun e w' => ∃ b M, e = .returned (.tuple #[.slice (some ⟨b, 0, none⟩) g.names.length g.names.length, .int .i64 0]) ∧ w.heap.size ≤ b ∧ Hid (Stb g.rules M) ∧ Hid (BlAt w' b g.names.length M) ∧ Hid (Below w.heap.size w w') := by
  obtain ⟨W1, hW1⟩ : ∃ W1, W1 = w.alloc (.cells #[.int .i64 g.start, v1, v2] 25) := ⟨_, rfl⟩
  have hb1 : Below w.heap.size w W1 := by rw [hW1]; exact bel1 _ _
  have K1 := strata_ok g v1 v2 W1 (hg.any hb1) hn hS hM hc
  have hme := mayE_edges hM
  have hcl := clean_of (mayE_all hme).2.2 hc
  have HF : Hid (Str g.rules (levT g.names.length (edgesT g))) := str_of (lev_sol (mayE_all hme).2.2 hcl)
  have hlt : ∀ i, i < g.names.length → levT g.names.length (edgesT g) i < g.names.length := fun i hi => lev_lt (mayE_all hme).2.2 hcl hi
  obtain ⟨f, hf⟩ : ∃ f, f = levT g.names.length (edgesT g) := ⟨_, rfl⟩
  rw [← hf] at K1 HF hlt
  have hn64 : g.names.length ≤ 64 := mayG_names hM
  have hn0 : 0 < g.names.length := mayG_pos hM
  have HRI : Hid (∀ r, r ∈ g.rules → rulIn g.names.length r) := fun r hr => may_rulIn hM hr
  have hrl : g.rules.length ≤ 256 := by
    unfold mayG mayRules at hM
    simp only [Bool.and_eq_true, decide_eq_true_eq] at hM
    exact hM.2.2.2.2.1
  obtain ⟨p1, l1, hv1⟩ : ∃ p c, v1 = .slice p g.names.length c := by obtain ⟨p, c, e, _⟩ := hg.1; exact ⟨_, _, e⟩
  obtain ⟨p2, c2, hv2⟩ := hg.2.slc
  obtain ⟨n, hnn⟩ : ∃ n, n = g.names.length := ⟨_, rfl⟩
  rw [← hnn] at K1 hlt hn64 hn0 HRI hv1 ⊢
  have HLT : Hid (∀ i, i < n → f i < n) := hlt
  have HG : Hid (IsRus w (fun i => i < w.heap.size) v2 g.rules) := IsRus.low hg.2 (fun _ _ h => h)
  have q0 : W1.cell? ⟨w.heap.size, 0, none⟩ = some (.int .i64 g.start) := by rw [hW1]; exact World.cell?_alloc_at _ _ _ _ rfl
  have q1 : W1.cell? ⟨w.heap.size, 1, none⟩ = some v1 := by rw [hW1]; exact World.cell?_alloc_at _ _ _ _ rfl
  have q2 : W1.cell? ⟨w.heap.size, 2, none⟩ = some v2 := by rw [hW1]; exact World.cell?_alloc_at _ _ _ _ rfl
  have hz1 : w.heap.size < W1.heap.size := by rw [hW1]; simp
  have HB1 : Hid (Below w.heap.size w W1) := hb1
  obtain ⟨L, hL⟩ : ∃ L, L = g.rules := ⟨_, rfl⟩
  obtain ⟨st, hst⟩ : ∃ st, st = g.start := ⟨_, rfl⟩
  rw [← hL] at HF HRI hrl HG hv2 ⊢
  rw [← hst] at K1 q0 hW1 ⊢
  subst hv1 hv2
  clear hg hn hS hM hb1 hme hcl hc hlt hf hnn hL hst
  go_enter Tryz.func5, Tryz.ntmps5
  go_upto_region 2 with (go_at_call 11; rw [← hW1]; refine K1.mono ?_; rintro e w2 ⟨u, rfl, IU, b2⟩)
  obtain ⟨p3, c3, hu⟩ := IU.out.slc
  rw [levL_length] at hu
  subst hu
  have r0 : w2.cell? ⟨w.heap.size, 0, none⟩ = some (.int .i64 st) := (b2.out.cell (p := ⟨_, _, none⟩) hz1).trans q0
  have r1 : w2.cell? ⟨w.heap.size, 1, none⟩ = some (.slice p1 n l1) := (b2.out.cell (p := ⟨_, _, none⟩) hz1).trans q1
  have r2 : w2.cell? ⟨w.heap.size, 2, none⟩ = some (.slice p2 L.length c2) := (b2.out.cell (p := ⟨_, _, none⟩) hz1).trans q2
  have hz2 : w.heap.size < w2.heap.size := Nat.lt_of_lt_of_le hz1 b2.out.size
  have HB2 : Hid (Below w.heap.size w w2) := HB1.out.trans (b2.out.mono HB1.out.size)
  have HQ : Hid (∀ w', Below w2.heap.size w2 w' → w'.cell? ⟨w.heap.size, 0, none⟩ = some (.int .i64 st) ∧ w'.cell? ⟨w.heap.size, 1, none⟩ = some (.slice p1 n l1) ∧ w'.cell? ⟨w.heap.size, 2, none⟩ = some (.slice p2 L.length c2) ∧ w.heap.size < w'.heap.size) := fun w' h =>
    ⟨(h.cell (p := ⟨_, _, none⟩) hz2).trans r0, (h.cell (p := ⟨_, _, none⟩) hz2).trans r1, (h.cell (p := ⟨_, _, none⟩) hz2).trans r2, Nat.lt_of_lt_of_le hz2 h.size⟩
  have hmk := make_bools n hn64
  have KM : Hid (∀ w', Below w2.heap.size w2 w' → Calls Tryz.prog 12 #[.slice p3 n c3] w' fun e w'' => ∃ m : Nat, e = .returned (.int .i64 (m : Int)) ∧ m < 64 ∧ Hid (∀ i, i < n → f i ≤ m) ∧ Hid (Below w'.heap.size w' w'')) := fun w' h =>
    max_any f n _ w' (IU.out.any h) hn0 hn64 (fun i hi => by have := HLT.out i hi; omega)
  have KR : Hid (∀ lv w', Below w2.heap.size w2 w' → Calls Tryz.prog 13 #[.agg #[.int .i64 st, .slice p1 n l1, .slice p2 L.length c2], .slice p3 n c3, .int .i64 ((lv : Nat) : Int)] w' fun e w'' => ∃ v, e = .returned v ∧ Hid (IsRus w'' (fun i => i < w.heap.size ∨ w'.heap.size ≤ i) v (L.filter (levB f lv))) ∧ Hid (Below w'.heap.size w' w'')) := fun lv w' h =>
    rulesOf_any st _ _ _ L f n lv w' ((HG.out.any HB2.out).any h) (IU.out.any h) HRI.out hrl ⟨p1, n, l1⟩ rfl
  have KW : Hid (∀ lv M v w', BlAt w' w2.heap.size n M → IsRus w' (fun i => i ≠ w2.heap.size) v (L.filter (levB f lv)) → Calls Tryz.prog 14 #[.slice (some ⟨w2.heap.size, 0, none⟩) n n, v] w' fun e w'' => e = .returned (.bool (grc M (L.filter (levB f lv)))) ∧ Hid (BlAt w'' w2.heap.size n (gro M (L.filter (levB f lv)))) ∧ Hid (Bt w2.heap.size w' w'')) := fun lv M v w' h1 h2 =>
    grow_any M n w2.heap.size v _ w' h2 (fun i h => h) h1 (fun r hr => HRI.out r (List.mem_filter.1 hr).1)
  have HHD : Hid (∀ r, r ∈ L → r.head.toNat < n) := fun r hr => by have := (HRI.out r hr).1; omega
  clear hW1 K1 q0 q1 q2 hz1 HLT HRI HG
  go_upto_region 6 with (first
    | (go_at_call 12; refine (KM.out _ (bel1 _ _)).mono ?_; rintro e w4 ⟨m, rfl, hm64, HMX, b4⟩))
  have HBx : Hid (Below w2.heap.size w2 w4) := (bel1 w2 _).trans (b4.out.mono (bel1 w2 _).size)
  have HZ4 : Hid (BlAt w4 w2.heap.size n (fun _ => false)) := (BlAt.new w2 n _).keep b4.out
  clear hmk b4 r0 r1 r2
  go_loopw [25] (fun x wr => ∃ (k : Nat) (M : Nat → Bool), k ≤ m + 1 ∧ x = .int .i64 k ∧ Hid (BlAt wr w2.heap.size n M) ∧ Hid (Jn L f k M) ∧ Hid (Below w2.heap.size w2 wr)) (fun x _ => m + 1 - (intOf x).toNat)
  case atStart => exact ⟨0, fun _ => false, Nat.zero_le _, rfl, HZ4, Jn.begin _ _, HBx⟩
  case round =>
    obtain ⟨k, M, hk, rfl, HZ, HJ, HB⟩ := hrel
    obtain ⟨s0, s1, s2, hz3⟩ := HQ.out wr HB.out
    by_cases hlt : k < m + 1
    · have hlt2 : (k : Int) < (m : Int) + 1 := by omega
      go_upto_region 9 with (go_at_call 13; refine (KR.out k _ HB.out).mono ?_; rintro e w5 ⟨v, rfl, IR, b5⟩)
      obtain ⟨p5, c5, hv5, -⟩ := IsRus.lng IR.out
      have IR2 : Hid (IsRus w5 (fun i => i ≠ w2.heap.size ∧ i < w5.heap.size) v (L.filter (levB f k))) := IsRus.low IR.out (fun i hi h9 => ⟨by
        have h1 := HB.out.size
        have h2 := HZ.out.lt
        rcases hi with hi | hi <;> omega, h9⟩)
      have HZ5 : Hid (BlAt w5 w2.heap.size n M) := HZ.out.keep b5.out
      have HB5 : Hid (Below w2.heap.size w2 w5) := HB.out.trans (b5.out.mono HB.out.size)
      have HFL : Hid (∀ r, r ∈ L.filter (levB f k) → r ∈ L ∧ f r.head.toNat = k) := fun r hr => by
        have := List.mem_filter.1 hr
        exact ⟨this.1, by have := this.2; unfold levB at this; simpa using this⟩
      have HFM : Hid (∀ r, r ∈ L → f r.head.toNat = k → r ∈ L.filter (levB f k)) := fun r hr e => List.mem_filter.2 ⟨hr, by unfold levB; simpa using e⟩
      obtain ⟨Q, hQ⟩ : ∃ Q, Q = L.filter (levB f k) := ⟨_, rfl⟩
      have KW2 : Hid (∀ M w', BlAt w' w2.heap.size n M → IsRus w' (fun i => i ≠ w2.heap.size) v Q → Calls Tryz.prog 14 #[.slice (some ⟨w2.heap.size, 0, none⟩) n n, v] w' fun e w'' => e = .returned (.bool (grc M Q)) ∧ Hid (BlAt w'' w2.heap.size n (gro M Q)) ∧ Hid (Bt w2.heap.size w' w'')) := by rw [hQ]; exact fun M w' => KW.out k M v w'
      rw [← hQ] at IR2 HFL HFM hv5
      subst hv5
      clear IR b5 hQ s0 s1 s2
      go_loopg [34] n (fun gk x wq => ∃ N : Nat → Bool, n ≤ cntS N n + gk ∧ Hid (BlAt wq w2.heap.size n N) ∧ Hid (Jm L f k M N) ∧ Hid (Bt w2.heap.size w5 wq))
      case atStart => exact ⟨M, by omega, HZ5, HJ.out.mid, Bt.refl _ _⟩
      case round =>
        obtain ⟨N, hcn, HN, HJN, HBN⟩ := hrel
        have IRq : Hid (IsRus wr (fun i => i ≠ w2.heap.size ∧ i < w5.heap.size) (.slice p5 Q.length c5) Q) := IR2.out.keep ⟨HBN.out.size, fun i hi => HBN.out.block i hi.2 hi.1⟩ (fun _ h => h)
        have KG := KW2.out N wr HN.out (IsRus.low IRq.out (fun i h _ => h.1))
        have HBw : Hid (Below w2.heap.size w2 wr) := HB5.out.trans (HBN.out.below (Nat.le_refl _) HB5.out.size)
        cases hg : grc N Q with
        | true =>
          rw [hg] at KG
          have hc2 := grc_yes (n := n) (fun r hr => HHD.out r (HFL.out r hr).1) hg
          have hc3 := cnt_le (gro N Q) n
          have HJ2 : Hid (Jm L f k M (gro N Q)) := Jm.gro HF.out HFL.out HJN.out
          clear hg
          go_wp2_with (go_at_call 14; refine KG.mono ?_; rintro e w6 ⟨rfl, HZ6, HB6⟩)
          go_roundg (gk - 1)
          case measure => omega
          case rel => exact ⟨_, by omega, HZ6, HJ2, HBN.out.trans HB6.out⟩
        | false =>
          rw [hg] at KG
          obtain ⟨hg1, hg2⟩ := grc_no hg
          have HJ2 : Hid (Jn L f (k + 1) N) := Jm.fin HF.out HJ.out HJN.out (fun r hr e hh => hg2 r (HFM.out r hr e) hh)
          rw [hg1] at KG
          clear hg hg1 hg2
          go_wp2_with (go_at_call 14; refine KG.mono ?_; rintro e w6 ⟨rfl, HZ6, HB6⟩)
          have HB7 : Hid (Below w2.heap.size w2 w6) := HBw.out.trans (HB6.out.below (Nat.le_refl _) HBw.out.size)
          go_roundw
          case rel => exact ⟨k + 1, N, by omega, by go_num, HZ6, HJ2, HB7⟩
          case measure => simp [intOf]; omega
    · obtain rfl : k = m + 1 := by omega
      have HST : Hid (Stb L M) := HJ.out.fin (fun r hr => by have := HMX.out _ (HHD.out r hr); omega)
      have HB8 : Hid (Below w.heap.size w wr) := HB2.out.trans (HB.out.mono HB2.out.size)
      have hge : w.heap.size ≤ w2.heap.size := by omega
      have n9 : ¬ ((m + 1 : Nat) : Int) < (m : Int) + 1 := by omega
      go_wp2
      go_ret2
      exact ⟨_, rfl, hge, M, HST, HZ, HB8⟩
end Go.Proofs.YtejhdhlpdcfedaaGreat
/- Rows of Booleans held against one another; awake of layer 9. -/
namespace Go.Proofs.YtejhdhlpdcfedaaGreat
set_option linter.unusedVariables false
open Go.ChangeShapes Go.WideShapes Go.ChangeAt Go.RowKit

def blsV (l : List Bool) : List Value := l.map Value.bool
def IsBls (w : World) (F : Nat → Prop) (v : Value) (l : List Bool) : Prop := Reads w F v l.length (blsV l)
theorem IsBls.any {w w' : World} {F : Nat → Prop} {v : Value} {l : List Bool} (h : IsBls w F v l) (hb : Below w.heap.size w w') : IsBls w' F v l := Reads.any h hb
theorem IsBls.slc {w : World} {F : Nat → Prop} {v : Value} {l : List Bool} (h : IsBls w F v l) : ∃ p c, v = .slice p l.length c := by
  obtain ⟨p, c, e, _⟩ := h
  exact ⟨p, c, e⟩
theorem IsBls.at {w : World} {F : Nat → Prop} {p : Option Addr} {n c : Nat} {l : List Bool} (h : IsBls w F (.slice p n c) l) {k : Nat} {z : Bool} (hk : l[k]? = some z) : ∃ g o, p = some ⟨g, o, none⟩ ∧ g < w.heap.size ∧ w.cell? ⟨g, o + k, none⟩ = some (.bool z) := by
  obtain ⟨p2, c2, e2, _, hc⟩ := h
  injection e2 with e3
  subst e3
  have hlt := (List.getElem?_eq_some_iff.1 hk).1
  obtain ⟨g, o, e9, _, hg, cc, _⟩ := hc (by omega)
  exact ⟨g, o, e9, hg, cc k _ (by unfold blsV; rw [List.getElem?_map, hk]; rfl)⟩
def bolL (n : Nat) (M : Nat → Bool) : List Bool := (List.range n).map M
theorem bolL_length (n : Nat) (M : Nat → Bool) : (bolL n M).length = n := by simp [bolL]
theorem bolL_at {n : Nat} (M : Nat → Bool) {k : Nat} (h : k < n) : (bolL n M)[k]? = some (M k) := by simp [bolL, h]
theorem bolL_congr {n : Nat} {M N : Nat → Bool} (h : ∀ i, i < n → M i = N i) : bolL n M = bolL n N := by
  unfold bolL
  exact List.map_congr_left fun i hi => h i (List.mem_range.1 hi)
theorem BlAt.bls {w : World} {b n : Nat} {M : Nat → Bool} (h : BlAt w b n M) {F : Nat → Prop} (hF : F b) (hm : n ≤ maxLen) : IsBls w F (.slice (some ⟨b, 0, none⟩) n n) (bolL n M) := by
  refine ⟨some ⟨b, 0, none⟩, n, by rw [bolL_length], ⟨by rw [bolL_length]; exact hm, by rw [bolL_length]; exact Nat.le_refl _⟩, fun _ => ⟨b, 0, rfl, hF, h.lt, fun j c hj => ?_, fun j _ => ?_⟩⟩
  · unfold blsV at hj
    rw [List.getElem?_map] at hj
    by_cases hl : j < n
    · rw [bolL_at M hl] at hj
      injection hj with hj
      rw [Nat.zero_add, h.cell hl, ← hj]
    · rw [List.getElem?_eq_none (by rw [bolL_length]; omega)] at hj; cases hj
  · exact h.frozen _
set_option maxHeartbeats 2000000 in
theorem sameBls_yes (va vb : Value) (l : List Bool) (w : World) {F G : Nat → Prop} (ha : IsBls w F va l) (hb : IsBls w G vb l) (hl : l.length ≤ 100000000) :
    Calls Tryz.prog 7 #[va, vb] w fun e w' => e = .returned (.bool true) ∧ Hid (Below w.heap.size w w') := by
  obtain ⟨p, cp, rfl⟩ := ha.slc
  obtain ⟨q, cq, rfl⟩ := hb.slc
  have HA : Hid (IsBls w F (.slice p l.length cp) l) := ha
  have HB : Hid (IsBls w G (.slice q l.length cq) l) := hb
  clear ha hb
  go_enter Tryz.func7, Tryz.ntmps7
  go_wp2
  go_loopw [5] (fun i wr => ∃ k : Nat, k ≤ l.length ∧ i = .int .i64 k ∧ Hid (Below w.heap.size w wr)) (fun i _ => l.length - (intOf i).toNat)
  case atStart => exact ⟨0, by omega, rfl, Below.refl _ _⟩
  case round =>
    obtain ⟨k, hk, rfl, HW⟩ := hrel
    by_cases hlt : k < l.length
    · obtain ⟨t, ht⟩ : ∃ t, l[k]? = some t := ⟨_, List.getElem?_eq_getElem hlt⟩
      obtain ⟨g1, o1, hp, -, a0⟩ := (HA.out.any HW.out).at ht
      obtain ⟨g2, o2, hq, -, b0⟩ := (HB.out.any HW.out).at ht
      subst hp hq
      clear ht
      go_wp2
      go_quiet (fail)
      go_wp2
      go_roundw
      case rel => exact ⟨k + 1, by omega, by go_num, ⟨HW.out.os, HW.out.tape, HW.out.output, HW.out.size, HW.out.block⟩⟩
      case measure => simp [intOf]; omega
    · obtain rfl : k = l.length := by omega
      go_wp2
      go_ret
      exact ⟨rfl, HW⟩
def a9S : List Sy := [⟨-1, 5, 6⟩]
theorem a9m : mayG (a8G a9S) = true := by kernel_rfl
theorem a9l : edgesT (a8G a9S) = a8L := edgesT_eq (by unfold a8L; decide) (fun x => by
  have : allE (a8G a9S).rules = [(0, 1, true)] := by decide
  rw [this]; rfl)
theorem a9M {M : Nat → Bool} (h : Stb (a8G a9S).rules M) : bolL 2 M = [true, false] := by
  have h1 : M 1 = false := by
    rw [h.supp 1]
    simp [a8G, a9S, holB, conB, empB, symB]
  have h0 : M 0 = true := by
    rw [h.supp 0]
    simp [a8G, a9S, holB, conB, empB, symB, h1]
  simp [bolL, List.range, List.range.loop, h0, h1]
def a9P (n : Nat) : List Obj :=
  [.cells #[.string ⟨#[83]⟩, .string ⟨#[65]⟩] 9, .cells #[.int .i64 1, .int .i64 0, .int .i64 0] 57, .cells #[.bool true, .slice (some ⟨n + 1, 0, none⟩) 1 1] 43, .cells #[.int .i64 (-1), .int .i64 5, .int .i64 6] 57,
   .cells #[.bool false, .slice (some ⟨n + 1 + 1 + 1, 0, none⟩) 1 1] 43,
   .cells #[.int .i64 0, .slice (some ⟨n + 1 + 1, 0, none⟩) 1 1, .int .i64 1, .slice (some ⟨n + 1 + 1 + 1 + 1, 0, none⟩) 1 1] 40, .cells #[.int .i64 0, .slice (some ⟨n, 0, none⟩) 2 2, .slice (some ⟨n + 1 + 1 + 1 + 1 + 1, 0, none⟩) 2 2] 25]
theorem a9_gram (X : World) (n : Nat) (h : ∀ k o, (a9P n)[k]? = some o → X.heap[n + k]? = some o) : GrIs X Any (.slice (some ⟨n, 0, none⟩) 2 2) (.slice (some ⟨n + 1 + 1 + 1 + 1 + 1, 0, none⟩) 2 2) (a8G a9S) := by
  have i1 : IsSys X Any (.slice (some ⟨n + 1, 0, none⟩) 1 1) [⟨1, 0, 0⟩] := reads_laid (h 1 _ rfl) le11 rfl
  have c1 : IsCns X Any (.slice (some ⟨n + 1 + 1, 0, none⟩) 1 1) [⟨true, [⟨1, 0, 0⟩]⟩] := ⟨[_], reads_laid (h 2 _ rfl) le11 rfl, (CnsIn.nil _ _).snoc (c := ⟨true, [⟨1, 0, 0⟩]⟩) i1⟩
  have i2 : IsSys X Any (.slice (some ⟨n + 1 + 1 + 1, 0, none⟩) 1 1) a9S := reads_laid (h 3 _ rfl) le11 rfl
  have c2 : IsCns X Any (.slice (some ⟨n + 1 + 1 + 1 + 1, 0, none⟩) 1 1) [⟨false, a9S⟩] := ⟨[_], reads_laid (h 4 _ rfl) le11 rfl, (CnsIn.nil _ _).snoc (c := ⟨false, a9S⟩) i2⟩
  exact ⟨reads_laid (h 0 _ rfl) le22 rfl, [_, _], reads_laid (h 5 _ rfl) le22 rfl, ((RusIn.nil _ _).snoc (c := ⟨0, _⟩) c1).snoc (c := ⟨1, _⟩) c2⟩
theorem two_bls (w : World) (a b : Bool) : IsBls (w.alloc (.cells #[.bool a, .bool b] 4)) Any (.slice (some ⟨w.heap.size, 0, none⟩) 2 2) [a, b] := reads_laid (heap_alloc_new w _) le22 rfl
set_option maxHeartbeats 4000000 in
set_option maxRecDepth 100000 in
theorem awake9_any (w : World) : Calls Tryz.prog 10 #[] w fun e w' => e = .returned (.bool true) ∧ Hid (Below w.heap.size w w') := by
  obtain ⟨X, hX⟩ : ∃ X, X = blks w (a9P w.heap.size) := ⟨_, rfl⟩
  have hb : ∀ k o, (a9P w.heap.size)[k]? = some o → X.heap[w.heap.size + k]? = some o := fun k o ho => by rw [hX]; exact blks_at _ w k o ho
  have HBX : Hid (Below w.heap.size w X) := by rw [hX]; exact blks_below _ _
  have K1 : Calls Tryz.prog 5 #[.agg #[.int .i64 0, .slice (some ⟨w.heap.size, 0, none⟩) 2 2, .slice (some ⟨w.heap.size + 1 + 1 + 1 + 1 + 1, 0, none⟩) 2 2]] X fun e w' => ∃ u, e = .returned (.tuple #[u, .int .i64 0]) ∧ Hid (IsBls w' Any u [true, false]) ∧ Hid (Below X.heap.size X w') := by
    have h := nulls_ok (a8G a9S) (.slice (some ⟨w.heap.size, 0, none⟩) 2 2) (.slice (some ⟨w.heap.size + 1 + 1 + 1 + 1 + 1, 0, none⟩) 2 2) X (F := Any) (a9_gram X w.heap.size hb) (nm_ofE (by kernel_rfl)) (short_ofE (by kernel_rfl)) a9m (by rw [a9l]; exact a8f)
    exact h.mono fun e w' ⟨b, M, h1, h2, h3, h4, h5⟩ => ⟨_, h1, by rw [← a9M h3.out]; exact h4.out.bls trivial (by unfold maxLen; decide), h5⟩
  have K2 : Hid (∀ w', Calls Tryz.prog 5 #[.agg #[.int .i64 0, .slice none 0 0, .slice none 0 0]] w' fun e w'' => e = .returned (.tuple #[.slice none 0 0, .int .i64 900]) ∧ Hid (Below w'.heap.size w' w'')) := fun w' => nulls_no ⟨0, [], []⟩ _ _ w' (F := Any) ⟨textsE_nil _ _, rusE_nil _ _⟩ (nm_ofE rfl) (short_ofE rfl) (Or.inl a8z)
  have c0 := Lib.cell_of_heap (hb 6 _ rfl) 0
  have c1 := Lib.cell_of_heap (hb 6 _ rfl) 1
  have c2 := Lib.cell_of_heap (hb 6 _ rfl) 2
  have hX2 : (((((((w.alloc (.cells #[.string ⟨#[83]⟩, .string ⟨#[65]⟩] 9)).alloc (.cells #[.int .i64 1, .int .i64 0, .int .i64 0] 57)).alloc (.cells #[.bool true, .slice (some ⟨w.heap.size + 1, 0, none⟩) 1 1] 43)).alloc (.cells #[.int .i64 (-1), .int .i64 5, .int .i64 6] 57)).alloc (.cells #[.bool false, .slice (some ⟨w.heap.size + 1 + 1 + 1, 0, none⟩) 1 1] 43)).alloc (.cells #[.int .i64 0, .slice (some ⟨w.heap.size + 1 + 1, 0, none⟩) 1 1, .int .i64 1, .slice (some ⟨w.heap.size + 1 + 1 + 1 + 1, 0, none⟩) 1 1] 40)).alloc (.cells #[.int .i64 0, .slice (some ⟨w.heap.size, 0, none⟩) 2 2, .slice (some ⟨w.heap.size + 1 + 1 + 1 + 1 + 1, 0, none⟩) 2 2] 25)) = X := hX.symm
  clear hb hX
  go_enter Tryz.func10, Tryz.ntmps10
  go_upto_region 2 with fail
  clear hX2
  have d0 : X.cell? ⟨w.heap.size + 1 + 1 + 1 + 1 + 1 + 1, 0, none⟩ = some (.int .i64 0) := c0
  have d1 : X.cell? ⟨w.heap.size + 1 + 1 + 1 + 1 + 1 + 1, 1, none⟩ = some (.slice (some ⟨w.heap.size, 0, none⟩) 2 2) := c1
  have d2 : X.cell? ⟨w.heap.size + 1 + 1 + 1 + 1 + 1 + 1, 2, none⟩ = some (.slice (some ⟨w.heap.size + 1 + 1 + 1 + 1 + 1, 0, none⟩) 2 2) := c2
  clear c0 c1 c2
  go_upto_region 3 with (go_at_call 5; refine K1.mono ?_; rintro e w2 ⟨u1, rfl, I1, b2⟩)
  obtain ⟨p1, c1, hu1⟩ := I1.out.slc
  subst hu1
  have HB2 : Hid (Below w.heap.size w w2) := HBX.out.trans (b2.out.mono HBX.out.size)
  clear K1 d0 d1 d2
  go_wp2_with (first
    | (go_at_call 5; refine (K2.out _).mono ?_; rintro e w3 ⟨rfl, b3⟩; have HB3 : Hid (Below w.heap.size w w3) := HB2.out.trans (b3.out.mono HB2.out.size); have I2 : Hid (IsBls w3 Any (.slice p1 2 c1) [true, false]) := I1.out.any b3.out)
    | (go_at_call 7; refine (sameBls_yes _ _ [true, false] _ (I2.out.any (bel1 _ _)) (two_bls w3 true false) (by decide)).mono ?_; rintro e w5 ⟨rfl, b5⟩; have HB5 : Hid (Below w.heap.size w w5) := (bel_alloc HB3.out).trans (b5.out.mono (bel_alloc HB3.out).size))
    | (go_at_call 8; refine (num_any _ _).mono ?_; rintro e wn ⟨rfl, rfl⟩))
  go_ret
  exact ⟨rfl, HB5⟩
end Go.Proofs.YtejhdhlpdcfedaaGreat
