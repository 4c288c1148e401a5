/- A round of ranks: follow of the program, of a rest behind a symbol. -/
import Derived.Test.YtfjejnkjlnkkhaaGreatDoorGp
import Derived.BigRegion
namespace Go.Proofs.YtfjejnkjlnkkhaaGreatDoor
set_option linter.unusedVariables false
set_option linter.unusedSimpArgs false
open Go.ChangeShapes Go.WideShapes Go.ChangeAt Go.RowKit Go.Shelf

set_option maxHeartbeats 4000000 in
set_option maxRecDepth 100000 in
theorem followC_any {F : Nat → Prop} {g : Gr} {W : ByteArray} {D : Md} {T : SpM} {X : World} {R t : Nat} {K : Nat → Nat} {fd : List Fct} (w : World) (hs : Ws F g W D T X) (hT : MnOk (btsW W) W.size g.names.length g.rules T) {f : Nat → Nat} (hgo : GrOk g f) (h : Sx g W D T X R t K fd w) (hG : TabG w) (hrb : 0 < D.rb) {q c : Nat} {r : Ru} {d : Cn} (hr : g.rules[q]? = some r) (hd : r.conj[c]? = some d) {p : Nat} {s : Sy} (hsy : d.seq[p]? = some s) (a m : Nat) (hf : AtM g W T t (g.names.length + ofRu g.rules q c + p + 1) a m) :
    Calls Tryz.prog 49 #[.pointer (some ⟨R, 0, none⟩), .agg #[.int .i64 ((g.names.length : Int) + ((ofRu g.rules q c + p + 1 : Nat) : Int)), .int .i64 (a : Int), .int .i64 (m : Int)]] w fun e w' => e = .returned (.tuple #[]) ∧ Hid (Gives g W D T X R t K (fun K' => Cons (btsW W) W.size g.names.length g.rules (nmT g.names.length T) t K' (g.names.length + ofRu g.rules q c + p + 1) a m) w w') := by
  obtain ⟨P, hP⟩ : ∃ P : (Nat → Nat) → Prop, P = fun K' => Cons (btsW W) W.size g.names.length g.rules (nmT g.names.length T) t K' (g.names.length + ofRu g.rules q c + p + 1) a m := ⟨_, rfl⟩
  rw [← hP]
  have hp := (List.getElem?_eq_some_iff.1 hsy).1
  have hzl := ofRu_lt hr hd (p := p + 1) hp
  have hat := ruP_at (i := 0) hr hd (p := p + 1) hp
  rw [Nat.zero_add, ← Nat.add_assoc] at hat
  rw [← Nat.add_assoc] at hzl
  obtain ⟨z, hz⟩ : ∃ z, z = ofRu g.rules q c + p + 1 := ⟨_, rfl⟩
  obtain ⟨N, hNN⟩ : ∃ N, N = g.names.length := ⟨_, rfl⟩
  rw [← hz, ← hNN]
  rw [← hz] at hzl hat
  obtain ⟨X3, hX3⟩ : ∃ X3, X3 = w.alloc (.cells #[.int .i64 ((N : Int) + (z : Int)), .int .i64 (a : Int), .int .i64 (m : Int)] 109) := ⟨_, rfl⟩
  have hXb : Below w.heap.size w X3 := by rw [hX3]; exact bel1 _ _
  obtain ⟨nb, hnb⟩ : ∃ nb, nb = w.heap.size := ⟨_, rfl⟩
  have f0 : X3.cell? ⟨nb, 0, none⟩ = some (.int .i64 ((N : Int) + (z : Int))) := by rw [hnb, hX3]; exact World.cell?_alloc_at _ _ _ _ rfl
  have f1 : X3.cell? ⟨nb, 1, none⟩ = some (.int .i64 (a : Int)) := by rw [hnb, hX3]; exact World.cell?_alloc_at _ _ _ _ rfl
  have f2 : X3.cell? ⟨nb, 2, none⟩ = some (.int .i64 (m : Int)) := by rw [hnb, hX3]; exact World.cell?_alloc_at _ _ _ _ rfl
  have hX := h.any hXb
  obtain ⟨hW, hHas⟩ := hs.at hX.rs.bu
  have hR1 : R < w.heap.size := block_lt_of_cell h.rs.r0
  have r0 := hX.rs.r0
  have k0 := hW.k0
  have k5 := hW.k5
  have k1 := hW.k1
  have k2 := hW.k2
  have k3 := hW.k3
  have t1 := hW.t1
  have hin := hf.1
  obtain ⟨g5, o5, e5, hg5, p0, p1, p2⟩ := hW.pl.at hat
  rw [e5] at k5
  dsimp only at p0 p1 p2
  have hcons : ∀ K' : Nat → Nat, (s.name ≠ -1 → ∀ i, AtM g W T t s.name.toNat i a → K' (idx W.size (g.names.length + ofRu g.rules q c + p) i m) ≠ 0) → (s.name = -1 → ∀ i, i + 1 = a → inR (btsW W) s i = true → K' (idx W.size (g.names.length + ofRu g.rules q c + p) i m) ≠ 0) → P K' := fun K' hK1 hK2 => by
    rw [hP]
    refine ⟨fun hlt => absurd hlt (by omega), fun q' c' p' r' d' s' h1 h2 h3 h4 => ?_, fun q' c' p' r' d' s' h1 h2 h3 h4 => ?_, fun q' c' r' d' h1 h2 h3 => ?_⟩
    · have hp' := (List.getElem?_eq_some_iff.1 h3).1
      obtain ⟨rfl, rfl, e⟩ := ofRu_inj hr h1 hd h2 (p := p + 1) hp (p' := p' + 1) hp' (by omega)
      obtain rfl : p = p' := by omega
      rw [hr] at h1; injection h1 with h1; subst h1
      rw [hd] at h2; injection h2 with h2; subst h2
      rw [hsy] at h3; injection h3 with h3; subst h3
      exact hK1
    · have hp' := (List.getElem?_eq_some_iff.1 h3).1
      obtain ⟨rfl, rfl, e⟩ := ofRu_inj hr h1 hd h2 (p := p + 1) hp (p' := p' + 1) hp' (by omega)
      obtain rfl : p = p' := by omega
      rw [hr] at h1; injection h1 with h1; subst h1
      rw [hd] at h2; injection h2 with h2; subst h2
      rw [hsy] at h3; injection h3 with h3; subst h3
      exact hK2
    · obtain ⟨-, -, e⟩ := ofRu_inj hr h1 hd h2 (p := p + 1) hp (Nat.zero_le _) (by omega)
      omega
  obtain ⟨nm, lo, up⟩ := s
  dsimp only at hcons
  have hnm := hgo.sy r (List.mem_of_getElem? hr) d (List.mem_of_getElem? hd) _ (List.mem_of_getElem? hsy)
  dsimp only at hnm
  obtain ⟨st, hst⟩ : ∃ st, st = g.start := ⟨_, rfl⟩
  obtain ⟨dv, hdv⟩ : ∃ dv, dv = D.v1 := ⟨_, rfl⟩
  obtain ⟨pr, hpr⟩ : ∃ pr, pr = D.pr := ⟨_, rfl⟩
  obtain ⟨rl, hrl⟩ : ∃ rl, rl = g.rules.length := ⟨_, rfl⟩
  rw [← hst] at k1
  rw [← hdv] at k2
  rw [← hpr, ← hrl] at k3
  have KS : Hid (∀ w', Below X3.heap.size X3 w' → Calls Tryz.prog 63 #[.agg #[.int .i64 st, dv, .slice pr rl D.cr], .agg #[.int .i64 (q : Int), .int .i64 (c : Int), .int .i64 (p : Int)]] w' fun e w'' => e = .returned (.tuple #[.agg #[.int .i64 nm, .int .i64 lo, .int .i64 up], .bool true]) ∧ Hid (Below w'.heap.size w' w'')) := fun w' hb => by
    have := symbol_any F g W D w' (hs.at (hX.any hb).rs.bu).1 hs.fm hr hd (p := p) (by omega) hgo.pl
    rw [hsy, ← hst, ← hdv, ← hpr, ← hrl] at this
    exact this
  have hρA : g.names.length + ofRu g.rules q c + p + 1 < allN g := by unfold allN; omega
  have KF : Hid (∀ w', Below X3.heap.size X3 w' → Calls Tryz.prog 74 #[.pointer (some ⟨R, 0, none⟩), .agg #[.int .i64 nm, .int .i64 lo, .int .i64 up], .agg #[.int .i64 ((N : Int) + (z : Int)), .int .i64 (a : Int), .int .i64 (m : Int)]] w' fun e w'' => e = .returned (.tuple #[]) ∧ Hid (Gives g W D T X R t K P w w'')) := fun w' hb => by
    have hb2 : Below w.heap.size w w' := hXb.trans (hb.mono hXb.size)
    have estep : ∀ i, i ≤ m → StR (btsW W) g.names.length (At (btsW W) W.size g.names.length g.rules (nmT g.names.length T) t) (g.names.length + ofRu g.rules q c + p) (some ⟨nm, lo, up⟩) i m → AtM g W T (t + 1) (g.names.length + ofRu g.rules q c + p) i m := fun i hi hst => at_step hgo.nm hr hd (by omega) hi hin.2 (by rw [hsy]; exact hst)
    by_cases hn1 : nm = -1
    · subst hn1
      have := followRestB_any w' hs (hX.any hb) lo up (g.names.length + ofRu g.rules q c + p) a m hρA hin.1 hin.2 (fun i hi hir => estep i (by have := hin.1; omega) (by
        unfold StR
        show if (-1 : Int) = -1 then _ else _
        rw [if_pos rfl]
        exact ⟨by have := hin.1; omega, hir, by rw [hi]; exact hf⟩))
      rw [show ((g.names.length + ofRu g.rules q c + p : Nat) : Int) + 1 = (N : Int) + (z : Int) by omega] at this
      refine this.mono ?_
      rintro e w'' ⟨rfl, hg⟩
      exact ⟨rfl, (hg.out.mono fun K' hK => hcons K' (fun h => absurd rfl h) (fun _ => hK)).from (Kq.of hb2 hR1)⟩
    · have hnm2 := hnm.resolve_left hn1
      obtain ⟨x, rfl⟩ : ∃ x : Nat, nm = (x : Int) := ⟨nm.toNat, by omega⟩
      have := followRestN_any w' hs hT (hX.any hb) ((Kg.ofB hb2).tab hG) hrb lo up x (g.names.length + ofRu g.rules q c + p) a m (by omega) hρA hin.1 hin.2 (fun i hi => estep i (by have := hin.1; have := hi.1.1; omega) (by
        unfold StR
        show if (x : Int) = -1 then _ else _
        rw [if_neg hn1]
        exact ⟨a, hi.1.1, hin.1, hi, hf⟩))
      rw [show ((g.names.length + ofRu g.rules q c + p : Nat) : Int) + 1 = (N : Int) + (z : Int) by omega] at this
      refine this.mono ?_
      rintro e w'' ⟨rfl, hg⟩
      exact ⟨rfl, (hg.out.mono fun K' hK => hcons K' (fun _ => hK) (fun h => absurd h hn1)).from (Kq.of hb2 hR1)⟩
  have hNl : N ≤ 64 := by rw [hNN]; exact hgo.nn
  obtain ⟨l, hl⟩ : ∃ l, l = (ruP 0 g.rules).length := ⟨_, rfl⟩
  rw [← hl] at k5 hzl
  rw [← hNN] at t1
  have hzI : (z : Int) < (l : Int) := by omega
  have hAA := hs.hA
  have hlA : l ≤ 200000 := by rw [hl]; unfold allN at hAA; omega
  have hwz : IntKind.i64.wrap (z : Int) = (z : Int) := by rw [IntKind.wrap_i64]; omega
  have hwz2 : IntKind.i64.wrap ((N : Int) + (z : Int) - (N : Int)) = (z : Int) := by rw [IntKind.wrap_i64]; omega
  have d1 : decide ((N : Int) + (z : Int) < (N : Int)) = false := decide_eq_false (by omega)
  have hp64 : p < 64 := by have := (hgo.pl.2 r (List.mem_of_getElem? hr)).2 d (List.mem_of_getElem? hd); omega
  rw [show ((p + 1 : Nat) : Int) = (p : Int) + 1 by omega] at p2
  have n0 : ((p : Int) + 1 == 0) = false := by rw [beq_eq_false_iff_ne]; omega
  have hwp : IntKind.i64.wrap (p : Int) = (p : Int) := by rw [IntKind.wrap_i64]; omega
  clear hst hdv hpr hrl hs hT hgo h hG hrb hf hX hW hHas hXb hR1 hin hcons hP hNN hz hat hr hd hsy hl e5 hAA hnm hρA hp
  go_enter Tryz.func49, Tryz.ntmps49
  go_upto_region 1 with fail
  rw [← hX3, ← hnb]
  clear hX3 hnb
  go_quiet (fail)
  go_wp2
  obtain ⟨Y, hY⟩ : ∃ Y, Y = X3.drewN nq := ⟨_, rfl⟩
  have HYB : Hid (Below X3.heap.size X3 Y) := by show Below _ _ _; rw [hY]; exact below_drewN (Below.refl _ _) _
  rw [← hY]
  have cc : ∀ {k o : Nat} {v : Value}, X3.cell? ⟨k, o, none⟩ = some v → Y.cell? ⟨k, o, none⟩ = some v := fun {k o v} hv => (HYB.out.cell (p := ⟨k, o, none⟩) (block_lt_of_cell hv)).trans hv
  have y0 := cc f0
  have y1 := cc f1
  have y2 := cc f2
  have y3 := cc r0
  have y4 := cc k0
  have y5 := cc k5
  have y6 := cc t1
  have y7 := cc p0
  have y8 := cc p1
  have y9 := cc p2
  have y10 := cc k1
  have y11 := cc k2
  have y12 := cc k3
  clear cc hY f0 f1 f2 r0 k0 k5 t1 p0 p1 p2 k1 k2 k3
  have l0 : nb < Y.heap.size := block_lt_of_cell y0
  have l1 : R < Y.heap.size := block_lt_of_cell y3
  have l2 : D.kb < Y.heap.size := block_lt_of_cell y4
  have l3 : D.tb < Y.heap.size := block_lt_of_cell y6
  have l4 : g5 < Y.heap.size := block_lt_of_cell y7
  go_region
  go_upto_region 7 with fail
  obtain ⟨V, hV⟩ : ∃ V, V = (Y.alloc (.cells #[.int .i64 (q : Int), .int .i64 (c : Int), .int .i64 (p : Int)] 56)).drew := ⟨_, rfl⟩
  obtain ⟨nb2, hnb2⟩ : ∃ nb2, nb2 = Y.heap.size := ⟨_, rfl⟩
  rw [← hV, ← hnb2]
  have hVb : Below Y.heap.size Y V := by rw [hV]; exact (bel1 _ _).drew
  have HVB : Hid (Below X3.heap.size X3 V) := HYB.out.trans (hVb.mono HYB.out.size)
  have v0 : V.cell? ⟨nb2, 0, none⟩ = some (.int .i64 (q : Int)) := by rw [hnb2, hV]; exact World.cell?_alloc_at _ _ _ _ rfl
  have v1 : V.cell? ⟨nb2, 1, none⟩ = some (.int .i64 (c : Int)) := by rw [hnb2, hV]; exact World.cell?_alloc_at _ _ _ _ rfl
  have v2 : V.cell? ⟨nb2, 2, none⟩ = some (.int .i64 (p : Int)) := by rw [hnb2, hV]; exact World.cell?_alloc_at _ _ _ _ rfl
  have u0 := (hVb.cell (p := ⟨nb, 0, none⟩) l0).trans y0
  have u1 := (hVb.cell (p := ⟨nb, 1, none⟩) l0).trans y1
  have u2 := (hVb.cell (p := ⟨nb, 2, none⟩) l0).trans y2
  have u3 := (hVb.cell (p := ⟨R, 0, none⟩) l1).trans y3
  have u4 := (hVb.cell (p := ⟨D.kb, 1, none⟩) l2).trans y10
  have u5 := (hVb.cell (p := ⟨D.kb, 2, none⟩) l2).trans y11
  have u6 := (hVb.cell (p := ⟨D.kb, 3, none⟩) l2).trans y12
  have m0 : nb < V.heap.size := block_lt_of_cell u0
  have m1 : R < V.heap.size := block_lt_of_cell u3
  have m3 : D.kb < V.heap.size := block_lt_of_cell u4
  have m2 : nb2 < V.heap.size := block_lt_of_cell v0
  clear y0 y1 y2 y3 y4 y5 y6 y7 y8 y9 y10 y11 y12 l0 l1 l2 l3 l4 hV hnb2 hVb HYB
  have HSC : Hid (∀ w', Below V.heap.size V w' → w'.cell? ⟨R, 0, none⟩ = some (.pointer (some ⟨D.kb, 0, none⟩)) ∧ w'.cell? ⟨nb2, 0, none⟩ = some (.int .i64 (q : Int)) ∧ w'.cell? ⟨nb2, 1, none⟩ = some (.int .i64 (c : Int)) ∧ w'.cell? ⟨nb2, 2, none⟩ = some (.int .i64 (p : Int)) ∧ w'.cell? ⟨D.kb, 1, none⟩ = some (.int .i64 st) ∧ w'.cell? ⟨D.kb, 2, none⟩ = some dv ∧ w'.cell? ⟨D.kb, 3, none⟩ = some (.slice pr rl D.cr)) := fun w' hb => ⟨(hb.cell (p := ⟨_, _, none⟩) m1).trans u3, (hb.cell (p := ⟨_, _, none⟩) m2).trans v0, (hb.cell (p := ⟨_, _, none⟩) m2).trans v1, (hb.cell (p := ⟨_, _, none⟩) m2).trans v2, (hb.cell (p := ⟨_, _, none⟩) m3).trans u4, (hb.cell (p := ⟨_, _, none⟩) m3).trans u5, (hb.cell (p := ⟨_, _, none⟩) m3).trans u6⟩
  have KS2 : Hid (∀ w', Below V.heap.size V w' → Calls Tryz.prog 63 #[.agg #[.int .i64 st, dv, .slice pr rl D.cr], .agg #[.int .i64 (q : Int), .int .i64 (c : Int), .int .i64 (p : Int)]] w' fun e w'' => e = .returned (.tuple #[.agg #[.int .i64 nm, .int .i64 lo, .int .i64 up], .bool true]) ∧ Hid (Below V.heap.size V w'')) := fun w' hb => (KS.out w' (HVB.out.trans (hb.mono HVB.out.size))).mono fun e w'' ⟨h1, h2⟩ => ⟨h1, hb.trans (h2.out.mono hb.size)⟩
  go_region_held3 (fun w' => Below V.heap.size V w' ∧ w'.cell? ⟨R, 0, none⟩ = some (.pointer (some ⟨D.kb, 0, none⟩)) ∧ w'.cell? ⟨nb2, 0, none⟩ = some (.int .i64 (q : Int)) ∧ w'.cell? ⟨nb2, 1, none⟩ = some (.int .i64 (c : Int)) ∧ w'.cell? ⟨nb2, 2, none⟩ = some (.int .i64 (p : Int)) ∧ w'.cell? ⟨D.kb, 1, none⟩ = some (.int .i64 st) ∧ w'.cell? ⟨D.kb, 2, none⟩ = some dv ∧ w'.cell? ⟨D.kb, 3, none⟩ = some (.slice pr rl D.cr))
    ((refine (fun hb => ⟨hb, HSC.out _ hb⟩ : Below V.heap.size V _ → _) ?_; repeat' (first | with_reducible assumption | with_reducible exact Below.refl _ _ | with_reducible apply Below.drew | with_reducible refine Below.alloc ?_ ?_ _ | with_reducible refine Below.setCell ?_ ?_ _ | exact Nat.le_refl _ | (first | exact b4.size | (have := b4.size; simp; omega) | (simp; omega)))))
    ((first | (go_at_call 63; refine (KS.out _ HVB.out.drew).mono ?_; rintro e w4 ⟨rfl, hb2⟩; have b4 : Below V.heap.size V w4 := ((Below.refl _ V).drew).trans hb2.out; clear hb2) | (go_at_call 63; refine (KS.out _ (HVB.out.alloc HVB.out.size _).drew).mono ?_; rintro e w4 ⟨rfl, hb2⟩; have b4 : Below V.heap.size V w4 := ((bel1 V _).drew).trans (hb2.out.mono (by simp)); have zz0 : w4.cell? ⟨V.heap.size, 0, none⟩ = some (.int .i64 0) := (hb2.out.cell (p := ⟨V.heap.size, 0, none⟩) (by simp)).trans (World.cell?_alloc_at _ _ _ _ rfl); have zz1 : w4.cell? ⟨V.heap.size, 1, none⟩ = some (.int .i64 0) := (hb2.out.cell (p := ⟨V.heap.size, 1, none⟩) (by simp)).trans (World.cell?_alloc_at _ _ _ _ rfl); have zz2 : w4.cell? ⟨V.heap.size, 2, none⟩ = some (.int .i64 0) := (hb2.out.cell (p := ⟨V.heap.size, 2, none⟩) (by simp)).trans (World.cell?_alloc_at _ _ _ _ rfl); have zf0 : w4.frozen? ⟨V.heap.size, 0, none⟩ = false := (hb2.out.frozen (p := ⟨V.heap.size, 0, none⟩) (by simp)).trans (World.frozen?_alloc_at _ _ _ _ rfl); have zf1 : w4.frozen? ⟨V.heap.size, 1, none⟩ = false := (hb2.out.frozen (p := ⟨V.heap.size, 1, none⟩) (by simp)).trans (World.frozen?_alloc_at _ _ _ _ rfl); have zf2 : w4.frozen? ⟨V.heap.size, 2, none⟩ = false := (hb2.out.frozen (p := ⟨V.heap.size, 2, none⟩) (by simp)).trans (World.frozen?_alloc_at _ _ _ _ rfl); clear hb2)))
  · obtain ⟨Z, hZ⟩ : ∃ Z, Z = w4.alloc (.cells #[.int .i64 nm, .int .i64 lo, .int .i64 up] 44) := ⟨_, rfl⟩
    obtain ⟨nb3, hnb3⟩ : ∃ nb3, nb3 = w4.heap.size := ⟨_, rfl⟩
    rw [← hZ, ← hnb3]
    have hzb : Below V.heap.size V Z := by rw [hZ]; exact b4.alloc b4.size _
    have x0 : Z.cell? ⟨nb3, 0, none⟩ = some (.int .i64 nm) := by rw [hnb3, hZ]; exact World.cell?_alloc_at _ _ _ _ rfl
    have x1 : Z.cell? ⟨nb3, 1, none⟩ = some (.int .i64 lo) := by rw [hnb3, hZ]; exact World.cell?_alloc_at _ _ _ _ rfl
    have x2 : Z.cell? ⟨nb3, 2, none⟩ = some (.int .i64 up) := by rw [hnb3, hZ]; exact World.cell?_alloc_at _ _ _ _ rfl
    have HZB : Hid (Below X3.heap.size X3 Z) := HVB.out.trans (hzb.mono HVB.out.size)
    have w0 := (hzb.cell (p := ⟨nb, 0, none⟩) m0).trans u0
    have w1 := (hzb.cell (p := ⟨nb, 1, none⟩) m0).trans u1
    have w2 := (hzb.cell (p := ⟨nb, 2, none⟩) m0).trans u2
    clear hzb hZ hnb3 b4 u0 u1 u2 u3 u4 u5 u6 m3 v0 v1 v2 m0 m1 m2 HSC KS2 KS
    go_wp2_with (go_at_call 74; refine (KF.out _ HZB.out).mono ?_; rintro e w5 ⟨rfl, g5⟩)
    go_end0
    exact ⟨rfl, g5⟩
  · obtain ⟨Z, hZ⟩ : ∃ Z, Z = ((w4.setCell ⟨V.heap.size, 0, none⟩ (.int .i64 nm)).setCell ⟨V.heap.size, 1, none⟩ (.int .i64 lo)).setCell ⟨V.heap.size, 2, none⟩ (.int .i64 up) := ⟨_, rfl⟩
    obtain ⟨nb3, hnb3⟩ : ∃ nb3, nb3 = V.heap.size := ⟨_, rfl⟩
    rw [← hZ, ← hnb3]
    have hzb : Below V.heap.size V Z := by rw [hZ]; exact ((b4.setCell (p := ⟨V.heap.size, 0, none⟩) (Nat.le_refl _) _).setCell (p := ⟨V.heap.size, 1, none⟩) (Nat.le_refl _) _).setCell (p := ⟨V.heap.size, 2, none⟩) (Nat.le_refl _) _
    have x0 : Z.cell? ⟨nb3, 0, none⟩ = some (.int .i64 nm) := by rw [hnb3, hZ, World.cell?_setCell_other _ _ _ _ (by simp), World.cell?_setCell_other _ _ _ _ (by simp)]; exact World.cell?_setCell_same _ _ _ zz0
    have x1 : Z.cell? ⟨nb3, 1, none⟩ = some (.int .i64 lo) := by rw [hnb3, hZ, World.cell?_setCell_other _ _ _ _ (by simp)]; exact World.cell?_setCell_same _ _ _ ((World.cell?_setCell_other _ _ _ _ (by simp)).trans zz1)
    have x2 : Z.cell? ⟨nb3, 2, none⟩ = some (.int .i64 up) := by rw [hnb3, hZ]; exact World.cell?_setCell_same _ _ _ (((World.cell?_setCell_other _ _ _ _ (by simp)).trans (World.cell?_setCell_other _ _ _ _ (by simp))).trans zz2)
    clear zz0 zz1 zz2 zf0 zf1 zf2
    have HZB : Hid (Below X3.heap.size X3 Z) := HVB.out.trans (hzb.mono HVB.out.size)
    have w0 := (hzb.cell (p := ⟨nb, 0, none⟩) m0).trans u0
    have w1 := (hzb.cell (p := ⟨nb, 1, none⟩) m0).trans u1
    have w2 := (hzb.cell (p := ⟨nb, 2, none⟩) m0).trans u2
    clear hzb hZ hnb3 b4 u0 u1 u2 u3 u4 u5 u6 m3 v0 v1 v2 m0 m1 m2 HSC KS2 KS
    go_wp2_with (go_at_call 74; refine (KF.out _ HZB.out).mono ?_; rintro e w5 ⟨rfl, g5⟩)
    go_end0
    exact ⟨rfl, g5⟩
end Go.Proofs.YtfjejnkjlnkkhaaGreatDoor
