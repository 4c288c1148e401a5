import Derived.Test.YtfjejnkjlnkkhaaGreatDoorMeaN
import Derived.BigRegion
/- A round of ranks: follow of the program. -/
namespace Go.Proofs.YtfjejnkjlnkkhaaGreatDoor
set_option linter.unusedVariables false
set_option linter.unusedSimpArgs false
open Go.ChangeShapes Go.WideShapes Go.ChangeAt Go.RowKit Go.Shelf

/-- A rest's span that is given is in the table. -/
theorem AtM.rtab {g : Gr} {W : ByteArray} {T : SpM} {t q c p i j : Nat} {r : Ru} {d : Cn} (hN : NmIn g.names.length g.rules) (hT : MnOk (btsW W) W.size g.names.length g.rules T) (hr : g.rules[q]? = some r) (hd : r.conj[c]? = some d) (hp : p ≤ d.seq.length) (h : AtM g W T t (g.names.length + ofRu g.rules q c + p) i j) : T (g.names.length + ofRu g.rules q c + p) i j = true := by
  cases t with
  | zero =>
    have := ((at_rest hr hd hp).1 h).2
    simp [rkS] at this
  | succ t =>
    obtain ⟨h1, h2, -⟩ := (at_restS hN hr hd hp).1 h
    have := hT.rs q c p i j r d hr hd hp h1.1 h1.2
    rw [h2] at this
    exact this
theorem Gives.mono {g : Gr} {W : ByteArray} {D : Md} {T : SpM} {X : World} {R t : Nat} {K : Nat → Nat} {P Q : (Nat → Nat) → Prop} {w w' : World} (h : Gives g W D T X R t K P w w') (hPQ : ∀ K', P K' → Q K') : Gives g W D T X R t K Q w w' := by
  obtain ⟨K', fd', h1, h2, h3, h4⟩ := h
  exact ⟨K', fd', h1, h2, hPQ K' h3, h4⟩
theorem Gives.from {g : Gr} {W : ByteArray} {D : Md} {T : SpM} {X : World} {R t : Nat} {K : Nat → Nat} {P : (Nat → Nat) → Prop} {w w1 w' : World} (hk : Kq R D.rb w w1) (h : Gives g W D T X R t K P w1 w') : Gives g W D T X R t K P w w' := by
  obtain ⟨K', fd', h1, h2, h3, h4⟩ := h
  exact ⟨K', fd', h1, h2, h3, hk.trans h4⟩
set_option maxHeartbeats 4000000 in
set_option maxRecDepth 100000 in
theorem followA_any {F : Nat → Prop} {g : Gr} {W : ByteArray} {D : Md} {T : SpM} {X : World} {R t : Nat} {K : Nat → Nat} {fd : List Fct} (w : World) (hs : Ws F g W D T X) (hT : MnOk (btsW W) W.size g.names.length g.rules T) {f : Nat → Nat} (hgo : GrOk g f) (h : Sx g W D T X R t K fd w) (hG : TabG w) (hrb : 0 < D.rb) (y a m : Nat) (hy : y < g.names.length) (hf : AtM g W T t y a m) :
    Calls Tryz.prog 49 #[.pointer (some ⟨R, 0, none⟩), .agg #[.int .i64 (y : Int), .int .i64 (a : Int), .int .i64 (m : Int)]] w fun e w' => e = .returned (.tuple #[]) ∧ Hid (Gives g W D T X R t K (fun K' => Cons (btsW W) W.size g.names.length g.rules (nmT g.names.length T) t K' y a m) w w') := by
  obtain ⟨X3, hX3⟩ : ∃ X3, X3 = w.alloc (.cells #[.int .i64 (y : Int), .int .i64 (a : Int), .int .i64 (m : Int)] 109) := ⟨_, rfl⟩
  have hXb : Below w.heap.size w X3 := by rw [hX3]; exact bel1 _ _
  obtain ⟨nb, hnb⟩ : ∃ nb, nb = w.heap.size := ⟨_, rfl⟩
  have f0 : X3.cell? ⟨nb, 0, none⟩ = some (.int .i64 (y : Int)) := by rw [hnb, hX3]; exact World.cell?_alloc_at _ _ _ _ rfl
  have f1 : X3.cell? ⟨nb, 1, none⟩ = some (.int .i64 (a : Int)) := by rw [hnb, hX3]; exact World.cell?_alloc_at _ _ _ _ rfl
  have f2 : X3.cell? ⟨nb, 2, none⟩ = some (.int .i64 (m : Int)) := by rw [hnb, hX3]; exact World.cell?_alloc_at _ _ _ _ rfl
  have hX := h.any hXb
  obtain ⟨hW, hHas⟩ := hs.at hX.rs.bu
  have hR1 : R < w.heap.size := block_lt_of_cell h.rs.r0
  have r0 := hX.rs.r0
  have k0 := hW.k0
  have t1 := hW.t1
  have hin := hf.1
  have hcons : ∀ K' : Nat → Nat, (∀ ζ : Nat, ((ζ : Int) - 1) ∈ ahL g.names.length g.rules y → ∀ j, AtM g W T t ζ m j → K' (idx W.size (ζ - 1) a j) ≠ 0) → Cons (btsW W) W.size g.names.length g.rules (nmT g.names.length T) t K' y a m := fun K' hK => by
    refine ⟨fun _ q c p r d s h1 h2 h3 h4 h5 j hj => ?_, fun q c p r d s h1 h2 h3 h4 => ?_, fun q c p r d s h1 h2 h3 h4 => ?_, fun q c r d h1 h2 h3 => ?_⟩
    · have := hK (g.names.length + ofRu g.rules q c + p + 1) (by
        rw [show ((g.names.length + ofRu g.rules q c + p + 1 : Nat) : Int) - 1 = ((g.names.length + ofRu g.rules q c + p : Nat) : Int) by omega]
        exact ahL_all h1 h2 h3 h4 h5) j hj
      rw [show g.names.length + ofRu g.rules q c + p + 1 - 1 = g.names.length + ofRu g.rules q c + p by omega] at this
      exact this
    · omega
    · omega
    · omega
  have KF : Hid (∀ w', Below X3.heap.size X3 w' → Calls Tryz.prog 72 #[.pointer (some ⟨R, 0, none⟩), .agg #[.int .i64 (y : Int), .int .i64 (a : Int), .int .i64 (m : Int)]] w' fun e w'' => e = .returned (.tuple #[]) ∧ Hid (Gives g W D T X R t K (fun K' => Cons (btsW W) W.size g.names.length g.rules (nmT g.names.length T) t K' y a m) w w'')) := fun w' hb => by
    have hb2 : Below w.heap.size w w' := hXb.trans (hb.mono hXb.size)
    refine (followName_any w' hs hT (hX.any hb) ((Kg.ofB hb2).tab hG) hrb y a m hy hin.1 hin.2 ?_).mono ?_
    · intro z hz
      obtain ⟨q, c, p, r, d, s, h1, h2, h3, h4, h5, rfl⟩ := ahL_in hz
      have hp := (List.getElem?_eq_some_iff.1 h3).1
      refine ⟨g.names.length + ofRu g.rules q c + (p + 1), by omega, ?_, by omega, fun j hj => ⟨AtM.rtab hgo.nm hT h1 h2 hp hj, ?_⟩⟩
      · have := ofRu_lt h1 h2 (p := p + 1) hp; unfold allN; omega
      · rw [show g.names.length + ofRu g.rules q c + (p + 1) - 1 = g.names.length + ofRu g.rules q c + p by omega]
        refine at_step hgo.nm h1 h2 (by omega) (by have := hj.1.1; have := hin.1; omega) hj.1.2 ?_
        unfold StR
        rw [h3]
        show if s.name = -1 then _ else _
        rw [if_neg h4]
        exact ⟨m, hin.1, hj.1.1, by rw [h5]; exact hf, hj⟩
    · rintro e w'' ⟨rfl, hg⟩
      exact ⟨rfl, (hg.out.mono hcons).from (Kq.of hb2 hR1)⟩
  obtain ⟨P, hP⟩ : ∃ P : (Nat → Nat) → Prop, P = fun K' => Cons (btsW W) W.size g.names.length g.rules (nmT g.names.length T) t K' y a m := ⟨_, rfl⟩
  rw [← hP] at KF ⊢
  obtain ⟨N, hNN⟩ : ∃ N, N = g.names.length := ⟨_, rfl⟩
  rw [← hNN] at t1 hy
  have hyI : (y : Int) < (N : Int) := by omega
  clear hs hT hgo h hG hrb hf hX hW hHas hXb hR1 hin hcons hP hNN
  go_enter Tryz.func49, Tryz.ntmps49
  go_upto_region 1 with fail
  rw [← hX3, ← hnb]
  clear hX3 hnb
  go_quiet (fail)
  go_wp2_with (go_at_call 72; refine (KF.out _ (below_drewN (Below.refl _ _) _)).mono ?_; rintro e w5 ⟨rfl, g5⟩)
  refine bodyPost_ret (v := .tuple #[]) (results_none rfl _ _ _) rfl ⟨rfl, g5⟩
end Go.Proofs.YtfjejnkjlnkkhaaGreatDoor
/- A round of ranks: follow of the program, of a rest. -/
namespace Go.Proofs.YtfjejnkjlnkkhaaGreatDoor
set_option linter.unusedVariables false
set_option linter.unusedSimpArgs false
open Go.ChangeShapes Go.WideShapes Go.ChangeAt Go.RowKit Go.Shelf

set_option maxHeartbeats 4000000 in
set_option maxRecDepth 100000 in
theorem followB_any {F : Nat → Prop} {g : Gr} {W : ByteArray} {D : Md} {T : SpM} {X : World} {R t : Nat} {K : Nat → Nat} {fd : List Fct} (w : World) (hs : Ws F g W D T X) (hT : MnOk (btsW W) W.size g.names.length g.rules T) {f : Nat → Nat} (hgo : GrOk g f) (h : Sx g W D T X R t K fd w) (hG : TabG w) (hrb : 0 < D.rb) {q c : Nat} {r : Ru} {d : Cn} (hr : g.rules[q]? = some r) (hd : r.conj[c]? = some d) (a m : Nat) (hf : AtM g W T t (g.names.length + ofRu g.rules q c) a m) :
    Calls Tryz.prog 49 #[.pointer (some ⟨R, 0, none⟩), .agg #[.int .i64 ((g.names.length : Int) + (ofRu g.rules q c : Int)), .int .i64 (a : Int), .int .i64 (m : Int)]] w fun e w' => e = .returned (.tuple #[]) ∧ Hid (Gives g W D T X R t K (fun K' => Cons (btsW W) W.size g.names.length g.rules (nmT g.names.length T) t K' (g.names.length + ofRu g.rules q c) a m) w w') := by
  obtain ⟨P, hP⟩ : ∃ P : (Nat → Nat) → Prop, P = fun K' => Cons (btsW W) W.size g.names.length g.rules (nmT g.names.length T) t K' (g.names.length + ofRu g.rules q c) a m := ⟨_, rfl⟩
  rw [← hP]
  obtain ⟨y, hy⟩ : ∃ y, y = g.names.length + ofRu g.rules q c := ⟨_, rfl⟩
  have hzl := ofRu_lt hr hd (Nat.zero_le _)
  have hat := ruP_at (i := 0) hr hd (Nat.zero_le _)
  rw [Nat.add_zero] at hzl hat
  rw [Nat.zero_add] at hat
  obtain ⟨z, hz⟩ : ∃ z, z = ofRu g.rules q c := ⟨_, rfl⟩
  obtain ⟨N, hNN⟩ : ∃ N, N = g.names.length := ⟨_, rfl⟩
  rw [← hz, ← hNN]
  rw [← hz] at hzl hat
  obtain ⟨X3, hX3⟩ : ∃ X3, X3 = w.alloc (.cells #[.int .i64 ((N : Int) + (z : Int)), .int .i64 (a : Int), .int .i64 (m : Int)] 109) := ⟨_, rfl⟩
  have hXb : Below w.heap.size w X3 := by rw [hX3]; exact bel1 _ _
  obtain ⟨nb, hnb⟩ : ∃ nb, nb = w.heap.size := ⟨_, rfl⟩
  have f0 : X3.cell? ⟨nb, 0, none⟩ = some (.int .i64 ((N : Int) + (z : Int))) := by rw [hnb, hX3]; exact World.cell?_alloc_at _ _ _ _ rfl
  have f1 : X3.cell? ⟨nb, 1, none⟩ = some (.int .i64 (a : Int)) := by rw [hnb, hX3]; exact World.cell?_alloc_at _ _ _ _ rfl
  have f2 : X3.cell? ⟨nb, 2, none⟩ = some (.int .i64 (m : Int)) := by rw [hnb, hX3]; exact World.cell?_alloc_at _ _ _ _ rfl
  have hX := h.any hXb
  obtain ⟨hW, hHas⟩ := hs.at hX.rs.bu
  have hR1 : R < w.heap.size := block_lt_of_cell h.rs.r0
  have r0 := hX.rs.r0
  have k0 := hW.k0
  have k5 := hW.k5
  have t1 := hW.t1
  have hin := hf.1
  obtain ⟨g5, o5, e5, hg5, p0, p1, p2⟩ := hW.pl.at hat
  rw [e5] at k5
  dsimp only at p0 p1 p2
  have hcons : ∀ K' : Nat → Nat, (holB3 (btsW W) (nmT g.names.length T) r a m = true → (∀ c d, r.conj[c]? = some d → d.neg = false → AtM g W T t (g.names.length + ofRu g.rules q c) a m) → K' (idx W.size r.head.toNat a m) ≠ 0) → P K' := fun K' hK => by
    rw [hP]
    refine ⟨fun hlt => absurd hlt (by omega), fun q' c' p' r' d' s' h1 h2 h3 h4 => ?_, fun q' c' p' r' d' s' h1 h2 h3 h4 => ?_, fun q' c' r' d' h1 h2 h3 => ?_⟩
    · have hp := (List.getElem?_eq_some_iff.1 h3).1
      obtain ⟨-, -, e⟩ := ofRu_inj hr h1 hd h2 (Nat.zero_le _) (p' := p' + 1) hp (by omega)
      omega
    · have hp := (List.getElem?_eq_some_iff.1 h3).1
      obtain ⟨-, -, e⟩ := ofRu_inj hr h1 hd h2 (Nat.zero_le _) (p' := p' + 1) hp (by omega)
      omega
    · obtain ⟨rfl, -, -⟩ := ofRu_inj hr h1 hd h2 (Nat.zero_le _) (Nat.zero_le _) (by omega)
      rw [hr] at h1
      injection h1 with h1
      subst h1
      exact hK
  have KF : Hid (∀ w', Below X3.heap.size X3 w' → Calls Tryz.prog 73 #[.pointer (some ⟨R, 0, none⟩), .int .i64 (q : Int), .agg #[.int .i64 ((N : Int) + (z : Int)), .int .i64 (a : Int), .int .i64 (m : Int)]] w' fun e w'' => e = .returned (.tuple #[]) ∧ Hid (Gives g W D T X R t K P w w'')) := fun w' hb => by
    have hb2 : Below w.heap.size w w' := hXb.trans (hb.mono hXb.size)
    have := followWhole_any w' hs hT hgo (hX.any hb) hr (N + z) a m hin.1 hin.2
    rw [show ((N + z : Nat) : Int) = (N : Int) + (z : Int) by omega] at this
    refine this.mono ?_
    rintro e w'' ⟨rfl, hg⟩
    exact ⟨rfl, (hg.out.mono hcons).from (Kq.of hb2 hR1)⟩
  have hNl : N ≤ 64 := by rw [hNN]; exact hgo.nn
  obtain ⟨l, hl⟩ : ∃ l, l = (ruP 0 g.rules).length := ⟨_, rfl⟩
  rw [← hl] at k5 hzl
  rw [← hNN] at t1
  have hzI : (z : Int) < (l : Int) := by omega
  have hAA := hs.hA
  have hlA : l ≤ 200000 := by rw [hl]; unfold allN at hAA; omega
  have hwz : IntKind.i64.wrap (z : Int) = (z : Int) := by rw [IntKind.wrap_i64]; omega
  have hwz2 : IntKind.i64.wrap ((N : Int) + (z : Int) - (N : Int)) = (z : Int) := by rw [IntKind.wrap_i64]; omega
  have d1 : decide ((N : Int) + (z : Int) < (N : Int)) = false := decide_eq_false (by omega)
  clear hs hT hgo h hG hrb hf hX hW hHas hXb hR1 hin hcons hP hNN hy hz hat hr hd hl e5 hAA
  go_enter Tryz.func49, Tryz.ntmps49
  go_upto_region 1 with fail
  rw [← hX3, ← hnb]
  clear hX3 hnb
  go_quiet (fail)
  go_wp2
  obtain ⟨Y, hY⟩ : ∃ Y, Y = X3.drewN nq := ⟨_, rfl⟩
  have HYB : Hid (Below X3.heap.size X3 Y) := by show Below _ _ _; rw [hY]; exact below_drewN (Below.refl _ _) _
  rw [← hY]
  have cc : ∀ {k o : Nat} {v : Value}, X3.cell? ⟨k, o, none⟩ = some v → Y.cell? ⟨k, o, none⟩ = some v := fun {k o v} hv => (HYB.out.cell (p := ⟨k, o, none⟩) (block_lt_of_cell hv)).trans hv
  have y0 := cc f0
  have y1 := cc f1
  have y2 := cc f2
  have y3 := cc r0
  have y4 := cc k0
  have y5 := cc k5
  have y6 := cc t1
  have y7 := cc p0
  have y8 := cc p1
  have y9 := cc p2
  clear cc hY f0 f1 f2 r0 k0 k5 t1 p0 p1 p2
  have l0 : nb < Y.heap.size := block_lt_of_cell y0
  have l1 : R < Y.heap.size := block_lt_of_cell y3
  have l2 : D.kb < Y.heap.size := block_lt_of_cell y4
  have l3 : D.tb < Y.heap.size := block_lt_of_cell y6
  have l4 : g5 < Y.heap.size := block_lt_of_cell y7
  go_region
  obtain ⟨V, hV⟩ : ∃ V, V = (Y.alloc (.cells #[.int .i64 (q : Int), .int .i64 (c : Int), .int .i64 0] 56)).drew := ⟨_, rfl⟩
  obtain ⟨nb2, hnb2⟩ : ∃ nb2, nb2 = Y.heap.size := ⟨_, rfl⟩
  rw [← hV, ← hnb2]
  have hVb : Below Y.heap.size Y V := by rw [hV]; exact (bel1 _ _).drew
  have HVB : Hid (Below X3.heap.size X3 V) := HYB.out.trans (hVb.mono HYB.out.size)
  have v0 : V.cell? ⟨nb2, 0, none⟩ = some (.int .i64 (q : Int)) := by rw [hnb2, hV]; exact World.cell?_alloc_at _ _ _ _ rfl
  have v2 : V.cell? ⟨nb2, 2, none⟩ = some (.int .i64 0) := by rw [hnb2, hV]; exact World.cell?_alloc_at _ _ _ _ rfl
  have u0 := (hVb.cell (p := ⟨nb, 0, none⟩) l0).trans y0
  have u1 := (hVb.cell (p := ⟨nb, 1, none⟩) l0).trans y1
  have u2 := (hVb.cell (p := ⟨nb, 2, none⟩) l0).trans y2
  clear y0 y1 y2 y3 y4 y5 y6 y7 y8 y9 l0 l1 l2 l3 l4 hV hnb2 hVb HYB
  go_wp2_with (go_at_call 73; refine (KF.out _ HVB.out).mono ?_; rintro e w5 ⟨rfl, g5⟩)
  refine bodyPost_ret (v := .tuple #[]) (results_none rfl _ _ _) rfl ⟨rfl, g5⟩
end Go.Proofs.YtfjejnkjlnkkhaaGreatDoor
