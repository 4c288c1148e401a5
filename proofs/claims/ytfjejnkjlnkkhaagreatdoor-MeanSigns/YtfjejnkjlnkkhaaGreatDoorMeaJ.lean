/- A round of ranks: follow of any fact; giveAll of the program. -/
import Derived.Test.YtfjejnkjlnkkhaaGreatDoorMeaO
namespace Go.Proofs.YtfjejnkjlnkkhaaGreatDoor
set_option linter.unusedVariables false
set_option linter.unusedSimpArgs false
open Go.ChangeShapes Go.WideShapes Go.ChangeAt Go.RowKit Go.Shelf

theorem TabG.bu {X w' : World} {rb : Nat} (h : TabG X) (hr : 0 < rb) (hb : Bu rb X w') : TabG w' := fun j hj =>
  (World.cell?_of_block (hb.block 0 (block_lt_of_cell (h j hj)) (by omega))).trans (h j hj)
theorem follow_any {F : Nat → Prop} {g : Gr} {W : ByteArray} {D : Md} {T : SpM} {X : World} {R t : Nat} {K : Nat → Nat} {fd : List Fct} (w : World) (hs : Ws F g W D T X) (hT : MnOk (btsW W) W.size g.names.length g.rules T) {f : Nat → Nat} (hgo : GrOk g f) (h : Sx g W D T X R t K fd w) (hG : TabG X) (hrb : 0 < D.rb) (y a m : Nat) (hf : AtM g W T t y a m) :
    Calls Tryz.prog 49 #[.pointer (some ⟨R, 0, none⟩), .agg #[.int .i64 (y : Int), .int .i64 (a : Int), .int .i64 (m : Int)]] w fun e w' => e = .returned (.tuple #[]) ∧ Hid (Gives g W D T X R t K (fun K' => Cons (btsW W) W.size g.names.length g.rules (nmT g.names.length T) t K' y a m) w w') := by
  have hGw : TabG w := hG.bu hrb h.rs.bu
  rcases hf.2 with ⟨hy, -⟩ | ⟨q, c, p, r, d, g1, g2, g3, rfl, -⟩
  · exact followA_any w hs hT hgo h hGw hrb y a m hy hf
  · cases p with
    | zero => 
      have := followB_any w hs hT hgo h hGw hrb g1 g2 a m hf
      rw [show ((g.names.length + ofRu g.rules q c + 0 : Nat) : Int) = (g.names.length : Int) + (ofRu g.rules q c : Int) by omega]
      exact this
    | succ p =>
      have hsy : d.seq[p]? = some d.seq[p] := List.getElem?_eq_getElem (by omega)
      have := followC_any w hs hT hgo h hGw hrb g1 g2 hsy a m hf
      rw [show ((g.names.length + ofRu g.rules q c + (p + 1) : Nat) : Int) = (g.names.length : Int) + ((ofRu g.rules q c + p + 1 : Nat) : Int) by omega]
      exact this
set_option maxHeartbeats 4000000 in
set_option maxRecDepth 100000 in
theorem giveAllE_any {F : Nat → Prop} {g : Gr} {W : ByteArray} {D : Md} {T : SpM} {X : World} {R : Nat} {K : Nat → Nat} {fd : List Fct} (w : World) (hs : Ws F g W D T X) (h : Sx g W D T X R 0 K fd w) (y ca cb : Nat) (wnt : Nat → Nat → Bool)
    (hw : ∀ w', (∃ K' fd', Sx g W D T X R 0 K' fd' w') → Kq R D.rb w w' → ∀ i j : Nat, i ≤ j → j ≤ W.size → Calls Tryz.prog 67 #[.int .i64 (i : Int), .int .i64 (j : Int)] w' fun e w'' => e = .returned (.bool (wnt i j)) ∧ Hid (Below w'.heap.size w' w''))
    (ha : ∀ i j, i ≤ j → j ≤ W.size → wnt i j = true → AtM g W T 1 y i j) :
    Calls Tryz.prog 66 #[.pointer (some ⟨R, 0, none⟩), .int .i64 (y : Int), .func (.func 67) #[] #[]] w fun e w' => e = .returned (.tuple #[]) ∧ Hid (Gives g W D T X R 0 K (fun K' => ∀ a b, a ≤ b → b ≤ W.size → wnt a b = true → K' (idx W.size y a b) ≠ 0) w w') := by
  obtain ⟨P, hP⟩ : ∃ P : Nat → Nat → (Nat → Nat) → Prop, P = fun i j K' => ∀ a b, (a < i ∨ (a = i ∧ b < j)) → a ≤ b → b ≤ W.size → wnt a b = true → K' (idx W.size y a b) ≠ 0 := ⟨_, rfl⟩
  have HP : Hid (P = fun i j K' => ∀ a b, (a < i ∨ (a = i ∧ b < j)) → a ≤ b → b ≤ W.size → wnt a b = true → K' (idx W.size y a b) ≠ 0) := hP
  obtain ⟨Q, hQ⟩ : ∃ Q : (Nat → Nat) → Prop, Q = fun K' => ∀ a b, a ≤ b → b ≤ W.size → wnt a b = true → K' (idx W.size y a b) ≠ 0 := ⟨_, rfl⟩
  rw [← hQ]
  have HS : Hid (Ws F g W D T X) := hs
  have HCL : Hid (∀ w' P, Gives g W D T X R 0 K P w w' → w'.cell? ⟨R, 0, none⟩ = some (.pointer (some ⟨D.kb, 0, none⟩)) ∧ w'.cell? ⟨D.kb, 0, none⟩ = some (.pointer (some ⟨D.tb, 0, none⟩)) ∧ w'.cell? ⟨D.tb, 0, none⟩ = some (.int .i64 (W.size : Int))) := fun w' P ⟨K', fd', h1, _, _, _⟩ => ⟨h1.rs.r0, (HS.out.at h1.rs.bu).1.k0, (HS.out.at h1.rs.bu).1.t0⟩
  have H0 : Hid (Gives g W D T X R 0 K (P 0 0) w w) := ⟨K, fd, h, Up.refl _, by rw [hP]; intro a b h1; omega, Kq.refl _ _ _⟩
  obtain ⟨q0, q1, q2⟩ := HCL.out w _ H0.out
  have HROW : Hid (∀ i w', Gives g W D T X R 0 K (P i (W.size + 1)) w w' → Gives g W D T X R 0 K (P (i + 1) (i + 1)) w w') := fun i w' hg => hg.mono fun K' hk => by
    rw [hP] at hk ⊢
    intro a b h1 h2 h3
    exact hk a b (by omega) h2 h3
  have HFIN : Hid (∀ i w', W.size < i → Gives g W D T X R 0 K (P i i) w w' → Gives g W D T X R 0 K Q w w') := fun i w' hi hg => hg.mono fun K' hk => by
    rw [hP] at hk; rw [hQ]
    intro a b h2 h3
    exact hk a b (by omega) h2 h3
  have HSKIP : Hid (∀ i j w', wnt i j = false → Gives g W D T X R 0 K (P i j) w w' → Gives g W D T X R 0 K (P i (j + 1)) w w') := fun i j w' hf hg => hg.mono fun K' hk => by
    rw [hP] at hk ⊢
    intro a b h1 h2 h3 h4
    by_cases e : a = i ∧ b = j
    · rw [e.1, e.2, hf] at h4; cases h4
    · exact hk a b (by omega) h2 h3 h4
  have HBEL : Hid (∀ P w1 w2, Gives g W D T X R 0 K P w w1 → Below w1.heap.size w1 w2 → Gives g W D T X R 0 K P w w2) := fun P w1 w2 ⟨K', fd', h1, h2, h3, h4⟩ hb => ⟨K', fd', h1.any hb, h2, h3, h4.trans (Kq.of hb (block_lt_of_cell h1.rs.r0))⟩
  have KW : Hid (∀ P w', Gives g W D T X R 0 K P w w' → ∀ i j : Nat, i ≤ j → j ≤ W.size → Calls Tryz.prog 67 #[.int .i64 (i : Int), .int .i64 (j : Int)] w' fun e w'' => e = .returned (.bool (wnt i j)) ∧ Hid (Gives g W D T X R 0 K P w w'')) := fun P w' hg i j hij hj => by
    obtain ⟨K', fd', h1, h2, h3, h4⟩ := hg
    refine (hw w' ⟨K', fd', h1⟩ h4 i j hij hj).mono ?_
    rintro e w'' ⟨rfl, hb⟩
    exact ⟨rfl, HBEL.out P w' w'' ⟨K', fd', h1, h2, h3, h4⟩ hb.out⟩
  have KG : Hid (∀ i j : Nat, i ≤ j → j ≤ W.size → wnt i j = true → ∀ w', Gives g W D T X R 0 K (P i j) w w' → Calls Tryz.prog 94 #[.pointer (some ⟨R, 0, none⟩), .int .i64 (y : Int), .int .i64 (i : Int), .int .i64 (j : Int)] w' fun e w'' => e = .returned (.tuple #[]) ∧ Hid (Gives g W D T X R 0 K (P i (j + 1)) w w'')) := fun i j hij hj hwt w' hg => by
    obtain ⟨K', fd', h1, h2, h3, h4⟩ := hg
    refine (giveS_any HS.out h1 y i j (ha i j hij hj hwt)).mono ?_
    rintro e w'' ⟨rfl, hx⟩
    obtain ⟨K2, fd2, k1, k2, k3, k4⟩ := hx.out
    refine ⟨rfl, K2, fd2, k1, h2.trans k2, ?_, h4.trans k4⟩
    rw [HP.out] at h3 ⊢
    intro a b h5 h6 h7 h8
    by_cases e : a = i ∧ b = j
    · rw [e.1, e.2]; exact k3
    · exact k2 _ (h3 a b (by omega) h6 h7 h8)
  have hm := hs.hm
  obtain ⟨n, hn⟩ : ∃ n, n = W.size := ⟨_, rfl⟩
  rw [← hn] at HCL q2 HROW HFIN KW KG hm
  have HP0 : Hid (Gives g W D T X R 0 K (P 0 0) w w) := H0
  clear hs h hw ha hP hQ HP HS H0 HBEL hn
  go_enter Tryz.func66, Tryz.ntmps66
  go_wp2
  go_loopw [19] (fun x wr => ∃ i : Nat, i ≤ n + 1 ∧ x = .int .i64 (i : Int) ∧ Hid (Gives g W D T X R 0 K (P i i) w wr)) (fun x _ => n + 1 - (intOf x).toNat)
  case atStart => exact ⟨0, Nat.zero_le _, rfl, HP0⟩
  case round =>
    clear HP0 q0 q1 q2
    obtain ⟨i, hi, rfl, HG⟩ := hrel
    by_cases hlt : i < n + 1
    · have hltI : (i : Int) < (n : Int) + 1 := by omega
      obtain ⟨q0, q1, q2⟩ := HCL.out wr _ HG.out
      go_wp2
      go_loopw [7] (fun x wr => ∃ j : Nat, i ≤ j ∧ j ≤ n + 1 ∧ x = .int .i64 (j : Int) ∧ Hid (Gives g W D T X R 0 K (P i j) w wr)) (fun x _ => n + 1 - (intOf x).toNat)
      case atStart => exact ⟨i, Nat.le_refl _, by omega, rfl, HG⟩
      case round =>
        clear q0 q1 q2 HG
        obtain ⟨j, hij, hj, rfl, HG⟩ := hrel
        obtain ⟨q0, q1, q2⟩ := HCL.out wr _ HG.out
        by_cases hjt : j ≤ n
        · have hjI : (j : Int) ≤ (n : Int) := by omega
          have K1 := KW.out _ wr HG.out i j hij hjt
          have K2 : Hid (wnt i j = true → ∀ w', Gives g W D T X R 0 K (P i j) w w' → Calls Tryz.prog 94 #[.pointer (some ⟨R, 0, none⟩), .int .i64 (y : Int), .int .i64 (i : Int), .int .i64 (j : Int)] w' fun e w'' => e = .returned (.tuple #[]) ∧ Hid (Gives g W D T X R 0 K (P i (j + 1)) w w'')) := fun hx => KG.out i j hij hjt hx
          have K3 : Hid (wnt i j = false → ∀ w', Gives g W D T X R 0 K (P i j) w w' → Gives g W D T X R 0 K (P i (j + 1)) w w') := fun hx w' hg => HSKIP.out i j w' hx hg
          generalize wnt i j = v at K1 K2 K3
          cases v with
          | false =>
            have K6 : Hid (∀ w', Gives g W D T X R 0 K (P i j) w w' → Gives g W D T X R 0 K (P i (j + 1)) w w') := K3.out rfl
            clear K2 K3
            go_wp2_with (go_at_call 67; refine K1.mono ?_; rintro e w2 ⟨rfl, G2⟩)
            go_roundw
            case rel => exact ⟨j + 1, by omega, by omega, by go_num, K6.out _ G2.out⟩
            case measure => simp [intOf]; omega
          | true =>
            have K4 := K2.out rfl
            go_wp2_with (first
              | (go_at_call 67; refine K1.mono ?_; rintro e w2 ⟨rfl, G2⟩; have K5 := K4 w2 G2.out; clear K1)
              | (go_at_call 94; refine K5.mono ?_; rintro e w3 ⟨rfl, G3⟩))
            go_roundw
            case rel => exact ⟨j + 1, by omega, by omega, by go_num, G3⟩
            case measure => simp [intOf]; omega
        · obtain rfl : j = n + 1 := by omega
          have hjI : ¬ ((n + 1 : Nat) : Int) ≤ (n : Int) := by omega
          have G2 : Hid (Gives g W D T X R 0 K (P (i + 1) (i + 1)) w wr) := HROW.out i wr HG.out
          clear HG
          go_wp2
          go_roundw
          case rel => exact ⟨i + 1, by omega, by go_num, G2⟩
          case measure => simp [intOf]; omega
    · obtain rfl : i = n + 1 := by omega
      have hltI : ¬ ((n + 1 : Nat) : Int) < (n : Int) + 1 := by omega
      have FIN : Hid (Gives g W D T X R 0 K Q w wr) := HFIN.out (n + 1) wr (by omega) HG.out
      clear HG
      go_wp2
      go_end0
      exact ⟨rfl, FIN⟩
set_option maxHeartbeats 4000000 in
set_option maxRecDepth 100000 in
theorem giveAllH_any {F : Nat → Prop} {g : Gr} {W : ByteArray} {D : Md} {T : SpM} {X : World} {R : Nat} {K : Nat → Nat} {fd : List Fct} (w : World) (hs : Ws F g W D T X) (h : Sx g W D T X R 0 K fd w) (y ca cb : Nat) (wnt : Nat → Nat → Bool)
    (hw : ∀ w', (∃ K' fd', Sx g W D T X R 0 K' fd' w') → Kq R D.rb w w' → ∀ i j : Nat, i ≤ j → j ≤ W.size → Calls Tryz.prog 70 #[.int .i64 (i : Int), .int .i64 (j : Int), .pointer (some ⟨ca, 0, none⟩), .pointer (some ⟨cb, 0, none⟩)] w' fun e w'' => e = .returned (.bool (wnt i j)) ∧ Hid (Below w'.heap.size w' w''))
    (ha : ∀ i j, i ≤ j → j ≤ W.size → wnt i j = true → AtM g W T 1 y i j) :
    Calls Tryz.prog 66 #[.pointer (some ⟨R, 0, none⟩), .int .i64 (y : Int), .func (.func 70) #[] #[.pointer (some ⟨ca, 0, none⟩), .pointer (some ⟨cb, 0, none⟩)]] w fun e w' => e = .returned (.tuple #[]) ∧ Hid (Gives g W D T X R 0 K (fun K' => ∀ a b, a ≤ b → b ≤ W.size → wnt a b = true → K' (idx W.size y a b) ≠ 0) w w') := by
  obtain ⟨P, hP⟩ : ∃ P : Nat → Nat → (Nat → Nat) → Prop, P = fun i j K' => ∀ a b, (a < i ∨ (a = i ∧ b < j)) → a ≤ b → b ≤ W.size → wnt a b = true → K' (idx W.size y a b) ≠ 0 := ⟨_, rfl⟩
  have HP : Hid (P = fun i j K' => ∀ a b, (a < i ∨ (a = i ∧ b < j)) → a ≤ b → b ≤ W.size → wnt a b = true → K' (idx W.size y a b) ≠ 0) := hP
  obtain ⟨Q, hQ⟩ : ∃ Q : (Nat → Nat) → Prop, Q = fun K' => ∀ a b, a ≤ b → b ≤ W.size → wnt a b = true → K' (idx W.size y a b) ≠ 0 := ⟨_, rfl⟩
  rw [← hQ]
  have HS : Hid (Ws F g W D T X) := hs
  have HCL : Hid (∀ w' P, Gives g W D T X R 0 K P w w' → w'.cell? ⟨R, 0, none⟩ = some (.pointer (some ⟨D.kb, 0, none⟩)) ∧ w'.cell? ⟨D.kb, 0, none⟩ = some (.pointer (some ⟨D.tb, 0, none⟩)) ∧ w'.cell? ⟨D.tb, 0, none⟩ = some (.int .i64 (W.size : Int))) := fun w' P ⟨K', fd', h1, _, _, _⟩ => ⟨h1.rs.r0, (HS.out.at h1.rs.bu).1.k0, (HS.out.at h1.rs.bu).1.t0⟩
  have H0 : Hid (Gives g W D T X R 0 K (P 0 0) w w) := ⟨K, fd, h, Up.refl _, by rw [hP]; intro a b h1; omega, Kq.refl _ _ _⟩
  obtain ⟨q0, q1, q2⟩ := HCL.out w _ H0.out
  have HROW : Hid (∀ i w', Gives g W D T X R 0 K (P i (W.size + 1)) w w' → Gives g W D T X R 0 K (P (i + 1) (i + 1)) w w') := fun i w' hg => hg.mono fun K' hk => by
    rw [hP] at hk ⊢
    intro a b h1 h2 h3
    exact hk a b (by omega) h2 h3
  have HFIN : Hid (∀ i w', W.size < i → Gives g W D T X R 0 K (P i i) w w' → Gives g W D T X R 0 K Q w w') := fun i w' hi hg => hg.mono fun K' hk => by
    rw [hP] at hk; rw [hQ]
    intro a b h2 h3
    exact hk a b (by omega) h2 h3
  have HSKIP : Hid (∀ i j w', wnt i j = false → Gives g W D T X R 0 K (P i j) w w' → Gives g W D T X R 0 K (P i (j + 1)) w w') := fun i j w' hf hg => hg.mono fun K' hk => by
    rw [hP] at hk ⊢
    intro a b h1 h2 h3 h4
    by_cases e : a = i ∧ b = j
    · rw [e.1, e.2, hf] at h4; cases h4
    · exact hk a b (by omega) h2 h3 h4
  have HBEL : Hid (∀ P w1 w2, Gives g W D T X R 0 K P w w1 → Below w1.heap.size w1 w2 → Gives g W D T X R 0 K P w w2) := fun P w1 w2 ⟨K', fd', h1, h2, h3, h4⟩ hb => ⟨K', fd', h1.any hb, h2, h3, h4.trans (Kq.of hb (block_lt_of_cell h1.rs.r0))⟩
  have KW : Hid (∀ P w', Gives g W D T X R 0 K P w w' → ∀ i j : Nat, i ≤ j → j ≤ W.size → Calls Tryz.prog 70 #[.int .i64 (i : Int), .int .i64 (j : Int), .pointer (some ⟨ca, 0, none⟩), .pointer (some ⟨cb, 0, none⟩)] w' fun e w'' => e = .returned (.bool (wnt i j)) ∧ Hid (Gives g W D T X R 0 K P w w'')) := fun P w' hg i j hij hj => by
    obtain ⟨K', fd', h1, h2, h3, h4⟩ := hg
    refine (hw w' ⟨K', fd', h1⟩ h4 i j hij hj).mono ?_
    rintro e w'' ⟨rfl, hb⟩
    exact ⟨rfl, HBEL.out P w' w'' ⟨K', fd', h1, h2, h3, h4⟩ hb.out⟩
  have KG : Hid (∀ i j : Nat, i ≤ j → j ≤ W.size → wnt i j = true → ∀ w', Gives g W D T X R 0 K (P i j) w w' → Calls Tryz.prog 94 #[.pointer (some ⟨R, 0, none⟩), .int .i64 (y : Int), .int .i64 (i : Int), .int .i64 (j : Int)] w' fun e w'' => e = .returned (.tuple #[]) ∧ Hid (Gives g W D T X R 0 K (P i (j + 1)) w w'')) := fun i j hij hj hwt w' hg => by
    obtain ⟨K', fd', h1, h2, h3, h4⟩ := hg
    refine (giveS_any HS.out h1 y i j (ha i j hij hj hwt)).mono ?_
    rintro e w'' ⟨rfl, hx⟩
    obtain ⟨K2, fd2, k1, k2, k3, k4⟩ := hx.out
    refine ⟨rfl, K2, fd2, k1, h2.trans k2, ?_, h4.trans k4⟩
    rw [HP.out] at h3 ⊢
    intro a b h5 h6 h7 h8
    by_cases e : a = i ∧ b = j
    · rw [e.1, e.2]; exact k3
    · exact k2 _ (h3 a b (by omega) h6 h7 h8)
  have hm := hs.hm
  obtain ⟨n, hn⟩ : ∃ n, n = W.size := ⟨_, rfl⟩
  rw [← hn] at HCL q2 HROW HFIN KW KG hm
  have HP0 : Hid (Gives g W D T X R 0 K (P 0 0) w w) := H0
  clear hs h hw ha hP hQ HP HS H0 HBEL hn
  go_enter Tryz.func66, Tryz.ntmps66
  go_wp2
  go_loopw [19] (fun x wr => ∃ i : Nat, i ≤ n + 1 ∧ x = .int .i64 (i : Int) ∧ Hid (Gives g W D T X R 0 K (P i i) w wr)) (fun x _ => n + 1 - (intOf x).toNat)
  case atStart => exact ⟨0, Nat.zero_le _, rfl, HP0⟩
  case round =>
    clear HP0 q0 q1 q2
    obtain ⟨i, hi, rfl, HG⟩ := hrel
    by_cases hlt : i < n + 1
    · have hltI : (i : Int) < (n : Int) + 1 := by omega
      obtain ⟨q0, q1, q2⟩ := HCL.out wr _ HG.out
      go_wp2
      go_loopw [7] (fun x wr => ∃ j : Nat, i ≤ j ∧ j ≤ n + 1 ∧ x = .int .i64 (j : Int) ∧ Hid (Gives g W D T X R 0 K (P i j) w wr)) (fun x _ => n + 1 - (intOf x).toNat)
      case atStart => exact ⟨i, Nat.le_refl _, by omega, rfl, HG⟩
      case round =>
        clear q0 q1 q2 HG
        obtain ⟨j, hij, hj, rfl, HG⟩ := hrel
        obtain ⟨q0, q1, q2⟩ := HCL.out wr _ HG.out
        by_cases hjt : j ≤ n
        · have hjI : (j : Int) ≤ (n : Int) := by omega
          have K1 := KW.out _ wr HG.out i j hij hjt
          have K2 : Hid (wnt i j = true → ∀ w', Gives g W D T X R 0 K (P i j) w w' → Calls Tryz.prog 94 #[.pointer (some ⟨R, 0, none⟩), .int .i64 (y : Int), .int .i64 (i : Int), .int .i64 (j : Int)] w' fun e w'' => e = .returned (.tuple #[]) ∧ Hid (Gives g W D T X R 0 K (P i (j + 1)) w w'')) := fun hx => KG.out i j hij hjt hx
          have K3 : Hid (wnt i j = false → ∀ w', Gives g W D T X R 0 K (P i j) w w' → Gives g W D T X R 0 K (P i (j + 1)) w w') := fun hx w' hg => HSKIP.out i j w' hx hg
          generalize wnt i j = v at K1 K2 K3
          cases v with
          | false =>
            have K6 : Hid (∀ w', Gives g W D T X R 0 K (P i j) w w' → Gives g W D T X R 0 K (P i (j + 1)) w w') := K3.out rfl
            clear K2 K3
            go_wp2_with (go_at_call 70; refine K1.mono ?_; rintro e w2 ⟨rfl, G2⟩)
            go_roundw
            case rel => exact ⟨j + 1, by omega, by omega, by go_num, K6.out _ G2.out⟩
            case measure => simp [intOf]; omega
          | true =>
            have K4 := K2.out rfl
            go_wp2_with (first
              | (go_at_call 70; refine K1.mono ?_; rintro e w2 ⟨rfl, G2⟩; have K5 := K4 w2 G2.out; clear K1)
              | (go_at_call 94; refine K5.mono ?_; rintro e w3 ⟨rfl, G3⟩))
            go_roundw
            case rel => exact ⟨j + 1, by omega, by omega, by go_num, G3⟩
            case measure => simp [intOf]; omega
        · obtain rfl : j = n + 1 := by omega
          have hjI : ¬ ((n + 1 : Nat) : Int) ≤ (n : Int) := by omega
          have G2 : Hid (Gives g W D T X R 0 K (P (i + 1) (i + 1)) w wr) := HROW.out i wr HG.out
          clear HG
          go_wp2
          go_roundw
          case rel => exact ⟨i + 1, by omega, by go_num, G2⟩
          case measure => simp [intOf]; omega
    · obtain rfl : i = n + 1 := by omega
      have hltI : ¬ ((n + 1 : Nat) : Int) < (n : Int) + 1 := by omega
      have FIN : Hid (Gives g W D T X R 0 K Q w wr) := HFIN.out (n + 1) wr (by omega) HG.out
      clear HG
      go_wp2
      go_end0
      exact ⟨rfl, FIN⟩
end Go.Proofs.YtfjejnkjlnkkhaaGreatDoor
