/- Two proofs of the same data are the same. -/
import Derived.Test.YtgeajdfajfdjcaaPkM
import Derived.Test.YtgeajdfajfdjcaaLexTokens
import Derived.Deep.RegionHeld3
import Derived.Deep.CutRange
import Derived.BigQuiet
import Derived.Deep.QuietTactic
namespace Go.Proofs.Ytgeajdfajfdjcaa
set_option linter.unusedVariables false
set_option linter.unusedSimpArgs false
open Go.ChangeShapes Go.WideShapes Go.ChangeAt Go.RowKit

theorem drwP (w : World) (n : Nat) : Below w.heap.size w (w.drewN n) := ⟨rfl, rfl, rfl, Nat.le_refl _, fun _ _ => rfl⟩
set_option maxHeartbeats 4000000 in
set_option maxRecDepth 100000 in
theorem sameZs_yes (va vb : Value) (l : List Int) (w : World) {F G : Nat → Prop} (ha : IsZs w F va l) (hb : IsZs w G vb l) (hl : (l.length : Int) ≤ 1152921504606846976) :
    Calls Try.prog 54 #[va, vb] w fun e w' => e = .returned (.bool true) ∧ ∃ n, w' = w.drewN n := by
  obtain ⟨p, cp, rfl⟩ := ha.slc
  obtain ⟨q, cq, rfl⟩ := hb.slc
  have HA : Hid (IsZs w F (.slice p l.length cp) l) := ha
  have HB : Hid (IsZs w G (.slice q l.length cq) l) := hb
  clear ha hb
  go_enter Try.func54, Try.ntmps54
  go_wp2
  go_loopw [5] (fun i wr => ∃ k n : Nat, k ≤ l.length ∧ i = .int .i64 k ∧ wr = w.drewN n) (fun i _ => l.length - (intOf i).toNat)
  case atStart => exact ⟨0, 0, by omega, rfl, rfl⟩
  case round =>
    obtain ⟨k, n, hk, rfl, rfl⟩ := hrel
    by_cases hlt : k < l.length
    · obtain ⟨t, ht⟩ : ∃ t, l[k]? = some t := ⟨_, List.getElem?_eq_getElem hlt⟩
      have hltI : (k : Int) < (l.length : Int) := by omega
      obtain ⟨g1, o1, hp, a0, -, -⟩ := HA.out.at ht
      obtain ⟨g2, o2, hq, b0, -, -⟩ := HB.out.at ht
      subst hp hq
      clear ht
      go_wp2
      go_quiet (fail)
      go_wp2
      go_roundw
      case rel => exact ⟨k + 1, _, by omega, by go_num, rfl⟩
      case measure => simp [intOf]; omega
    · obtain rfl : k = l.length := by omega
      go_wp2
      go_ret
      exact ⟨rfl, _, rfl⟩
set_option maxHeartbeats 4000000 in
set_option maxRecDepth 100000 in
theorem samePks_yes (va vb : Value) (l : List Pk) (w : World) {F G : Nat → Prop} (ha : IsPks w F va l) (hb : IsPks w G vb l) (hl : (l.length : Int) ≤ 1152921504606846976) (hk : ∀ p ∈ l, (p.kids.length : Int) ≤ 1152921504606846976) :
    Calls Try.prog 41 #[va, vb] w fun e w' => e = .returned (.bool true) ∧ ∃ n, w' = w.drewN n := by
  obtain ⟨p, cp, rfl⟩ := ha.slc
  obtain ⟨q, cq, rfl⟩ := hb.slc
  have HA : Hid (IsPks w F (.slice p l.length cp) l) := ha
  have HB : Hid (IsPks w G (.slice q l.length cq) l) := hb
  have HK : Hid (∀ p ∈ l, (p.kids.length : Int) ≤ 1152921504606846976) := hk
  clear ha hb hk
  go_enter Try.func41, Try.ntmps41
  go_wp2
  go_loopw [5] (fun i wr => ∃ k n : Nat, k ≤ l.length ∧ i = .int .i64 k ∧ wr = w.drewN n) (fun i _ => l.length - (intOf i).toNat)
  case atStart => exact ⟨0, 0, by omega, rfl, rfl⟩
  case round =>
    obtain ⟨k, n, hk, rfl, hwr⟩ := hrel
    have HWR : Hid (wr = w.drewN n) := hwr
    have hbw : Below w.heap.size w wr := by rw [hwr]; exact drwP w n
    clear hwr
    by_cases hlt : k < l.length
    · obtain ⟨t, ht⟩ : ∃ t, l[k]? = some t := ⟨_, List.getElem?_eq_getElem hlt⟩
      have hltI : (k : Int) < (l.length : Int) := by omega
      obtain ⟨g1, o1, u1, hp, a0, a1, a2, A3, -⟩ := (HA.out.any hbw).at ht
      obtain ⟨g2, o2, u2, hq, b0, b1, b2, B3, -⟩ := (HB.out.any hbw).at ht
      obtain ⟨p1, c1, rfl⟩ := A3.slc
      obtain ⟨p2, c2, rfl⟩ := B3.slc
      have hkl := HK.out t (List.mem_of_getElem? ht)
      have KS : Hid (∀ m, Calls Try.prog 54 #[.slice p1 t.kids.length c1, .slice p2 t.kids.length c2] (wr.drewN m) fun e w' => e = .returned (.bool true) ∧ ∃ n, w' = (wr.drewN m).drewN n) := fun m => sameZs_yes _ _ t.kids _ (A3.any (drwP wr m)) (B3.any (drwP wr m)) hkl
      subst hp hq
      clear ht A3 B3 hkl hbw
      generalize t.at_ = x0 at a0 b0
      generalize t.conj = x1 at a1 b1
      go_wp2
      go_quiet ((go_at_call 54; exact Calls.quiet_of (KS.out _)))
      go_wp2
      go_roundw
      case rel => exact ⟨k + 1, _, by omega, by go_num, by rw [HWR.out, World.drewN_drewN]⟩
      case measure => simp [intOf]; omega
    · obtain rfl : k = l.length := by omega
      go_wp2
      go_ret
      exact ⟨rfl, _, HWR.out⟩
set_option maxHeartbeats 4000000 in
set_option maxRecDepth 100000 in
theorem sameNd_yes (x : Nd) (va vb : Value) (w : World) {F G : Nat → Prop} (ha : IsPks w F va x.picks) (hb : IsPks w G vb x.picks) (hl : (x.picks.length : Int) ≤ 1152921504606846976) (hk : ∀ p ∈ x.picks, (p.kids.length : Int) ≤ 1152921504606846976) :
    Calls Try.prog 31 #[.agg #[.bool x.sign, .int .i64 x.kind, .int .i64 x.name, .int .i64 x.rule, .int .i64 x.conj, .int .i64 x.pos, .int .i64 x.i, .int .i64 x.j, .int .i64 x.rank, va], .agg #[.bool x.sign, .int .i64 x.kind, .int .i64 x.name, .int .i64 x.rule, .int .i64 x.conj, .int .i64 x.pos, .int .i64 x.i, .int .i64 x.j, .int .i64 x.rank, vb]] w fun e w' => e = .returned (.bool true) ∧ Hid (Below w.heap.size w w') := by
  obtain ⟨p, cp, rfl⟩ := ha.slc
  obtain ⟨q, cq, rfl⟩ := hb.slc
  have KS : Hid (∀ w', Below w.heap.size w w' → Calls Try.prog 41 #[.slice p x.picks.length cp, .slice q x.picks.length cq] w' fun e w'' => e = .returned (.bool true) ∧ Hid (Below w.heap.size w w'')) := fun w' hb' => by
    refine (samePks_yes _ _ x.picks w' (ha.any hb') (hb.any hb') hl hk).mono ?_
    rintro e w'' ⟨h1, n, rfl⟩
    exact ⟨h1, hb'.trans ((drwP w' n).mono hb'.size)⟩
  clear ha hb hk
  obtain ⟨sg, kd, nm, ru, cj, po, ni, nj, rk, ps⟩ := x
  simp only at *
  go_enter Try.func31, Try.ntmps31
  go_wp2_with (go_at_call 41; refine (KS.out _ ((bel1 _ _).alloc (by simp) _)).mono ?_; rintro e w2 ⟨rfl, B2⟩)
  go_ret
  exact ⟨rfl, B2⟩
set_option maxHeartbeats 4000000 in
set_option maxRecDepth 100000 in
theorem sameCt_yes (c : Ct) (va vb : Value) (w : World) {F G : Nat → Prop} (ha : IsNds w F va c.nodes) (hb : IsNds w G vb c.nodes) (hl : (c.nodes.length : Int) ≤ 1152921504606846976) (hk : ∀ x ∈ c.nodes, (x.picks.length : Int) ≤ 1152921504606846976 ∧ ∀ p ∈ x.picks, (p.kids.length : Int) ≤ 1152921504606846976) :
    Calls Try.prog 15 #[.agg #[.int .i64 c.root, va], .agg #[.int .i64 c.root, vb]] w fun e w' => e = .returned (.bool true) ∧ Hid (Below w.heap.size w w') := by
  obtain ⟨p, cp, rfl⟩ := ha.slc
  obtain ⟨q, cq, rfl⟩ := hb.slc
  obtain ⟨ro, ns⟩ := c
  simp only at *
  have HA : Hid (IsNds w F (.slice p ns.length cp) ns) := ha
  have HB : Hid (IsNds w G (.slice q ns.length cq) ns) := hb
  have HK : Hid (∀ x ∈ ns, (x.picks.length : Int) ≤ 1152921504606846976 ∧ ∀ p ∈ x.picks, (p.kids.length : Int) ≤ 1152921504606846976) := hk
  clear ha hb hk
  obtain ⟨X, hX⟩ : ∃ X, X = (w.alloc (.cells #[.int .i64 ro, .slice p ns.length cp] 24)).alloc (.cells #[.int .i64 ro, .slice q ns.length cq] 24) := ⟨_, rfl⟩
  have HX : Hid (Below w.heap.size w X) := by rw [hX]; exact (bel1 _ _).alloc (by simp) _
  have HC : Hid (X.cell? ⟨w.heap.size, 1, none⟩ = some (.slice p ns.length cp) ∧ X.cell? ⟨w.heap.size + 1, 1, none⟩ = some (.slice q ns.length cq) ∧ w.heap.size + 1 < X.heap.size) := by subst hX; exact ⟨by simp, by simp, by simp⟩
  go_enter Try.func15, Try.ntmps15
  go_upto_region 3 with fail
  rw [← hX]
  clear hX
  go_wp2
  go_loopw [5] (fun i wr => ∃ k : Nat, k ≤ ns.length ∧ i = .int .i64 k ∧ Hid (Below X.heap.size X wr)) (fun i _ => ns.length - (intOf i).toNat)
  case atStart => exact ⟨0, by omega, rfl, Below.refl _ _⟩
  case round =>
    obtain ⟨k, hk, rfl, HW⟩ := hrel
    have e0 : wr.cell? ⟨w.heap.size, 1, none⟩ = some (.slice p ns.length cp) := (HW.out.cell (p := ⟨w.heap.size, 1, none⟩) (by have := HC.out.2.2; show w.heap.size < _; omega)).trans HC.out.1
    have e1 : wr.cell? ⟨w.heap.size + 1, 1, none⟩ = some (.slice q ns.length cq) := (HW.out.cell (p := ⟨w.heap.size + 1, 1, none⟩) HC.out.2.2).trans HC.out.2.1
    have HWW : Hid (Below w.heap.size w wr) := HX.out.trans (HW.out.mono HX.out.size)
    by_cases hlt : k < ns.length
    · obtain ⟨t, ht⟩ : ∃ t, ns[k]? = some t := ⟨_, List.getElem?_eq_getElem hlt⟩
      have hltI : (k : Int) < (ns.length : Int) := by omega
      obtain ⟨g1, o1, u1, hp, a0, a1, a2, a3, a4, a5, a6, a7, a8, a9, A3, -⟩ := (HA.out.any HWW.out).at ht
      obtain ⟨g2, o2, u2, hq, b0, b1, b2, b3, b4, b5, b6, b7, b8, b9, B3, -⟩ := (HB.out.any HWW.out).at ht
      obtain ⟨p1, c1, rfl⟩ := A3.slc
      obtain ⟨p2, c2, rfl⟩ := B3.slc
      obtain ⟨hk1, hk2⟩ := HK.out t (List.mem_of_getElem? ht)
      have KS : Hid (∀ w', Below wr.heap.size wr w' → Calls Try.prog 31 #[.agg #[.bool t.sign, .int .i64 t.kind, .int .i64 t.name, .int .i64 t.rule, .int .i64 t.conj, .int .i64 t.pos, .int .i64 t.i, .int .i64 t.j, .int .i64 t.rank, .slice p1 t.picks.length c1], .agg #[.bool t.sign, .int .i64 t.kind, .int .i64 t.name, .int .i64 t.rule, .int .i64 t.conj, .int .i64 t.pos, .int .i64 t.i, .int .i64 t.j, .int .i64 t.rank, .slice p2 t.picks.length c2]] w' fun e w'' => e = .returned (.bool true) ∧ Hid (Below w'.heap.size w' w'')) := fun w' hb => sameNd_yes t _ _ w' (A3.any hb) (B3.any hb) hk1 hk2
      subst hp hq
      have HSS : Hid (∀ w', Below wr.heap.size wr w' → Below wr.heap.size wr w' ∧ w'.cell? ⟨w.heap.size, 1, none⟩ = some (.slice (some ⟨g1, o1, none⟩) ns.length cp) ∧ w'.cell? ⟨w.heap.size + 1, 1, none⟩ = some (.slice (some ⟨g2, o2, none⟩) ns.length cq) ∧ w'.cell? ⟨g1, o1 + k * 10, none⟩ = some (.bool t.sign) ∧ w'.cell? ⟨g1, o1 + k * 10 + 1, none⟩ = some (.int .i64 t.kind) ∧ w'.cell? ⟨g1, o1 + k * 10 + 2, none⟩ = some (.int .i64 t.name) ∧ w'.cell? ⟨g1, o1 + k * 10 + 3, none⟩ = some (.int .i64 t.rule) ∧ w'.cell? ⟨g1, o1 + k * 10 + 4, none⟩ = some (.int .i64 t.conj) ∧ w'.cell? ⟨g1, o1 + k * 10 + 5, none⟩ = some (.int .i64 t.pos) ∧ w'.cell? ⟨g1, o1 + k * 10 + 6, none⟩ = some (.int .i64 t.i) ∧ w'.cell? ⟨g1, o1 + k * 10 + 7, none⟩ = some (.int .i64 t.j) ∧ w'.cell? ⟨g1, o1 + k * 10 + 8, none⟩ = some (.int .i64 t.rank) ∧ w'.cell? ⟨g1, o1 + k * 10 + 9, none⟩ = some (.slice p1 t.picks.length c1) ∧ w'.cell? ⟨g2, o2 + k * 10, none⟩ = some (.bool t.sign) ∧ w'.cell? ⟨g2, o2 + k * 10 + 1, none⟩ = some (.int .i64 t.kind) ∧ w'.cell? ⟨g2, o2 + k * 10 + 2, none⟩ = some (.int .i64 t.name) ∧ w'.cell? ⟨g2, o2 + k * 10 + 3, none⟩ = some (.int .i64 t.rule) ∧ w'.cell? ⟨g2, o2 + k * 10 + 4, none⟩ = some (.int .i64 t.conj) ∧ w'.cell? ⟨g2, o2 + k * 10 + 5, none⟩ = some (.int .i64 t.pos) ∧ w'.cell? ⟨g2, o2 + k * 10 + 6, none⟩ = some (.int .i64 t.i) ∧ w'.cell? ⟨g2, o2 + k * 10 + 7, none⟩ = some (.int .i64 t.j) ∧ w'.cell? ⟨g2, o2 + k * 10 + 8, none⟩ = some (.int .i64 t.rank) ∧ w'.cell? ⟨g2, o2 + k * 10 + 9, none⟩ = some (.slice p2 t.picks.length c2)) := fun w' hb => ⟨hb, (hb.cell (p := ⟨_, _, none⟩) (cell_lt e0)).trans e0, (hb.cell (p := ⟨_, _, none⟩) (cell_lt e1)).trans e1, (hb.cell (p := ⟨_, _, none⟩) (cell_lt a0)).trans a0, (hb.cell (p := ⟨_, _, none⟩) (cell_lt a1)).trans a1, (hb.cell (p := ⟨_, _, none⟩) (cell_lt a2)).trans a2, (hb.cell (p := ⟨_, _, none⟩) (cell_lt a3)).trans a3, (hb.cell (p := ⟨_, _, none⟩) (cell_lt a4)).trans a4, (hb.cell (p := ⟨_, _, none⟩) (cell_lt a5)).trans a5, (hb.cell (p := ⟨_, _, none⟩) (cell_lt a6)).trans a6, (hb.cell (p := ⟨_, _, none⟩) (cell_lt a7)).trans a7, (hb.cell (p := ⟨_, _, none⟩) (cell_lt a8)).trans a8, (hb.cell (p := ⟨_, _, none⟩) (cell_lt a9)).trans a9, (hb.cell (p := ⟨_, _, none⟩) (cell_lt b0)).trans b0, (hb.cell (p := ⟨_, _, none⟩) (cell_lt b1)).trans b1, (hb.cell (p := ⟨_, _, none⟩) (cell_lt b2)).trans b2, (hb.cell (p := ⟨_, _, none⟩) (cell_lt b3)).trans b3, (hb.cell (p := ⟨_, _, none⟩) (cell_lt b4)).trans b4, (hb.cell (p := ⟨_, _, none⟩) (cell_lt b5)).trans b5, (hb.cell (p := ⟨_, _, none⟩) (cell_lt b6)).trans b6, (hb.cell (p := ⟨_, _, none⟩) (cell_lt b7)).trans b7, (hb.cell (p := ⟨_, _, none⟩) (cell_lt b8)).trans b8, (hb.cell (p := ⟨_, _, none⟩) (cell_lt b9)).trans b9⟩
      clear ht A3 B3 hk1 hk2
      go_wp2
      go_region_held3 (fun w' => Below wr.heap.size wr w' ∧ w'.cell? ⟨w.heap.size, 1, none⟩ = some (.slice (some ⟨g1, o1, none⟩) ns.length cp) ∧ w'.cell? ⟨w.heap.size + 1, 1, none⟩ = some (.slice (some ⟨g2, o2, none⟩) ns.length cq) ∧ w'.cell? ⟨g1, o1 + k * 10, none⟩ = some (.bool t.sign) ∧ w'.cell? ⟨g1, o1 + k * 10 + 1, none⟩ = some (.int .i64 t.kind) ∧ w'.cell? ⟨g1, o1 + k * 10 + 2, none⟩ = some (.int .i64 t.name) ∧ w'.cell? ⟨g1, o1 + k * 10 + 3, none⟩ = some (.int .i64 t.rule) ∧ w'.cell? ⟨g1, o1 + k * 10 + 4, none⟩ = some (.int .i64 t.conj) ∧ w'.cell? ⟨g1, o1 + k * 10 + 5, none⟩ = some (.int .i64 t.pos) ∧ w'.cell? ⟨g1, o1 + k * 10 + 6, none⟩ = some (.int .i64 t.i) ∧ w'.cell? ⟨g1, o1 + k * 10 + 7, none⟩ = some (.int .i64 t.j) ∧ w'.cell? ⟨g1, o1 + k * 10 + 8, none⟩ = some (.int .i64 t.rank) ∧ w'.cell? ⟨g1, o1 + k * 10 + 9, none⟩ = some (.slice p1 t.picks.length c1) ∧ w'.cell? ⟨g2, o2 + k * 10, none⟩ = some (.bool t.sign) ∧ w'.cell? ⟨g2, o2 + k * 10 + 1, none⟩ = some (.int .i64 t.kind) ∧ w'.cell? ⟨g2, o2 + k * 10 + 2, none⟩ = some (.int .i64 t.name) ∧ w'.cell? ⟨g2, o2 + k * 10 + 3, none⟩ = some (.int .i64 t.rule) ∧ w'.cell? ⟨g2, o2 + k * 10 + 4, none⟩ = some (.int .i64 t.conj) ∧ w'.cell? ⟨g2, o2 + k * 10 + 5, none⟩ = some (.int .i64 t.pos) ∧ w'.cell? ⟨g2, o2 + k * 10 + 6, none⟩ = some (.int .i64 t.i) ∧ w'.cell? ⟨g2, o2 + k * 10 + 7, none⟩ = some (.int .i64 t.j) ∧ w'.cell? ⟨g2, o2 + k * 10 + 8, none⟩ = some (.int .i64 t.rank) ∧ w'.cell? ⟨g2, o2 + k * 10 + 9, none⟩ = some (.slice p2 t.picks.length c2))
        ((refine HSS.out _ ?_; (repeat' (first | with_reducible assumption | with_reducible exact Below.refl _ _ | with_reducible apply Below.drew))))
        ((go_at_call 31; refine (KS.out _ ((Below.refl _ _).drew)).mono ?_; rintro e w3 ⟨rfl, B3⟩; have b3 : Below wr.heap.size wr w3 := Below.trans (b := wr.drew) (Below.refl _ _).drew B3.out))
      go_wp2
      go_roundw
      case rel => exact ⟨k + 1, by omega, by go_num, HW.out.trans (b3.mono HW.out.size)⟩
      case measure => simp [intOf]; omega
    · obtain rfl : k = ns.length := by omega
      go_wp2
      go_ret
      exact ⟨rfl, HWW⟩
end Go.Proofs.Ytgeajdfajfdjcaa
