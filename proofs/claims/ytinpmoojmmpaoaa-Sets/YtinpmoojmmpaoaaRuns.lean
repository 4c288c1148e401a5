/- What Ranges hands back: the runs of a set, in new memory. -/
import Derived.Test.YtinpmoojmmpaoaaHas
import Derived.Test.YtinpmoojmmpaoaaBut
namespace Go.Proofs.Ytinpmoojmmpaoaa
open Go.ChangeShapes Go.WideShapes Go.ChangeAt Go.RowKit

theorem Try.infoPair : (Try.prog.info? 40).map (fun i => (i.zero, i.size, i.bytes)) = some (some (.agg #[.int .i64 0, .int .i64 0]), 2, 16) := by kernel_rfl

set_option maxHeartbeats 1000000 in
theorem tell_any (bp base n : Nat) (xs : List Value) (v : Value) (lo hi : Int) (w : World) (hbp : bp < base) (hbase : base ≤ w.heap.size) (hn : n ≤ 256)
    (hc : w.cell? ⟨bp, 0, none⟩ = some v) (hf : w.frozen? ⟨bp, 0, none⟩ = false) (hown : w.ownsRow base 40 2 v n xs) :
    Calls Try.prog 31 #[.int .i64 lo, .int .i64 hi, .pointer (some ⟨bp, 0, none⟩)] w fun e w' => e = .returned (.tuple #[]) ∧
      ∃ v', w'.cell? ⟨bp, 0, none⟩ = some v' ∧ w'.frozen? ⟨bp, 0, none⟩ = false ∧ w'.ownsRow base 40 2 v' (n + 1) (xs ++ [.int .i64 lo, .int .i64 hi]) ∧ But base bp w w' := by
  obtain ⟨i, hi0, hz0, hz1, hz2⟩ := info_parts Try.infoPair
  have HN : Hid (n ≤ 256) := hn
  obtain ⟨p, cap, hv⟩ := owns_slice hown
  subst hv
  go_enter Try.func31, Try.ntmps31
  go_wp2_with (at_builtin; refine wpList_append_own _ rfl _ _ 36 rfl base 40 i (.agg #[.int .i64 0, .int .i64 0]) 2 16 Try.underlying36 hi0 hz0 hz1 hz2 rfl (by decide) _ _ _ rfl (hown.alloc _) ⟨w.heap.size, 0, none⟩ 1 1 [.int .i64 lo, .int .i64 hi] rfl rfl ?c1 ?c2 ?c3 ?c4 ?c5 ?_)
  case c1 =>
    intro j u hj
    match j, hj with
    | 0, hj => simp at hj; subst hj; simp [Addr.add]
    | 1, hj => simp at hj; subst hj; simp [Addr.add]
  case c2 => intro u hu; simp at hu; rcases hu with rfl | rfl <;> rfl
  case c3 => unfold maxLen; omega
  case c4 => omega
  case c5 => simp; omega
  · intro v' w1 hown' hgrow _
    have hne : ∀ j, j < base → some j ≠ (Value.slice p n cap).ownBlock := fun j hj h => by have := hown.lt j h.symm; omega
    have hc1 : w1.cell? ⟨bp, 0, none⟩ = some (.slice p n cap) := hgrow.cell ((World.cell?_alloc_past _ _ _ (by omega)).trans hc) (hne bp hbp)
    have hf1 : w1.frozen? ⟨bp, 0, none⟩ = false := by
      rw [World.frozen?_of_block (w := w.alloc _) (hgrow.block bp (by simp; omega) (hne bp hbp))]
      exact (World.frozen?_alloc_past _ _ _ (by omega)).trans hf
    have hW : But base bp w w1 := ((But.refl base bp w).alloc hbase _).grown hgrow (by simp; omega) (fun k hk => (hown.lt k hk).1)
    obtain ⟨p', cap', hv'⟩ := owns_slice hown'
    subst hv'
    clear hne hgrow hc hf hown
    go_wp2
    go_end0
    exact ⟨rfl, _, World.cell?_setCell_same _ _ _ hc1, (World.frozen?_setCell _ _ _ _).trans hf1, ownsRow_setCell_below hown' hbp _, hW.setCell rfl _⟩

/-- What holds at the head of eachRun's round k: its own copy of the set, the runs told so far, all else as it was. -/
def St (a : Nat → Nat) (bp : Nat) (w : World) (k : Nat) (wr : World) : Prop :=
  Lies wr w.heap.size a ∧ (∃ v, wr.cell? ⟨bp, 0, none⟩ = some v ∧ wr.frozen? ⟨bp, 0, none⟩ = false ∧ wr.ownsRow (w.heap.size + 1) 40 2 v (runsTo (hasB a) k).length (flat (runsTo (hasB a) k))) ∧ But w.heap.size bp w wr ∧ bp < w.heap.size

theorem St.size {a : Nat → Nat} {bp k : Nat} {w wr : World} (h : St a bp w k wr) : w.heap.size + 1 ≤ wr.heap.size := h.1.lt
theorem St.keep {a : Nat → Nat} {bp k : Nat} {w wr w1 : World} (h : St a bp w k wr) (hb : Below wr.heap.size wr w1) : St a bp w k w1 := by
  have hsz := h.size
  obtain ⟨hA, ⟨v, hc, hf, hown⟩, hW, hlt⟩ := h
  exact ⟨hA.keep hb, ⟨v, (hb.cell (p := ⟨bp, 0, none⟩) (by show bp < _; omega)).trans hc, (hb.frozen (p := ⟨bp, 0, none⟩) (by show bp < _; omega)).trans hf, owns_keep hown hb⟩, hW.trans (But.of (hb.mono (by omega))), hlt⟩
theorem St.skip {a : Nat → Nat} {bp k : Nat} {w wr : World} (h : St a bp w k wr) (hk : (hasB a k && !hasB a (k + 1)) = false) : St a bp w (k + 1) wr := by
  obtain ⟨hA, ho, hW, hlt⟩ := h
  have e : runsTo (hasB a) (k + 1) = runsTo (hasB a) k := by show (if _ then _ else _) = _; rw [if_neg (by rw [hk]; simp)]
  exact ⟨hA, by rw [e]; exact ho, hW, hlt⟩
theorem St.tell {a : Nat → Nat} {bp k : Nat} {w wr : World} (h : St a bp w k wr) (hk : k < 256) (hk1 : (hasB a k && !hasB a (k + 1)) = true) (L : Nat) (hL : L = loAt (hasB a) k) :
    Calls Try.prog 31 #[.int .i64 (L : Int), .int .i64 (k : Int), .pointer (some ⟨bp, 0, none⟩)] wr fun e w' => e = .returned (.tuple #[]) ∧ St a bp w (k + 1) w' := by
  have hsz := h.size
  obtain ⟨hA, ⟨v, hc, hf, hown⟩, hW, hlt⟩ := h
  have hl := runsTo_len (hasB a) k
  refine (tell_any bp (w.heap.size + 1) _ _ v _ _ wr (by omega) hsz (by omega) hc hf hown).mono ?_
  rintro e w' ⟨rfl, v', hc', hf', hown', hb'⟩
  have e : runsTo (hasB a) (k + 1) = runsTo (hasB a) k ++ [(loAt (hasB a) k, k)] := by show (if _ then _ else _) = _; rw [if_pos hk1]
  refine ⟨rfl, hA.but hb' (by omega) (by omega), ⟨v', hc', hf', ?_⟩, hW.trans (hb'.mono (by omega)), hlt⟩
  rw [e, flat_append, List.length_append, ← hL]
  exact hown'

set_option maxHeartbeats 2000000 in
set_option maxRecDepth 100000 in
theorem each_any (a : Nat → Nat) (bp : Nat) (w : World) (ha : okB a) (hbp : bp < w.heap.size) (hc : w.cell? ⟨bp, 0, none⟩ = some (.slice none 0 0)) (hf : w.frozen? ⟨bp, 0, none⟩ = false) :
    Calls Try.prog 30 #[.agg #[.int .u64 ((a 0 : Nat) : Int), .int .u64 ((a 1 : Nat) : Int), .int .u64 ((a 2 : Nat) : Int), .int .u64 ((a 3 : Nat) : Int)], .func (.func 31) #[] #[.pointer (some ⟨bp, 0, none⟩)]] w
      fun e w' => e = .returned (.tuple #[]) ∧ St a bp w 256 w' := by
  have HS : Hid (St a bp w 0 (w.alloc (.cells #[.int .u64 ((a 0 : Nat) : Int), .int .u64 ((a 1 : Nat) : Int), .int .u64 ((a 2 : Nat) : Int), .int .u64 ((a 3 : Nat) : Int)] 24))) :=
    ⟨Lies.new _ _ _ _ rfl, ⟨_, (World.cell?_alloc_past _ _ _ hbp).trans hc, (World.frozen?_alloc_past _ _ _ hbp).trans hf, World.ownsRow_nil _ _ _ _⟩, But.of (below1 _ _), hbp⟩
  clear hc hf
  go_enter Try.func30, Try.ntmps30
  go_wp2
  go_loopw [4, 6] (fun l i wr => ∃ k L : Nat, k ≤ 256 ∧ i = .int .i64 k ∧ l = .int .i64 L ∧ L ≤ 256 ∧ (∀ j, k = j + 1 → hasB a j = true → L = loAt (hasB a) j) ∧ St a bp w k wr) (fun _ i _ => 256 - (intOf i).toNat)
  case atStart => exact ⟨0, 0, by omega, rfl, rfl, by omega, fun j h => by omega, HS.out⟩
  case round =>
    obtain ⟨k, L, hk, rfl, rfl, hL, hlo, hS⟩ := hrel
    have HLO : Hid (∀ j, k = j + 1 → hasB a j = true → L = loAt (hasB a) j) := hlo
    clear hlo
    by_cases hlt : k < 256
    · have e0 : hasZ a (k : Int) = hasB a k := by simp [hasZ]
      have e2 : hasZ a ((k : Int) + 1) = hasB a (k + 1) := by unfold hasZ; rw [decide_eq_true (by omega), show ((k : Int) + 1).toNat = k + 1 by omega]; rfl
      have E0 : Hid (hasZ a (k : Int) = hasB a k) := e0
      have E2 : Hid (hasZ a ((k : Int) + 1) = hasB a (k + 1)) := e2
      have E1 : Hid (hasZ a ((k : Int) - 1) = true → ∃ j, k = j + 1 ∧ hasB a j = true) := fun h => by
        unfold hasZ at h
        simp at h
        exact ⟨k - 1, by omega, h.2⟩
      have E3 : Hid (hasZ a ((k : Int) - 1) = false → loAt (hasB a) k = k) := fun h => by
        match k with
        | 0 => rfl
        | j + 1 =>
          unfold hasZ at h
          rw [decide_eq_true (by omega), show (((j + 1 : Nat) : Int) - 1).toNat = j by omega] at h
          show (if _ then _ else _) = _
          rw [if_neg (by simpa using h)]
      clear e0 e2
      have hr := hS.1.all
      obtain ⟨⟨r0, r1, r2, r3⟩, -⟩ := hr
      have HK : Hid (hasZ a (k : Int) = true → ∀ M : Nat, M = loAt (hasB a) k → ∀ j, k + 1 = j + 1 → hasB a j = true → M = loAt (hasB a) j) := fun _ M hM j hj _ => by
        obtain rfl : k = j := by omega
        exact hM
      by_cases h0 : hasZ a (k : Int) = true
      · by_cases h1 : hasZ a ((k : Int) - 1) = true
        · have HLK : Hid (L = loAt (hasB a) k) := by
            obtain ⟨j, rfl, hj⟩ := E1.out h1
            have := HLO.out j rfl hj
            show L = (if _ then _ else _)
            rw [if_pos hj]; exact this
          by_cases h2 : hasZ a ((k : Int) + 1) = true
          · have HT : Hid ((hasB a k && !hasB a (k + 1)) = false) := by show _ = _; rw [← E0.out, ← E2.out, h0, h2]; rfl
            go_wp2_with (go_at_call 12; refine (has_any a _ _ ha).mono ?_; rintro e w1 ⟨rfl, hb1⟩; replace hS := hS.keep hb1; obtain ⟨⟨r0, r1, r2, r3⟩, -⟩ := hS.1.all; clear hb1)
            go_roundw
            case rel => exact ⟨k + 1, L, by omega, by go_num, rfl, hL, HK.out h0 L HLK.out, hS.skip HT.out⟩
            case measure => simp [intOf]; omega
          · have HT : Hid ((hasB a k && !hasB a (k + 1)) = true) := by show _ = _; rw [← E0.out, ← E2.out, h0, Bool.eq_false_iff.2 h2]; rfl
            have h2' : hasZ a ((k : Int) + 1) = false := Bool.eq_false_iff.2 h2
            clear h2
            go_wp2_with (first | (go_at_call 12; refine (has_any a _ _ ha).mono ?_; rintro e w1 ⟨rfl, hb1⟩; replace hS := hS.keep hb1; obtain ⟨⟨r0, r1, r2, r3⟩, -⟩ := hS.1.all; clear hb1) | (go_at_call 31; refine (hS.tell hlt HT.out _ HLK.out).mono ?_; rintro e w1 ⟨rfl, hS⟩))
            go_roundw
            case rel => exact ⟨k + 1, L, by omega, by go_num, rfl, hL, HK.out h0 L HLK.out, hS⟩
            case measure => simp [intOf]; omega
        · have h1' : hasZ a ((k : Int) - 1) = false := Bool.eq_false_iff.2 h1
          have HLK : Hid (k = loAt (hasB a) k) := (E3.out h1').symm
          clear h1
          by_cases h2 : hasZ a ((k : Int) + 1) = true
          · have HT : Hid ((hasB a k && !hasB a (k + 1)) = false) := by show _ = _; rw [← E0.out, ← E2.out, h0, h2]; rfl
            go_wp2_with (go_at_call 12; refine (has_any a _ _ ha).mono ?_; rintro e w1 ⟨rfl, hb1⟩; replace hS := hS.keep hb1; obtain ⟨⟨r0, r1, r2, r3⟩, -⟩ := hS.1.all; clear hb1)
            go_roundw
            case rel => exact ⟨k + 1, k, by omega, by go_num, rfl, by omega, HK.out h0 k HLK.out, hS.skip HT.out⟩
            case measure => simp [intOf]; omega
          · have HT : Hid ((hasB a k && !hasB a (k + 1)) = true) := by show _ = _; rw [← E0.out, ← E2.out, h0, Bool.eq_false_iff.2 h2]; rfl
            have h2' : hasZ a ((k : Int) + 1) = false := Bool.eq_false_iff.2 h2
            clear h2
            go_wp2_with (first | (go_at_call 12; refine (has_any a _ _ ha).mono ?_; rintro e w1 ⟨rfl, hb1⟩; replace hS := hS.keep hb1; obtain ⟨⟨r0, r1, r2, r3⟩, -⟩ := hS.1.all; clear hb1) | (go_at_call 31; refine (hS.tell hlt HT.out _ HLK.out).mono ?_; rintro e w1 ⟨rfl, hS⟩))
            go_roundw
            case rel => exact ⟨k + 1, k, by omega, by go_num, rfl, by omega, HK.out h0 k HLK.out, hS⟩
            case measure => simp [intOf]; omega
      · have h0' : hasZ a (k : Int) = false := Bool.eq_false_iff.2 h0
        have HT : Hid (hasB a k = false) := by show _ = _; rw [← E0.out]; exact h0'
        clear h0
        go_wp2_with (go_at_call 12; refine (has_any a _ _ ha).mono ?_; rintro e w1 ⟨rfl, hb1⟩; replace hS := hS.keep hb1; obtain ⟨⟨r0, r1, r2, r3⟩, -⟩ := hS.1.all; clear hb1)
        go_roundw
        case rel =>
          refine ⟨k + 1, L, by omega, by go_num, rfl, hL, fun j hj h => ?_, hS.skip (by rw [HT.out]; rfl)⟩
          obtain rfl : k = j := by omega
          rw [HT.out] at h; cases h
        case measure => simp [intOf]; omega
    · obtain rfl : k = 256 := by omega
      go_wp2
      go_end0
      exact ⟨rfl, hS⟩

set_option maxHeartbeats 1000000 in
theorem ranges_any (a : Nat → Nat) (w : World) (ha : okB a) :
    Calls Try.prog 21 #[.agg #[.int .u64 ((a 0 : Nat) : Int), .int .u64 ((a 1 : Nat) : Int), .int .u64 ((a 2 : Nat) : Int), .int .u64 ((a 3 : Nat) : Int)]] w
      fun e w' => ∃ v, e = .returned v ∧ w'.ownsRow w.heap.size 40 2 v (runsB a).length (flat (runsB a)) ∧ Below w.heap.size w w' := by
  have hmf : ∀ (fn : Fn) (first cap : Array Value) (w : World), (Instr.makeFunc fn first cap).run Try.prog w = .ok (.func fn first cap) w := fun _ _ _ _ => rfl
  go_enter Try.func21, Try.ntmps21
  go_wp2_with fail
  refine (each_any a _ _ ha ?_ ?_ ?_).mono ?_
  · simp
  · go_simp
  · go_simp
  rintro e w1 ⟨rfl, hA, ⟨v, hc, hf, hown⟩, hW, -⟩
  have hown2 := owns_mono (base' := w.heap.size) hown (by simp; omega)
  have hB : Below w.heap.size w w1 := ((below2 _ _ _).trans ((hW.below (by simp)).mono (by simp)))
  obtain ⟨p, cap, rfl⟩ := owns_slice hown
  clear hA hW hown hf
  go_wp2
  go_ret
  exact ⟨_, rfl, hown2, hB⟩
end Go.Proofs.Ytinpmoojmmpaoaa
