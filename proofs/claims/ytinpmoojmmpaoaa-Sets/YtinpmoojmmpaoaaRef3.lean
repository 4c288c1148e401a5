/- What the document's own Ranges hands back. -/
import Derived.Test.YtinpmoojmmpaoaaRef2
import Derived.Test.YtinpmoojmmpaoaaRuns
namespace Go.Proofs.Ytinpmoojmmpaoaa
open Go.ChangeShapes Go.WideShapes Go.ChangeAt Go.RowKit

/-- The runs of the bytes below k, the last one still open. -/
def PR (p : Nat → Bool) : Nat → List (Nat × Nat)
  | 0 => []
  | k + 1 => if p k then runsTo p k ++ [(loAt p k, k)] else runsTo p k

theorem PR_in (p : Nat → Bool) (k : Nat) (h : p k = true) : PR p (k + 1) = runsTo p k ++ [(loAt p k, k)] := by
  show (if _ then _ else _) = _; rw [if_pos h]
theorem PR_out (p : Nat → Bool) (k : Nat) (h : p k = false) : PR p (k + 1) = runsTo p k := by
  show (if _ then _ else _) = _; rw [if_neg (by rw [h]; simp)]
theorem PR_shut (p : Nat → Bool) : ∀ k, p k = false → PR p k = runsTo p k
  | 0, _ => rfl
  | k + 1, h => by
    rw [runsTo_succ]
    cases hk : p k
    · rw [PR_out p k hk]; simp
    · rw [PR_in p k hk, h]; simp
theorem PR_new (p : Nat → Bool) : ∀ k, p k = true → (∀ j, k = j + 1 → p j = false) → PR p k = runsTo p k ∧ loAt p k = k
  | 0, _, _ => ⟨rfl, rfl⟩
  | k + 1, h, h1 => by
    have hk := h1 k rfl
    rw [PR_out p k hk, runsTo_succ, loAt_succ, hk]; simp
theorem PR_open (p : Nat → Bool) (j : Nat) (h : p j = true) (h1 : p (j + 1) = true) : PR p (j + 1) = runsTo p j ++ [(loAt p j, j)] ∧ PR p (j + 1 + 1) = runsTo p j ++ [(loAt p j, j + 1)] := by
  refine ⟨PR_in p j h, ?_⟩
  rw [PR_in p (j + 1) h1, runsTo_succ, h, h1, loAt_succ, if_pos h]; simp
theorem PR_len (p : Nat → Bool) : ∀ k, (PR p k).length ≤ k
  | 0 => Nat.le_refl _
  | k + 1 => by
    have := runsTo_len p k
    cases h : p k
    · rw [PR_out p k h]; omega
    · rw [PR_in p k h]; simp; omega

theorem flat_set_last : ∀ (l : List (Nat × Nat)) (x y z : Nat), (flat (l ++ [(x, y)])).set (l.length * 2 + 1) (.int .i64 ((z : Nat) : Int)) = flat (l ++ [(x, z)])
  | [], _, _, _ => rfl
  | (a, b) :: l, x, y, z => by
    have := flat_set_last l x y z
    simp only [List.cons_append, flat, List.length_cons]
    rw [show (l.length + 1) * 2 + 1 = l.length * 2 + 1 + 1 + 1 by omega, List.set_cons_succ, List.set_cons_succ, this]

/-- The document's runs in memory; nothing old has turned. -/
def RR (w : World) (A : Nat → Nat) (v : Value) (l : List (Nat × Nat)) (wc : World) : Prop := Lies wc w.heap.size A ∧ wc.ownsRow (w.heap.size + 1) 40 2 v l.length (flat l) ∧ Below w.heap.size w wc
theorem RR.keep {w wc w1 : World} {A : Nat → Nat} {v : Value} {l : List (Nat × Nat)} (h : RR w A v l wc) (hb : Below wc.heap.size wc w1) : RR w A v l w1 :=
  ⟨h.1.keep hb, owns_keep h.2.1 hb, h.2.2.trans (hb.mono h.2.2.size)⟩

set_option maxHeartbeats 2000000 in
set_option maxRecDepth 100000 in
theorem rranges_any (a : Nat → Nat) (w : World) (ha : okB a) :
    Calls Try.prog 22 #[.agg #[.int .u64 ((a 0 : Nat) : Int), .int .u64 ((a 1 : Nat) : Int), .int .u64 ((a 2 : Nat) : Int), .int .u64 ((a 3 : Nat) : Int)]] w
      fun e w' => ∃ v, e = .returned v ∧ w'.ownsRow w.heap.size 40 2 v (runsB a).length (flat (runsB a)) ∧ Below w.heap.size w w' := by
  obtain ⟨i, hi0, hz0, hz1, hz2⟩ := info_parts Try.infoPair
  have HI : Hid (Try.prog.info? 40 = some i ∧ i.zero = some (.agg #[.int .i64 0, .int .i64 0]) ∧ i.size = 2 ∧ i.bytes = 16) := ⟨hi0, hz0, hz1, hz2⟩
  clear hi0 hz0 hz1 hz2
  go_enter Try.func22, Try.ntmps22
  go_wp2
  go_loopw [3, 4] (fun v c wr => ∃ k : Nat, k ≤ 256 ∧ c = .int .i64 k ∧ RR w a v (PR (hasB a) k) wr) (fun _ c _ => 256 - (intOf c).toNat)
  case atStart => exact ⟨0, by omega, rfl, Lies.new _ _ _ _ rfl, World.ownsRow_nil _ _ _ _, below1 _ _⟩
  case round =>
    obtain ⟨k, hk, rfl, hS⟩ := hrel
    obtain ⟨p, cap, rfl⟩ := owns_slice hS.2.1
    obtain ⟨⟨a0, a1, a2, a3⟩, -⟩ := hS.1.all
    have hlen := PR_len (hasB a) k
    by_cases hlt : k < 256
    · have E0 : Hid (hasZ a (k : Int) = hasB a k) := by show _ = _; simp [hasZ]
      by_cases h0 : hasZ a (k : Int) = true
      · by_cases h1 : hasZ a ((k : Int) - 1) = true
        · obtain ⟨j, rfl⟩ : ∃ j, k = j + 1 := ⟨k - 1, by unfold hasZ at h1; simp at h1; omega⟩
          have hj : hasB a j = true := by
            unfold hasZ at h1
            rw [decide_eq_true (by omega), show (((j + 1 : Nat) : Int) - 1).toNat = j by omega] at h1
            exact h1
          obtain ⟨q1, q2⟩ := PR_open (hasB a) j hj (E0.out ▸ h0)
          rw [q1] at hS hlen ⊢
          have HQ : Hid (PR (hasB a) (j + 1 + 1) = runsTo (hasB a) j ++ [(loAt (hasB a) j, j + 1)]) := q2
          have hj2 : hasZ a (j : Int) = true := by simp [hasZ, hj]
          have h02 : hasZ a ((j : Int) + 1) = true := h0
          clear q1 q2 hj h0 h1
          generalize runsTo (hasB a) j = L at hS hlen HQ ⊢
          generalize loAt (hasB a) j = x at hS hlen HQ ⊢
          have hL : (L ++ [(x, j)]).length = L.length + 1 := by simp
          rw [hL] at hlen ⊢
          have ho := hS.2.1
          rw [hL] at ho
          obtain ⟨g, rfl⟩ := owns_some ho L.length (by omega)
          have cL := (owns_cell_at ho L.length (by omega)).2
          have fL := ho.frozenAt (L.length * 2 + 1)
          clear ho
          go_wp2_with (go_at_call 13; refine (rhas_any _ _ _ ?_).mono ?_; assumption; rintro e w9 ⟨rfl, hb9⟩; replace hS := hS.keep hb9; clear a0 a1 a2 a3 cL fL; obtain ⟨⟨a0, a1, a2, a3⟩, -⟩ := hS.1.all; have ho := hS.2.1; rw [hL] at ho; have cL := (owns_cell_at ho L.length (Nat.lt_succ_self _)).2; have fL := ho.frozenAt (L.length * 2 + 1); clear hb9 ho)
          go_roundw
          case rel =>
            obtain ⟨s1, s2, s3⟩ := hS
            rw [hL] at s2
            have s4 := (s2.stored (L.length * 2 + 1) (.int .i64 ((j : Int) + 1))).1
            have hg : w.heap.size + 1 ≤ g := (s2.lt g rfl).1
            have e1 : (flat (L ++ [(x, j)])).set (L.length * 2 + 1) (.int .i64 ((j : Int) + 1)) = flat (L ++ [(x, j + 1)]) := flat_set_last L x j (j + 1)
            rw [e1] at s4
            refine ⟨j + 1 + 1, by omega, by go_num, s1.other (by simp; omega) _, ?_, s3.setCell (by simp; omega) _⟩
            rw [HQ.out, List.length_append]
            exact s4
          case measure => simp [intOf]; omega
        · have h1' : hasZ a ((k : Int) - 1) = false := Bool.eq_false_iff.2 h1
          clear h1
          have hkB : hasB a k = true := by rw [← E0.out]; exact h0
          obtain ⟨q1, q2⟩ := PR_new (hasB a) k hkB (fun j hj => by
            subst hj
            unfold hasZ at h1'
            rw [decide_eq_true (by omega), show (((j + 1 : Nat) : Int) - 1).toNat = j by omega] at h1'
            exact h1')
          have HQ : Hid (PR (hasB a) (k + 1) = PR (hasB a) k ++ [(k, k)]) := by show _ = _; rw [PR_in (hasB a) k hkB, q1, q2]
          clear q1 q2 hkB
          generalize PR (hasB a) k = L at hS hlen HQ ⊢
          have HL : Hid (L.length ≤ 256) := by show _ ≤ _; omega
          go_wp2_with (first | (go_at_call 13; refine (rhas_any _ _ _ ?_).mono ?_; assumption; rintro e w9 ⟨rfl, hb9⟩; replace hS := hS.keep hb9; clear a0 a1 a2 a3; obtain ⟨⟨a0, a1, a2, a3⟩, -⟩ := hS.1.all; clear hb9) | (at_builtin; refine wpList_append_own _ rfl _ _ 36 rfl (w.heap.size + 1) 40 i (.agg #[.int .i64 0, .int .i64 0]) 2 16 Try.underlying36 HI.out.1 HI.out.2.1 HI.out.2.2.1 HI.out.2.2.2 rfl (by decide) _ _ _ rfl (hS.2.1.alloc _) ⟨w9.heap.size, 0, none⟩ 1 1 [.int .i64 (k : Int), .int .i64 (k : Int)] rfl rfl ?c1 ?c2 ?c3 ?c4 ?c5 ?_))
          case c1 =>
            intro j u hj
            match j, hj with
            | 0, hj => simp at hj; subst hj; simp [Addr.add]
            | 1, hj => simp at hj; subst hj; simp [Addr.add]
          case c2 => intro u hu; simp at hu; subst hu; rfl
          case c3 => have := HL.out; unfold maxLen; omega
          case c4 => have := HL.out; omega
          case c5 => have := hS.1.lt; simp; omega
          · intro v' w1 hown' hgrow _
            have hlt2 := hS.1.lt
            have hR : RR w a v' (L ++ [(k, k)]) w1 := by
              refine ⟨?_, ?_, ?_⟩
              · refine ⟨fun j hj => hgrow.cell ((World.cell?_alloc_past _ _ _ hlt2).trans (hS.1.1 j hj)) (fun h => ?_), fun j => ?_⟩
                · have := (hS.2.1.lt _ h.symm).1
                  simp at this; omega
                · rw [World.frozen?_of_block (w := w9.alloc _) (hgrow.block w.heap.size (by simp; omega) (fun h => by have := (hS.2.1.lt _ h.symm).1; omega))]
                  exact (World.frozen?_alloc_past _ _ _ hlt2).trans (hS.1.2 j)
              · rw [List.length_append, flat_append]; exact hown'
              · exact (hS.2.2.alloc (by omega) _).grown hgrow (by simp; omega) (fun j hj => by have := (hS.2.1.lt j hj).1; omega)
            rw [← HQ.out] at hR
            clear hS hown' hgrow
            go_wp2
            go_roundw
            case rel => exact ⟨k + 1, by omega, by go_num, hR⟩
            case measure => simp [intOf]; omega
      · have h0' : hasZ a (k : Int) = false := Bool.eq_false_iff.2 h0
        have hkB : hasB a k = false := by rw [← E0.out]; exact h0'
        have HQ : Hid (PR (hasB a) (k + 1) = PR (hasB a) k) := by show _ = _; rw [PR_out (hasB a) k hkB, PR_shut (hasB a) k hkB]
        clear h0 hkB
        generalize PR (hasB a) k = L at hS hlen HQ ⊢
        go_wp2_with (go_at_call 13; refine (rhas_any _ _ _ ?_).mono ?_; assumption; rintro e w9 ⟨rfl, hb9⟩; replace hS := hS.keep hb9; clear a0 a1 a2 a3; obtain ⟨⟨a0, a1, a2, a3⟩, -⟩ := hS.1.all; clear hb9)
        go_roundw
        case rel => exact ⟨k + 1, by omega, by go_num, by rw [HQ.out]; exact hS⟩
        case measure => simp [intOf]; omega
    · obtain rfl : k = 256 := by omega
      have e : PR (hasB a) 256 = runsB a := PR_shut (hasB a) 256 (has256 a)
      rw [e] at hS hlen ⊢
      clear e
      go_wp2
      go_ret
      exact ⟨_, rfl, owns_mono hS.2.1 (by omega), hS.2.2⟩
end Go.Proofs.Ytinpmoojmmpaoaa
