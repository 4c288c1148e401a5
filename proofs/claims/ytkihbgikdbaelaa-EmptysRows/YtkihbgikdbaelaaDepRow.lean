/- addRow, walked. -/
import Derived.Test.YtkihbgikdbaelaaDepAdd2
import Derived.Test.YtkihbgikdbaelaaGramName
namespace Go.Proofs.Ytkihbgikdbaelaa
set_option linter.unusedVariables false
open Go.ChangeShapes Go.WideShapes Go.ChangeAt Go.RowKit Go.Maps

theorem addAll_one (l : List Ed) (e : Ed) : addAll l [e] = addE l e := rfl
theorem seqE_snoc {hd : Int} {n : Bool} {l : List Sy} {k : Nat} {s : Sy} (h : l[k]? = some s) : seqE hd n (l.take (k + 1)) = seqE hd n (l.take k) ++ (if s.name = -1 then [] else [(hd, s.name, n)]) := by
  rw [take_snoc h, seqE_append]; rfl
set_option maxHeartbeats 4000000 in
set_option maxRecDepth 100000 in
theorem addRow_any {B b M : Nat} {l : List Ed} {w : World} {F : Nat → Prop} (hd : Int) (c : Cn) (v : Value) (h : Es B b M l w) (hc : IsSys w F v c.seq) (hF : OffE b M F w) (hh : (Lit.int .i64 hd).wf = true) (hs : ∀ s, s ∈ c.seq → (Lit.int .i64 s.name).wf = true) (hl : l.length + c.seq.length ≤ 100000) :
    Calls Try.prog 30 #[.pointer (some ⟨b, 0, none⟩), .int .i64 hd, .agg #[.bool c.neg, v]] w fun x w' => x = .returned (.tuple #[]) ∧ Hid (Es B b M (addAll l (seqE hd c.neg c.seq)) w') ∧ Hid (Ek b M w w') := by
  obtain ⟨ng, sq⟩ := c
  simp only at hc hs hl ⊢
  obtain ⟨p, cp, hv, hm, hca⟩ := id hc
  subst hv
  have hm2 := hm.1
  unfold maxLen at hm2
  obtain ⟨n0, hn0⟩ : ∃ n0, n0 = w.heap.size := ⟨_, rfl⟩
  have HC : Hid (∀ w', Ek b M w w' → ∀ k s, sq[k]? = some s → ∃ g o, p = some ⟨g, o, none⟩ ∧ w'.cell? ⟨g, o + k * 3, none⟩ = some (.int .i64 s.name) ∧ w'.cell? ⟨g, o + k * 3 + 1, none⟩ = some (.int .i64 s.lo) ∧ w'.cell? ⟨g, o + k * 3 + 2, none⟩ = some (.int .i64 s.hi)) := fun w' hk k s hks => by
    obtain ⟨p2, c2, e2, _, h2⟩ := IsSys.keep hc (hF.stay hk) (fun _ x => x)
    injection e2 with e3
    subst e3
    obtain ⟨g, o, e, _, _, cc, _⟩ := h2 (by have := (List.getElem?_eq_some_iff.1 hks).1; omega)
    obtain ⟨a0, a1, a2⟩ := sysV_at sq k s hks
    exact ⟨g, o, e, cc _ _ a0, by rw [Nat.add_assoc]; exact cc _ _ a1, by rw [Nat.add_assoc]; exact cc _ _ a2⟩
  have HE : Hid (Es B b M l w) := h
  have hsl : Hid (∀ s, s ∈ sq → (Lit.int .i64 s.name).wf = true) := hs
  have HN : Hid (n0 = w.heap.size) := hn0
  clear hc hca hs h hF hm
  go_enter Try.func30, Try.ntmps30
  go_wp2
  rw [← hn0]
  clear hn0
  go_loopw [11] (fun i wr => ∃ k : Nat, k ≤ sq.length ∧ i = .int .i64 k ∧ Hid (Es B b M (addAll l (seqE hd ng (sq.take k))) wr) ∧ Hid (Ek b M w wr) ∧ Hid (OffE b M (fun i => i = n0) wr) ∧ n0 < wr.heap.size ∧ wr.cell? ⟨n0, 0, none⟩ = some (.bool ng)) (fun i _ => sq.length - (intOf i).toNat)
  case atStart =>
    refine ⟨0, Nat.zero_le _, rfl, HE.out.keep (bel1 _ _), Ek.below (bel1 _ _) HE.out.lt, OffE.fresh HE.out (bel1 _ _) (fun i e => ?_), ?_, ?_⟩
    · rw [e, HN.out]; simp
    · rw [HN.out]; simp
    · rw [HN.out]; exact World.cell?_alloc_at _ _ _ _ rfl
  case round =>
    obtain ⟨k, hk, rfl, HEr, HKr, HOr, hnr, hbx⟩ := hrel
    by_cases hlt : k < sq.length
    · obtain ⟨s, ht⟩ : ∃ t, sq[k]? = some t := ⟨_, List.getElem?_eq_getElem hlt⟩
      obtain ⟨g1, o1, hp, a0, a1, a2⟩ := HC.out _ HKr.out k s ht
      subst hp
      by_cases hn : s.name = -1
      · go_wp2
        go_roundw
        case rel => exact ⟨k + 1, by omega, by go_num, by show Es B b M _ _; rw [seqE_snoc ht, if_pos hn, List.append_nil]; exact HEr.out.keep (bel1 _ _), HKr.out.trans (Ek.below (bel1 _ _) HEr.out.lt), HOr.out.bel HEr.out (bel1 _ _), by simp; omega, (World.cell?_alloc_past _ _ _ hnr).trans hbx⟩
        case measure => simp [intOf]; omega
      · have hsn : (Lit.int .i64 s.name).wf = true := hsl.out s (List.mem_of_getElem? ht)
        have hlen : (addAll l (seqE hd ng (sq.take k))).length ≤ 100000 := by
          have h1 := addAll_len (seqE hd ng (sq.take k)) l
          have h2 := seqE_len hd ng (sq.take k)
          rw [take_len hk] at h2
          omega
        have KA : Hid (∀ o, Calls Try.prog 42 #[.pointer (some ⟨b, 0, none⟩), .agg #[.int .i64 hd, .int .i64 s.name, .bool ng]] (wr.alloc o) fun x w' => x = .returned (.tuple #[]) ∧ Hid (Es B b M (addAll l (seqE hd ng (sq.take (k + 1)))) w') ∧ Hid (Ek b M w w') ∧ Hid (OffE b M (fun i => i = n0) w') ∧ n0 < w'.heap.size ∧ w'.cell? ⟨n0, 0, none⟩ = some (.bool ng)) := fun o =>
          (addEd_any (hd, s.name, ng) (HEr.out.keep (bel1 wr o)) ⟨hh, hsn⟩ hlen).mono fun x w' ⟨h1, h2, h3⟩ => by
            have o1 := OffE.bel HEr.out HOr.out (bel1 wr o)
            have hz : n0 < (wr.alloc o).heap.size := by simp; omega
            refine ⟨h1, ?_, HKr.out.trans ((Ek.below (bel1 _ _) HEr.out.lt).trans h3.out), o1.next h3.out, Nat.lt_of_lt_of_le hz h3.out.size, ?_⟩
            · show Es B b M _ _
              rw [seqE_snoc ht, if_neg hn, addAll_append]; exact h2.out
            · have hb := h3.out.block n0 hz (o1 n0 rfl).2.1 (o1 n0 rfl).2.2.1 (o1 n0 rfl).2.2.2
              have hc : w'.cell? ⟨n0, 0, none⟩ = (wr.alloc o).cell? ⟨n0, 0, none⟩ := by unfold World.cell?; rw [hb]
              rw [hc, World.cell?_alloc_past _ _ _ hnr]; exact hbx
        clear hlen hsn
        go_wp2_with (go_at_call 42; refine (KA.out _).mono ?_; rintro e w2 ⟨rfl, e2, k2, o2, n2, c2⟩)
        go_roundw
        case rel => exact ⟨k + 1, by omega, by go_num, e2, k2, o2, n2, c2⟩
        case measure => simp [intOf]; omega
    · obtain rfl : k = sq.length := by omega
      go_wp2
      go_end0
      exact ⟨rfl, by rw [List.take_length] at HEr; exact HEr, HKr⟩
end Go.Proofs.Ytkihbgikdbaelaa
